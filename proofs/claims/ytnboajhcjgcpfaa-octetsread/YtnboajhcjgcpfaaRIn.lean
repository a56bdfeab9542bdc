/-
  The document's In in memory: its box; the contracts of its Num, Text, Extents.
-/
import Derived.Test.YtnboajhcjgcpfaaOIn
import Derived.Test.YtnboajhcjgcpfaaRValid
namespace Go.Proofs.Ytnboajhcjgcpfaa
open Go.ChangeShapes Go.WideShapes Go.ChangeAt Go.RowKit
attribute [local go_sem ↓] Go.wp_at_zero Go.wp_at_succ
attribute [local go_sem] str_size str_extract str_append str_toList

/-- The document's In at block p; B: its bytes, of which nothing is said once something could not be read. -/
def RO (w : World) (p : Nat) (st : St) (B : List UInt8) : Prop := w.heap[p]? = some (.cells #[.string (str B), .bool st.isNone] 48 (0, 0)) ∧ ∀ S, st = some S → B = S
def RInO (w : World) (p : Nat) (st : St) : Prop := ∃ B, RO w p st B
def TR (e : TypeId) : Prop := e ≠ 48
theorem notTR : ¬ TR 48 := fun h => h rfl
theorem RInO.stay {w w' : World} {p : Nat} {st : St} {T : TypeId → Prop} (h : RInO w p st) (hs : BkE.Stay T w w') (t : T 48) : RInO w' p st := by
  obtain ⟨B, h1, h2⟩ := h
  exact ⟨B, hs.block _ _ _ _ h1 t, h2⟩
theorem RInO.below {w w' : World} {p : Nat} {st : St} (h : RInO w p st) (hb : Below w.heap.size w w') : RInO w' p st := by
  obtain ⟨B, h1, h2⟩ := h
  exact ⟨B, by rw [hb.block p (lt_of_block h1)]; exact h1, h2⟩
theorem RInO.new (w : World) (S : List UInt8) : RInO (w.alloc (.cells #[.string (str S), .bool false] 48)) w.heap.size (some S) :=
  ⟨S, heap_alloc_new w (.cells #[.string (str S), .bool false] 48), fun _ h => by cases h; rfl⟩
theorem ro_bad {w : World} {base p : Nat} {st : St} {B : List UInt8} (h : RO w p st B) (hp : base ≤ p) : RInO (w.setCell ⟨p, 1, none⟩ (.bool true)) p none ∧ BkE.But p w (w.setCell ⟨p, 1, none⟩ (.bool true)) ∧ Below base w (w.setCell ⟨p, 1, none⟩ (.bool true)) :=
  ⟨⟨B, set2b (u := .bool true) h.1, fun _ h => by cases h⟩, (BkE.But.of (Below.refl _ w)).setCell _ _, (Below.refl base w).setCell (p := ⟨p, 1, none⟩) hp _⟩
theorem ro_rest {w : World} {base p : Nat} {S T : List UInt8} (h : RO w p (some S) S) (hp : base ≤ p) : RInO (w.setCell ⟨p, 0, none⟩ (.string (str T))) p (some T) ∧ BkE.But p w (w.setCell ⟨p, 0, none⟩ (.string (str T))) ∧ Below base w (w.setCell ⟨p, 0, none⟩ (.string (str T))) :=
  ⟨⟨T, set2a (u := .string (str T)) h.1, fun _ h => by cases h; rfl⟩, (BkE.But.of (Below.refl _ w)).setCell _ _, (Below.refl base w).setCell (p := ⟨p, 0, none⟩) hp _⟩

set_option maxRecDepth 100000 in
theorem rnum_read {w : World} {base p : Nat} {st : St} (h : RInO w p st) (hp : base ≤ p) (n : Int) :
    Calls Try.prog 22 #[.pointer (some ⟨p, 0, none⟩), .int .i64 n] w fun e w' => e = .returned (.int .i64 (nN st n : Int)) ∧ RInO w' p (nS st n) ∧ BkE.But p w w' ∧ Below base w w' := by
  obtain ⟨B, h⟩ := h
  obtain ⟨c0, c1, f0, f1⟩ := box2 h.1
  have hl := lt_of_block h.1
  have hBad := Hid.intro (ro_bad h hp)
  cases st with
  | none =>
    simp only [Option.isNone_none] at c1
    clear h
    have e1 : nN none n = 0 := rfl
    have e2 : nS none n = none := rfl
    rw [e1, e2]
    go_enter Try.func22, Try.ntmps22
    go_wp2
    go_ret
    exact ⟨rfl, hBad.out⟩
  | some S =>
    simp only [Option.isNone_some] at c1
    obtain rfl : B = S := h.2 S rfl
    by_cases h1 : n < 1
    · rw [nN_out (by omega), nS_out (by omega)]
      clear h
      go_enter Try.func22, Try.ntmps22
      go_wp2
      go_ret
      exact ⟨rfl, hBad.out⟩
    by_cases h4 : 4 < n
    · rw [nN_out (by omega), nS_out (by omega)]
      clear h
      go_enter Try.func22, Try.ntmps22
      go_wp2
      go_ret
      exact ⟨rfl, hBad.out⟩
    have h14 : 1 ≤ n ∧ n ≤ 4 := by omega
    obtain ⟨m, rfl⟩ : ∃ m : Nat, n = (m : Int) := ⟨n.toNat, by omega⟩
    rw [nN_in h14, nS_in h14, Int.toNat_natCast]
    by_cases hle : m ≤ B.length
    · have z1 : ¬ (B.length : Int) < (m : Int) := by omega
      have z2 : (m : Int) ≤ (B.length : Int) := by omega
      have z3 : ¬ B.length < m := by omega
      have m0 : (0 : Int) ≤ (m : Int) := Int.natCast_nonneg _
      have e1 : kN (some B) m = B.take m := by simp [kN, hle]
      have e2 : kS (some B) m = some (B.drop m) := by simp [kS, hle]
      rw [e1, e2]
      have hV := Hid.intro (fun w => value_any (B.take m) w (by rw [List.length_take]; omega))
      have hR := Hid.intro (ro_rest (T := B.drop m) h hp)
      have hd : (B.drop m).take (B.length - m) = B.drop m := List.take_of_length_le (by rw [List.length_drop]; omega)
      clear h hBad h14 e1 e2
      generalize vl (B.take m) = V at *
      go_enter Try.func22, Try.ntmps22
      go_wp2_with fail
      refine (hV.out _).mono ?_; rintro e w2 ⟨rfl, rfl⟩
      go_wp2
      go_ret
      exact ⟨rfl, hR.out⟩
    · have z1 : (B.length : Int) < (m : Int) := by omega
      have e1 : kN (some B) m = [] := by simp [kN, hle]
      have e2 : kS (some B) m = none := by simp [kS, hle]
      rw [e1, e2]
      clear h e1 e2
      go_enter Try.func22, Try.ntmps22
      go_wp2
      go_ret
      exact ⟨rfl, hBad.out⟩

theorem n1_le (st : St) : nN st 1 ≤ 255 := by
  rw [nN_in (by decide)]
  have h1 := vl_lt (kN st (1 : Int).toNat)
  have h2 := kN_length st (1 : Int).toNat
  have h3 : 256 ^ (kN st (1 : Int).toNat).length ≤ 256 ^ 1 := Nat.pow_le_pow_right (by decide) h2
  omega
set_option maxRecDepth 100000 in
theorem rtext_read {w : World} {base p : Nat} {st : St} (h : RInO w p st) (hp : base ≤ p) :
    Calls Try.prog 24 #[.pointer (some ⟨p, 0, none⟩)] w fun e w' => e = .returned (.string (str (tN st))) ∧ RInO w' p (tS st) ∧ BkE.But p w w' ∧ Below base w w' := by
  have hN := Hid.intro (rnum_read h hp 1)
  have hv := n1_le st
  unfold tN tS
  clear h
  generalize nN st 1 = n at *
  generalize nS st 1 = st1 at *
  have n0 : (0 : Int) ≤ (n : Int) := Int.natCast_nonneg _
  cases st1 with
  | none =>
    have e1 : kN none n = [] := rfl
    have e2 : kS none n = none := rfl
    rw [e1, e2]
    go_enter Try.func24, Try.ntmps24
    go_wp2_with fail
    refine hN.out.mono ?_; rintro e w1 ⟨rfl, ⟨B, h⟩, b1, b2⟩
    obtain ⟨c0, c1, f0, f1⟩ := box2 h.1
    have hl := lt_of_block h.1
    simp only [Option.isNone_none] at c1
    have hBad := Hid.intro (ro_bad h hp)
    have hb := Hid.intro (And.intro b1 b2)
    clear h b1 b2
    go_wp2
    go_ret
    exact ⟨rfl, hBad.out.1, hb.out.1.trans hBad.out.2.1, hb.out.2.trans hBad.out.2.2⟩
  | some S =>
    by_cases hle : n ≤ S.length
    · have e1 : kN (some S) n = S.take n := by simp [kN, hle]
      have e2 : kS (some S) n = some (S.drop n) := by simp [kS, hle]
      rw [e1, e2]
      have z1 : ¬ (S.length : Int) < (n : Int) := by omega
      have z2 : (n : Int) ≤ (S.length : Int) := by omega
      have z3 : ¬ S.length < n := by omega
      have hd : (S.drop n).take (S.length - n) = S.drop n := List.take_of_length_le (by rw [List.length_drop]; omega)
      clear e1 e2
      go_enter Try.func24, Try.ntmps24
      go_wp2_with fail
      refine hN.out.mono ?_; rintro e w1 ⟨rfl, ⟨B, h⟩, b1, b2⟩
      obtain rfl : B = S := h.2 S rfl
      obtain ⟨c0, c1, f0, f1⟩ := box2 h.1
      have hl := lt_of_block h.1
      simp only [Option.isNone_some] at c1
      have hR := Hid.intro (ro_rest (T := B.drop n) h hp)
      have hb := Hid.intro (And.intro b1 b2)
      clear h b1 b2
      go_wp2
      go_ret
      exact ⟨rfl, hR.out.1, hb.out.1.trans hR.out.2.1, hb.out.2.trans hR.out.2.2⟩
    · have e1 : kN (some S) n = [] := by simp [kN, hle]
      have e2 : kS (some S) n = none := by simp [kS, hle]
      rw [e1, e2]
      have z1 : (S.length : Int) < (n : Int) := by omega
      clear e1 e2
      go_enter Try.func24, Try.ntmps24
      go_wp2_with fail
      refine hN.out.mono ?_; rintro e w1 ⟨rfl, ⟨B, h⟩, b1, b2⟩
      obtain rfl : B = S := h.2 S rfl
      obtain ⟨c0, c1, f0, f1⟩ := box2 h.1
      have hl := lt_of_block h.1
      simp only [Option.isNone_some] at c1
      have hBad := Hid.intro (ro_bad h hp)
      have hb := Hid.intro (And.intro b1 b2)
      clear h b1 b2
      go_wp2
      go_ret
      exact ⟨rfl, hBad.out.1, hb.out.1.trans hBad.out.2.1, hb.out.2.trans hBad.out.2.2⟩

/-- So many extents that are read number by number. -/
def rd : Nat → St → St × List Ex
  | 0, st => (st, [])
  | k + 1, st => (nS (nS (nS (rd k st).1 1) 1) 1, (rd k st).2 ++ [((nN (rd k st).1 1 : Int), (nN (nS (rd k st).1 1) 1 : Int), (nN (nS (nS (rd k st).1 1) 1) 1 : Int))])
theorem rd_length (st : St) : ∀ k, (rd k st).2.length = k
  | 0 => rfl
  | k + 1 => by rw [rd, List.length_append, rd_length st k]; rfl
theorem rd_next (k : Nat) (st q : St) (hq : q = (rd k st).1) : rd (k + 1) st = (nS (nS (nS q 1) 1) 1, (rd k st).2 ++ [((nN q 1 : Int), (nN (nS q 1) 1 : Int), (nN (nS (nS q 1) 1) 1 : Int))]) := by
  subst hq; rfl
theorem n1_cons (x : UInt8) (r : List UInt8) : nN (some (x :: r)) 1 = x.toNat ∧ nS (some (x :: r)) 1 = some r := by
  rw [nN_in (by decide), nS_in (by decide)]
  have h1 : (1 : Int).toNat = 1 := rfl
  rw [h1]
  simp [kN, kS, vl]
theorem n1_nil : nN (some []) 1 = 0 ∧ nS (some []) 1 = none := ⟨rfl, rfl⟩
theorem three_none {T : List UInt8} (h : ¬ 3 ≤ T.length) : nS (nS (nS (some T) 1) 1) 1 = none := by
  match T, h with
  | [], _ => rfl
  | [x], _ => rw [(n1_cons _ _).2]; rfl
  | [x, y], _ => rw [(n1_cons _ _).2, (n1_cons _ _).2]; rfl
  | x :: y :: z :: r, h => simp at h
theorem rd_some (S : List UInt8) : ∀ k T, (rd k (some S)).1 = some T → 3 * k ≤ S.length ∧ T = S.drop (3 * k) ∧ (rd k (some S)).2 = dec (S.take (3 * k))
  | 0, T, h => by cases h; exact ⟨Nat.zero_le _, rfl, rfl⟩
  | k + 1, T, h => by
    cases hk : (rd k (some S)).1 with
    | none => rw [rd, hk] at h; cases h
    | some U =>
      obtain ⟨h1, h2, h3⟩ := rd_some S k U hk
      by_cases hU : 3 ≤ U.length
      · obtain ⟨x, y, z, r, rfl⟩ := three_at hU
        have hl : (S.drop (3 * k)).length = (x :: y :: z :: r).length := by rw [← h2]
        rw [List.length_drop] at hl
        simp only [List.length_cons] at hl
        rw [rd, hk, (n1_cons _ _).2, (n1_cons _ _).2, (n1_cons _ _).2] at h
        have hr : r = S.drop (3 * (k + 1)) := by
          have := congrArg (List.drop 3) h2
          rw [List.drop_drop, show 3 * k + 3 = 3 * (k + 1) by omega] at this
          exact this
        refine ⟨by omega, by cases h; exact hr, ?_⟩
        have e : S.take (3 * (k + 1)) = S.take (3 * k) ++ [x, y, z] := by
          rw [show 3 * (k + 1) = 3 * k + 3 by omega, List.take_add, ← h2]; rfl
        rw [e, dec_snoc k _ x y z (by rw [List.length_take]; omega), ← h3, rd, hk]
        simp only [(n1_cons _ _).2, (n1_cons _ _).1]
      · rw [rd, hk, three_none hU] at h; cases h
theorem rd_none (S : List UInt8) : ∀ k, (rd k (some S)).1 = none → S.length < 3 * k
  | 0, h => by cases h
  | k + 1, h => by
    cases hk : (rd k (some S)).1 with
    | none => have := rd_none S k hk; omega
    | some U =>
      obtain ⟨h1, h2, h3⟩ := rd_some S k U hk
      by_cases hU : 3 ≤ U.length
      · obtain ⟨x, y, z, r, rfl⟩ := three_at hU
        rw [rd, hk, (n1_cons _ _).2, (n1_cons _ _).2, (n1_cons _ _).2] at h
        cases h
      · have hl : (S.drop (3 * k)).length = U.length := by rw [← h2]
        rw [List.length_drop] at hl
        omega
/-- What is read: by one look ahead, or number by number. -/
theorem rd_good {st : St} {T : List UInt8} (h : (rd (nN st 1) (nS st 1)).1 = some T) : xL st = (rd (nN st 1) (nS st 1)).2 ∧ kS (nS st 1) (3 * nN st 1) = some T := by
  unfold xL
  cases hs : nS st 1 with
  | none =>
    exfalso
    rw [hs] at h
    have : ∀ k, (rd k none).1 = none := fun k => by
      induction k with
      | zero => rfl
      | succ k ih => rw [rd, ih]; rfl
    rw [this] at h; cases h
  | some S =>
    rw [hs] at h
    obtain ⟨h1, h2, h3⟩ := rd_some S _ T h
    rw [h3]
    simp [kN, kS, h1, h2]
theorem rd_bad {st : St} {k : Nat} (hk : k ≤ nN st 1) (h : (rd k (nS st 1)).1 = none) : xN st = [] ∧ xS st = none := by
  have e : kN (nS st 1) (3 * nN st 1) = [] ∧ kS (nS st 1) (3 * nN st 1) = none := by
    cases hs : nS st 1 with
    | none => exact ⟨rfl, rfl⟩
    | some S =>
      rw [hs] at h
      have := rd_none S k h
      have hn : ¬ 3 * nN st 1 ≤ S.length := by omega
      simp [kN, kS, hn]
  unfold xN xS xL
  rw [e.1, e.2]
  exact ⟨rfl, rfl⟩
theorem xn_good {st : St} {T : List UInt8} (h : (rd (nN st 1) (nS st 1)).1 = some T) : (Ti (rd (nN st 1) (nS st 1)).2 → xN st = (rd (nN st 1) (nS st 1)).2 ∧ xS st = some T) ∧ (¬ Ti (rd (nN st 1) (nS st 1)).2 → xN st = [] ∧ xS st = none) := by
  obtain ⟨h1, h2⟩ := rd_good h
  unfold xN xS
  rw [h1, h2]
  exact ⟨fun g => ⟨if_pos g, if_pos g⟩, fun g => ⟨if_neg g, if_neg g⟩⟩

theorem but_grown {p : Nat} {w1 w4 w5 : World} {obj : Obj} {row : Option Nat} (h : BkE.But p w1 w4) (hg : (w4.alloc obj).grownBy w5 row) (hr : ∀ b, row = some b → w1.heap.size ≤ b) : BkE.But p w1 w5 :=
  ⟨hg.os.trans h.os, hg.tape.trans h.tape, hg.output.trans h.output, Nat.le_trans h.size (Nat.le_trans (by simp) hg.size), fun k hk hne => (hg.block k (by simp; have := h.size; omega) (fun e => by have := hr k e.symm; omega)).trans ((Below.heap_alloc w4 obj k (by have := h.size; omega)).trans (h.block k hk hne))⟩
set_option maxRecDepth 100000 in
set_option maxHeartbeats 2000000 in
theorem rexts_read {w : World} {base p : Nat} {st : St} (h : RInO w p st) (hp : base ≤ p) :
    Calls Try.prog 28 #[.pointer (some ⟨p, 0, none⟩)] w fun e w' => ∃ v, e = .returned v ∧ w'.ownsRow w.heap.size 71 3 v (xN st).length (BkE.itemsV (xN st)) ∧ RInO w' p (xS st) ∧ BkE.But p w w' ∧ Below base w w' := by
  obtain ⟨i0, hi0, hz0', hz1', hz2'⟩ := info_parts BkE.Try.infoE
  have hbase : base ≤ w.heap.size := by obtain ⟨_, h1, _⟩ := h; have := lt_of_block h1; omega
  have hN := Hid.intro (rnum_read h hp 1)
  have hv := n1_le st
  have hbad := Hid.intro (fun k hk g => rd_bad (st := st) (k := k) hk g)
  have hgood := Hid.intro (fun T g => xn_good (st := st) (T := T) g)
  have hrl := Hid.intro (fun k => rd_length (nS st 1) k)
  clear h
  generalize xN st = XN at *
  generalize xS st = XS at *
  generalize nS st 1 = st1 at *
  generalize nN st 1 = n at *
  have n0 : (0 : Int) ≤ (n : Int) := Int.natCast_nonneg _
  go_enter Try.func28, Try.ntmps28
  go_wp2_with fail
  refine hN.out.mono ?_; rintro e w1 ⟨rfl, a, b, c⟩
  have hx1 := Hid.intro (And.intro a (And.intro b c))
  have hw1 : w.heap.size ≤ w1.heap.size := c.size
  clear a b c hN
  go_wp2_with fail
  go_loopw [4, 5] (fun lv kv wr => ∃ (k : Nat) (q : St), k ≤ n ∧ kv = .int .i64 k ∧ q = (rd k st1).1 ∧ wr.ownsRow w1.heap.size 71 3 lv k (BkE.itemsV (rd k st1).2) ∧ RInO wr p q ∧ BkE.But p w1 wr ∧ Below base w1 wr ∧ w1.heap.size ≤ wr.heap.size) (fun _ kv _ => n - (intOf kv).toNat)
  case atStart => exact ⟨0, st1, Nat.zero_le _, rfl, rfl, World.ownsRow_nil _ _ _ _, hx1.out.1, BkE.But.of (Below.refl _ _), Below.refl _ _, Nat.le_refl _⟩
  case round =>
    obtain ⟨k, q, hk, rfl, hq, hown, hR, hS, hB, hsz⟩ := hrel
    have k0 : (0 : Int) ≤ (k : Int) := Int.natCast_nonneg _
    obtain ⟨ba, bc, rfl⟩ := BkE.own_form hown
    have hown' := Hid.intro hown
    have hq' := Hid.intro hq
    have hSB := Hid.intro (And.intro hS hB)
    obtain ⟨B, hRO⟩ := hR
    obtain ⟨c0, c1, f0, f1⟩ := box2 hRO.1
    have hpl := lt_of_block hRO.1
    have hRO' := Hid.intro hRO
    clear hown hS hB
    cases q with
    | none =>
      simp only [Option.isNone_none] at c1
      obtain ⟨e1, e2⟩ := hbad.out k hk hq'.out.symm
      subst e1 e2
      have hBd := Hid.intro (ro_bad (base := base) hRO hp)
      clear hRO hq
      by_cases hlt : k < n
      · have k1 : (k : Int) < (n : Int) := by omega
        go_wp2
        go_ret
        exact ⟨_, rfl, World.ownsRow_nil _ _ _ _, hBd.out.1, hx1.out.2.1.trans (hSB.out.1.trans hBd.out.2.1), hx1.out.2.2.trans (hSB.out.2.trans hBd.out.2.2)⟩
      · have k1 : ¬ (k : Int) < (n : Int) := by omega
        go_wp2
        go_ret
        exact ⟨_, rfl, World.ownsRow_nil _ _ _ _, hBd.out.1, hx1.out.2.1.trans (hSB.out.1.trans hBd.out.2.1), hx1.out.2.2.trans (hSB.out.2.trans hBd.out.2.2)⟩
    | some S =>
      simp only [Option.isNone_some] at c1
      obtain rfl : B = S := hRO.2 S rfl
      by_cases hlt : k < n
      · have k1 : (k : Int) < (n : Int) := by omega
        have hnx := Hid.intro (rd_next k st1 (some B) hq'.out)
        have r1 := Hid.intro (rnum_read (w := wr) ⟨B, hRO⟩ hp 1)
        have r2 := Hid.intro (fun w' (g : RInO w' p (nS (some B) 1)) => rnum_read g hp 1)
        have r3 := Hid.intro (fun w' (g : RInO w' p (nS (nS (some B) 1) 1)) => rnum_read g hp 1)
        have v1 := n1_le (some B)
        have v2 := n1_le (nS (some B) 1)
        have v3 := n1_le (nS (nS (some B) 1) 1)
        have hsz' := Hid.intro hsz
        have hbp := hp
        clear hRO hq hsz
        generalize nS (nS (nS (some B) 1) 1) 1 = q3 at *
        generalize nN (nS (nS (some B) 1) 1) 1 = z at *
        generalize nS (nS (some B) 1) 1 = q2 at *
        generalize nN (nS (some B) 1) 1 = y at *
        generalize nS (some B) 1 = q1 at *
        generalize nN (some B) 1 = x at *
        go_wp2_with fail
        refine r1.out.mono ?_; rintro e w2 ⟨rfl, b1, b2, b3⟩
        have hb2 := Hid.intro (And.intro b2 b3)
        have r2' := Hid.intro (r2.out _ b1)
        clear b1 b2 b3 r1 r2
        go_wp2_with fail
        refine r2'.out.mono ?_; rintro e w3 ⟨rfl, b1, b2, b3⟩
        have hb3 := Hid.intro (And.intro (hb2.out.1.trans b2) (hb2.out.2.trans b3))
        have r3' := Hid.intro (r3.out _ b1)
        clear b1 b2 b3 r2' r3 hb2
        go_wp2_with fail
        refine r3'.out.mono ?_; rintro e w4 ⟨rfl, b1, b2, b3⟩
        have hb4 := Hid.intro (And.intro (hb3.out.1.trans b2) (hb3.out.2.trans b3))
        have hR4 := Hid.intro b1
        clear b1 b2 b3 r3' hb3
        have hown4 := Hid.intro (BkE.own_stay hown'.out (BkE.Stay.but (T := TR) hb4.out.1 hRO'.out.1 notTR) (by unfold TR; decide))
        have hs4 := Hid.intro (Nat.le_trans hsz'.out hb4.out.1.size)
        go_wp2_with (at_builtin; refine wpList_append_lies _ rfl _ _ 30 rfl w1.heap.size 71 i0 (.agg #[.int .i64 0, .int .i64 0, .int .i64 0]) 3 24 Try.underlying30 hi0 hz0' hz1' hz2' rfl (by decide) _ k (BkE.itemsV (rd k st1).2) rfl (hown4.out.alloc _) ⟨w4.heap.size, 0, none⟩ 1 1 [.int .i64 (x : Int), .int .i64 (y : Int), .int .i64 (z : Int)] rfl rfl (World.news_of_block (cs := #[.int .i64 (x : Int), .int .i64 (y : Int), .int .i64 (z : Int)]) (t := 71) (fr := (0, 0)) (heap_alloc_new w4 _)) (by simp [Value.oneCell']) (by decide) (by unfold maxLen; omega) (by omega) (by have := hs4.out; simp; omega) (w4.heap.size + 1) (by simp) ?_; intro g5 cap5 w5 hown5 hgrow5 hat5 hlt5)
        have hba := (Below.refl w4.heap.size w4).alloc (Nat.le_refl _) (.cells #[.int .i64 (x : Int), .int .i64 (y : Int), .int .i64 (z : Int)] 71)
        have hSt5 := Hid.intro (show BkE.Stay (fun e => e ≠ 71) w4 w5 from (BkE.Stay.of hba).trans (BkE.Stay.grown hgrow5 (fun b hb => by
          obtain ⟨_, cur, hg⟩ := BkE.own_block hown4.out b hb
          exact ⟨cur, 71, (0, 0), by rw [hba.block b (lt_of_block hg)]; exact hg, fun h => h rfl⟩)))
        have hBt5 := Hid.intro (but_grown (hSB.out.1.trans hb4.out.1) hgrow5 (fun b hb => (hown4.out.lt b hb).1))
        have hB5 := Hid.intro (show Below base w4 w5 from ((hba.mono (by have := hs4.out; omega)).grown hgrow5 (by have := hs4.out; simp; omega) (fun b hb => by have := (hown4.out.lt b hb).1; omega)))
        have hR5 := Hid.intro (hR4.out.stay hSt5.out (by decide))
        have ho5 := Hid.intro hown5
        clear hown5 hgrow5 hat5 hlt5 hba
        go_roundw
        case rel => exact ⟨k + 1, q3, by omega, by go_num, by rw [hnx.out], by rw [hnx.out, BkE.itemsV_append]; exact ho5.out, hR5.out, hBt5.out, hSB.out.2.trans (hb4.out.2.trans hB5.out), Nat.le_trans hs4.out hSt5.out.size⟩
        case measure => simp [intOf]; omega
      · have hkn : k = n := by omega
        subst hkn
        have k1 : ¬ (k : Int) < (k : Int) := by omega
        obtain ⟨g1, g2⟩ := hgood.out B hq'.out.symm
        have hrow := Hid.intro (BkE.own_row (show wr.ownsRow w1.heap.size 71 3 (.slice ba k bc) (rd k st1).2.length (BkE.itemsV (rd k st1).2) from by rw [hrl.out]; exact hown'.out))
        have hll := hrl.out k
        obtain ⟨L, hL⟩ : ∃ L, Hid ((rd k st1).2 = L) := ⟨_, rfl⟩
        rw [hL.out] at hown' g1 g2 hrow hll
        have hV := Hid.intro (rvalid_any hrow.out (by omega))
        have hsz' := Hid.intro hsz
        have hll' := Hid.intro hll
        clear hRO hq hsz hll
        by_cases hTi : Ti L
        · obtain ⟨e1, e2⟩ := g1 hTi
          clear g1 g2
          subst e1 e2
          rw [decide_eq_true hTi] at hV
          go_wp2_with fail
          refine hV.out.mono ?_; rintro e w2 ⟨rfl, b⟩
          have hb := Hid.intro b
          clear b
          go_wp2
          go_ret
          exact ⟨_, rfl, by rw [hll'.out]; exact BkE.own_mono (BkE.own_below hown'.out hb.out) hw1, RInO.below ⟨B, hRO'.out⟩ hb.out, hx1.out.2.1.trans (hSB.out.1.trans (BkE.But.of hb.out)), hx1.out.2.2.trans (hSB.out.2.trans (hb.out.mono (by have := hsz'.out; omega)))⟩
        · obtain ⟨e1, e2⟩ := g2 hTi
          clear g1 g2
          subst e1 e2
          rw [decide_eq_false hTi] at hV
          go_wp2_with fail
          refine hV.out.mono ?_; rintro e w2 ⟨rfl, b⟩
          have hb := Hid.intro b
          have hRO2 : RO w2 p (some B) B := ⟨by rw [b.block p hpl]; exact hRO'.out.1, hRO'.out.2⟩
          obtain ⟨c0, c1, f0, f1⟩ := box2 hRO2.1
          have hpl2 := lt_of_block hRO2.1
          have hBd := Hid.intro (ro_bad (base := base) hRO2 hp)
          clear b hRO2
          go_wp2
          go_ret
          exact ⟨_, rfl, World.ownsRow_nil _ _ _ _, hBd.out.1, hx1.out.2.1.trans (hSB.out.1.trans ((BkE.But.of hb.out).trans hBd.out.2.1)), hx1.out.2.2.trans (hSB.out.2.trans ((hb.out.mono (by have := hsz'.out; omega)).trans hBd.out.2.2))⟩
end Go.Proofs.Ytnboajhcjgcpfaa
