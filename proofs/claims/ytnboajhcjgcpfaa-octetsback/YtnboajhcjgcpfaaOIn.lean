/-
  A *In in memory: its box; the contracts of From, fail, take, Num, Text, Extents, Left, Done.
-/
import Derived.Test.YtnboajhcjgcpfaaOOut
namespace Go.Proofs.Ytnboajhcjgcpfaa
open Go.ChangeShapes Go.WideShapes Go.ChangeAt Go.RowKit
attribute [local go_sem ↓] Go.wp_at_zero Go.wp_at_succ
attribute [local go_sem] str_size str_extract str_append str_toList

theorem nN_in {st : St} {n : Int} (h : 1 ≤ n ∧ n ≤ 4) : nN st n = vl (kN st n.toNat) := by
  unfold nN kN
  cases st with
  | none => rfl
  | some S =>
    simp only
    by_cases g : n ≤ (S.length : Int)
    · rw [if_pos ⟨h.1, h.2, g⟩, if_pos (by omega)]
    · rw [if_neg (fun q => g q.2.2), if_neg (by omega)]; rfl
theorem nS_in {st : St} {n : Int} (h : 1 ≤ n ∧ n ≤ 4) : nS st n = kS st n.toNat := by
  unfold nS kS
  cases st with
  | none => rfl
  | some S =>
    simp only
    by_cases g : n ≤ (S.length : Int)
    · rw [if_pos ⟨h.1, h.2, g⟩, if_pos (by omega)]
    · rw [if_neg (fun q => g q.2.2), if_neg (by omega)]
theorem nN_out {st : St} {n : Int} (h : ¬ (1 ≤ n ∧ n ≤ 4)) : nN st n = 0 := by
  unfold nN
  cases st with
  | none => rfl
  | some S => simp only; exact if_neg (fun q => h ⟨q.1, q.2.1⟩)
theorem nS_out {st : St} {n : Int} (h : ¬ (1 ≤ n ∧ n ≤ 4)) : nS st n = none := by
  unfold nS
  cases st with
  | none => rfl
  | some S => simp only; exact if_neg (fun q => h ⟨q.1, q.2.1⟩)
theorem kN_length (st : St) (n : Nat) : (kN st n).length ≤ n := by
  unfold kN
  cases st with
  | none => exact Nat.zero_le _
  | some S =>
    simp only
    split
    · rw [List.length_take]; omega
    · exact Nat.zero_le _

/-- A *In at block p. -/
def InO (w : World) (p : Nat) (st : St) : Prop := w.heap[p]? = some (.cells #[.string (str (lft st)), .bool true, .bool st.isNone] 77 (0, 0))
def TI (e : TypeId) : Prop := e ≠ 77
theorem notTI : ¬ TI 77 := fun h => h rfl
theorem InO.stay {w w' : World} {p : Nat} {st : St} {T : TypeId → Prop} (h : InO w p st) (hs : BkE.Stay T w w') (t : T 77) : InO w' p st := hs.block _ _ _ _ h t
theorem InO.below {w w' : World} {p : Nat} {st : St} (h : InO w p st) (hb : Below w.heap.size w w') : InO w' p st := by
  unfold InO at h ⊢
  rw [hb.block p (lt_of_block h)]; exact h
theorem box3 {w : World} {p : Nat} {x y z : Value} {t : TypeId} (h : w.heap[p]? = some (.cells #[x, y, z] t (0, 0))) : w.cell? ⟨p, 0, none⟩ = some x ∧ w.cell? ⟨p, 1, none⟩ = some y ∧ w.cell? ⟨p, 2, none⟩ = some z ∧ w.frozen? ⟨p, 0, none⟩ = false ∧ w.frozen? ⟨p, 1, none⟩ = false ∧ w.frozen? ⟨p, 2, none⟩ = false := by
  refine ⟨?_, ?_, ?_, ?_, ?_, ?_⟩ <;> simp [World.cell?, World.frozen?, h]
theorem set3a {w : World} {p : Nat} {x y z u : Value} {t : TypeId} (h : w.heap[p]? = some (.cells #[x, y, z] t (0, 0))) : (w.setCell ⟨p, 0, none⟩ u).heap[p]? = some (.cells #[u, y, z] t (0, 0)) := by
  simp [World.setCell, Array.getElem?_modify, h]
theorem set3c {w : World} {p : Nat} {x y z u : Value} {t : TypeId} (h : w.heap[p]? = some (.cells #[x, y, z] t (0, 0))) : (w.setCell ⟨p, 2, none⟩ u).heap[p]? = some (.cells #[x, y, u] t (0, 0)) := by
  simp [World.setCell, Array.getElem?_modify, h]

set_option maxRecDepth 100000 in
theorem from_any (S : List UInt8) (w : World) :
    Calls Try.prog 20 #[.string (str S)] w fun e w' => e = .returned (.pointer (some ⟨w.heap.size, 0, none⟩)) ∧ InO w' w.heap.size (some S) ∧ Below w.heap.size w w' ∧ w.heap.size < w'.heap.size := by
  have h := Hid.intro (show InO (w.alloc (.cells #[.string (str S), .bool true, .bool false] 77)) w.heap.size (some S) from heap_alloc_new w (.cells #[.string (str S), .bool true, .bool false] 77))
  have hb := Hid.intro (show Below w.heap.size w (w.alloc (.cells #[.string (str S), .bool true, .bool false] 77)) from (Below.refl _ _).alloc (Nat.le_refl _) _)
  go_enter Try.func20, Try.ntmps20
  go_wp2
  go_ret
  exact ⟨rfl, h.out, hb.out, by simp⟩

set_option maxRecDepth 100000 in
theorem fail_any {w : World} {base p : Nat} {st : St} (h : InO w p st) (hp : base ≤ p) :
    Calls Try.prog 42 #[.pointer (some ⟨p, 0, none⟩)] w fun e w' => e = .returned (.tuple #[]) ∧ InO w' p none ∧ BkE.Stay TI w w' ∧ Below base w w' := by
  unfold InO at h
  obtain ⟨c0, c1, c2, f0, f1, f2⟩ := box3 h
  have e1 := set3a (u := .string (str [])) h
  have e2 := Hid.intro (set3c (u := .bool true) e1)
  have s2 := Hid.intro ((stay_set (T := TI) (o := 0) (u := .string (str [])) h notTI).trans (stay_set (T := TI) (o := 2) (u := .bool true) e1 notTI))
  have b2 := Hid.intro (((Below.refl base w).setCell (p := ⟨p, 0, none⟩) hp (.string (str []))).setCell (p := ⟨p, 2, none⟩) hp (.bool true))
  have hl := lt_of_block h
  clear h e1
  go_enter Try.func42, Try.ntmps42
  go_wp2
  go_end0
  exact ⟨rfl, e2.out, s2.out, b2.out⟩
theorem fail_nil (w : World) : Calls Try.prog 42 #[.pointer none] w fun e w' => e = .returned (.tuple #[]) ∧ w' = w := by
  go_enter Try.func42, Try.ntmps42
  go_wp2
  go_end0
  exact ⟨rfl, rfl⟩
theorem take_nil (n : Int) (w : World) : Calls Try.prog 43 #[.pointer none, .int .i64 n] w fun e w' => e = .returned (.string ByteArray.empty) ∧ w' = w := by
  go_enter Try.func43, Try.ntmps43
  go_wp2_with fail
  refine (fail_nil _).mono ?_; rintro e w1 ⟨rfl, rfl⟩
  go_wp2
  go_ret
  exact ⟨rfl, rfl⟩

theorem lft_kS {st : St} {n : Nat} (h : n ≤ (lft st).length) : lft (kS st n) = (lft st).drop n ∧ (kS st n).isNone = st.isNone ∧ kN st n = (lft st).take n := by
  cases st with
  | none => simp [kS, lft, kN]
  | some S =>
    have h' : n ≤ S.length := h
    simp [kS, lft, kN, h']
theorem kS_no {st : St} {n : Nat} (h : ¬ n ≤ (lft st).length) : kS st n = none ∧ kN st n = [] := by
  cases st with
  | none => exact ⟨rfl, rfl⟩
  | some S =>
    have h' : ¬ n ≤ S.length := h
    simp [kS, kN, h']

set_option maxRecDepth 100000 in
theorem take_any {w : World} {base p : Nat} {st : St} (h : InO w p st) (hp : base ≤ p) (n : Nat) (_ : n ≤ 1000000) :
    Calls Try.prog 43 #[.pointer (some ⟨p, 0, none⟩), .int .i64 (n : Int)] w fun e w' => e = .returned (.string (str (kN st n))) ∧ InO w' p (kS st n) ∧ BkE.Stay TI w w' ∧ Below base w w' := by
  have hF := Hid.intro (fail_any h hp)
  unfold InO at h
  obtain ⟨c0, c1, c2, f0, f1, f2⟩ := box3 h
  have hl := lt_of_block h
  have n0 : (0 : Int) ≤ (n : Int) := Int.natCast_nonneg _
  by_cases hle : n ≤ (lft st).length
  · obtain ⟨e1, e2, e3⟩ := lft_kS hle
    have e1' : InO (w.setCell ⟨p, 0, none⟩ (.string (str ((lft st).drop n)))) p (kS st n) := by
      unfold InO
      rw [e1, e2]; exact set3a h
    have s2 := stay_set (T := TI) (o := 0) (u := .string (str ((lft st).drop n))) h notTI
    have b2 := (Below.refl base w).setCell (p := ⟨p, 0, none⟩) hp (.string (str ((lft st).drop n)))
    have hall := Hid.intro (And.intro e1' (And.intro s2 b2))
    rw [e3]
    have hd : ((lft st).drop n).take ((lft st).length - n) = (lft st).drop n := List.take_of_length_le (by rw [List.length_drop]; omega)
    generalize lft st = S at *
    have z1 : ¬ (S.length : Int) < (n : Int) := by omega
    have z2 : (n : Int) ≤ (S.length : Int) := by omega
    have z3 : ¬ S.length < n := by omega
    clear e1' s2 b2 h hF e1 e2 e3
    go_enter Try.func43, Try.ntmps43
    go_wp2
    go_ret
    exact ⟨rfl, hall.out⟩
  · obtain ⟨e1, e2⟩ := kS_no hle
    rw [e1, e2]
    generalize lft st = S at *
    have z1 : (S.length : Int) < (n : Int) := by omega
    clear h
    go_enter Try.func43, Try.ntmps43
    go_wp2_with fail
    refine hF.out.mono ?_; rintro e w1 ⟨rfl, hx⟩
    go_wp2
    go_ret
    exact ⟨rfl, hx⟩

theorem i64_or (a b : Nat) (ha : a < 4294967296) (hb : b < 4294967296) : bits .or .i64 (a : Int) (b : Int) = ((a ||| b : Nat) : Int) := by
  have hx : a ||| b < 4294967296 := Nat.or_lt_two_pow (n := 32) ha hb
  have h1 : (BitVec.ofInt 64 (a : Int)).toNat = a := by rw [BitVec.ofInt_natCast, BitVec.toNat_ofNat]; exact Nat.mod_eq_of_lt (by omega)
  have h2 : (BitVec.ofInt 64 (b : Int)).toNat = b := by rw [BitVec.ofInt_natCast, BitVec.toNat_ofNat]; exact Nat.mod_eq_of_lt (by omega)
  show IntKind.i64.wrap ((BitVec.ofInt 64 (a : Int) ||| BitVec.ofInt 64 (b : Int)).toNat : Int) = _
  rw [BitVec.toNat_or, h1, h2, IntKind.wrap_i64]
  omega
theorem or_up (a x k : Nat) (h : a < 2 ^ k) : a ||| (2 ^ k * x) = a + 2 ^ k * x := by
  have e : 2 ^ k * x = x <<< k := by rw [Nat.shiftLeft_eq, Nat.mul_comm]
  rw [e, Nat.or_comm, ← Nat.shiftLeft_add_eq_or_of_lt h, Nat.add_comm]
theorem pow256 (i : Nat) : 256 ^ i = 2 ^ (i * 8) := by rw [Nat.mul_comm, Nat.pow_mul]
/-- One more byte of a number. -/
theorem vl_up {S : List UInt8} {i : Nat} {x : UInt8} (h : S[i]? = some x) (hi : i < 4) : ∃ M : Nat, IntKind.i64.wrap ((x.toNat : Int) * 2 ^ (i * 8)) = (M : Int) ∧ bits .or .i64 (vl (S.take i) : Int) (M : Int) = (vl (S.take (i + 1)) : Int) := by
  have hx := x.toNat_lt
  have hl : vl (S.take i) < 256 ^ i := Nat.lt_of_lt_of_le (vl_lt _) (Nat.pow_le_pow_right (by decide) (by rw [List.length_take]; omega))
  have hp : 2 ^ (i * 8) ≤ 16777216 := by
    have : 2 ^ (i * 8) ≤ 2 ^ 24 := Nat.pow_le_pow_right (by decide) (by omega)
    exact this
  have hM : 2 ^ (i * 8) * x.toNat < 4294967296 := by
    have : 2 ^ (i * 8) * x.toNat ≤ 16777216 * x.toNat := Nat.mul_le_mul_right _ hp
    omega
  have ha : vl (S.take i) < 4294967296 := by rw [pow256] at hl; omega
  refine ⟨2 ^ (i * 8) * x.toNat, ?_, ?_⟩
  · rw [show (x.toNat : Int) * 2 ^ (i * 8) = ((2 ^ (i * 8) * x.toNat : Nat) : Int) by rw [Int.natCast_mul, Int.mul_comm]; simp]
    exact IntWalk.i64_in _ (by omega)
  · rw [i64_or _ _ ha hM, or_up _ _ _ (by rw [← pow256]; exact hl), vl_take h, pow256]

set_option maxRecDepth 100000 in
theorem inum_in {w : World} {base p : Nat} {st : St} (h : InO w p st) (hp : base ≤ p) (n : Nat) (hn : 1 ≤ n ∧ n ≤ 4) :
    Calls Try.prog 21 #[.pointer (some ⟨p, 0, none⟩), .int .i64 (n : Int)] w fun e w' => e = .returned (.int .i64 (vl (kN st n) : Int)) ∧ InO w' p (kS st n) ∧ BkE.Stay TI w w' ∧ Below base w w' := by
  have hc := Hid.intro (cnt_any (n : Int) w)
  rw [decide_eq_true (by omega)] at hc
  have hT := Hid.intro (take_any h hp n (by omega))
  have hk := kN_length st n
  clear h
  generalize kN st n = S at *
  go_enter Try.func21, Try.ntmps21
  go_wp2_with fail
  refine hc.out.mono ?_; rintro e w1 ⟨rfl, rfl⟩
  go_wp2_with fail
  refine hT.out.mono ?_; rintro e w2 ⟨rfl, hx⟩
  have hx' := Hid.intro hx
  clear hx
  go_wp2_with fail
  go_loopw [6, 18] (fun vv iv wr => ∃ i : Nat, i ≤ S.length ∧ vv = .int .i64 (vl (S.take i) : Int) ∧ iv = .int .i64 i ∧ wr = w2) (fun _ iv _ => S.length - (intOf iv).toNat)
  case atStart => exact ⟨0, Nat.zero_le _, by rw [List.take_zero]; rfl, rfl, rfl⟩
  case round =>
    obtain ⟨i, hi, rfl, rfl, rfl⟩ := hrel
    have i0 : (0 : Int) ≤ (i : Int) := Int.natCast_nonneg _
    by_cases hlt : i < S.length
    · have i1 : (i : Int) < (S.length : Int) := by omega
      have i4 : (i : Int) < 4 := by omega
      obtain ⟨x, hx⟩ : ∃ x, S[i]? = some x := ⟨S[i], by simp [hlt]⟩
      have hat := str_at S i x hx wr
      obtain ⟨M, hM1, hM2⟩ := vl_up hx (by omega)
      unfold bV at hat
      have hm : x.toNat < 256 := x.toNat_lt
      clear hx
      have hnx := Hid.intro (show vl (S.take (i + 1)) = vl (S.take (i + 1)) from rfl)
      obtain ⟨V1, hV1⟩ : ∃ V1, Hid (vl (S.take (i + 1)) = V1) := ⟨_, rfl⟩
      rw [hV1.out] at hM2
      clear hnx
      generalize vl (S.take i) = V at *
      generalize x.toNat = m at *
      go_wp2
      go_roundw
      case rel => exact ⟨i + 1, by omega, by rw [hV1.out, ← hM2, ← hM1, IntWalk.i64_left], by go_num, trivial⟩
      case measure => simp [intOf]; omega
    · have hii : i = S.length := by omega
      subst hii
      rw [List.take_length]
      go_wp2
      go_ret
      exact ⟨rfl, hx'.out⟩
/-- Num, read. -/
theorem inum_any {w : World} {base p : Nat} {st : St} (h : InO w p st) (hp : base ≤ p) (n : Int) :
    Calls Try.prog 21 #[.pointer (some ⟨p, 0, none⟩), .int .i64 n] w fun e w' => e = .returned (.int .i64 (nN st n : Int)) ∧ InO w' p (nS st n) ∧ BkE.Stay TI w w' ∧ Below base w w' := by
  by_cases hn : 1 ≤ n ∧ n ≤ 4
  · rw [nN_in hn, nS_in hn]
    have := inum_in h hp n.toNat (by omega)
    rw [show ((n.toNat : Nat) : Int) = n by omega] at this
    exact this
  · rw [nN_out hn, nS_out hn]
    have hF := Hid.intro (fail_any h hp)
    have hc := Hid.intro (cnt_any n w)
    rw [decide_eq_false hn] at hc
    clear h
    go_enter Try.func21, Try.ntmps21
    go_wp2_with fail
    refine hc.out.mono ?_; rintro e w1 ⟨rfl, rfl⟩
    go_wp2_with fail
    refine hF.out.mono ?_; rintro e w2 ⟨rfl, hx⟩
    have hx' := Hid.intro hx
    clear hx
    go_wp2
    go_ret
    exact ⟨rfl, hx'.out⟩
set_option maxRecDepth 100000 in
theorem inum_nil (n : Int) (w : World) (hn : 1 ≤ n ∧ n ≤ 4) : Calls Try.prog 21 #[.pointer none, .int .i64 n] w fun e w' => e = .returned (.int .i64 0) ∧ w' = w := by
  have hc := Hid.intro (cnt_any n w)
  rw [decide_eq_true hn] at hc
  go_enter Try.func21, Try.ntmps21
  go_wp2_with fail
  refine hc.out.mono ?_; rintro e w1 ⟨rfl, rfl⟩
  go_wp2_with fail
  refine (take_nil n _).mono ?_; rintro e w2 ⟨rfl, rfl⟩
  go_wp2_with fail
  go_loopw [6, 18] (fun vv iv wr => vv = .int .i64 0 ∧ iv = .int .i64 0 ∧ wr = w2) (fun _ iv _ => 0)
  case atStart => exact ⟨rfl, rfl, rfl⟩
  case round =>
    obtain ⟨rfl, rfl, rfl⟩ := hrel
    go_wp2
    go_ret
    exact ⟨rfl, rfl⟩

theorem itext_any {w : World} {base p : Nat} {st : St} (h : InO w p st) (hp : base ≤ p) :
    Calls Try.prog 23 #[.pointer (some ⟨p, 0, none⟩)] w fun e w' => e = .returned (.string (str (tN st))) ∧ InO w' p (tS st) ∧ BkE.Stay TI w w' ∧ Below base w w' := by
  unfold tN tS
  have hN := Hid.intro (inum_any h hp 1)
  have hv : nN st 1 ≤ 255 := by
    rw [nN_in (by decide)]
    have h1 := vl_lt (kN st (1 : Int).toNat)
    have h2 := kN_length st (1 : Int).toNat
    have h3 : 256 ^ (kN st (1 : Int).toNat).length ≤ 256 ^ 1 := Nat.pow_le_pow_right (by decide) h2
    omega
  have hT := Hid.intro (fun w' (g : InO w' p (nS st 1)) => take_any g hp (nN st 1) (by omega))
  clear h
  generalize nN st 1 = n at *
  generalize kN (nS st 1) n = S at *
  generalize kS (nS st 1) n = st' at *
  go_enter Try.func23, Try.ntmps23
  go_wp2_with fail
  refine hN.out.mono ?_; rintro e w1 ⟨rfl, a, b, c⟩
  have b' := Hid.intro b
  have c' := Hid.intro c
  have hT' := Hid.intro (hT.out _ a)
  clear a b c
  go_wp2_with fail
  refine hT'.out.mono ?_; rintro e w2 ⟨rfl, a, b, c⟩
  go_wp2
  go_ret
  exact ⟨rfl, a, b'.out.trans b, c'.out.trans c⟩
theorem itext_nil (w : World) : Calls Try.prog 23 #[.pointer none] w fun e w' => e = .returned (.string ByteArray.empty) ∧ w' = w := by
  go_enter Try.func23, Try.ntmps23
  go_wp2_with fail
  refine (inum_nil 1 _ (by decide)).mono ?_; rintro e w1 ⟨rfl, rfl⟩
  go_wp2_with fail
  refine (take_nil 0 _).mono ?_; rintro e w1 ⟨rfl, rfl⟩
  go_wp2
  go_ret
  exact ⟨rfl, rfl⟩
theorem left_any {w : World} {p : Nat} {st : St} (h : InO w p st) : Calls Try.prog 29 #[.pointer (some ⟨p, 0, none⟩)] w fun e w' => e = .returned (.int .i64 ((lft st).length : Int)) ∧ w' = w := by
  unfold InO at h
  obtain ⟨c0, c1, c2, f0, f1, f2⟩ := box3 h
  have hl := lt_of_block h
  generalize lft st = S at *
  clear h
  go_enter Try.func29, Try.ntmps29
  go_wp2
  go_ret
  exact ⟨rfl, rfl⟩
theorem left_nil (w : World) : Calls Try.prog 29 #[.pointer none] w fun e w' => e = .returned (.int .i64 0) ∧ w' = w := by
  go_enter Try.func29, Try.ntmps29
  go_wp2
  go_ret
  exact ⟨rfl, rfl⟩
def dn (st : St) : Int := if st = some [] then 0 else 8
theorem idone_any {w : World} {p : Nat} {st : St} (h : InO w p st) : Calls Try.prog 30 #[.pointer (some ⟨p, 0, none⟩)] w fun e w' => e = .returned (.int .i64 (dn st)) ∧ w' = w := by
  unfold InO at h
  obtain ⟨c0, c1, c2, f0, f1, f2⟩ := box3 h
  have hl := lt_of_block h
  clear h
  unfold dn
  cases st with
  | none =>
    rw [if_neg (by simp)]
    simp only [Option.isNone_none] at c2
    clear c0
    go_enter Try.func30, Try.ntmps30
    go_wp2
    go_ret
    exact ⟨rfl, rfl⟩
  | some S =>
    simp only [Option.isNone_some] at c2
    simp only [lft, Option.getD_some] at c0
    cases S with
    | nil =>
      rw [if_pos rfl]
      go_enter Try.func30, Try.ntmps30
      go_wp2
      go_ret
      exact ⟨rfl, rfl⟩
    | cons x r =>
      rw [if_neg (by simp)]
      have hne : (x :: r).isEmpty = false := rfl
      generalize x :: r = S at *
      go_enter Try.func30, Try.ntmps30
      go_wp2
      go_ret
      exact ⟨rfl, rfl⟩
theorem idone_nil (w : World) : Calls Try.prog 30 #[.pointer none] w fun e w' => e = .returned (.int .i64 1) ∧ w' = w := by
  go_enter Try.func30, Try.ntmps30
  go_wp2
  go_ret
  exact ⟨rfl, rfl⟩

theorem dec_snoc : ∀ (n : Nat) (S : List UInt8) (x y z : UInt8), S.length = 3 * n → dec (S ++ [x, y, z]) = dec S ++ [((x.toNat : Int), (y.toNat : Int), (z.toNat : Int))]
  | 0, S, x, y, z, h => by
    have : S = [] := List.length_eq_zero_iff.1 (by omega)
    subst this; rfl
  | n + 1, a :: b :: c :: r, x, y, z, h => by
    rw [List.cons_append, List.cons_append, List.cons_append, dec, dec, dec_snoc n r x y z (by simp at h; omega)]; rfl
  | n + 1, [], _, _, _, h => by simp at h
  | n + 1, [a], _, _, _, h => by simp at h; omega
  | n + 1, [a, b], _, _, _, h => by simp at h; omega
theorem three_at {T : List UInt8} (h : 3 ≤ T.length) : ∃ x y z r, T = x :: y :: z :: r := by
  match T, h with
  | x :: y :: z :: r, _ => exact ⟨x, y, z, r, rfl⟩
def strLen : Value → Nat
  | .string s => s.size
  | _ => 0
set_option maxRecDepth 100000 in
set_option maxHeartbeats 2000000 in
theorem dec_loop {w : World} {base p : Nat} {st : St} (h : InO w p st) (hp : base ≤ p) :
    Calls Try.prog 25 #[.pointer (some ⟨p, 0, none⟩)] w fun e w' => ∃ v, e = .returned v ∧ w'.ownsRow w.heap.size 71 3 v (xN st).length (BkE.itemsV (xN st)) ∧ InO w' p (xS st) ∧ BkE.Stay TI w w' ∧ Below base w w' := by
  obtain ⟨i0, hi0, hz0', hz1', hz2'⟩ := info_parts BkE.Try.infoE
  have hbase : base ≤ w.heap.size := by have := lt_of_block h; omega
  have hN := Hid.intro (inum_any h hp 1)
  have hv : nN st 1 ≤ 255 := by
    rw [nN_in (by decide)]
    have h1 := vl_lt (kN st (1 : Int).toNat)
    have h2 := kN_length st (1 : Int).toNat
    have h3 : 256 ^ (kN st (1 : Int).toNat).length ≤ 256 ^ 1 := Nat.pow_le_pow_right (by decide) h2
    omega
  have hT := Hid.intro (fun w' (g : InO w' p (nS st 1)) => take_any g hp (3 * nN st 1) (by omega))
  unfold xN xS xL
  have hk3 : ∃ m, (kN (nS st 1) (3 * nN st 1)).length = 3 * m ∧ m ≤ 255 := by
    unfold kN
    cases nS st 1 with
    | none => exact ⟨0, rfl, by omega⟩
    | some S =>
      simp only
      split
      · exact ⟨nN st 1, by rw [List.length_take]; omega, hv⟩
      · exact ⟨0, rfl, by omega⟩
  clear h
  generalize nN st 1 = n at *
  generalize kN (nS st 1) (3 * n) = S at *
  generalize kS (nS st 1) (3 * n) = st' at *
  obtain ⟨m, hm, hm2⟩ := hk3
  obtain ⟨D, hD⟩ : ∃ D, Hid (dec S = D) := ⟨_, rfl⟩
  rw [hD.out]
  go_enter Try.func25, Try.ntmps25
  go_wp2_with fail
  refine hN.out.mono ?_; rintro e w1 ⟨rfl, a, b, c⟩
  have b' := Hid.intro b
  have c' := Hid.intro c
  have hT' := Hid.intro (hT.out _ a)
  clear a b c
  have n0 : (0 : Int) ≤ (n : Int) := Int.natCast_nonneg _
  have n1 : (n : Int) ≤ 255 := by omega
  have hc := Hid.intro (show (3 : Int) * (n : Int) = ((3 * n : Nat) : Int) by omega)
  go_wp2_with fail
  rw [hc.out]
  refine hT'.out.mono ?_; rintro e w2 ⟨rfl, a, b, c⟩
  have hx' := Hid.intro (And.intro a (And.intro (b'.out.trans b) (c'.out.trans c)))
  have hw2 : w.heap.size ≤ w2.heap.size := hx'.out.2.2.size
  clear a b c hT' b' c'
  go_wp2_with fail
  go_loopw [3, 4] (fun lv bv wr => ∃ (i : Nat) (L : List Ex) (T : List UInt8), i ≤ m ∧ T = S.drop (3 * i) ∧ L = dec (S.take (3 * i)) ∧ bv = .string (str T) ∧ wr.ownsRow w2.heap.size 71 3 lv L.length (BkE.itemsV L) ∧ Below w2.heap.size w2 wr) (fun _ bv _ => strLen bv)
  case atStart => exact ⟨0, [], S, Nat.zero_le _, rfl, rfl, rfl, World.ownsRow_nil _ _ _ _, Below.refl _ _⟩
  case round =>
    obtain ⟨i, L, T, hi, hT, hL, rfl, hown, hB⟩ := hrel
    have hTl : T.length = 3 * (m - i) := by rw [hT, List.length_drop, hm]; omega
    have hLl : L.length = i := by rw [hL]; exact dec_length i _ (by rw [List.length_take]; omega)
    obtain ⟨ba, bc, rfl⟩ := BkE.own_form hown
    have hown' := Hid.intro hown
    have hB1 := Hid.intro hB
    have hle := Hid.intro hB.size
    by_cases hlt : i < m
    · obtain ⟨x, y, z, r, rfl⟩ := three_at (T := T) (by omega)
      have h3 := Hid.intro (show ∀ w', (Instr.index 9 (.string (str (x :: y :: z :: r))) (.int .i64 0)).run Try.prog w' = .ok (.int .u8 (x.toNat : Int)) w' ∧ (Instr.index 9 (.string (str (x :: y :: z :: r))) (.int .i64 1)).run Try.prog w' = .ok (.int .u8 (y.toNat : Int)) w' ∧ (Instr.index 9 (.string (str (x :: y :: z :: r))) (.int .i64 2)).run Try.prog w' = .ok (.int .u8 (z.toNat : Int)) w' from fun w' =>
        ⟨by simpa [bV] using str_at (x :: y :: z :: r) 0 x rfl w', by simpa [bV] using str_at (x :: y :: z :: r) 1 y rfl w', by simpa [bV] using str_at (x :: y :: z :: r) 2 z rfl w'⟩)
      have hne : (x :: y :: z :: r).isEmpty = false := rfl
      have hd3 : (x :: y :: z :: r).drop 3 = r := rfl
      have hr : r = S.drop (3 * (i + 1)) := by
        have := congrArg (List.drop 3) hT
        rw [List.drop_drop, show 3 * i + 3 = 3 * (i + 1) by omega] at this
        exact this
      have hnx := Hid.intro (show L ++ [((x.toNat : Int), (y.toNat : Int), (z.toNat : Int))] = dec (S.take (3 * (i + 1))) by
        have e : S.take (3 * (i + 1)) = S.take (3 * i) ++ [x, y, z] := by
          rw [show 3 * (i + 1) = 3 * i + 3 by omega, List.take_add, ← hT]; rfl
        rw [e, dec_snoc i _ x y z (by rw [List.length_take]; omega), hL])
      have hr' := Hid.intro hr
      have hx256 := x.toNat_lt
      have hy256 := y.toNat_lt
      have hz256 := z.toNat_lt
      have hrl : ((x :: y :: z :: r).length : Int) = (r.length : Int) + 3 := by simp; omega
      have hrt : r.take ((x :: y :: z :: r).length - 3) = r := List.take_of_length_le (by simp)
      have hLl' := Hid.intro hLl
      have hTl' := Hid.intro hTl
      have hLb : L.length ≤ 255 := by omega
      clear hT hL hown hB hr hLl hTl
      generalize hTT : x :: y :: z :: r = T at *
      have hTT' := Hid.intro hTT
      clear hTT
      go_wp2_with fail
      refine wp_region_held_drew (S := fun w' => Below w2.heap.size w2 w') (by kernel_rfl) (hB1.out.drew) (fun hHeld => ?_)
      refine wpAnyH_take (i := 0) (v := .slice ba L.length bc) rfl (by kernel_rfl) (by kernel_rfl) (by kernel_rfl) (fun _ _ _ h => h) (Or.inl ⟨by rfl, fun w' hSw => by clear hSw; go_simp⟩) hHeld ?_
      change wpAnyH _ _ _ _ _ _ _ (Act.put _ (some 14) _) _
      simp only [Act.put, List.setIfInBounds_toArray, List.set_cons_zero, List.set_cons_succ]
      refine wpAnyH_take (i := 1) (v := .string (str T)) rfl (by kernel_rfl) (by kernel_rfl) (by kernel_rfl) (fun _ _ _ h => h) (Or.inl ⟨by rfl, fun w' hSw => by clear hSw; go_simp⟩) hHeld ?_
      change wpAnyH _ _ _ _ _ _ _ (Act.put _ (some 15) _) _
      simp only [Act.put, List.setIfInBounds_toArray, List.set_cons_zero, List.set_cons_succ]
      refine wpAnyH_take (i := 2) (v := .int .u8 (x.toNat : Int)) rfl (by kernel_rfl) (by kernel_rfl) (by kernel_rfl) (fun _ _ _ h => h) (Or.inl ⟨by rfl, fun w' hSw => by have hat := (h3.out w').1; clear hSw; go_simp⟩) hHeld ?_
      change wpAnyH _ _ _ _ _ _ _ (Act.put _ (some 16) _) _
      simp only [Act.put, List.setIfInBounds_toArray, List.set_cons_zero, List.set_cons_succ]
      refine wpAnyH_take (i := 3) (v := .int .i64 (x.toNat : Int)) rfl (by kernel_rfl) (by kernel_rfl) (by kernel_rfl) (fun _ _ _ h => h) (Or.inl ⟨by rfl, fun w' hSw => by clear hSw; go_simp; exact IntWalk.i64_in _ (by omega)⟩) hHeld ?_
      change wpAnyH _ _ _ _ _ _ _ (Act.put _ (some 17) _) _
      simp only [Act.put, List.setIfInBounds_toArray, List.set_cons_zero, List.set_cons_succ]
      refine wpAnyH_take (i := 4) (v := .string (str T)) rfl (by kernel_rfl) (by kernel_rfl) (by kernel_rfl) (fun _ _ _ h => h) (Or.inl ⟨by rfl, fun w' hSw => by clear hSw; go_simp⟩) hHeld ?_
      change wpAnyH _ _ _ _ _ _ _ (Act.put _ (some 18) _) _
      simp only [Act.put, List.setIfInBounds_toArray, List.set_cons_zero, List.set_cons_succ]
      refine wpAnyH_take (i := 5) (v := .int .u8 (y.toNat : Int)) rfl (by kernel_rfl) (by kernel_rfl) (by kernel_rfl) (fun _ _ _ h => h) (Or.inl ⟨by rfl, fun w' hSw => by have hat := (h3.out w').2.1; clear hSw; go_simp⟩) hHeld ?_
      change wpAnyH _ _ _ _ _ _ _ (Act.put _ (some 19) _) _
      simp only [Act.put, List.setIfInBounds_toArray, List.set_cons_zero, List.set_cons_succ]
      refine wpAnyH_take (i := 6) (v := .int .i64 (y.toNat : Int)) rfl (by kernel_rfl) (by kernel_rfl) (by kernel_rfl) (fun _ _ _ h => h) (Or.inl ⟨by rfl, fun w' hSw => by clear hSw; go_simp; exact IntWalk.i64_in _ (by omega)⟩) hHeld ?_
      change wpAnyH _ _ _ _ _ _ _ (Act.put _ (some 20) _) _
      simp only [Act.put, List.setIfInBounds_toArray, List.set_cons_zero, List.set_cons_succ]
      refine wpAnyH_take (i := 7) (v := .string (str T)) rfl (by kernel_rfl) (by kernel_rfl) (by kernel_rfl) (fun _ _ _ h => h) (Or.inl ⟨by rfl, fun w' hSw => by clear hSw; go_simp⟩) hHeld ?_
      change wpAnyH _ _ _ _ _ _ _ (Act.put _ (some 21) _) _
      simp only [Act.put, List.setIfInBounds_toArray, List.set_cons_zero, List.set_cons_succ]
      refine wpAnyH_take (i := 8) (v := .int .u8 (z.toNat : Int)) rfl (by kernel_rfl) (by kernel_rfl) (by kernel_rfl) (fun _ _ _ h => h) (Or.inl ⟨by rfl, fun w' hSw => by have hat := (h3.out w').2.2; clear hSw; go_simp⟩) hHeld ?_
      change wpAnyH _ _ _ _ _ _ _ (Act.put _ (some 22) _) _
      simp only [Act.put, List.setIfInBounds_toArray, List.set_cons_zero, List.set_cons_succ]
      refine wpAnyH_take (i := 9) (v := .int .i64 (z.toNat : Int)) rfl (by kernel_rfl) (by kernel_rfl) (by kernel_rfl) (fun _ _ _ h => h) (Or.inl ⟨by rfl, fun w' hSw => by clear hSw; go_simp; exact IntWalk.i64_in _ (by omega)⟩) hHeld ?_
      change wpAnyH _ _ _ _ _ _ _ (Act.put _ (some 23) _) _
      simp only [Act.put, List.setIfInBounds_toArray, List.set_cons_zero, List.set_cons_succ]
      refine wpAnyH_take (i := 10) (v := .agg #[.int .i64 (x.toNat : Int), .int .i64 (y.toNat : Int), .int .i64 (z.toNat : Int)]) rfl (by kernel_rfl) (by kernel_rfl) (by kernel_rfl) (fun _ _ _ h => h) (Or.inl ⟨by rfl, fun w' hSw => by clear hSw; go_simp⟩) hHeld ?_
      change wpAnyH _ _ _ _ _ _ _ (Act.put _ (some 24) _) _
      simp only [Act.put, List.setIfInBounds_toArray, List.set_cons_zero, List.set_cons_succ]
      refine wpAnyH_ready (rs := [11]) (by kernel_rfl) (by simp) ?_
      refine AllReadyH.cons rfl (fun K hK => ?_) AllReadyH.nil
      go_simp
      refine hK.out _ _ (hB1.out.drew.alloc hle.out _) (fun hHeld => ?_); clear hK K
      refine wpAnyH_ready (rs := [12]) (by kernel_rfl) (by simp) ?_
      refine AllReadyH.cons rfl (fun K hK => ?_) AllReadyH.nil
      refine step_append_lies _ (by rfl) _ _ 30 (by rfl) w2.heap.size 71 i0 (.agg #[.int .i64 0, .int .i64 0, .int .i64 0]) 3 24 Try.underlying30 hi0 hz0' hz1' hz2' rfl (by decide) (.slice ba L.length bc) L.length (BkE.itemsV L) (by rfl) (hown'.out.alloc _) ⟨wr.heap.size, 0, none⟩ 1 1 [.int .i64 (x.toNat : Int), .int .i64 (y.toNat : Int), .int .i64 (z.toNat : Int)] (by rfl) (by rfl) (World.news_of_block (cs := #[.int .i64 (x.toNat : Int), .int .i64 (y.toNat : Int), .int .i64 (z.toNat : Int)]) (t := 71) (fr := (0, 0)) (heap_alloc_new wr.drew _)) (by simp [Value.oneCell']) (by decide) (by unfold maxLen; omega) (by omega) (by have := hle.out; simp; omega) (wr.heap.size + 1) (by simp) ?_; intro g5 cap5 w5 hown5 hgrow5 hat5 hlt5; have hB5 := Hid.intro ((hB1.out.drew.alloc hle.out (.cells #[.int .i64 (x.toNat : Int), .int .i64 (y.toNat : Int), .int .i64 (z.toNat : Int)] 71)).grown hgrow5 (by have := hle.out; simp; omega) (fun j hj => (hown'.out.lt j hj).1))
      refine hK.out _ _ (hB5.out) (fun hHeld => ?_); clear hK K
      refine wpAnyH_take (i := 13) (v := .slice (some ⟨g5, 0, none⟩) (L.length + 1) cap5) rfl (by kernel_rfl) (by kernel_rfl) (by kernel_rfl) (fun _ _ _ h => h) (Or.inl ⟨by rfl, fun w' hSw => by clear hSw; go_simp⟩) hHeld ?_
      change wpAnyH _ _ _ _ _ _ _ (Act.put _ (some 3) _) _
      simp only [Act.put, List.setIfInBounds_toArray]
      refine wpAnyH_done (by kernel_rfl) ?_ _
      have hown5' := Hid.intro hown5
      have hB5' := Hid.intro hB5.out
      have hsz : strLen (.string (str r)) < strLen (.string (str T)) := by
        simp only [strLen, str_size]; omega
      have hsz' := Hid.intro hsz
      clear hown5 hgrow5 hat5 hlt5 hsz
      go_wp2
      go_roundw
      case rel => exact ⟨i + 1, _, r, by omega, hr'.out, hnx.out, rfl, by rw [List.length_append, BkE.itemsV_append]; exact hown5'.out, hB5'.out⟩
      case measure => exact hsz'.out
    · have hTn : T = [] := List.length_eq_zero_iff.1 (by omega)
      have him : i = m := by omega
      subst hTn
      have hLD : L = D := by
        rw [hL, ← hD.out, List.take_of_length_le (by omega)]
      subst hLD
      have hrow := Hid.intro (BkE.own_row hown)
      have hHi := Hid.intro (show Hi L from fun x hx => by rw [← hD.out] at hx; have := dec_by S x hx; unfold By at this; omega)
      have hV := Hid.intro (valid_all hrow.out hHi.out (by omega))
      have hLb : L.length ≤ 255 := by omega
      have hLl' := Hid.intro hLl
      clear hL hown hB hLl hTl hT
      by_cases hTi : Ti L
      · rw [decide_eq_true hTi] at hV
        go_wp2_with fail
        refine hV.out.mono ?_; rintro e w3 ⟨rfl, hb3⟩
        have hb3' := Hid.intro hb3
        clear hb3
        go_wp2
        go_ret
        have hB3 := hB1.out.trans (hb3'.out.mono hle.out)
        exact ⟨_, rfl, BkE.own_mono (BkE.own_below hown'.out hb3'.out) hw2, hx'.out.1.below hB3, hx'.out.2.1.trans (BkE.Stay.of hB3), hx'.out.2.2.trans (hB3.mono (by omega))⟩
      · rw [decide_eq_false hTi] at hV
        have hF := Hid.intro (fun w' (hb : Below w2.heap.size w2 w') => fail_any (hx'.out.1.below hb) hp)
        go_wp2_with fail
        refine hV.out.mono ?_; rintro e w3 ⟨rfl, hb3⟩
        have hB3 := Hid.intro (hB1.out.trans (hb3.mono hle.out))
        clear hb3
        go_wp2_with fail
        refine (hF.out _ hB3.out).mono ?_; rintro e w4 ⟨rfl, a, b, c⟩
        go_wp2
        go_ret
        exact ⟨_, rfl, World.ownsRow_nil _ _ _ _, a, hx'.out.2.1.trans ((BkE.Stay.of hB3.out).trans b), hx'.out.2.2.trans ((hB3.out.mono (by omega)).trans c)⟩
set_option maxRecDepth 100000 in
theorem iexts_nil (w : World) : Calls Try.prog 25 #[.pointer none] w fun e w' => e = .returned (.slice none 0 0) ∧ Below w.heap.size w w' := by
  have hV := Hid.intro (valid_all (w := w) (v := .slice none 0 0) (l := []) (.inl ⟨⟨_, _, rfl⟩, rfl⟩) (fun x hx => by cases hx) (by simp))
  rw [show decide (Ti []) = true from rfl] at hV
  go_enter Try.func25, Try.ntmps25
  go_wp2_with fail
  refine (inum_nil 1 _ (by decide)).mono ?_; rintro e w1 ⟨rfl, rfl⟩
  go_wp2_with fail
  refine (take_nil 0 _).mono ?_; rintro e w1 ⟨rfl, rfl⟩
  go_wp2_with fail
  go_loopw [3, 4] (fun lv bv wr => lv = .slice none 0 0 ∧ bv = .string ByteArray.empty ∧ wr = w1) (fun _ _ _ => 0)
  case atStart => exact ⟨rfl, rfl, rfl⟩
  case round =>
    obtain ⟨rfl, rfl, rfl⟩ := hrel
    go_wp2_with fail
    refine hV.out.mono ?_; rintro e w2 ⟨rfl, hb⟩
    go_wp2
    go_ret
    exact ⟨rfl, hb⟩
end Go.Proofs.Ytnboajhcjgcpfaa
