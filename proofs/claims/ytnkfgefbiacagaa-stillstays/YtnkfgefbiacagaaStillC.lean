/-
  The contracts of span's Blocks and of still's keep.
-/
import Derived.Test.YtnkfgefbiacagaaStillB
namespace Go.Proofs.Ytnkfgefbiacagaa
open Go.ChangeShapes Go.WideShapes Go.ChangeAt Go.RowKit
attribute [local go_sem ↓] Go.wp_at_zero Go.wp_at_succ
attribute [local go_sem] str_size str_extract str_append str_toList

theorem sblocks_no (a n : Int) (w : World) (h1 : 0 ≤ a) (h2 : n < 1) :
    Calls Try.prog 27 #[.int .i64 a, .int .i64 n] w fun e w' => e = .returned (.tuple #[.agg #[.int .i64 0, .int .i64 0], .bool false]) ∧ Below w.heap.size w w' := by
  go_enter Try.func27, Try.ntmps27
  go_wp2
  exact bodyPost_ret (v := .tuple #[.agg #[.int .i64 0, .int .i64 0], .bool false]) (by simp [results, Try.results27, go_sem]) rfl ⟨rfl, (Below.refl _ _).alloc (Nat.le_refl _) _⟩
theorem sblocks_yes (a n : Int) (w : World) (h1 : 0 ≤ a) (h2 : 1 ≤ n) (h3 : n ≤ 512 - a) :
    Calls Try.prog 27 #[.int .i64 a, .int .i64 n] w fun e w' => e = .returned (.tuple #[.agg #[.int .i64 (a / 8), .int .i64 ((a + n - 1) / 8 + 1 - a / 8)], .bool true]) ∧ Below w.heap.size w w' := by
  go_enter Try.func27, Try.ntmps27
  go_wp2_with fail
  refine (between_any _ _ _ (by omega) (by omega) (by omega) (by omega)).mono ?_; rintro e w1 ⟨rfl, hb⟩; obtain ⟨hc, hfz⟩ := bcell hb
  go_wp2
  exact bodyPost_ret (v := .tuple #[.agg #[.int .i64 (a / 8), .int .i64 ((a + n - 1) / 8 + 1 - a / 8)], .bool true]) (by simp [results, Try.results27, go_sem, hc]) rfl ⟨rfl, ((((Below.refl _ _).alloc (Nat.le_refl _) _).trans (hb.mono (by simp))).setCell (by simp) _).setCell (by simp) _⟩

/-- What was kept, and what is. -/
structure KRel (S : List UInt8) (t : Nat → Bool) (G K K' : Nat) (O O' : List (List UInt8)) : Prop where
  bits : ∀ j, j < 64 → K'.testBit j = (K.testBit j || (t j && !G.testBit j))
  old : ∀ j, j < 64 → O'[j]? = if !K.testBit j && t j && !G.testBit j then some (blk S j) else O[j]?
theorem KRel.none (S : List UInt8) (G K : Nat) (O : List (List UInt8)) (t : Nat → Bool) (ht : ∀ j, t j = false) : KRel S t G K K O O := ⟨fun j _ => by simp [ht], fun j _ => by simp [ht]⟩
def upto (lo k : Nat) : Nat → Bool := fun j => decide (lo ≤ j ∧ j < k)
theorem upto_succ (lo k j : Nat) (h : lo ≤ k) : upto lo (k + 1) j = (upto lo k j || decide (k = j)) := by
  unfold upto
  rw [← Bool.decide_or]
  congr 1
  apply propext
  omega
theorem upto_self (lo k : Nat) : upto lo k k = false := by unfold upto; simp
theorem KRel.skip {S : List UInt8} {lo k G K K' : Nat} {O O' : List (List UInt8)} (h : KRel S (upto lo k) G K K' O O') (hk : k < 64) (hl : lo ≤ k) (hb : (K' ||| G).testBit k = true) : KRel S (upto lo (k + 1)) G K K' O O' := by
  rw [Nat.testBit_or, h.bits k hk, upto_self] at hb
  simp at hb
  refine ⟨fun j hj => ?_, fun j hj => ?_⟩
  · rw [h.bits j hj, upto_succ _ _ _ hl]
    by_cases e : k = j
    · subst e
      rcases hb with hb | hb <;> simp [hb]
    · simp [e]
  · rw [h.old j hj, upto_succ _ _ _ hl]
    by_cases e : k = j
    · subst e
      rcases hb with hb | hb <;> simp [hb]
    · simp [e]
theorem KRel.step {S : List UInt8} {lo k G K K' : Nat} {O O' : List (List UInt8)} (h : KRel S (upto lo k) G K K' O O') (hk : k < 64) (hl : lo ≤ k) (hlen : O'.length = 64) (hb : (K' ||| G).testBit k = false) : KRel S (upto lo (k + 1)) G K (onW K' k) O (O'.set k (blk S k)) := by
  rw [Nat.testBit_or, h.bits k hk, upto_self] at hb
  simp at hb
  obtain ⟨hb1, hb2⟩ := hb
  refine ⟨fun j hj => ?_, fun j hj => ?_⟩
  · rw [onW_bit, h.bits j hj, upto_succ _ _ _ hl]
    by_cases e : k = j
    · subst e; simp [hb1, hb2]
    · simp [e]
  · rw [List.getElem?_set, upto_succ _ _ _ hl]
    by_cases e : k = j
    · subst e; simp [hb1, hb2, hlen, hk]
    · rw [if_neg e, h.old j hj]; simp [e]

theorem sf_apart {w : World} {s f g K G : Nat} {O : List (List UInt8)} {S : List UInt8} (h : SObj w s f K G O) (hF : FObj w f g S) : f ≠ s ∧ g ≠ s := by
  obtain ⟨cap, h1, _⟩ := hF.box
  obtain ⟨cur, fz, h2⟩ := hF.ty
  constructor
  · rintro rfl; rw [h.box] at h1; cases h1
  · rintro rfl; rw [h.box] at h2; cases h2
theorem Box.but {w w' : World} {H x : Nat} {u v : Value} (h : Box w H u v) (hb : But x w w') (hx : H ≠ x) : Box w' H u v := by
  have hl := h.lt
  obtain ⟨h1, h2, h3, h4⟩ := h
  have e := hb.block H hl hx
  refine ⟨?_, ?_, ?_, ?_⟩
  · rw [World.cell?_of_block (w := w) (a := ⟨H, 0, none⟩) e]; exact h1
  · rw [World.cell?_of_block (w := w) (a := ⟨H, 1, none⟩) e]; exact h2
  · unfold World.frozen? at h3 ⊢; simp only at h3 ⊢; rw [e]; exact h3
  · unfold World.frozen? at h4 ⊢; simp only at h4 ⊢; rw [e]; exact h4

theorem below_drwN (w : World) (n : Nat) : Below w.heap.size w (w.drewN n) := ⟨rfl, rfl, rfl, Nat.le_refl _, fun _ _ => rfl⟩
set_option maxRecDepth 100000 in
theorem keep_zero {w : World} {s : Nat} (a : Nat) :
    Calls Try.prog 22 #[.pointer (some ⟨s, 0, none⟩), .int .i64 (a : Int), .int .i64 0] w fun e w' => e = .returned (.tuple #[]) ∧ Below w.heap.size w w' := by
  have a0 : (0 : Int) ≤ (a : Int) := by omega
  go_enter Try.func22, Try.ntmps22
  go_wp2_with fail
  refine (sblocks_no (a : Int) 0 _ a0 (by decide)).mono ?_; rintro e w1 ⟨rfl, hb⟩
  go_wp2_with fail
  have hb2 : Below w.heap.size w (w1.alloc (Obj.cells #[Value.int IntKind.i64 0, Value.int IntKind.i64 0] 41)) := hb.alloc hb.size _
  obtain ⟨c0, c1, _, _⟩ := Box.new w1 (.int .i64 0) (.int .i64 0) 41
  have hlt : w1.heap.size < (w1.alloc (Obj.cells #[Value.int IntKind.i64 0, Value.int IntKind.i64 0] 41)).heap.size := by simp
  generalize w1.alloc (Obj.cells #[Value.int IntKind.i64 0, Value.int IntKind.i64 0] 41) = w2 at *
  generalize w1.heap.size = tb at *
  go_loopw [8] (fun iv wr => iv = .int .i64 0 ∧ wr = w2) (fun _ _ => 0)
  case atStart => exact ⟨rfl, rfl⟩
  case round =>
    obtain ⟨rfl, rfl⟩ := hrel
    go_wp2_with fail
    refine (end_no 0 0 _ (by decide) (by decide)).mono ?_; rintro e w3 ⟨rfl, hb3⟩
    go_wp2
    go_end0
    exact ⟨rfl, hb2.trans (hb3.mono hb2.size)⟩
theorem sblocks_nat (a n lo m : Nat) (w : World) (h2 : 1 ≤ n) (h3 : a + n ≤ 512) (e1 : lo = a / 8) (e2 : lo + m = (a + n - 1) / 8 + 1) :
    Calls Try.prog 27 #[.int .i64 (a : Int), .int .i64 (n : Int)] w fun e w' => e = .returned (.tuple #[.agg #[.int .i64 (lo : Int), .int .i64 (m : Int)], .bool true]) ∧ Below w.heap.size w w' := by
  have := sblocks_yes (a : Int) (n : Int) w (by omega) (by omega) (by omega)
  rwa [show (a : Int) / 8 = (lo : Int) by omega, show ((a : Int) + (n : Int) - 1) / 8 + 1 - (lo : Int) = (m : Int) by omega] at this
theorem end_nat (lo m hi : Nat) (w : World) (h : 1 ≤ m) (h2 : lo + m = hi) (h3 : hi ≤ 64) :
    Calls Try.prog 28 #[.agg #[.int .i64 (lo : Int), .int .i64 (m : Int)]] w fun e w' => e = .returned (.int .i64 (hi : Int)) ∧ Below w.heap.size w w' := by
  subst h2
  have := end_yes (lo : Int) (m : Int) w (by omega)
  rwa [← Int.natCast_add] at this
set_option maxRecDepth 100000 in
theorem keep_loop {w : World} {s f g B K G : Nat} {O : List (List UInt8)} {S : List UInt8} (a n lo m hi : Nat) (hhi : Hid (lo + m = hi)) (hs' : Hid (SObj w s f K G O)) (hF' : Hid (FObj w f g S)) (hl' : Hid (S.length = B * 8)) (h2 : B ≤ 64) (m1 : 1 ≤ m) (m2 : hi ≤ B)
    (hsb : Hid (∀ z, Calls Try.prog 27 #[.int .i64 (a : Int), .int .i64 (n : Int)] z fun e w' => e = .returned (.tuple #[.agg #[.int .i64 (lo : Int), .int .i64 (m : Int)], .bool true]) ∧ Below z.heap.size z w')) :
    Calls Try.prog 22 #[.pointer (some ⟨s, 0, none⟩), .int .i64 (a : Int), .int .i64 (n : Int)] w fun e w' => e = .returned (.tuple #[]) ∧ (∃ K' O', SObj w' s f K' G O' ∧ KRel S (upto lo hi) G K K' O O') ∧ But s w w' := by
  go_enter Try.func22, Try.ntmps22
  go_wp2_with fail
  refine (hsb.out _).mono ?_; rintro e w1 ⟨rfl, hb⟩
  go_wp2_with fail
  have hb2 : Below w.heap.size w (w1.alloc (Obj.cells #[Value.int IntKind.i64 (lo : Int), Value.int IntKind.i64 (m : Int)] 41)) := hb.alloc hb.size _
  have hbx := Hid.intro (Box.new w1 (.int .i64 (lo : Int)) (.int .i64 (m : Int)) 41)
  have hs2 := Hid.intro (hs'.out.below hb2)
  have hF2 := Hid.intro (hF'.out.below hb2)
  have hap := Hid.intro (sf_apart hs'.out hF'.out)
  have hst : Hid (w1.heap.size ≠ s) := Hid.intro (by have := hs'.out.lt; have := hb.size; omega)
  have hB2 := Hid.intro (But.of (x := s) hb2)
  clear hb hb2
  generalize w1.alloc (Obj.cells #[Value.int IntKind.i64 (lo : Int), Value.int IntKind.i64 (m : Int)] 41) = w2 at *
  generalize w1.heap.size = tb at *
  go_loopw [8] (fun iv wr => ∃ (k K' : Nat) (O' : List (List UInt8)), lo ≤ k ∧ k ≤ hi ∧ iv = .int .i64 k ∧ SObj wr s f K' G O' ∧ FObj wr f g S ∧ Box wr tb (.int .i64 (lo : Int)) (.int .i64 (m : Int)) ∧ KRel S (upto lo k) G K K' O O' ∧ But s w wr) (fun iv _ => hi - (intOf iv).toNat)
  case atStart => exact ⟨lo, K, O, Nat.le_refl _, by have := hhi.out; omega, rfl, hs2.out, hF2.out, hbx.out, KRel.none _ _ _ _ _ (fun j => by unfold upto; simp), hB2.out⟩
  case round =>
    obtain ⟨k, K', O', hk1, hk2, rfl, hS, hF, hbx3, hR, hB⟩ := hrel
    obtain ⟨c0, c1, _, _⟩ := id hbx3
    have htl : tb < wr.heap.size := Box.lt hbx3
    have hbx3' := Hid.intro hbx3
    have hS' := Hid.intro hS
    have hF' := Hid.intro hF
    have hR' := Hid.intro hR
    have hB' := Hid.intro hB
    have k0 : (0 : Int) ≤ (k : Int) := by omega
    clear hS hF hR hB hbx3 hbx hs2 hF2 hB2
    go_wp2_with fail
    refine (end_nat lo m hi _ m1 hhi.out (by omega)).mono ?_; rintro e w3 ⟨rfl, hb3⟩
    have hS3 := Hid.intro (hS'.out.below hb3)
    have hF3 := Hid.intro (hF'.out.below hb3)
    have hbx4 := Hid.intro (hbx3'.out.below hb3 htl)
    have hB3 := Hid.intro (hB'.out.trans (But.of hb3))
    clear hS' hF' hbx3' hB' hb3 c0 c1
    by_cases hlt : k < hi
    · have i1 : (k : Int) < (hi : Int) := by omega
      have k64 : k < 64 := by omega
      obtain ⟨c0, c1, c2, c3⟩ := hS3.out.cells
      have e1 : bits .or .u64 (K' : Int) (G : Int) = ((K' ||| G : Nat) : Int) := u64_or_nat _ _ hS3.out.hK hS3.out.hG
      have hh : Hid (∀ z, Calls Try.prog 26 #[.int .u64 ((K' ||| G : Nat) : Int), .int .i64 (k : Int)] z fun e w' => e = .returned (.bool ((K' ||| G).testBit k)) ∧ w' = z) := Hid.intro (fun z => has_any _ k z (or_lt hS3.out.hK hS3.out.hG) k64)
      cases hbit : (K' ||| G).testBit k with
      | true =>
        rw [hbit] at hh
        have hR3 := Hid.intro (hR'.out.skip k64 hk1 hbit)
        clear hbit hR' c3
        generalize K' ||| G = KG at *
        go_wp2_with fail
        go_quiet (first | (go_at_call 26; exact Calls.quiet_of_same (hh.out _)))
        go_wp2
        go_roundw
        case rel => exact ⟨k + 1, K', O', by omega, by omega, by go_num, hS3.out.below (below_drwN _ _), hF3.out.below (below_drwN _ _), hbx4.out.below (below_drwN _ _) hbx4.out.lt, hR3.out, hB3.out.trans (But.of (below_drwN _ _))⟩
        case measure => simp [intOf]; omega
      | false =>
        rw [hbit] at hh
        have hR3 := Hid.intro (hR'.out.step k64 hk1 hS3.out.len hbit)
        have e0 := shl1 k k64
        have e2 : bits .or .u64 (K' : Int) ((2 ^ k : Nat) : Int) = ((onW K' k : Nat) : Int) := u64_or_nat _ _ hS3.out.hK (two_lt k k64)
        have hbl : Hid (∀ {z : World}, FObj z f g S → Calls Try.prog 14 #[.pointer (some ⟨f, 0, none⟩), .int .i64 (k : Int)] z fun e w' => e = .returned (.tuple #[.string (str (blk S k)), .int .i64 0]) ∧ w' = z) := Hid.intro (fun hz => block_in k hz hl'.out h2 (by omega))
        have k2 : (k : Int) < 64 := by omega
        have f1 := c3 1
        have f3 := c3 (3 + k)
        have co := hS3.out.old k (O'[k]'(by rw [hS3.out.len]; omega)) (by simp)
        have hend : Hid (∀ n1 w', w' = ((((w3.drewN n1).setCell ⟨s, 3 + k, none⟩ (.string (str (blk S k)))).setCell ⟨s, 1, none⟩ (.int .u64 ((onW K' k : Nat) : Int)))).drew.drew → SObj w' s f (onW K' k) G (O'.set k (blk S k)) ∧ But s w3 w') := Hid.intro (fun n1 w' hw => by
          subst hw
          refine ⟨(((((hS3.out.below (below_drwN _ n1)).setO k (blk S k)).setK (onW_lt hS3.out.hK k64)).below below_drw)).below below_drw, ?_⟩
          exact ((((((But.of (below_drwN w3 n1)).setCell (3 + k) _).setCell 1 _)).trans (But.of below_drw)).trans (But.of below_drw)))
        generalize onW K' k = K2 at *
        generalize O'[k]'(by rw [hS3.out.len]; omega) = T at *
        generalize 2 ^ k = P at *
        clear hbit hR' c3
        generalize K' ||| G = KG at *
        go_wp2_with fail
        go_quiet (first | (go_at_call 26; exact Calls.quiet_of_same (hh.out _)))
        go_wp2_with fail
        have hFq : Hid (FObj (w3.drewN nq).drew f g S) := Hid.intro ((hF3.out.below (below_drwN _ _)).below below_drw)
        go_region_with (go_at_call 14; refine (hbl.out hFq.out).mono ?_; rintro e w4 ⟨rfl, rfl⟩)
        all_goals
          go_wp2_with fail
          go_region
          all_goals
            go_wp2
            go_roundw
            case rel =>
              obtain ⟨g1, g2⟩ := hend.out nq _ rfl
              exact ⟨k + 1, _, _, by omega, by omega, by go_num, g1, hF3.out.but g2 hap.out.1 hap.out.2, hbx4.out.but g2 hst.out, hR3.out, hB3.out.trans g2⟩
            case measure => simp [intOf]; omega
    · have hkm : k = hi := by omega
      subst hkm
      have i1 : ¬ (k : Int) < (k : Int) := by omega
      go_wp2
      go_end0
      exact ⟨rfl, ⟨K', O', hS3.out, hR'.out⟩, hB3.out⟩
theorem keep_some {w : World} {s f g B K G : Nat} {O : List (List UInt8)} {S : List UInt8} (a n : Nat) (h : SObj w s f K G O) (hF : FObj w f g S) (hl : S.length = B * 8) (h2 : B ≤ 64) (hn : 0 < n) (ha : a + n ≤ S.length) :
    Calls Try.prog 22 #[.pointer (some ⟨s, 0, none⟩), .int .i64 (a : Int), .int .i64 (n : Int)] w fun e w' => e = .returned (.tuple #[]) ∧ (∃ K' O', SObj w' s f K' G O' ∧ KRel S (upto (a / 8) ((a + n - 1) / 8 + 1)) G K K' O O') ∧ But s w w' :=
  keep_loop a n (a / 8) ((a + n - 1) / 8 + 1 - a / 8) ((a + n - 1) / 8 + 1) (Hid.intro (by omega)) (Hid.intro h) (Hid.intro hF) (Hid.intro hl) h2 (by omega) (by omega) (Hid.intro fun z => sblocks_nat a n _ _ z hn (by omega) rfl (by omega))
/-- Which blocks n bytes from a on touch. -/
def tch (a n : Nat) : Nat → Bool := fun j => decide (0 < n) && upto (a / 8) ((a + n - 1) / 8 + 1) j
theorem keep_any {w : World} {s f g B K G : Nat} {O : List (List UInt8)} {S : List UInt8} (a n : Nat) (h : SObj w s f K G O) (hF : FObj w f g S) (hl : S.length = B * 8) (h2 : B ≤ 64) (ha : a + n ≤ S.length) :
    Calls Try.prog 22 #[.pointer (some ⟨s, 0, none⟩), .int .i64 (a : Int), .int .i64 (n : Int)] w fun e w' => e = .returned (.tuple #[]) ∧ (∃ K' O', SObj w' s f K' G O' ∧ KRel S (tch a n) G K K' O O') ∧ But s w w' := by
  by_cases h0 : n = 0
  · subst h0
    exact (keep_zero a).mono fun e w' ⟨he, hb⟩ => ⟨he, ⟨K, O, h.below hb, KRel.none _ _ _ _ _ (fun j => by simp [tch])⟩, But.of hb⟩
  · have e : tch a n = upto (a / 8) ((a + n - 1) / 8 + 1) := by funext j; simp [tch, show 0 < n by omega]
    rw [e]
    exact keep_some a n h hF hl h2 (by omega) ha
end Go.Proofs.Ytnkfgefbiacagaa
