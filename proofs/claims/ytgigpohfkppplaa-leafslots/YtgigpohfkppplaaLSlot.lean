/-
  The contract of Slot.
-/
import Derived.Test.YtgigpohfkppplaaLNof
namespace Go.Proofs.Ytgigpohfkppplaa
open Go.ChangeShapes Go.WideShapes Go.ChangeAt Go.RowKit
attribute [local go_sem] str_size str_extract str_append str_toList

theorem byt_up (g k : Nat) : byt (g / 256) k = byt g (k + 1) := by
  unfold byt
  rw [Nat.div_div_eq_div_mul, show (256 : Nat) * 2 ^ (k * 8) = 2 ^ ((k + 1) * 8) by rw [show (256 : Nat) = 2 ^ 8 from rfl, ← Nat.pow_add, show 8 + k * 8 = (k + 1) * 8 by omega]]
theorem num_snoc : ∀ (k g : Nat), num g (k + 1) = num g k ++ [UInt8.ofNat (byt g k)]
  | 0, g => by rw [num, num, num]; unfold byt; simp
  | k + 1, g => by rw [num, num_snoc k (g / 256), num, byt_up]; rfl
/-- The first bytes of a slot: its gen's, so many. -/
def gA (g k : Nat) : List UInt8 := 165 :: (num g k ++ zer (27 - k))
theorem gA_length {g k : Nat} (h : k ≤ 27) : (gA g k).length = 28 := by
  rw [gA, List.length_cons, List.length_append, num_length, zer_length]; omega
theorem gA_zero (g : Nat) : gA g 0 = 165 :: zer 27 := rfl
theorem set_zer (A : List UInt8) (n k : Nat) (c : UInt8) (hA : A.length = n) (hk : 0 < k) : (A ++ zer k).set n c = A ++ c :: zer (k - 1) := by
  rw [List.set_append_right _ _ (by omega), hA, Nat.sub_self, zer, show k = (k - 1) + 1 by omega, List.replicate_succ, List.set_cons_zero]; rfl
theorem gA_step {g k : Nat} (h : k < 4) : (gA g k).set (k + 1) (UInt8.ofNat (byt g k)) = gA g (k + 1) := by
  rw [gA, List.set_cons_succ, set_zer _ k _ _ (num_length k g) (by omega), gA, num_snoc, List.append_assoc, show 27 - k - 1 = 27 - (k + 1) by omega]; rfl
/-- .. and its pages', so many. -/
def gP (g : Nat) (ps : List Int) (i : Nat) : List UInt8 := 165 :: (num g 4 ++ UInt8.ofNat ps.length :: nb (ps.take i)) ++ zer (22 - i)
theorem gP_zero (g : Nat) (ps : List Int) : (gA g 4).set 5 (UInt8.ofNat ps.length) = gP g ps 0 := by
  rw [gA, List.set_cons_succ, set_zer _ 4 _ _ (num_length 4 g) (by omega), gP, List.take_zero]
  simp [nb]
theorem gP_step {g : Nat} {ps : List Int} {i : Nat} {x : Int} (h : ps[i]? = some x) (hi : i < 22) : (gP g ps i).set (6 + i) (UInt8.ofNat x.toNat) = gP g ps (i + 1) := by
  have hil := (List.getElem?_eq_some_iff.1 h).1
  have e : nb (ps.take (i + 1)) = nb (ps.take i) ++ [UInt8.ofNat x.toNat] := by
    rw [nb, nb, List.take_add_one, h, Option.toList_some, List.map_append]; rfl
  rw [gP, set_zer _ (6 + i) _ _ (by simp [num_length, nb]; omega) (by omega), gP, e, show 22 - i - 1 = 22 - (i + 1) by omega]
  simp
theorem gP_all {g : Nat} {ps : List Int} (h : ps.length ≤ 11) : gP g ps ps.length = pad (slB g ps) := by
  rw [gP, List.take_length, pad, slB_length, slB, show 28 - (6 + ps.length) = 22 - ps.length by omega]
theorem gP_length {g : Nat} {ps : List Int} {i : Nat} (h : i ≤ ps.length) (h2 : i ≤ 22) : (gP g ps i).length = 28 := by
  simp [gP, num_length, nb, zer]; omega

/-- The array as it begins, with its mark. -/
def a165 : Array Value := #[.int .u8 165, .int .u8 0, .int .u8 0, .int .u8 0, .int .u8 0, .int .u8 0, .int .u8 0, .int .u8 0, .int .u8 0, .int .u8 0, .int .u8 0, .int .u8 0, .int .u8 0, .int .u8 0, .int .u8 0, .int .u8 0, .int .u8 0, .int .u8 0, .int .u8 0, .int .u8 0, .int .u8 0, .int .u8 0, .int .u8 0, .int .u8 0, .int .u8 0, .int .u8 0, .int .u8 0, .int .u8 0]
theorem a165_eq : a165 = ((165 :: zer 27).map bV).toArray := rfl
theorem slot_new (w : World) (g : Nat) : BB (w.alloc (.cells a165 58)) w.heap.size (gA g 0) ∧ Below w.heap.size w (w.alloc (.cells a165 58)) ∧ (w.alloc (.cells a165 58)).heap.size = w.heap.size + 1 := by
  rw [a165_eq]
  exact ⟨bb_alloc w _ 58, (Below.refl _ _).alloc (Nat.le_refl _) _, by simp⟩
theorem BB.set {w : World} {g i : Nat} {S : List UInt8} (h : BB w g S) (c : UInt8) : BB (w.setCell ⟨g, i, none⟩ (bV c)) g (S.set i c) := by
  refine ⟨by simpa using h.lt, fun j x hj => ?_, fun j hj => by simp [go_sem]; exact h.fro j (by simpa using hj)⟩
  by_cases e : j = i
  · subst e
    obtain ⟨h1, h2⟩ := List.getElem?_eq_some_iff.1 hj
    have h1' : j < S.length := by simpa using h1
    rw [List.getElem_set_self] at h2
    subst h2
    have := h.bytes j _ (List.getElem?_eq_getElem h1')
    simp [go_sem, this]
  · rw [List.getElem?_set_ne (fun h => e h.symm)] at hj
    exact (World.cell?_setCell_other w ⟨g, i, none⟩ ⟨g, j, none⟩ _ (by intro h; cases h; exact e rfl)).trans (h.bytes j x hj)
theorem bb_cell {w : World} {g i : Nat} {S : List UInt8} (h : BB w g S) (hi : i < S.length) : (∃ x, w.cell? ⟨g, i, none⟩ = some (bV x)) ∧ w.frozen? ⟨g, i, none⟩ = false :=
  ⟨⟨_, h.bytes i _ (List.getElem?_eq_getElem hi)⟩, h.fro i hi⟩
theorem bb_put {w : World} {g i : Nat} {S T : List UInt8} (h : BB w g S) (c : UInt8) {v : Int} (hv : (c.toNat : Int) = v) (e : S.set i c = T) : BB (w.setCell ⟨g, i, none⟩ (.int .u8 v)) g T := by
  subst hv e; exact h.set c

set_option maxRecDepth 100000 in
set_option maxHeartbeats 4000000 in
theorem slot_yes (g : Nat) (ps : List Int) (a : Option Addr) (cp : Nat) (w : World) (hg : 1 ≤ g ∧ g ≤ 1000000000) (hn : Nm ps)
    (hnm : Hid (∀ w', Below w.heap.size w w' → Calls Try.prog 30 #[.slice a ps.length cp] w' fun e w'' => e = .returned (.bool true) ∧ w' = w''))
    (hA : Hid (0 < ps.length → ∃ b o, a = some ⟨b, o, none⟩ ∧ b < w.heap.size ∧ BkI.Cells w b o ps)) :
    Calls Try.prog 18 #[.int .i64 (g : Int), .slice a ps.length cp] w fun e w' => e = .returned (.tuple #[.string (str (slL g ps)), .int .i64 0]) ∧ Below w.heap.size w w' := by
  have h3 := Hid.intro (fun w => seal_any (pad (slB g ps)) w (by rw [pad_length (by rw [slB_length]; have := hn.1; omega)]; omega))
  have hr : Hid (slL g ps = sld (pad (slB g ps))) := Hid.intro rfl
  rw [hr.out]
  have hal := Hid.intro (gP_all (g := g) hn.1)
  obtain ⟨hbb, hbl, hsz⟩ := slot_new w g
  have hbb' := Hid.intro hbb
  have hbl' := Hid.intro hbl
  have hsz' := Hid.intro hsz
  have s0 : w.heap.size < (w.alloc (.cells a165 58)).heap.size := by omega
  clear hbb hbl hsz hr
  have hn1 := hn.1
  have hN2 := Hid.intro hn.2
  clear hn
  have hw1 : w.alloc (.cells #[.int .u8 165, .int .u8 0, .int .u8 0, .int .u8 0, .int .u8 0, .int .u8 0, .int .u8 0, .int .u8 0, .int .u8 0, .int .u8 0, .int .u8 0, .int .u8 0, .int .u8 0, .int .u8 0, .int .u8 0, .int .u8 0, .int .u8 0, .int .u8 0, .int .u8 0, .int .u8 0, .int .u8 0, .int .u8 0, .int .u8 0, .int .u8 0, .int .u8 0, .int .u8 0, .int .u8 0, .int .u8 0] 58) = w.alloc (.cells a165 58) := rfl
  generalize w.alloc (.cells a165 58) = w1 at *
  have g1 : (1 : Int) ≤ (g : Int) := by omega
  have g2 : (g : Int) ≤ 1000000000 := by omega
  have n0 : (0 : Int) ≤ (ps.length : Int) := Int.natCast_nonneg _
  have n1 : (ps.length : Int) ≤ 11 := by omega
  have c1 : decide ((g : Int) < 1) = false := decide_eq_false (by omega)
  have c2 : decide (1000000000 < (g : Int)) = false := decide_eq_false (by omega)
  clear hg
  go_enter Try.func18, Try.ntmps18
  go_wp2_with fail
  refine (hnm.out _ (Below.refl _ _)).mono ?_; rintro e w9 ⟨rfl, rfl⟩
  go_wp2_with fail
  go_loopw [7] (fun iv wr => ∃ k : Nat, k ≤ 4 ∧ iv = .int .i64 ((k : Int) + 1) ∧ BB wr w.heap.size (gA g k) ∧ Below w.heap.size w wr) (fun iv _ => (5 - intOf iv).toNat)
  case atStart => exact ⟨0, Nat.zero_le _, rfl, hbb'.out, hbl'.out⟩
  case round =>
    obtain ⟨k, hk, rfl, hB, hL⟩ := hrel
    have k0 : (0 : Int) ≤ (k : Int) := Int.natCast_nonneg _
    have hB' := Hid.intro hB
    have hL' := Hid.intro hL
    by_cases hlt : k < 4
    · have k1 : (k : Int) < 4 := by omega
      obtain ⟨⟨x, b1⟩, b2⟩ := bb_cell (i := k + 1) hB (by rw [gA_length (by omega)]; omega)
      unfold bV at b1
      have hv := byt_at g k
      have hst := Hid.intro (bb_put (v := (byt g k : Int)) hB (UInt8.ofNat (byt g k)) (by rw [ofNat_byt]) (gA_step (g := g) hlt))
      clear hB hL
      generalize x.toNat = xx at *
      generalize byt g k = yy at *
      generalize hGe : w.heap.size = G at *
      go_wp2
      go_roundw
      case rel => exact ⟨k + 1, by omega, by go_num, hst.out, hL'.out.setCell (Nat.le_refl _) _⟩
      case measure => simp [intOf]; omega
    · obtain rfl : k = 4 := by omega
      obtain ⟨⟨x, b1⟩, b2⟩ := bb_cell (i := 5) hB (by rw [gA_length (by omega)]; omega)
      unfold bV at b1
      have hst := Hid.intro (bb_put (v := (ps.length : Int)) hB (UInt8.ofNat ps.length) (by rw [u8_small (by omega)]) (gP_zero g ps))
      have hL5 : Hid (Below w.heap.size w (wr.setCell ⟨w.heap.size, 5, none⟩ (.int .u8 (ps.length : Int)))) := Hid.intro (hL.setCell (Nat.le_refl _) _)
      clear hB hL hB' hL' hbb' hbl' hsz' hw1 s0
      generalize x.toNat = xx at *
      have hGe := Hid.intro (Nat.le_refl w.heap.size)
      go_wp2_with fail
      generalize wr.setCell ⟨w.heap.size, 5, none⟩ (.int .u8 (ps.length : Int)) = w5 at *
      clear b1 b2
      go_loopw [40] (fun iv wk => ∃ i : Nat, i ≤ ps.length ∧ iv = .int .i64 i ∧ BB wk w.heap.size (gP g ps i) ∧ Below w.heap.size w wk) (fun iv _ => ps.length - (intOf iv).toNat)
      case atStart => exact ⟨0, Nat.zero_le _, rfl, hst.out, hL5.out⟩
      case round =>
        obtain ⟨i, hi, rfl, hB, hL⟩ := hrel
        have i0 : (0 : Int) ≤ (i : Int) := Int.natCast_nonneg _
        have hL' := Hid.intro hL
        by_cases hlt : i < ps.length
        · have i1 : (i : Int) < (ps.length : Int) := by omega
          obtain ⟨b, o, rfl, hb, hcl⟩ := hA.out (by omega)
          obtain ⟨pa, hp⟩ : ∃ p, ps[i]? = some p := ⟨ps[i]'hlt, by simp [hlt]⟩
          have ld := (hcl.below hL hb) i pa hp
          obtain ⟨p1, p2⟩ := hN2.out pa (List.mem_of_getElem? hp)
          obtain ⟨⟨x, b1⟩, b2⟩ := bb_cell (i := 6 + i) hB (by rw [gP_length hi (by omega)]; omega)
          unfold bV at b1
          have hs2 := Hid.intro (bb_put (v := pa) hB (UInt8.ofNat pa.toNat) (by rw [u8_small (by omega)]; omega) (gP_step (g := g) hp (by omega)))
          clear hB hL hp hcl hst hL5
          generalize x.toNat = xx at *
          generalize w.heap.size = G at *
          go_wp2
          go_roundw
          case rel => exact ⟨i + 1, by omega, by go_num, hs2.out, hL'.out.setCell (Nat.le_refl _) _⟩
          case measure => simp [intOf]; omega
        · obtain rfl : i = ps.length := by omega
          rw [hal.out] at hB
          have hcv := hB.str (n := 28) (cap := 28) (T := pad (slB g ps)) (List.take_of_length_le (by rw [pad_length (by rw [slB_length]; omega)]; omega)) (by rw [pad_length (by rw [slB_length]; omega)]; omega)
          clear hB hL hst hL5 hal
          generalize hZe : sld (pad (slB g ps)) = Z at *
          have hZ' := Hid.intro hZe
          clear hZe
          go_wp2_with fail
          refine (h3.out _).mono ?_; rintro e w6 ⟨rfl, hb6⟩
          have hb6' := Hid.intro (hL'.out.trans (hb6.mono hL'.out.size))
          clear hb6
          go_wp2
          go_ret2
          exact ⟨by rw [hZ'.out]; rfl, hb6'.out⟩
end Go.Proofs.Ytgigpohfkppplaa
