/-
  The contract of emulsionlaw5's alive.
-/
import Derived.Test.YtnkfgefbiacagaaStillD
namespace Go.Proofs.Ytnkfgefbiacagaa
open Go.ChangeShapes Go.WideShapes Go.ChangeAt Go.RowKit
attribute [local go_sem ↓] Go.wp_at_zero Go.wp_at_succ
attribute [local go_sem] str_size str_extract str_append str_toList

theorem shown_new {S : List UInt8} {t : Nat → Bool} {K' : Nat} {O' : List (List UInt8)} {S' : List UInt8} (hR : KRel S t 0 0 K' (List.replicate 64 []) O') (hu : ∀ j, t j = false → blk S' j = blk S j) (k : Nat) (hk : k < 64) : shown K' O' S' k = blk S k := by
  unfold shown
  rw [hR.bits k hk, hR.old k hk]
  cases h : t k with
  | true => simp
  | false => simp [hu k h]
theorem blk_wr {S : List UInt8} {at_ : Int} {T : List UInt8} (j : Nat) (h : tchW S at_ T j = false) : blk (wrS S at_ T) j = blk S j := by
  unfold tchW at h
  unfold wrS
  split
  · rename_i hc
    rw [decide_eq_true hc] at h
    obtain ⟨a, rfl⟩ : ∃ a : Nat, at_ = a := ⟨at_.toNat, by omega⟩
    simp [tch, upto] at h
    rw [Int.toNat_natCast]
    unfold blk
    apply List.ext_getElem?
    intro i
    rw [List.getElem?_take, List.getElem?_take]
    split
    · rename_i hi
      rw [List.getElem?_drop, List.getElem?_drop]
      by_cases c1 : j * 8 + i < a
      · rw [List.append_assoc, List.getElem?_append_left (by simp; omega), List.getElem?_take_of_lt c1]
      · rw [List.getElem?_append_right (by simp; omega), List.getElem?_drop]
        congr 1
        simp
        by_cases h0 : T.length = 0
        · omega
        · have := h (by omega)
          by_cases c2 : a / 8 ≤ j
          · have := this c2; omega
          · omega
    · rfl
  · rfl
theorem kept_one {K : Nat} (h0 : K.testBit 0 = true) (h1 : K.testBit 1 = false) : keptL K 2 = [0] := by
  simp [keptL, List.range_succ, h0, h1]

set_option maxRecDepth 100000 in
theorem alive_any (w : World) : Calls Try.prog 5 #[] w fun e w' => e = .returned (.bool true) ∧ Below w.heap.size w w' := by
  go_enter Try.func5, Try.ntmps5
  go_wp2_with fail
  refine (new_any 2 _ (by decide) (by decide)).mono ?_; rintro e w1 ⟨rfl, hF, hb⟩
  have hz1 := hF.lt
  generalize hB0 : w.heap.size + 1 = b at *
  generalize hG : w.heap.size = g at hF hz1
  have hg : w.heap.size ≤ g := by omega
  have hbb : w.heap.size ≤ b := by omega
  clear hG hB0
  go_wp2_with fail
  refine (snew_any (B := 2) hF rfl (by decide)).mono ?_; rintro e w2 ⟨rfl, hS, hb2⟩
  have hF2 := hF.below hb2
  have hB2 : Below w.heap.size w w2 := hb.trans (hb2.mono hb.size)
  have hs : w.heap.size ≤ w1.heap.size := hb.size
  clear hF hb hb2 hz1
  generalize w1.heap.size = s at *
  go_wp2_with fail
  refine (swrite_ok (B := 2) 0 [120] hS hF2 rfl (by decide) (by decide) (by decide)).mono ?_; rintro e w3 ⟨rfl, ⟨K', O', hS3, hR⟩, hF3, hb3⟩
  have hB3 := Hid.intro (hB2.trans (hb3.low hs hg hB2.size))
  have hs0 : shown K' O' (wrS (List.replicate (2 * 8) 0) ((0 : Nat) : Int) [120]) 0 = List.replicate 8 0 := by
    have e : tchW (List.replicate (2 * 8) 0) ((0 : Nat) : Int) [120] = tch 0 1 := by funext j; unfold tchW; rw [decide_eq_true (by decide)]; simp
    rw [shown_new hR (fun j hj => blk_wr j (by rw [e]; exact hj)) 0 (by decide)]
    decide
  have hb0 : blk (wrS (List.replicate (2 * 8) 0) ((0 : Nat) : Int) [120]) 0 = [120, 0, 0, 0, 0, 0, 0, 0] := by decide
  have hl3 : (wrS (List.replicate (2 * 8) 0) ((0 : Nat) : Int) [120]).length = 2 * 8 := by rw [wrS_length]; rfl
  have hk1 : keptL K' 2 = [0] := kept_one (by rw [hR.bits 0 (by decide)]; decide) (by rw [hR.bits 1 (by decide)]; decide)
  have hbl := Hid.intro (block_in 0 hF3 hl3 (by decide) (by decide))
  have hsb := Hid.intro (sblock_any 0 hS3 hF3 hl3 (by decide) (by decide))
  have hkp := Hid.intro (kept_any hS3 hF3 hl3 (by decide))
  rw [hk1] at hkp
  rw [hs0] at hsb
  rw [hb0] at hbl
  clear hS hF2 hb3 hS3 hR hF3 hs0 hb0 hl3 hk1 hB2
  go_wp2_with fail
  refine hsb.out.mono ?_; rintro e w4 ⟨rfl, rfl⟩
  go_wp2_with fail
  refine hbl.out.mono ?_; rintro e w5 ⟨rfl, rfl⟩
  go_wp2_with fail
  refine hkp.out.mono ?_; rintro e w6 ⟨v, rfl, hown, hb6⟩
  have hB6 := Hid.intro (hB3.out.trans (hb6.mono hB3.out.size))
  obtain ⟨gv, cv, rfl, hgv, hgv2⟩ := hown.form (by decide)
  have c0 : w6.cell? ⟨gv, 0, none⟩ = some (.int .i64 0) := hown.cellAt 0 (by decide)
  clear hown hb6
  go_wp2_with fail
  refine (zeros_any 8 _ (by decide)).mono ?_; rintro e w7 ⟨rfl, hb7⟩
  have hB7 := Hid.intro (hB6.out.trans (hb7.mono hB6.out.size))
  have c1 : w7.cell? ⟨gv, 0, none⟩ = some (.int .i64 0) := by rw [hb7.cell (p := ⟨gv, 0, none⟩) hgv2]; exact c0
  have hgv7 : gv < w7.heap.size := Nat.lt_of_lt_of_le hgv2 hb7.size
  go_wp2_with fail
  refine (zeros_any 7 _ (by decide)).mono ?_; rintro e w8 ⟨rfl, hb8⟩
  have hB8 := Hid.intro (hB7.out.trans (hb8.mono hB7.out.size))
  have c2 : w8.cell? ⟨gv, 0, none⟩ = some (.int .i64 0) := by rw [hb8.cell (p := ⟨gv, 0, none⟩) hgv7]; exact c1
  have hcat : ((⟨#[120]⟩ : ByteArray) ++ str [0, 0, 0, 0, 0, 0, 0]).toList = [120, 0, 0, 0, 0, 0, 0, 0] := (congrArg ByteArray.toList (str_append [120] [0, 0, 0, 0, 0, 0, 0])).trans (str_toList _)
  clear hb7 hb8 c0 c1
  go_wp2
  go_ret
  exact ⟨rfl, hB8.out⟩
end Go.Proofs.Ytnkfgefbiacagaa
