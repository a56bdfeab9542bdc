/-
  The walks of LeafParts and of LeafBack.
-/
import Derived.Test.YtgigpohfkppplaaLAlive
namespace Go.Proofs.Ytgigpohfkppplaa
open Go.ChangeShapes Go.WideShapes Go.ChangeAt Go.RowKit
attribute [local go_sem] str_size str_extract str_append str_toList

theorem own_strs {w : World} {base n : Nat} {v : Value} {L : List (List UInt8)} (h : w.ownsRow base 9 1 v n (L.map sV)) :
    ∃ a c, v = .slice a n c ∧ ∀ i T, L[i]? = some T → ∃ g, a = some ⟨g, 0, none⟩ ∧ g < w.heap.size ∧ w.cell? ⟨g, i, none⟩ = some (.string (str T)) := by
  have hl : L.length = n := by have := h.1; simpa using this
  rcases h.2 with ⟨rfl, rfl⟩ | ⟨g, cap, cur, rfl, _, hg, _⟩
  · exact ⟨_, _, rfl, fun i T hT => absurd (List.getElem?_eq_some_iff.1 hT).1 (by omega)⟩
  · refine ⟨_, _, rfl, fun i T hT => ⟨g, rfl, lt_of_block hg, ?_⟩⟩
    have hi := (List.getElem?_eq_some_iff.1 hT).1
    rw [h.cellAt i (by omega), List.getElem?_map, hT]; rfl
/-- So many bytes the first parts have. -/
def fl (S : List UInt8) (i : Nat) : Nat := (S.take (27 * i)).length
theorem fl_zero (S : List UInt8) : fl S 0 = 0 := by simp [fl]
theorem fl_next (S : List UInt8) (i : Nat) : fl S (i + 1) = fl S i + (chk S i).length := by
  rw [fl, ← chk_next, List.length_append]; rfl
theorem fl_all (S : List UInt8) : fl S (need S.length) = S.length := by rw [fl, chk_all (Nat.le_refl _)]
theorem fl_le (S : List UInt8) (i : Nat) : fl S i ≤ S.length := by rw [fl, List.length_take]; omega

set_option maxRecDepth 100000 in
theorem lparts_long (S : List UInt8) (w : World) (h : 600 < S.length) :
    Calls Try.prog 8 #[.string (str S)] w fun e w' => e = .returned (.bool true) ∧ Below w.heap.size w w' := by
  have hA := Hid.intro alive_any
  have h1 : (600 : Int) < (S.length : Int) := by omega
  have h2 : decide ((600 : Int) < (S.length : Int)) = true := decide_eq_true h1
  go_enter Try.func8, Try.ntmps8
  go_wp2_with fail
  refine (hA.out _).mono ?_; rintro e w1 ⟨rfl, hb1⟩
  have hb1' := Hid.intro hb1
  clear hb1
  go_wp2
  go_ret
  exact ⟨rfl, hb1'.out⟩
set_option maxRecDepth 100000 in
set_option maxHeartbeats 4000000 in
theorem lparts_short (S : List UInt8) (w : World) (h : S.length ≤ 600) :
    Calls Try.prog 8 #[.string (str S)] w fun e w' => e = .returned (.bool true) ∧ Below w.heap.size w w' := by
  have hA := Hid.intro alive_any
  have s0 : (0 : Int) ≤ (S.length : Int) := Int.natCast_nonneg _
  have s1 : (S.length : Int) ≤ 600 := by omega
  have h2 : decide ((600 : Int) < (S.length : Int)) = false := decide_eq_false (by omega)
  have hp := Hid.intro (fun w => parts_any S w (by omega))
  have hn1 := Hid.intro (fun w => need_any S.length w (by omega) (by omega))
  have hn2 := Hid.intro (fun w => need_any 0 w (by omega) (by omega))
  have hn3 := Hid.intro (fun w => need_any (-5) w (by omega) (by omega))
  have hn4 := Hid.intro (fun w => need_any (S.length + 27) w (by omega) (by omega))
  rw [ned_nat] at hn1
  rw [show ned 0 = 0 by decide] at hn2
  rw [show ned (-5) = 0 by decide] at hn3
  rw [show ned ((S.length : Int) + 27) = (need S.length : Int) + 1 by rw [show (S.length : Int) + 27 = ((S.length + 27 : Nat) : Int) by omega, ned_nat]; unfold need; omega] at hn4
  have hfa := Hid.intro (fl_all S)
  have hnl : need S.length ≤ 23 := by unfold need; omega
  have hlen := prt_length S
  have hnn : Hid (∀ i, i < need S.length → (prt S)[i]? = some (chk S i) ∧ 1 ≤ (chk S i).length ∧ (chk S i).length ≤ 27 ∧ (i + 1 < need S.length → (chk S i).length = 27)) :=
    Hid.intro fun i hi => ⟨prt_get hi, (chk_pos hi).1, (chk_pos hi).2, fun h => chk_full h⟩
  generalize need S.length = nn at *
  have n0 : (0 : Int) ≤ (nn : Int) := Int.natCast_nonneg _
  go_enter Try.func8, Try.ntmps8
  go_wp2_with fail
  refine (hA.out _).mono ?_; rintro e w1 ⟨rfl, hb1⟩
  have hb1' := Hid.intro hb1
  clear hb1 hA
  go_wp2_with fail
  refine (hp.out _).mono ?_; rintro e w2 ⟨v, rfl, hv, hb2⟩
  obtain ⟨a, c, rfl, hrd⟩ := own_strs hv
  have hrd' := Hid.intro hrd
  have hb2' := Hid.intro (hb1'.out.trans (hb2.mono hb1'.out.size))
  clear hb2 hv hrd hp
  go_wp2_with fail
  go_loopw [4, 5] (fun nv iv wr => ∃ i : Nat, i ≤ nn ∧ nv = .int .i64 (fl S i : Int) ∧ iv = .int .i64 i ∧ w2 = wr) (fun _ iv _ => nn - (intOf iv).toNat)
  case atStart => exact ⟨0, Nat.zero_le _, by rw [fl_zero]; rfl, rfl, rfl⟩
  case round =>
    obtain ⟨i, hi, rfl, rfl, rfl⟩ := hrel
    have i0 : (0 : Int) ≤ (i : Int) := Int.natCast_nonneg _
    have hfn := Hid.intro (fl_next S i)
    have hfl := fl_le S i
    by_cases hlt : i < nn
    · have i1 : (i : Int) < (nn : Int) := by omega
      obtain ⟨hg, c1, c2, c3⟩ := hnn.out i hlt
      obtain ⟨g, rfl, hgl, ld⟩ := hrd'.out i _ hg
      have hfl2 : fl S i + (chk S i).length ≤ S.length := by rw [← hfn.out]; exact fl_le S (i + 1)
      clear hg
      generalize chk S i = C at *
      generalize fl S i = F at *
      have f0 : (0 : Int) ≤ (F : Int) := Int.natCast_nonneg _
      have c0 : (0 : Int) ≤ (C.length : Int) := Int.natCast_nonneg _
      have c00 : ¬ (C.length : Int) = 0 := by omega
      by_cases hl2 : i + 1 < nn
      · have i2 : decide ((i : Int) + 1 < (nn : Int)) = true := decide_eq_true (by omega)
        have hc27 : (C.length : Int) = 27 := by have := c3 hl2; omega
        have hc27' : C.length = 27 := c3 hl2
        clear c3
        go_wp2
        go_roundw
        case rel => exact ⟨i + 1, by omega, by rw [hfn.out, hc27']; go_num, by go_num, trivial⟩
        case measure => simp [intOf]; omega
      · have i2 : decide ((i : Int) + 1 < (nn : Int)) = false := decide_eq_false (by omega)
        clear c3
        go_wp2
        go_roundw
        case rel => exact ⟨i + 1, by omega, by rw [hfn.out]; go_num, by go_num, trivial⟩
        case measure => simp [intOf]; omega
    · obtain rfl : i = nn := by omega
      have hfa' := hfa.out
      rw [hfa']
      clear hfn hfl hfa' hnn
      go_wp2_with fail
      refine (hn1.out _).mono ?_; rintro e w3 ⟨rfl, hw3⟩
      obtain rfl : w2 = w3 := hw3.symm
      clear hw3
      go_wp2_with fail
      refine (hn2.out _).mono ?_; rintro e w3 ⟨rfl, hw3⟩
      obtain rfl : w2 = w3 := hw3.symm
      clear hw3
      go_wp2_with fail
      refine (hn3.out _).mono ?_; rintro e w3 ⟨rfl, hw3⟩
      obtain rfl : w2 = w3 := hw3.symm
      clear hw3
      go_wp2_with fail
      refine (hn4.out _).mono ?_; rintro e w3 ⟨rfl, hw3⟩
      obtain rfl : w2 = w3 := hw3.symm
      clear hw3
      go_wp2
      go_ret
      exact ⟨rfl, hb2'.out⟩
theorem lparts_any (S : List UInt8) (w : World) : Calls Try.prog 8 #[.string (str S)] w fun e w' => e = .returned (.bool true) ∧ Below w.heap.size w w' := by
  by_cases h : S.length ≤ 600
  · exact lparts_short S w h
  · exact lparts_long S w (by omega)

set_option maxRecDepth 100000 in
theorem lback_long (S : List UInt8) (w : World) (h : 600 < S.length) :
    Calls Try.prog 6 #[.string (str S)] w fun e w' => e = .returned (.bool true) ∧ Below w.heap.size w w' := by
  have hA := Hid.intro alive_any
  have h1 : (600 : Int) < (S.length : Int) := by omega
  have h2 : decide ((600 : Int) < (S.length : Int)) = true := decide_eq_true h1
  go_enter Try.func6, Try.ntmps6
  go_wp2_with fail
  refine (hA.out _).mono ?_; rintro e w1 ⟨rfl, hb1⟩
  have hb1' := Hid.intro hb1
  clear hb1
  go_wp2
  go_ret
  exact ⟨rfl, hb1'.out⟩
set_option maxRecDepth 100000 in
set_option maxHeartbeats 4000000 in
theorem lback_short (S : List UInt8) (w : World) (h : S.length ≤ 600) :
    Calls Try.prog 6 #[.string (str S)] w fun e w' => e = .returned (.bool true) ∧ Below w.heap.size w w' := by
  have hA := Hid.intro alive_any
  have s0 : (0 : Int) ≤ (S.length : Int) := Int.natCast_nonneg _
  have s1 : (S.length : Int) ≤ 600 := by omega
  have h2 : decide ((600 : Int) < (S.length : Int)) = false := decide_eq_false (by omega)
  have hp := Hid.intro (fun w => parts_any S w (by omega))
  have hnl : need S.length ≤ 23 := by unfold need; omega
  have hall : Hid (S.take (27 * need S.length) = S) := Hid.intro (chk_all (Nat.le_refl _))
  have hnn : Hid (∀ i, i < need S.length → (prt S)[i]? = some (chk S i) ∧ (chk S i).length ≤ 27) :=
    Hid.intro fun i hi => ⟨prt_get hi, (chk_pos hi).2⟩
  generalize need S.length = nn at *
  have n0 : (0 : Int) ≤ (nn : Int) := Int.natCast_nonneg _
  go_enter Try.func6, Try.ntmps6
  go_wp2_with fail
  refine (hA.out _).mono ?_; rintro e w1 ⟨rfl, hb1⟩
  have hb1' := Hid.intro hb1
  clear hb1 hA
  go_wp2_with fail
  refine (hp.out _).mono ?_; rintro e w2 ⟨v, rfl, hv, hb2⟩
  obtain ⟨a, c, rfl, hrd⟩ := own_strs hv
  have hrd' := Hid.intro hrd
  have hb2' := Hid.intro (hb1'.out.trans (hb2.mono hb1'.out.size))
  clear hb2 hv hrd hp
  go_wp2_with fail
  go_loopw [3, 21] (fun tv iv wr => ∃ i : Nat, i ≤ nn ∧ tv = .string (str (S.take (27 * i))) ∧ iv = .int .i64 i ∧ Below w2.heap.size w2 wr) (fun _ iv _ => nn - (intOf iv).toNat)
  case atStart => exact ⟨0, Nat.zero_le _, rfl, rfl, Below.refl _ _⟩
  case round =>
    obtain ⟨i, hi, rfl, rfl, hB⟩ := hrel
    have i0 : (0 : Int) ≤ (i : Int) := Int.natCast_nonneg _
    have hB' := Hid.intro hB
    have hbw := Hid.intro (hb2'.out.trans (hB.mono hb2'.out.size))
    by_cases hlt : i < nn
    · have i1 : (i : Int) < (nn : Int) := by omega
      obtain ⟨hg, c2⟩ := hnn.out i hlt
      obtain ⟨g, rfl, hgl, ld0⟩ := hrd'.out i _ hg
      have ld : wr.cell? ⟨g, i, none⟩ = some (.string (str (chk S i))) := by rw [hB.cell (p := ⟨g, i, none⟩) hgl]; exact ld0
      have hnx := Hid.intro (chk_next S i)
      have hL := Hid.intro (fun w => lay_some (chk S i) w c2)
      have hR := Hid.intro (fun w => read_any (layL (chk S i)) w)
      rw [(rd_lay c2).1, (rd_lay c2).2] at hR
      have hl32 := layL_length c2
      have htl : (S.take (27 * i)).length ≤ 600 := by rw [List.length_take]; omega
      clear hB hg ld0
      generalize layL (chk S i) = L at *
      generalize chk S i = C at *
      generalize S.take (27 * i) = T at *
      go_wp2_with fail
      refine (hL.out _).mono ?_; rintro e w3 ⟨rfl, hb3⟩
      have hb3' := Hid.intro (hB'.out.trans (hb3.mono hB'.out.size))
      clear hb3 ld
      go_wp2_with fail
      refine (hR.out _).mono ?_; rintro e w4 ⟨rfl, hb4⟩
      have hb4' := Hid.intro (hb3'.out.trans (hb4.mono hb3'.out.size))
      clear hb4
      go_wp2
      go_roundw
      case rel => exact ⟨i + 1, by omega, by rw [← hnx.out], by go_num, hb4'.out⟩
      case measure => simp [intOf]; omega
    · obtain rfl : i = nn := by omega
      have hall' := hall.out
      have heq := eq_yes (rfl : S = S)
      rw [hall']
      clear hnn hB
      go_wp2
      go_ret
      exact ⟨rfl, hbw.out⟩
theorem lback_any (S : List UInt8) (w : World) : Calls Try.prog 6 #[.string (str S)] w fun e w' => e = .returned (.bool true) ∧ Below w.heap.size w w' := by
  by_cases h : S.length ≤ 600
  · exact lback_short S w h
  · exact lback_long S w (by omega)
end Go.Proofs.Ytgigpohfkppplaa
