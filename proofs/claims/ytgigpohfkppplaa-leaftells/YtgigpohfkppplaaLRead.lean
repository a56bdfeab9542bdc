/-
  The contracts of Read and of the document's Unleaf.
-/
import Derived.Test.YtgigpohfkppplaaLLay
namespace Go.Proofs.Ytgigpohfkppplaa
open Go.ChangeShapes Go.WideShapes Go.ChangeAt Go.RowKit
attribute [local go_sem] str_size str_extract str_append str_toList

theorem lay_any (T : List UInt8) (w : World) : Calls Try.prog 10 #[.string (str T)] w fun e w' => e = .returned (.tuple #[.string (str (if T.length ≤ 27 then layL T else [])), .int .i64 (if T.length ≤ 27 then 0 else 1)]) ∧ Below w.heap.size w w' := by
  by_cases h : T.length ≤ 27
  · rw [if_pos h, if_pos h]; exact lay_some T w h
  · rw [if_neg h, if_neg h]; exact (lay_none T w h).mono fun e w' ⟨a, b⟩ => ⟨a, by rw [b]; exact Below.refl _ _⟩
theorem eq_yes {S T : List UInt8} (h : S = T) : (S == T) = true := beq_iff_eq.2 h
theorem eq_no {S T : List UInt8} (h : ¬ S = T) : (S == T) = false := beq_false_of_ne h
theorem first_of {P : List UInt8} (h : P.length = 32) : ∃ x, P[0]? = some x ∧ hd P = x.toNat := by
  have h0 : 0 < P.length := by omega
  exact ⟨P[0], List.getElem?_eq_getElem h0, hd_of (List.getElem?_eq_getElem h0)⟩
theorem tk_take (P : List UInt8) : List.take (1 + hd P - 1) P.tail = tkL P ∧ List.take (hd P) P.tail = tkL P := by rw [Nat.add_sub_cancel_left, tkL, List.drop_one]; exact ⟨rfl, rfl⟩
set_option maxRecDepth 100000 in
set_option maxHeartbeats 1000000 in
theorem read_any (P : List UInt8) (w : World) :
    Calls Try.prog 12 #[.string (str P)] w fun e w' => e = .returned (.tuple #[.string (str (rdS P)), .int .i64 (rdE P)]) ∧ Below w.heap.size w w' := by
  by_cases hl : P.length = 32
  · obtain ⟨x, hx, hh⟩ := first_of hl
    have hat : ∀ w, (Instr.index 9 (.string (str P)) (.int .i64 0)).run Try.prog w = .ok (.int .u8 (hd P : Int)) w := fun w => by rw [hh]; exact str_at P 0 x hx w
    by_cases h27 : hd P ≤ 27
    · have h1 := Hid.intro (fun w => lay_some (tkL P) w (by rw [tkL_length hl h27]; exact h27))
      obtain ⟨htk, htk2⟩ := tk_take P
      by_cases hi : layL (tkL P) = P
      · have hI : Isp P := ⟨hl, h27, hi⟩
        have hb := eq_yes hi
        rw [show rdS P = tkL P from if_pos hI, show rdE P = 0 by unfold rdE; rw [if_neg (by omega), if_pos hI]]
        clear hi hI hx hh
        have hl' : (P.length : Int) = 32 := by omega
        generalize layL (tkL P) = L at *
        generalize tkL P = T at *
        generalize hd P = n at *
        have n0 : (0 : Int) ≤ (n : Int) := Int.natCast_nonneg _
        have n1 : (n : Int) ≤ 27 := by omega
        go_enter Try.func12, Try.ntmps12
        go_wp2_with fail
        refine (h1.out _).mono ?_; rintro e w1 ⟨rfl, hb1⟩
        have hb1' := Hid.intro hb1
        clear hb1
        go_wp2
        go_ret2
        exact ⟨rfl, hb1'.out⟩
      · have hI : ¬ Isp P := fun h => hi h.2.2
        have hb := eq_no hi
        rw [show rdS P = [] from if_neg hI, show rdE P = 6 by unfold rdE; rw [if_neg (by omega), if_neg hI]]
        clear hi hI hx hh
        have hl' : (P.length : Int) = 32 := by omega
        generalize layL (tkL P) = L at *
        generalize tkL P = T at *
        generalize hd P = n at *
        have n0 : (0 : Int) ≤ (n : Int) := Int.natCast_nonneg _
        have n1 : (n : Int) ≤ 27 := by omega
        go_enter Try.func12, Try.ntmps12
        go_wp2_with fail
        refine (h1.out _).mono ?_; rintro e w1 ⟨rfl, hb1⟩
        have hb1' := Hid.intro hb1
        clear hb1
        go_wp2
        go_ret2
        exact ⟨rfl, hb1'.out⟩
    · have hI : ¬ Isp P := fun h => h27 h.2.1
      rw [show rdS P = [] from if_neg hI, show rdE P = 6 by unfold rdE; rw [if_neg (by omega), if_neg hI]]
      have hl' : (P.length : Int) = 32 := by omega
      have hm : x.toNat < 256 := x.toNat_lt
      rw [← hh] at hm
      generalize hd P = n at *
      have n1 : (27 : Int) < (n : Int) := by omega
      go_enter Try.func12, Try.ntmps12
      go_wp2
      go_ret2
      exact ⟨rfl, Below.refl _ _⟩
  · have hI : ¬ Isp P := fun h => hl h.1
    rw [show rdS P = [] from if_neg hI, show rdE P = 8 by unfold rdE; rw [if_pos hl]]
    have hl' : ¬ (P.length : Int) = 32 := by omega
    go_enter Try.func12, Try.ntmps12
    go_wp2
    go_ret2
    exact ⟨rfl, Below.refl _ _⟩

/-- What the document's Unleaf tells as the bytes. -/
def unS (P : List UInt8) : List UInt8 := if P.length = 32 ∧ hd P ≤ 27 then tkL P else []
theorem unS_yes {P : List UInt8} (h : Isp P) : unS P = rdS P := by rw [unS, if_pos ⟨h.1, h.2.1⟩, rdS, if_pos h]
theorem rdS_no {P : List UInt8} (h : ¬ Isp P) : rdS P = [] := by rw [rdS, if_neg h]
set_option maxRecDepth 100000 in
set_option maxHeartbeats 1000000 in
theorem unleaf_any (P : List UInt8) (w : World) :
    Calls Try.prog 13 #[.string (str P)] w fun e w' => e = .returned (.tuple #[.string (str (unS P)), .bool (decide (Isp P))]) ∧ Below w.heap.size w w' := by
  by_cases hl : P.length = 32
  · obtain ⟨x, hx, hh⟩ := first_of hl
    have hat : ∀ w, (Instr.index 9 (.string (str P)) (.int .i64 0)).run Try.prog w = .ok (.int .u8 (hd P : Int)) w := fun w => by rw [hh]; exact str_at P 0 x hx w
    have hl' : (P.length : Int) = 32 := by omega
    by_cases h27 : hd P ≤ 27
    · have h1 := Hid.intro (fun w => rleaf_any (tkL P) w (by rw [tkL_length hl h27]; exact h27))
      obtain ⟨htk, htk2⟩ := tk_take P
      have hb : (layL (tkL P) == P) = decide (Isp P) := by
        by_cases hi : layL (tkL P) = P
        · rw [eq_yes hi, decide_eq_true ⟨hl, h27, hi⟩]
        · rw [eq_no hi, decide_eq_false (fun h => hi h.2.2)]
      rw [show unS P = tkL P from if_pos ⟨hl, h27⟩]
      clear hx hh
      generalize decide (Isp P) = d at *
      generalize layL (tkL P) = L at *
      generalize tkL P = T at *
      generalize hd P = n at *
      have n0 : (0 : Int) ≤ (n : Int) := Int.natCast_nonneg _
      have n1 : (n : Int) ≤ 27 := by omega
      go_enter Try.func13, Try.ntmps13
      go_wp2_with fail
      refine (h1.out _).mono ?_; rintro e w1 ⟨rfl, hb1⟩
      have hb1' := Hid.intro hb1
      clear hb1
      go_wp2
      go_ret2
      exact ⟨rfl, hb1'.out⟩
    · rw [show unS P = [] from if_neg (fun h => h27 h.2), decide_eq_false (fun h : Isp P => h27 h.2.1)]
      have hm : x.toNat < 256 := x.toNat_lt
      rw [← hh] at hm
      generalize hd P = n at *
      have n1 : (27 : Int) < (n : Int) := by omega
      go_enter Try.func13, Try.ntmps13
      go_wp2
      go_ret2
      exact ⟨rfl, Below.refl _ _⟩
  · rw [show unS P = [] from if_neg (fun h => hl h.1), decide_eq_false (fun h : Isp P => hl h.1)]
    have hl' : ¬ (P.length : Int) = 32 := by omega
    go_enter Try.func13, Try.ntmps13
    go_wp2
    go_ret2
    exact ⟨rfl, Below.refl _ _⟩
end Go.Proofs.Ytgigpohfkppplaa
