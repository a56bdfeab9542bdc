/-
  The walk of LeafApart.
-/
import Derived.Test.YtgigpohfkppplaaLLawA
namespace Go.Proofs.Ytgigpohfkppplaa
open Go.ChangeShapes Go.WideShapes Go.ChangeAt Go.RowKit
attribute [local go_sem] str_size str_extract str_append str_toList

theorem us_no {P : List UInt8} (hl : P.length = 32) (h : ¬ Iss P) : usG P = 0 ∧ usP P = [] ∧ usE P = 6 := by
  refine ⟨if_neg h, if_neg h, ?_⟩
  unfold usE; rw [if_neg (by omega), if_neg h]
/-- What of a string's first bytes is taken. -/
def Tk (S T : List UInt8) : Prop := T.length ≤ 27 ∧ ((S.length ≤ 27 ∧ S = T) ∨ (27 < S.length ∧ List.take 27 S = T))
theorem tk_ex (S : List UInt8) : ∃ T, Tk S T := by
  by_cases h : S.length ≤ 27
  · exact ⟨S, h, .inl ⟨h, rfl⟩⟩
  · exact ⟨S.take 27, by rw [List.length_take]; omega, .inr ⟨by omega, rfl⟩⟩
set_option maxRecDepth 100000 in
set_option maxHeartbeats 4000000 in
theorem lapart_any (S : List UInt8) (gen : Int) (w : World) :
    Calls Try.prog 7 #[.string (str S), .int .i64 gen] w fun e w' => e = .returned (.bool true) ∧ Below w.heap.size w w' := by
  obtain ⟨T, hT, hTk⟩ := tk_ex S
  have hA := Hid.intro alive_any
  have hL := Hid.intro (fun w => lay_some T w hT)
  have hU := Hid.intro (fun w => unslot_any (layL T) w)
  obtain ⟨u1, u2, u3⟩ := us_no (layL_length hT) (page_no_slot hT)
  rw [u1, u2, u3] at hU
  have hS := Hid.intro (fun w => slot_any (w := w) (v := .slice none 0 0) (ps := []) gen (.inl ⟨⟨_, _, rfl⟩, rfl⟩))
  have hc : (∃ g : Nat, gen = (g : Int) ∧ 1 ≤ g ∧ g ≤ 1000000000) ∨ ¬ Sl gen [] := by
    by_cases h : 1 ≤ gen ∧ gen ≤ 1000000000
    · exact .inl ⟨gen.toNat, by omega, by omega, by omega⟩
    · exact .inr fun hh => h hh.1
  clear u1 u2 u3
  generalize layL T = L at *
  have s0 : (0 : Int) ≤ (S.length : Int) := Int.natCast_nonneg _
  rcases hTk with ⟨h27, rfl⟩ | ⟨h27, hT27⟩
  · have hmin : min (S.length : Int) 27 = (S.length : Int) := by omega
    have htk : List.take S.length S = S := List.take_length
    have hll : S.length ≤ S.length := Nat.le_refl _
    rcases hc with ⟨g, rfl, hg1, hg2⟩ | hc
    · have hSl : Sl (g : Int) [] := ⟨by omega, by decide, by simp⟩
      rw [(slS_yes hSl).1, (slS_yes hSl).2, Int.toNat_natCast] at hS
      have hR := Hid.intro (fun w => read_any (slL g []) w)
      have h6 : rdE (slL g []) = 6 := by unfold rdE; rw [if_neg (by rw [slL_length (by decide)]; decide), if_neg (slot_no_page g [])]
      rw [h6, show rdS (slL g []) = [] from if_neg (slot_no_page g [])] at hR
      clear h6 hSl
      generalize slL g [] = Z at *
      go_enter Try.func7, Try.ntmps7
      go_wp2_with fail
      refine (hA.out _).mono ?_; rintro e w1 ⟨rfl, hb1⟩
      have hb1' := Hid.intro hb1
      clear hb1 hA
      go_wp2_with fail
      refine (hL.out _).mono ?_; rintro e w2 ⟨rfl, hb2⟩
      have hb2' := Hid.intro (hb1'.out.trans (hb2.mono hb1'.out.size))
      clear hb2
      go_wp2_with fail
      refine (hU.out _).mono ?_; rintro e w3 ⟨v, rfl, hv, hb3⟩
      have hb3' := Hid.intro (hb2'.out.trans (hb3.mono hb2'.out.size))
      clear hb3 hv
      go_wp2_with fail
      refine (hS.out _).mono ?_; rintro e w4 ⟨rfl, hb4⟩
      have hb4' := Hid.intro (hb3'.out.trans (hb4.mono hb3'.out.size))
      clear hb4
      go_wp2_with fail
      refine (hR.out _).mono ?_; rintro e w5 ⟨rfl, hb5⟩
      have hb5' := Hid.intro (hb4'.out.trans (hb5.mono hb4'.out.size))
      clear hb5
      go_wp2
      go_ret
      exact ⟨rfl, hb5'.out⟩
    · have hbad : gen < 1 ∨ (¬ gen < 1 ∧ 1000000000 < gen) := by
        by_cases h : gen < 1
        · exact .inl h
        · refine .inr ⟨h, ?_⟩
          by_cases h2 : 1000000000 < gen
          · exact h2
          · exact absurd ⟨⟨by omega, by omega⟩, by decide, by simp⟩ hc
      rw [(slS_no hc).1, (slS_no hc).2] at hS
      clear hc
      rcases hbad with c1 | ⟨c1, c2⟩
      · have d1 : decide (gen < 1) = true := decide_eq_true c1
        go_enter Try.func7, Try.ntmps7
        go_wp2_with fail
        refine (hA.out _).mono ?_; rintro e w1 ⟨rfl, hb1⟩
        have hb1' := Hid.intro hb1
        clear hb1 hA
        go_wp2_with fail
        refine (hL.out _).mono ?_; rintro e w2 ⟨rfl, hb2⟩
        have hb2' := Hid.intro (hb1'.out.trans (hb2.mono hb1'.out.size))
        clear hb2
        go_wp2_with fail
        refine (hU.out _).mono ?_; rintro e w3 ⟨v, rfl, hv, hb3⟩
        have hb3' := Hid.intro (hb2'.out.trans (hb3.mono hb2'.out.size))
        clear hb3 hv
        go_wp2_with fail
        refine (hS.out _).mono ?_; rintro e w4 ⟨rfl, hb4⟩
        have hb4' := Hid.intro (hb3'.out.trans (hb4.mono hb3'.out.size))
        clear hb4
        go_wp2
        go_ret
        exact ⟨rfl, hb4'.out⟩
      · have d1 : decide (gen < 1) = false := decide_eq_false c1
        have d2 : decide (1000000000 < gen) = true := decide_eq_true c2
        go_enter Try.func7, Try.ntmps7
        go_wp2_with fail
        refine (hA.out _).mono ?_; rintro e w1 ⟨rfl, hb1⟩
        have hb1' := Hid.intro hb1
        clear hb1 hA
        go_wp2_with fail
        refine (hL.out _).mono ?_; rintro e w2 ⟨rfl, hb2⟩
        have hb2' := Hid.intro (hb1'.out.trans (hb2.mono hb1'.out.size))
        clear hb2
        go_wp2_with fail
        refine (hU.out _).mono ?_; rintro e w3 ⟨v, rfl, hv, hb3⟩
        have hb3' := Hid.intro (hb2'.out.trans (hb3.mono hb2'.out.size))
        clear hb3 hv
        go_wp2_with fail
        refine (hS.out _).mono ?_; rintro e w4 ⟨rfl, hb4⟩
        have hb4' := Hid.intro (hb3'.out.trans (hb4.mono hb3'.out.size))
        clear hb4
        go_wp2
        go_ret
        exact ⟨rfl, hb4'.out⟩
  · have hmin : min (S.length : Int) 27 = 27 := by omega
    have hle : (27 : Int) ≤ (S.length : Int) := by omega
    rcases hc with ⟨g, rfl, hg1, hg2⟩ | hc
    · have hSl : Sl (g : Int) [] := ⟨by omega, by decide, by simp⟩
      rw [(slS_yes hSl).1, (slS_yes hSl).2, Int.toNat_natCast] at hS
      have hR := Hid.intro (fun w => read_any (slL g []) w)
      have h6 : rdE (slL g []) = 6 := by unfold rdE; rw [if_neg (by rw [slL_length (by decide)]; decide), if_neg (slot_no_page g [])]
      rw [h6, show rdS (slL g []) = [] from if_neg (slot_no_page g [])] at hR
      clear h6 hSl
      generalize slL g [] = Z at *
      go_enter Try.func7, Try.ntmps7
      go_wp2_with fail
      refine (hA.out _).mono ?_; rintro e w1 ⟨rfl, hb1⟩
      have hb1' := Hid.intro hb1
      clear hb1 hA
      go_wp2_with fail
      refine (hL.out _).mono ?_; rintro e w2 ⟨rfl, hb2⟩
      have hb2' := Hid.intro (hb1'.out.trans (hb2.mono hb1'.out.size))
      clear hb2
      go_wp2_with fail
      refine (hU.out _).mono ?_; rintro e w3 ⟨v, rfl, hv, hb3⟩
      have hb3' := Hid.intro (hb2'.out.trans (hb3.mono hb2'.out.size))
      clear hb3 hv
      go_wp2_with fail
      refine (hS.out _).mono ?_; rintro e w4 ⟨rfl, hb4⟩
      have hb4' := Hid.intro (hb3'.out.trans (hb4.mono hb3'.out.size))
      clear hb4
      go_wp2_with fail
      refine (hR.out _).mono ?_; rintro e w5 ⟨rfl, hb5⟩
      have hb5' := Hid.intro (hb4'.out.trans (hb5.mono hb4'.out.size))
      clear hb5
      go_wp2
      go_ret
      exact ⟨rfl, hb5'.out⟩
    · have hbad : gen < 1 ∨ (¬ gen < 1 ∧ 1000000000 < gen) := by
        by_cases h : gen < 1
        · exact .inl h
        · refine .inr ⟨h, ?_⟩
          by_cases h2 : 1000000000 < gen
          · exact h2
          · exact absurd ⟨⟨by omega, by omega⟩, by decide, by simp⟩ hc
      rw [(slS_no hc).1, (slS_no hc).2] at hS
      clear hc
      rcases hbad with c1 | ⟨c1, c2⟩
      · have d1 : decide (gen < 1) = true := decide_eq_true c1
        go_enter Try.func7, Try.ntmps7
        go_wp2_with fail
        refine (hA.out _).mono ?_; rintro e w1 ⟨rfl, hb1⟩
        have hb1' := Hid.intro hb1
        clear hb1 hA
        go_wp2_with fail
        refine (hL.out _).mono ?_; rintro e w2 ⟨rfl, hb2⟩
        have hb2' := Hid.intro (hb1'.out.trans (hb2.mono hb1'.out.size))
        clear hb2
        go_wp2_with fail
        refine (hU.out _).mono ?_; rintro e w3 ⟨v, rfl, hv, hb3⟩
        have hb3' := Hid.intro (hb2'.out.trans (hb3.mono hb2'.out.size))
        clear hb3 hv
        go_wp2_with fail
        refine (hS.out _).mono ?_; rintro e w4 ⟨rfl, hb4⟩
        have hb4' := Hid.intro (hb3'.out.trans (hb4.mono hb3'.out.size))
        clear hb4
        go_wp2
        go_ret
        exact ⟨rfl, hb4'.out⟩
      · have d1 : decide (gen < 1) = false := decide_eq_false c1
        have d2 : decide (1000000000 < gen) = true := decide_eq_true c2
        go_enter Try.func7, Try.ntmps7
        go_wp2_with fail
        refine (hA.out _).mono ?_; rintro e w1 ⟨rfl, hb1⟩
        have hb1' := Hid.intro hb1
        clear hb1 hA
        go_wp2_with fail
        refine (hL.out _).mono ?_; rintro e w2 ⟨rfl, hb2⟩
        have hb2' := Hid.intro (hb1'.out.trans (hb2.mono hb1'.out.size))
        clear hb2
        go_wp2_with fail
        refine (hU.out _).mono ?_; rintro e w3 ⟨v, rfl, hv, hb3⟩
        have hb3' := Hid.intro (hb2'.out.trans (hb3.mono hb2'.out.size))
        clear hb3 hv
        go_wp2_with fail
        refine (hS.out _).mono ?_; rintro e w4 ⟨rfl, hb4⟩
        have hb4' := Hid.intro (hb3'.out.trans (hb4.mono hb3'.out.size))
        clear hb4
        go_wp2
        go_ret
        exact ⟨rfl, hb4'.out⟩
end Go.Proofs.Ytgigpohfkppplaa
