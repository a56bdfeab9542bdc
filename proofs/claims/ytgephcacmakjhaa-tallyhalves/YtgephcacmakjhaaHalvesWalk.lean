/-
  The walk of TallyHalves, for every input: it returns true; nothing that was there is written.
-/
import Derived.Test.YtgephcacmakjhaaTalAlive
namespace Go.Proofs.Ytgephcacmakjhaa
open Go.ChangeShapes Go.WideShapes Go.ChangeAt Go.RowKit
attribute [local go_sem] str_size str_extract str_append str_toList

set_option maxRecDepth 100000 in
theorem halves_any (S : List UInt8) (w : World) :
    Calls Try.prog 7 #[.string (str S)] w fun e w' => e = .returned (.bool true) ∧ Below w.heap.size w w' := by
  by_cases h1 : 2000 < S.length
  · have i1 : (2000 : Int) < (S.length : Int) := by omega
    go_enter Try.func7, Try.ntmps7
    go_wp2_with fail
    refine (alive_any _).mono ?_; rintro e w1 ⟨rfl, hb1⟩
    have hb1' := Hid.intro hb1
    go_wp2
    go_ret
    exact ⟨rfl, hb1'.out⟩
  have i1 : ¬ (2000 : Int) < (S.length : Int) := by omega
  have o1 := Hid.intro (fun w => of_any S w (by omega))
  have e1 := low16 (ofN S) (ofN_lt S)
  have e2 : ((ofN S : Nat) : Int) / 65536 = (((tal S).2 : Nat) : Int) := by rw [← sp_ofN]; simp [sp]
  have e3 : ofN S % 65536 = (tal S).1 := by rw [← sp_ofN]; rfl
  rw [e3] at e1
  have l1 := (tal_sm S).1
  have l2 := (tal_sm S).2
  have z0 := Hid.intro (show S.length = 0 → tal S = (44257, 0) from fun h => by rw [List.length_eq_zero_iff.1 h]; rfl)
  generalize ofN S = z at *
  generalize tal S = p at *
  obtain ⟨A, B⟩ := p
  simp only at l1 l2 e1 e2
  have j1 : (A : Int) < 65521 := by omega
  have j2 : (B : Int) < 65521 := by omega
  by_cases h0 : 0 < S.length
  · have i2 : (0 : Int) < (S.length : Int) := by omega
    go_enter Try.func7, Try.ntmps7
    go_wp2_with fail
    refine (alive_any _).mono ?_; rintro e w1 ⟨rfl, hb1⟩
    have hb1' := Hid.intro hb1
    go_wp2_with fail
    refine (o1.out _).mono ?_; rintro e w2 ⟨rfl, rfl⟩
    go_wp2
    go_ret
    exact ⟨rfl, hb1'.out⟩
  · have i2 : ¬ (0 : Int) < (S.length : Int) := by omega
    have := z0.out (by omega)
    injection this with a1 a2
    subst a1 a2
    go_enter Try.func7, Try.ntmps7
    go_wp2_with fail
    refine (alive_any _).mono ?_; rintro e w1 ⟨rfl, hb1⟩
    have hb1' := Hid.intro hb1
    go_wp2_with fail
    refine (o1.out _).mono ?_; rintro e w2 ⟨rfl, rfl⟩
    go_wp2
    go_ret
    exact ⟨rfl, hb1'.out⟩
end Go.Proofs.Ytgephcacmakjhaa
