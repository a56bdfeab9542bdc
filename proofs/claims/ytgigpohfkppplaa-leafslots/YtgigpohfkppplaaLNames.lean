/-
  The contracts of nameable and genOf.
-/
import Derived.Test.YtgigpohfkppplaaLRead
import Derived.Test.YtgigpohfkppplaaBkILists
namespace Go.Proofs.Ytgigpohfkppplaa
open Go.ChangeShapes Go.WideShapes Go.ChangeAt Go.RowKit
attribute [local go_sem] str_size str_extract str_append str_toList

def Gd (k : Int) : Prop := 2 ≤ k ∧ k < 250
instance (k : Int) : Decidable (Gd k) := by unfold Gd; infer_instance
theorem gd_step {ps : List Int} {i : Nat} {k : Int} (h : ∀ x ∈ ps.take i, Gd x) (hk : ps[i]? = some k) (g : Gd k) : ∀ x ∈ ps.take (i + 1), Gd x := by
  intro x hx
  rw [List.take_add_one, hk, Option.toList_some, List.mem_append, List.mem_singleton] at hx
  rcases hx with hx | rfl
  · exact h x hx
  · exact g
set_option maxRecDepth 100000 in
theorem nameable_nil (a : Option Addr) (c : Nat) (w : World) :
    Calls Try.prog 30 #[.slice a 0 c] w fun e w' => e = .returned (.bool true) ∧ w' = w := by
  go_enter Try.func30, Try.ntmps30
  go_wp2_with fail
  go_loopw [10] (fun iv wr => iv = .int .i64 0 ∧ wr = w) (fun _ _ => 0)
  case atStart => exact ⟨rfl, rfl⟩
  case round =>
    obtain ⟨rfl, rfl⟩ := hrel
    go_wp2
    go_ret
    exact ⟨rfl, rfl⟩
set_option maxRecDepth 100000 in
theorem nameable_some (ps : List Int) (g o c : Nat) (w : World) (hl : ps.length ≤ 11) (h : Hid (BkI.Cells w g o ps)) :
    Calls Try.prog 30 #[.slice (some ⟨g, o, none⟩) ps.length c] w fun e w' => e = .returned (.bool (decide (Nm ps))) ∧ w' = w := by
  have hN : Hid (∀ b : Bool, b = decide (∀ k ∈ ps, Gd k) → decide (Nm ps) = b) := Hid.intro (fun b hb => by rw [hb]; exact decide_eq_decide.2 ⟨fun h => h.2, fun h => ⟨hl, h⟩⟩)
  generalize decide (Nm ps) = D at *
  have l1 : (ps.length : Int) ≤ 11 := by omega
  go_enter Try.func30, Try.ntmps30
  go_wp2_with fail
  go_loopw [10] (fun iv wr => ∃ i : Nat, i ≤ ps.length ∧ iv = .int .i64 i ∧ (∀ x ∈ ps.take i, Gd x) ∧ wr = w) (fun iv _ => ps.length - (intOf iv).toNat)
  case atStart => exact ⟨0, Nat.zero_le _, rfl, by simp, rfl⟩
  case round =>
    obtain ⟨i, hi, rfl, hgd, rfl⟩ := hrel
    have hgd' := Hid.intro hgd
    clear hgd
    have i0 : (0 : Int) ≤ (i : Int) := Int.natCast_nonneg _
    by_cases hlt : i < ps.length
    · obtain ⟨pa, hp⟩ : ∃ p, ps[i]? = some p := ⟨ps[i]'hlt, by simp [hlt]⟩
      have ha := h.out i _ hp
      have hp' := Hid.intro hp
      clear hp
      have i1 : (i : Int) < (ps.length : Int) := by omega
      by_cases c1 : pa < 2
      · have hno := Hid.intro (hN.out false (decide_eq_false (fun hh => by have := (hh pa (List.mem_of_getElem? hp'.out)).1; omega)).symm)
        have c1' : decide (pa < 2) = true := decide_eq_true c1
        go_wp2
        go_ret
        exact ⟨by rw [hno.out]; rfl, rfl⟩
      · by_cases c2 : 250 ≤ pa
        · have hno := Hid.intro (hN.out false (decide_eq_false (fun hh => by have := (hh pa (List.mem_of_getElem? hp'.out)).2; omega)).symm)
          have c1' : decide (pa < 2) = false := decide_eq_false c1
          go_wp2
          go_ret
          exact ⟨by rw [hno.out]; rfl, rfl⟩
        · have c1' : decide (pa < 2) = false := decide_eq_false c1
          have hs := Hid.intro (gd_step hgd'.out hp'.out ⟨by omega, by omega⟩)
          go_wp2
          go_roundw
          case rel => exact ⟨i + 1, by omega, by go_num, hs.out, trivial⟩
          case measure => simp [intOf]; omega
    · obtain rfl : i = ps.length := by omega
      have hy := hgd'.out
      rw [List.take_length] at hy
      have hno := Hid.intro (hN.out true (decide_eq_true hy).symm)
      clear hy
      go_wp2
      go_ret
      exact ⟨by rw [hno.out]; rfl, rfl⟩
set_option maxRecDepth 100000 in
theorem nameable_long (n : Nat) (a : Option Addr) (c : Nat) (w : World) (hl : 11 < n) :
    Calls Try.prog 30 #[.slice a n c] w fun e w' => e = .returned (.bool false) ∧ w' = w := by
  have l1 : (11 : Int) < (n : Int) := by omega
  go_enter Try.func30, Try.ntmps30
  go_wp2
  go_ret
  exact ⟨rfl, rfl⟩
theorem nameable_any {w : World} {v : Value} {ps : List Int} (h : BkI.Row w v ps) :
    Calls Try.prog 30 #[v] w fun e w' => e = .returned (.bool (decide (Nm ps))) ∧ w' = w := by
  by_cases hl : ps.length ≤ 11
  · by_cases e : ps = []
    · subst e
      obtain ⟨a, c, rfl⟩ := h.nil
      rw [show decide (Nm []) = true from by decide]
      exact nameable_nil _ _ _
    · rcases h with ⟨_, h0⟩ | ⟨g, o, cap, rfl, hg, hc⟩
      · exact absurd h0 e
      exact nameable_some ps g o cap w hl hc
  · obtain ⟨a, c, rfl⟩ := h.slice
    rw [show decide (Nm ps) = false from decide_eq_false (fun h => hl h.1)]
    exact nameable_long _ _ _ _ (by omega)
end Go.Proofs.Ytgigpohfkppplaa
