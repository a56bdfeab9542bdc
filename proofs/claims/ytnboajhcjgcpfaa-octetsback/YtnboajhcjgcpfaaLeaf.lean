/-
  The contracts of package span that maps need.
-/
import Derived.Test.YtnboajhcjgcpfaaChecked
import Derived.WalkKit
import Derived.ProofKit
import Derived.WalkSpells
import Derived.Below
namespace Go.Proofs.Ytnboajhcjgcpfaa
open Go.ChangeShapes Go.WideShapes Go.ChangeAt Go.RowKit

def sp (f n : Int) : Value := .agg #[.int .i64 f, .int .i64 n]
def wholeB (f n : Int) : Bool := decide (0 ≤ f ∧ 1 ≤ n ∧ n ≤ 64 - f)
theorem bcell {W w1 : World} (hb : Below W.heap.size W w1) : (∀ b o, b < W.heap.size → w1.cell? ⟨b, o, none⟩ = W.cell? ⟨b, o, none⟩) ∧ (∀ b o, b < W.heap.size → w1.frozen? ⟨b, o, none⟩ = W.frozen? ⟨b, o, none⟩) :=
  ⟨fun b o h => hb.cell (p := ⟨b, o, none⟩) h, fun b o h => hb.frozen (p := ⟨b, o, none⟩) h⟩
theorem below_step {a b c : World} (h1 : Below a.heap.size a b) (h2 : Below b.heap.size b c) : Below a.heap.size a c := h1.trans (h2.mono h1.size)
theorem below_drew {a b : World} (h : Below a.drew.heap.size a.drew b) : Below a.heap.size a b := ((Below.refl _ a).drew).trans h
theorem whole_yes (f n : Int) (w : World) (h : 0 ≤ f ∧ 1 ≤ n ∧ n ≤ 64 - f) :
    Calls Try.prog 94 #[.agg #[.int .i64 f, .int .i64 n]] w fun e w' => e = .returned (.bool true) ∧ Below w.heap.size w w' := by
  obtain ⟨h1, h2, h3⟩ := h
  go_enter Try.func94, Try.ntmps94
  go_wp2
  go_ret
  exact ⟨rfl, (Below.refl _ _).alloc (Nat.le_refl _) _⟩
theorem whole_no (f n : Int) (w : World) (hf : f ≤ 9223372036854775807) (h : ¬ (0 ≤ f ∧ 1 ≤ n ∧ n ≤ 64 - f)) :
    Calls Try.prog 94 #[.agg #[.int .i64 f, .int .i64 n]] w fun e w' => e = .returned (.bool false) ∧ Below w.heap.size w w' := by
  by_cases h1 : 0 ≤ f
  · by_cases h2 : 1 ≤ n
    · have h3 : ¬ n ≤ 64 - f := fun h3 => h ⟨h1, h2, h3⟩
      clear h
      go_enter Try.func94, Try.ntmps94
      go_wp2
      go_ret
      exact ⟨rfl, (Below.refl _ _).alloc (Nat.le_refl _) _⟩
    · clear h
      go_enter Try.func94, Try.ntmps94
      go_wp2
      go_ret
      exact ⟨rfl, (Below.refl _ _).alloc (Nat.le_refl _) _⟩
  · clear h
    go_enter Try.func94, Try.ntmps94
    go_wp2
    go_ret
    exact ⟨rfl, (Below.refl _ _).alloc (Nat.le_refl _) _⟩
theorem end_yes (f n : Int) (w : World) (h : 0 ≤ f ∧ 1 ≤ n ∧ n ≤ 64 - f) :
    Calls Try.prog 76 #[.agg #[.int .i64 f, .int .i64 n]] w fun e w' => e = .returned (.int .i64 (f + n)) ∧ Below w.heap.size w w' := by
  obtain ⟨h1, h2, h3⟩ := h
  go_enter Try.func76, Try.ntmps76
  go_wp2_with (go_at_call 94; refine (whole_yes _ _ _ ⟨h1, h2, h3⟩).mono ?_; rintro e w1 ⟨rfl, hb⟩; obtain ⟨hc, hfz⟩ := bcell hb)
  go_ret
  exact ⟨rfl, ((Below.refl _ _).alloc (Nat.le_refl _) _).trans (hb.mono (by simp))⟩
theorem end_no (f n : Int) (w : World) (hf : f ≤ 9223372036854775807) (h : ¬ (0 ≤ f ∧ 1 ≤ n ∧ n ≤ 64 - f)) :
    Calls Try.prog 76 #[.agg #[.int .i64 f, .int .i64 n]] w fun e w' => e = .returned (.int .i64 0) ∧ Below w.heap.size w w' := by
  go_enter Try.func76, Try.ntmps76
  go_wp2_with (go_at_call 94; refine (whole_no _ _ _ hf h).mono ?_; rintro e w1 ⟨rfl, hb⟩; obtain ⟨hc, hfz⟩ := bcell hb)
  go_ret
  exact ⟨rfl, ((Below.refl _ _).alloc (Nat.le_refl _) _).trans (hb.mono (by simp))⟩
end Go.Proofs.Ytnboajhcjgcpfaa
