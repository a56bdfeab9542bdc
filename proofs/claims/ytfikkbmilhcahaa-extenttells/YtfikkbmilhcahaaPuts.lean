/-
  The contracts of runs' list, Count, Put and Of.
-/
import Derived.Test.YtfikkbmilhcahaaWith
import Derived.Test.YtfikkbmilhcahaaSmall
namespace Go.Proofs.Ytfikkbmilhcahaa
open Go.ChangeShapes Go.WideShapes Go.ChangeAt Go.RowKit
attribute [local go_sem ↓] Go.wp_at_zero Go.wp_at_succ

theorem cnt_take_succ {ps : List Sp} {i : Nat} {p : Sp} (h : ps[i]? = some p) : cnt (ps.take (i + 1)) = cnt (ps.take i) + p.2 := by
  rw [List.take_add_one, h, cnt_append]; simp [cnt]

theorem canon_64 {ps : List Sp} (hc : Canon ps) : ps.length ≤ 64 := by have := canon_length hc; have := (cnt_bound hc).2; omega

/-- Integers of int64. -/
def Fits (l : List Sp) : Prop := ∀ p ∈ l, p.1 ≤ 9223372036854775807

theorem valid_t (f n : Int) (w : World) (h : Wh (f, n)) :
    Calls Try.prog 78 #[.agg #[.int .i64 f, .int .i64 n], .int .i64 64] w fun e w' => e = .returned (.bool true) ∧ Below w.heap.size w w' := by
  obtain ⟨h1, h2, h3⟩ := h
  have := valid_yes f n 64 w h1 h2 h3
  simp only at h3
  rwa [decide_eq_true (by omega)] at this

theorem Row.slice {w : World} {v : Value} {ps : List Sp} (h : Row w v ps) : ∃ a c, v = .slice a ps.length c := by
  rcases h with ⟨⟨a, c, rfl⟩, rfl⟩ | ⟨g, o, cap, rfl, _⟩
  · exact ⟨_, _, rfl⟩
  · exact ⟨_, _, rfl⟩

end Go.Proofs.Ytfikkbmilhcahaa
