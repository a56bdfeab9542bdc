/-
  An extent in a box; a cell of a list of extents.
-/
import Derived.Test.YtnboajhcjgcpfaaELeaf
import Derived.Test.YtnboajhcjgcpfaaBkERow
namespace Go.Proofs.Ytnboajhcjgcpfaa
open Go.ChangeShapes Go.WideShapes Go.ChangeAt Go.RowKit
attribute [local go_sem ↓] Go.wp_at_zero Go.wp_at_succ

/-- An extent in a block of its own. -/
def Bx (w : World) (H : Nat) (x : Ex) : Prop := w.cell? ⟨H, 0, none⟩ = some (.int .i64 x.1) ∧ w.cell? ⟨H, 1, none⟩ = some (.int .i64 x.2.1) ∧ w.cell? ⟨H, 2, none⟩ = some (.int .i64 x.2.2) ∧ w.frozen? ⟨H, 0, none⟩ = false ∧ w.frozen? ⟨H, 1, none⟩ = false ∧ w.frozen? ⟨H, 2, none⟩ = false
theorem Bx.below {w w' : World} {H B : Nat} {x : Ex} (h : Bx w H x) (hb : Below B w w') (hz : H < B) : Bx w' H x := by
  obtain ⟨a, b, c, d, e, f⟩ := h
  exact ⟨by rw [hb.cell (p := ⟨H, 0, none⟩) hz]; exact a, by rw [hb.cell (p := ⟨H, 1, none⟩) hz]; exact b, by rw [hb.cell (p := ⟨H, 2, none⟩) hz]; exact c, by rw [hb.frozen (p := ⟨H, 0, none⟩) hz]; exact d, by rw [hb.frozen (p := ⟨H, 1, none⟩) hz]; exact e, by rw [hb.frozen (p := ⟨H, 2, none⟩) hz]; exact f⟩
theorem Bx.new (w : World) (x : Ex) (t : TypeId) : Bx (w.alloc (.cells #[.int .i64 x.1, .int .i64 x.2.1, .int .i64 x.2.2] t)) w.heap.size x := by
  refine ⟨?_, ?_, ?_, ?_, ?_, ?_⟩ <;> simp [go_sem]
theorem Bx.lt {w : World} {H : Nat} {x : Ex} (h : Bx w H x) : H < w.heap.size := by
  rcases Nat.lt_or_ge H w.heap.size with h1 | h1
  · exact h1
  · have := h.1
    simp [World.cell?, h1] at this
theorem drop_at {α : Type} {l : List α} {i : Nat} {x : α} (h : l[i]? = some x) : l.drop i = x :: l.drop (i + 1) := by
  obtain ⟨hl, rfl⟩ := List.getElem?_eq_some_iff.1 h
  exact List.drop_eq_getElem_cons hl
/-- What stands at place i. -/
theorem erow_at {w : World} {l : List Ex} {a : Option Addr} {n c : Nat} (h : BkE.Row w (.slice a n c) l) {i : Nat} (hi : i < l.length) : ∃ g o p, a = some ⟨g, o, none⟩ ∧ g < w.heap.size ∧ l[i]? = some p ∧ w.cell? ⟨g, o + i * 3, none⟩ = some (.int .i64 p.1) ∧ w.cell? ⟨g, o + i * 3 + 1, none⟩ = some (.int .i64 p.2.1) ∧ w.cell? ⟨g, o + i * 3 + 2, none⟩ = some (.int .i64 p.2.2) := by
  rcases h with ⟨_, h0⟩ | ⟨g, o, cap, hv, hg, hc⟩
  · subst h0; simp at hi
  · cases hv
    have hp : l[i]? = some l[i] := List.getElem?_eq_getElem hi
    exact ⟨g, o, _, rfl, hg, hp, hc i _ hp⟩
theorem Bx.grown {w w' : World} {H : Nat} {x : Ex} {row : Option Nat} (h : Bx w H x) (hg : w.grownBy w' row) (hr : some H ≠ row) : Bx w' H x := by
  have hb := hg.block H h.lt hr
  obtain ⟨a, b, c, d, e, f⟩ := h
  exact ⟨by rw [World.cell?_of_block (w := w) (a := ⟨H, 0, none⟩) hb]; exact a, by rw [World.cell?_of_block (w := w) (a := ⟨H, 1, none⟩) hb]; exact b, by rw [World.cell?_of_block (w := w) (a := ⟨H, 2, none⟩) hb]; exact c, by rw [World.frozen?_of_block (w := w) (a := ⟨H, 0, none⟩) hb]; exact d, by rw [World.frozen?_of_block (w := w) (a := ⟨H, 1, none⟩) hb]; exact e, by rw [World.frozen?_of_block (w := w) (a := ⟨H, 2, none⟩) hb]; exact f⟩
end Go.Proofs.Ytnboajhcjgcpfaa
