/-
  Items in memory: the cells of a list, what a bucket's slice reads as.
-/
import Derived.Test.YtdmamanlclajjaaGreatCmp
import Derived.Maps.AppendAt
import Derived.Deep.AppendLies
namespace Go.Proofs.YtdmamanlclajjaaGreat
open Go.ChangeShapes Go.WideShapes Go.ChangeAt Go.RowKit

def itemsV : List It → List Value
  | [] => []
  | p :: r => .int .u32 p.1 :: .int .i64 p.2 :: itemsV r
theorem itemsV_length (l : List It) : (itemsV l).length = l.length * 2 := by
  induction l with
  | nil => rfl
  | cons p r ih => simp [itemsV, ih]; omega
theorem itemsV_append (l m : List It) : itemsV (l ++ m) = itemsV l ++ itemsV m := by
  induction l with
  | nil => rfl
  | cons p r ih => simp [itemsV, ih]
theorem itemsV_take : ∀ (l : List It) (i : Nat), (itemsV l).take (i * 2) = itemsV (l.take i)
  | [], i => by simp [itemsV]
  | p :: r, 0 => by simp [itemsV]
  | p :: r, i + 1 => by
    rw [show (i + 1) * 2 = i * 2 + 1 + 1 by omega]
    simp [itemsV, itemsV_take r i]
theorem itemsV_drop : ∀ (l : List It) (i : Nat), (itemsV l).drop (i * 2) = itemsV (l.drop i)
  | [], i => by simp [itemsV]
  | p :: r, 0 => by simp [itemsV]
  | p :: r, i + 1 => by
    rw [show (i + 1) * 2 = i * 2 + 1 + 1 by omega]
    simp [itemsV, itemsV_drop r i]
theorem itemsV_get : ∀ (l : List It) (i : Nat) (p : It), l[i]? = some p → (itemsV l)[i * 2]? = some (.int .u32 p.1) ∧ (itemsV l)[i * 2 + 1]? = some (.int .i64 p.2)
  | [], i, p, h => by simp at h
  | q :: r, 0, p, h => by simp at h; subst h; exact ⟨rfl, rfl⟩
  | q :: r, i + 1, p, h => by
    have ih := itemsV_get r i p (by simpa using h)
    rw [show (i + 1) * 2 = i * 2 + 1 + 1 by omega]
    exact ih
theorem itemsV_one (l : List It) : ∀ u ∈ itemsV l, u.oneCell' = true := by
  induction l with
  | nil => intro u h; cases h
  | cons p r ih =>
    intro u h
    simp only [itemsV, List.mem_cons] at h
    rcases h with rfl | rfl | h
    · rfl
    · rfl
    · exact ih u h

/-- The cells of block g are the items l. -/
def Cells (w : World) (g : Nat) (l : List It) : Prop :=
  ∀ i p, l[i]? = some p → w.cell? ⟨g, i * 2, none⟩ = some (.int .u32 p.1) ∧ w.cell? ⟨g, i * 2 + 1, none⟩ = some (.int .i64 p.2)
theorem Cells.below {w w' : World} {g B : Nat} {l : List It} (h : Cells w g l) (hb : Below B w w') (hg : g < B) : Cells w' g l := fun i p hp => by
  rw [hb.cell (p := ⟨g, i * 2, none⟩) hg, hb.cell (p := ⟨g, i * 2 + 1, none⟩) hg]
  exact h i p hp

/-- A bucket's slice v reads as the items l, in memory of its own from block b on. -/
abbrev Buk (w : World) (b : Nat) (v : Value) (l : List It) : Prop := w.ownsRow b 104 2 v l.length (itemsV l)

theorem buk_cells {w : World} {b g n cap : Nat} {l : List It} (h : Buk w b (.slice (some ⟨g, 0, none⟩) n cap) l) : Cells w g l := fun i p hp => by
  have hi : i < l.length := (List.getElem?_eq_some_iff.1 hp).1
  obtain ⟨h0, h1⟩ := itemsV_get l i p hp
  have hn : n = l.length := by
    rcases h.2 with ⟨h, _⟩ | ⟨_, _, _, h, _⟩ <;> cases h <;> rfl
  subst hn
  exact ⟨(World.ownsRow.cellAt h (i * 2) (by omega)).trans h0, (World.ownsRow.cellAt h (i * 2 + 1) (by omega)).trans h1⟩
/-- A bucket: none, or a block of its own. -/
theorem buk_cases {w : World} {b : Nat} {v : Value} {l : List It} (h : Buk w b v l) : (v = .slice none 0 0 ∧ l = []) ∨ ∃ g cap, v = .slice (some ⟨g, 0, none⟩) l.length cap ∧ b ≤ g ∧ g < w.heap.size ∧ Cells w g l := by
  rcases h.2 with ⟨hv, h0⟩ | ⟨g, cap, cur, hv, hb, hc, _⟩
  · exact .inl ⟨hv, List.length_eq_zero_iff.1 h0⟩
  · refine .inr ⟨g, cap, hv, hb, ?_, ?_⟩
    · rcases Nat.lt_or_ge g w.heap.size with hl | hl
      · exact hl
      · rw [Array.getElem?_eq_none hl] at hc; cases hc
    · subst hv; exact buk_cells h
end Go.Proofs.YtdmamanlclajjaaGreat
