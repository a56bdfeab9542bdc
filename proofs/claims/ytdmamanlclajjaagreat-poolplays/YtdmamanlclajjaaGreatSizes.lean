/-
  The contracts of the shelf's Sizes and Len: how many each bucket has; how many in all.
-/
import Derived.Test.YtdmamanlclajjaaGreatFind
import Derived.Laws.MakeOwn
namespace Go.Proofs.YtdmamanlclajjaaGreat
open Go.ChangeShapes Go.WideShapes Go.ChangeAt Go.RowKit

/-- A block of numbers. -/
def NS (w : World) (G n : Nat) (xs : Nat → Int) : Prop := ∀ j, j < n → w.cell? ⟨G, j, none⟩ = some (.int .i64 (xs j)) ∧ w.frozen? ⟨G, j, none⟩ = false
theorem NS.set {w : World} {G n i : Nat} {xs : Nat → Int} (h : NS w G n xs) (v : Int) : NS (w.setCell ⟨G, i, none⟩ (.int .i64 v)) G n (fun j => if j = i then v else xs j) := fun j hj => by
  obtain ⟨a, b⟩ := h j hj
  by_cases e : j = i
  · subst e
    exact ⟨by simp [go_sem, a], by simp [go_sem, b]⟩
  · refine ⟨?_, by simp [go_sem, b]⟩
    refine (World.cell?_setCell_other w ⟨G, i, none⟩ ⟨G, j, none⟩ _ (by intro h; cases h; exact e rfl)).trans ?_
    simp [e, a]
theorem NS.congr {w : World} {G n : Nat} {xs ys : Nat → Int} (h : NS w G n xs) (e : ∀ j, j < n → xs j = ys j) : NS w G n ys := fun j hj => by rw [← e j hj]; exact h j hj
theorem NS.new (w : World) (n : Nat) : NS (w.alloc (.cells (madeCells (Value.int .i64 0).cells n) 3)) w.heap.size n (fun _ => 0) := fun j hj => by
  have h := heap_alloc_new w (.cells (madeCells (Value.int .i64 0).cells n) 3)
  constructor
  · unfold World.cell?
    rw [h]
    simp [madeCells, Value.cells, hj]
    rw [Nat.mod_one]
    rfl
  · unfold World.frozen?
    rw [h]
    simp
theorem make_ints (w : World) (n : Nat) (hn : n ≤ 1000) : ∃ w1, (Instr.makeSlice 72 (.int .i64 (n : Int)) (.int .i64 (n : Int))).run Tryz.prog w = .ok (.slice (some ⟨w.heap.size, 0, none⟩) n n) w1 ∧ NS w1 w.heap.size n (fun _ => 0) ∧ Below w.heap.size w w1 ∧ w1.heap.size = w.heap.size + 1 := by
  obtain ⟨i0, hi, hz0, hz1, hz2⟩ := info_parts Tryz.info3
  have hr := run_make (P := Tryz.prog) w 72 3 i0 (.int .i64 0) Tryz.underlying72 hi hz0 .i64 .i64 (n : Int) (n : Int) (by omega) (by omega) (by rw [hz2]; omega) (by omega)
  simp only [Int.toNat_natCast, hz1, Nat.mul_one] at hr
  exact ⟨_, hr, NS.new w n, (Below.refl _ _).alloc (Nat.le_refl _) _, by simp⟩

def lenAt (bs : List (List It)) (j : Nat) : Int := ((bs.getD j []).length : Nat)

theorem buk_len {w : World} {b : Nat} {v : Value} {l : List It} (h : Buk w b v l) : ∃ a c, v = .slice a l.length c := by
  rcases buk_cases h with ⟨rfl, rfl⟩ | ⟨g, cap, rfl, _⟩
  · exact ⟨_, _, rfl⟩
  · exact ⟨_, _, rfl⟩

end Go.Proofs.YtdmamanlclajjaaGreat
