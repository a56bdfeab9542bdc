/-
  The contract of span.Less: of a span that is not whole none; of one that Meet finds nothing of in the other all of it; else what is ahead of what both have, and what is behind it; a new list each time; nothing that was there is written.
-/
import Derived.Test.YtnkfgefbiacagaaJoin
import Derived.Deep.AppendLies
namespace Go.Proofs.Ytnkfgefbiacagaa
open Go.ChangeShapes Go.WideShapes Go.ChangeAt Go.RowKit
attribute [local go_sem ↓] Go.wp_at_zero Go.wp_at_succ

theorem Try.info41 : (Try.prog.info? 41).map (fun i => (i.zero, i.size, i.bytes)) = some (some (.agg #[.int .i64 0, .int .i64 0]), 2, 16) := by kernel_rfl

theorem end_at (f n k : Int) (w : World) (h : 0 ≤ f ∧ 1 ≤ n ∧ n ≤ 64 - f) (hk : f + n = k) :
    Calls Try.prog 28 #[.agg #[.int .i64 f, .int .i64 n]] w fun e w' => e = .returned (.int .i64 k) ∧ Below w.heap.size w w' := by
  subst hk; exact end_yes f n w h

theorem own_below {w w' : World} {base : Nat} {v : Value} {n : Nat} {xs : List Value} (h : w.ownsRow base 41 2 v n xs) (hb : Below w.heap.size w w') : w'.ownsRow base 41 2 v n xs := by
  refine ⟨h.1, ?_⟩
  rcases h.2 with h0 | ⟨g, cap, cur, hv, hg, hc, hr⟩
  · exact .inl h0
  · refine .inr ⟨g, cap, cur, hv, hg, ?_, hr⟩
    rw [hb.block g (by rcases Nat.lt_or_ge g w.heap.size with hl | hl; · exact hl
                       · rw [Array.getElem?_eq_none hl] at hc; cases hc)]
    exact hc

theorem keepPQ {p q B : Nat} {x y u v : Value} {w2 w3 : World} (hp : p < B) (hq : q < B) (a0 : w2.cell? ⟨p, 0, none⟩ = some x) (a1 : w2.cell? ⟨p, 1, none⟩ = some y) (b0 : w2.cell? ⟨q, 0, none⟩ = some u) (b1 : w2.cell? ⟨q, 1, none⟩ = some v) (hb : Below B w2 w3) :
    w3.cell? ⟨p, 0, none⟩ = some x ∧ w3.cell? ⟨p, 1, none⟩ = some y ∧ w3.cell? ⟨q, 0, none⟩ = some u ∧ w3.cell? ⟨q, 1, none⟩ = some v ∧ Below B w2 w3 := by
  refine ⟨?_, ?_, ?_, ?_, hb⟩
  · rw [hb.cell (p := ⟨p, 0, none⟩) hp]; exact a0
  · rw [hb.cell (p := ⟨p, 1, none⟩) hp]; exact a1
  · rw [hb.cell (p := ⟨q, 0, none⟩) hq]; exact b0
  · rw [hb.cell (p := ⟨q, 1, none⟩) hq]; exact b1

theorem lt_alloc {p : Nat} {w : World} {o : Obj} (h : p < w.heap.size) : p < (w.alloc o).heap.size := by simp; omega

/-- Behind an append onto nil. -/
theorem below_app {w3 w5 : World} {o : Obj} (hg : (w3.alloc o).grownBy w5 none) : Below w3.heap.size w3 w5 :=
  ((Below.refl _ _).alloc (Nat.le_refl _) _).grown hg (by simp) nofun

theorem keep4 {p q : Nat} {x y u v : Value} {w2 w3 : World} (hp : p < w2.heap.size) (hq : q < w2.heap.size) (a0 : w2.cell? ⟨p, 0, none⟩ = some x) (a1 : w2.cell? ⟨p, 1, none⟩ = some y) (b0 : w2.cell? ⟨q, 0, none⟩ = some u) (b1 : w2.cell? ⟨q, 1, none⟩ = some v) (hb : Below w2.heap.size w2 w3) :
    w3.cell? ⟨p, 0, none⟩ = some x ∧ w3.cell? ⟨p, 1, none⟩ = some y ∧ w3.cell? ⟨q, 0, none⟩ = some u ∧ w3.cell? ⟨q, 1, none⟩ = some v := by
  obtain ⟨h0, h1, h2, h3, _⟩ := keepPQ hp hq a0 a1 b0 b1 hb
  exact ⟨h0, h1, h2, h3⟩

theorem keepA {p q : Nat} {x y u v : Value} {w : World} {o : Obj} (hp : p < w.heap.size) (hq : q < w.heap.size) (h : w.cell? ⟨p, 0, none⟩ = some x ∧ w.cell? ⟨p, 1, none⟩ = some y ∧ w.cell? ⟨q, 0, none⟩ = some u ∧ w.cell? ⟨q, 1, none⟩ = some v) :
    (w.alloc o).cell? ⟨p, 0, none⟩ = some x ∧ (w.alloc o).cell? ⟨p, 1, none⟩ = some y ∧ (w.alloc o).cell? ⟨q, 0, none⟩ = some u ∧ (w.alloc o).cell? ⟨q, 1, none⟩ = some v :=
  keep4 hp hq h.1 h.2.1 h.2.2.1 h.2.2.2 ((Below.refl _ _).alloc (Nat.le_refl _) _)

theorem keepG {p q : Nat} {x y u v : Value} {w w' : World} {row : Option Nat} (hg : w.grownBy w' row) (hp' : some p ≠ row) (hq' : some q ≠ row) (hp : p < w.heap.size) (hq : q < w.heap.size) (h : w.cell? ⟨p, 0, none⟩ = some x ∧ w.cell? ⟨p, 1, none⟩ = some y ∧ w.cell? ⟨q, 0, none⟩ = some u ∧ w.cell? ⟨q, 1, none⟩ = some v) :
    w'.cell? ⟨p, 0, none⟩ = some x ∧ w'.cell? ⟨p, 1, none⟩ = some y ∧ w'.cell? ⟨q, 0, none⟩ = some u ∧ w'.cell? ⟨q, 1, none⟩ = some v := by
  refine ⟨?_, ?_, ?_, ?_⟩
  · rw [hg.cell_far ⟨p, 0, none⟩ hp hp']; exact h.1
  · rw [hg.cell_far ⟨p, 1, none⟩ hp hp']; exact h.2.1
  · rw [hg.cell_far ⟨q, 0, none⟩ hq hq']; exact h.2.2.1
  · rw [hg.cell_far ⟨q, 1, none⟩ hq hq']; exact h.2.2.2

end Go.Proofs.Ytnkfgefbiacagaa
