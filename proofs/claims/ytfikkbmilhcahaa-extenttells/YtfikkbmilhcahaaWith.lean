/-
  The contract of runs.with: a new list; nothing that was there is written.
-/
import Derived.Test.YtfikkbmilhcahaaRowz
namespace Go.Proofs.Ytfikkbmilhcahaa
open Go.ChangeShapes Go.WideShapes Go.ChangeAt Go.RowKit
attribute [local go_sem ↓] Go.wp_at_zero Go.wp_at_succ

/-- A box of two cells that may be written. -/
def Box (w : World) (H : Nat) (x y : Value) : Prop := w.cell? ⟨H, 0, none⟩ = some x ∧ w.cell? ⟨H, 1, none⟩ = some y ∧ w.frozen? ⟨H, 0, none⟩ = false ∧ w.frozen? ⟨H, 1, none⟩ = false

theorem Box.below {w w' : World} {H B : Nat} {x y : Value} (h : Box w H x y) (hb : Below B w w') (hz : H < B) : Box w' H x y :=
  ⟨by rw [hb.cell (p := ⟨H, 0, none⟩) hz]; exact h.1, by rw [hb.cell (p := ⟨H, 1, none⟩) hz]; exact h.2.1, by rw [hb.frozen (p := ⟨H, 0, none⟩) hz]; exact h.2.2.1, by rw [hb.frozen (p := ⟨H, 1, none⟩) hz]; exact h.2.2.2⟩
theorem Box.new (w : World) (x y : Value) (t : TypeId) : Box (w.alloc (.cells #[x, y] t)) w.heap.size x y := by
  unfold Box; simp [go_sem]
theorem Box.lt {w : World} {H : Nat} {x y : Value} (h : Box w H x y) : H < w.heap.size := by
  rcases Nat.lt_or_ge H w.heap.size with hl | hl
  · exact hl
  · have := h.1; simp [World.cell?, Array.getElem?_eq_none hl] at this
theorem Box.grown {w w' : World} {H : Nat} {x y : Value} {row : Option Nat} (h : Box w H x y) (hg : w.grownBy w' row) (hr : some H ≠ row) : Box w' H x y := by
  refine ⟨by rw [hg.cell_far ⟨H, 0, none⟩ h.lt hr]; exact h.1, by rw [hg.cell_far ⟨H, 1, none⟩ h.lt hr]; exact h.2.1, ?_, ?_⟩
  · rw [World.frozen?_of_block (w := w) (a := ⟨H, 0, none⟩) (hg.block H h.lt hr)]; exact h.2.2.1
  · rw [World.frozen?_of_block (w := w) (a := ⟨H, 1, none⟩) (hg.block H h.lt hr)]; exact h.2.2.2

theorem touch_t (f n g m : Int) (w : World) (h : Wh (f, n)) (k : Wh (g, m)) (ht : touchD (f, n) (g, m)) :
    Calls Try.prog 46 #[.agg #[.int .i64 f, .int .i64 n], .agg #[.int .i64 g, .int .i64 m]] w fun e w' => e = .returned (.bool true) ∧ Below w.heap.size w w' := by
  obtain ⟨h1, h2, h3⟩ := h; obtain ⟨k1, k2, k3⟩ := k; obtain ⟨t1, t2⟩ := ht
  simp only at *
  have := touch_yes f n g m w h1 h2 h3 k1 k2 k3 t1
  rwa [decide_eq_true t2] at this
theorem touch_f (f n g m : Int) (w : World) (h : Wh (f, n)) (k : Wh (g, m)) (ht : ¬ touchD (f, n) (g, m)) :
    Calls Try.prog 46 #[.agg #[.int .i64 f, .int .i64 n], .agg #[.int .i64 g, .int .i64 m]] w fun e w' => e = .returned (.bool false) ∧ Below w.heap.size w w' := by
  obtain ⟨h1, h2, h3⟩ := h; obtain ⟨k1, k2, k3⟩ := k; unfold touchD at ht
  simp only at *
  by_cases t1 : f ≤ g + m
  · have := touch_yes f n g m w h1 h2 h3 k1 k2 k3 t1
    rwa [decide_eq_false (by omega)] at this
  · exact touch_c f n g m w h1 h2 h3 k1 k2 k3 (by omega)
theorem join_t (f n g m : Int) (w : World) (h : Wh (f, n)) (k : Wh (g, m)) (ht : touchD (f, n) (g, m)) :
    Calls Try.prog 47 #[.agg #[.int .i64 f, .int .i64 n], .agg #[.int .i64 g, .int .i64 m]] w fun e w' => e = .returned (.tuple #[.agg #[.int .i64 (joinS (f, n) (g, m)).1, .int .i64 (joinS (f, n) (g, m)).2], .bool true]) ∧ Below w.heap.size w w' := by
  obtain ⟨h1, h2, h3⟩ := h; obtain ⟨k1, k2, k3⟩ := k; obtain ⟨t1, t2⟩ := ht
  simp only at *
  exact join_yes f n g m _ _ w h1 h2 h3 k1 k2 k3 t1 t2 rfl rfl (by unfold joinS; simp only; split <;> omega) (by unfold joinS; simp only; split <;> omega) (by split <;> omega) (by split <;> omega)

theorem Box.set {w : World} {H : Nat} {x y : Value} (h : Box w H x y) (u v : Value) : Box ((w.setCell ⟨H, 0, none⟩ u).setCell ⟨H, 1, none⟩ v) H u v := by
  obtain ⟨a, b, c, d⟩ := h
  unfold Box
  simp [go_sem, a, b, c, d]

theorem own_set {w : World} {base : Nat} {v : Value} {n : Nat} {xs : List Value} (h : w.ownsRow base 26 2 v n xs) {a : Addr} (ha : a.block < base) (u : Value) : (w.setCell a u).ownsRow base 26 2 v n xs := by
  refine ⟨h.1, ?_⟩
  rcases h.2 with h | ⟨g, cap, cur, hv, hb, hc, hr⟩
  · exact .inl h
  · exact .inr ⟨g, cap, cur, hv, hb, by rw [Below.heap_setCell w a u g (by omega)]; exact hc, hr⟩

theorem own_mono {w : World} {base base' : Nat} {v : Value} {n : Nat} {xs : List Value} (h : w.ownsRow base 26 2 v n xs) (hb : base' ≤ base) : w.ownsRow base' 26 2 v n xs := by
  refine ⟨h.1, ?_⟩
  rcases h.2 with h0 | ⟨g, cap, cur, hv, hg, hr⟩
  · exact .inl h0
  · exact .inr ⟨g, cap, cur, hv, Nat.le_trans hb hg, hr⟩
theorem app_box {w2 w5 : World} {O : Nat} {x y : Value} {obj : Obj} {row : Option Nat} (h : Box w2 O x y) (hg : (w2.alloc obj).grownBy w5 row) (hne : some O ≠ row) : Box w5 O x y :=
  (h.below ((Below.refl w2.heap.size w2).alloc (Nat.le_refl _) obj) h.lt).grown hg hne
theorem app_below {W : Nat} {w w2 w5 : World} {obj : Obj} {row : Option Nat} (hB : Below W w w2) (hW : W ≤ w2.heap.size) (hg : (w2.alloc obj).grownBy w5 row) (hr : ∀ j, row = some j → W ≤ j) : Below W w w5 :=
  (hB.alloc hW _).grown hg (by simp; omega) hr

/-- What a round of 'with' has behind a call that is only new: the boxes of s and o, what was laid. -/
theorem with_carry {w wr w1 : World} {p q f n : Value} {out : Value} {outs : List Sp} (hb : Below (wr.alloc (.cells #[p, q] 26)).heap.size (wr.alloc (.cells #[p, q] 26)) w1)
    (hB : Below w.heap.size w wr) (hs : Box wr w.heap.size f n) (hown : wr.ownsRow (w.heap.size + 1) 26 2 out outs.length (spansV outs)) :
    Box w1 w.heap.size f n ∧ Box w1 wr.heap.size p q ∧ w1.ownsRow (w.heap.size + 1) 26 2 out outs.length (spansV outs) ∧ Below w.heap.size w w1 ∧ wr.heap.size < w1.heap.size ∧ w.heap.size < wr.heap.size := by
  have hlt := hs.lt
  have hba : Below wr.heap.size wr w1 := ((Below.refl _ _).alloc (Nat.le_refl _) _).trans (hb.mono (by simp))
  exact ⟨hs.below hba hlt, (Box.new wr p q 26).below hb (by simp), own_below hown hba, hB.trans (hba.mono hB.size), by have := hb.size; simp at this; omega, hlt⟩

end Go.Proofs.Ytfikkbmilhcahaa
