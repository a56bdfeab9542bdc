/-
  What is common: boxes of two cells, blocks, arrays in memory.
-/
import Derived.Test.YtnboajhcjgcpfaaSmall
import Derived.Test.YtnboajhcjgcpfaaSetMath
import Derived.Deep.QuietTactic
import Derived.BigQuiet
import Derived.Maps.AppendAt
import Derived.Deep.AppendLies
import Derived.Deep.MidRow
import Derived.Deep.RegionLaw
import Derived.Outline
import Derived.Deep.RegionHeld3
import Derived.Deep.DrawnRows
namespace Go.Proofs.Ytnboajhcjgcpfaa
open Go.ChangeShapes Go.WideShapes Go.ChangeAt Go.RowKit
attribute [local go_sem ↓] Go.wp_at_zero Go.wp_at_succ

theorem Hid.intro {p : Prop} (h : p) : Hid p := h
theorem below_app0 {w w' : World} (hg : w.grownBy w' none) : Below w.heap.size w w' := (Below.refl _ _).grown hg (Nat.le_refl _) nofun
theorem below_drw {w : World} : Below w.heap.size w w.drew := (Below.refl _ _).drew
theorem lt_of_block {w : World} {b : Nat} {o : Obj} (h : w.heap[b]? = some o) : b < w.heap.size := by
  rcases Nat.lt_or_ge b w.heap.size with hl | hl
  · exact hl
  · rw [Array.getElem?_eq_none hl] at h; cases h
/-- A box of two cells that may be written. -/
def Box (w : World) (H : Nat) (x y : Value) : Prop := w.cell? ⟨H, 0, none⟩ = some x ∧ w.cell? ⟨H, 1, none⟩ = some y ∧ w.frozen? ⟨H, 0, none⟩ = false ∧ w.frozen? ⟨H, 1, none⟩ = false
theorem Box.below {w w' : World} {H B : Nat} {x y : Value} (h : Box w H x y) (hb : Below B w w') (hz : H < B) : Box w' H x y :=
  ⟨by rw [hb.cell (p := ⟨H, 0, none⟩) hz]; exact h.1, by rw [hb.cell (p := ⟨H, 1, none⟩) hz]; exact h.2.1, by rw [hb.frozen (p := ⟨H, 0, none⟩) hz]; exact h.2.2.1, by rw [hb.frozen (p := ⟨H, 1, none⟩) hz]; exact h.2.2.2⟩
theorem Box.new (w : World) (x y : Value) (t : TypeId) : Box (w.alloc (.cells #[x, y] t)) w.heap.size x y := by
  unfold Box; simp [go_sem]
theorem Box.lt {w : World} {H : Nat} {x y : Value} (h : Box w H x y) : H < w.heap.size := by
  rcases Nat.lt_or_ge H w.heap.size with hl | hl
  · exact hl
  · have := h.1; simp [World.cell?, Array.getElem?_eq_none hl] at this
theorem Box.grown {w w' : World} {H : Nat} {x y : Value} {row : Option Nat} (h : Box w H x y) (hg : w.grownBy w' row) (hr : some H ≠ row) : Box w' H x y := by
  refine ⟨by rw [hg.cell_far ⟨H, 0, none⟩ h.lt hr]; exact h.1, by rw [hg.cell_far ⟨H, 1, none⟩ h.lt hr]; exact h.2.1, ?_, ?_⟩
  · rw [World.frozen?_of_block (w := w) (a := ⟨H, 0, none⟩) (hg.block H h.lt hr)]; exact h.2.2.1
  · rw [World.frozen?_of_block (w := w) (a := ⟨H, 1, none⟩) (hg.block H h.lt hr)]; exact h.2.2.2
theorem Box.set {w : World} {H : Nat} {x y : Value} (h : Box w H x y) (u v : Value) : Box ((w.setCell ⟨H, 0, none⟩ u).setCell ⟨H, 1, none⟩ v) H u v := by
  obtain ⟨a, b, c, d⟩ := h
  unfold Box
  simp [go_sem, a, b, c, d]
theorem app_box {w2 w5 : World} {O : Nat} {x y : Value} {obj : Obj} {row : Option Nat} (h : Box w2 O x y) (hg : (w2.alloc obj).grownBy w5 row) (hne : some O ≠ row) : Box w5 O x y :=
  (h.below ((Below.refl w2.heap.size w2).alloc (Nat.le_refl _) obj) h.lt).grown hg hne
theorem app_below {W : Nat} {w w2 w5 : World} {obj : Obj} {row : Option Nat} (hB : Below W w w2) (hW : W ≤ w2.heap.size) (hg : (w2.alloc obj).grownBy w5 row) (hr : ∀ j, row = some j → W ≤ j) : Below W w w5 :=
  (hB.alloc hW _).grown hg (by simp; omega) hr
theorem cell_lt {W : World} {O o : Nat} {x : Value} (h : W.cell? ⟨O, o, none⟩ = some x) : O < W.heap.size := by
  rcases Nat.lt_or_ge O W.heap.size with h1 | h1
  · exact h1
  · simp [World.cell?, h1] at h
/-- A set's cells. -/
def bv (l : List Bool) : List Value := l.map Value.bool
theorem there_set {w : World} {b o n : Nat} (h : w.there b o n) (p : Addr) (v : Value) : (w.setCell p v).there b o n := by
  intro j hj
  obtain ⟨h1, h2⟩ := h j hj
  refine ⟨?_, by rw [World.frozen?_setCell]; exact h2⟩
  obtain ⟨u, hu⟩ := Option.isSome_iff_exists.1 h1
  by_cases e : p = ⟨b, o + j, none⟩
  · subst e; rw [World.cell?_setCell_same _ _ _ hu]; rfl
  · rw [World.cell?_setCell_other _ _ _ _ e, hu]; rfl
/-- Ranges and room behind whatever is only new. -/
theorem range_below {w w' : World} {b o B : Nat} {cs : List Value} (hb : Below B w w') (hz : b < B) (h : w.rangeAt b o cs) : w'.rangeAt b o cs := fun j v hv => by
  rw [hb.cell (p := ⟨b, o + j, none⟩) hz]; exact h j v hv
theorem there_below {w w' : World} {b o n B : Nat} (hb : Below B w w') (hz : b < B) (h : w.there b o n) : w'.there b o n := fun j hj => by
  rw [hb.cell (p := ⟨b, o + j, none⟩) hz, hb.frozen (p := ⟨b, o + j, none⟩) hz]; exact h j hj
theorem range_new {w : World} {C : Array Value} {t : TypeId} : (w.alloc (.cells C t)).rangeAt w.heap.size 0 C.toList := by
  have := World.rangeAt_of_block (heap_alloc_new w (.cells C t)) 0 C.size
  simpa using this
theorem there_new {w : World} {C : Array Value} {t : TypeId} {n : Nat} (hn : n ≤ C.size) : (w.alloc (.cells C t)).there w.heap.size 0 n := by
  intro j hj
  refine ⟨?_, ?_⟩
  · rw [Nat.zero_add, World.cell?_alloc_new]; simp; omega
  · simp [go_sem]
theorem below_setCells {B : Nat} {w : World} (b : Nat) : ∀ (vs : List Value) (o : Nat) (w' : World), Below B w w' → B ≤ b → Below B w (w'.setCells b o vs)
  | [], _, _, h, _ => h
  | v :: r, o, _, h, hb => below_setCells b r (o + 1) _ (h.setCell (p := ⟨b, o, none⟩) hb v) hb
theorem results_mid {fn : Func} {P : Program} {p : Tmp} {ty : TypeId} (h : fn.results = #[.cell p ty]) (tmps : Array Value) (w : World) (b : Nat) (cs : List Value) (d : TypeDesc) (ha : tmps.getD p undef = .pointer (some ⟨b, 0, none⟩)) (hc : w.rangeAt b 0 cs)
    (hu : P.underlying ty = some d) (hd : d.isRow = true) (hi : (P.info? ty).map (·.size) = some cs.length) : (results fn tmps).run P w = .ok (.agg cs.toArray) w := by
  simp only [results, h]
  have hl := run_loadVar_mid (P := P) w b 0 ty cs d hc hu hd hi
  have ha' : tmps[p]?.getD undef = .pointer (some ⟨b, 0, none⟩) := by simpa using ha
  simp [ha', asAddr, hl]
end Go.Proofs.Ytnboajhcjgcpfaa
