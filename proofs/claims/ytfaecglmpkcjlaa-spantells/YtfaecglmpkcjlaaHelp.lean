/-
  Boxes, owned rows, what Less and Meet and Join tell: helpers.
-/
import Derived.Test.YtfaecglmpkcjlaaRowz
import Derived.Test.YtfaecglmpkcjlaaSmall
namespace Go.Proofs.Ytfaecglmpkcjlaa
open Go.ChangeShapes Go.WideShapes Go.ChangeAt Go.RowKit
attribute [local go_sem ↓] Go.wp_at_zero Go.wp_at_succ

/-- A box of two cells that may be written. -/
def Box (w : World) (H : Nat) (x y : Value) : Prop := w.cell? ⟨H, 0, none⟩ = some x ∧ w.cell? ⟨H, 1, none⟩ = some y ∧ w.frozen? ⟨H, 0, none⟩ = false ∧ w.frozen? ⟨H, 1, none⟩ = false

theorem Box.below {w w' : World} {H B : Nat} {x y : Value} (h : Box w H x y) (hb : Below B w w') (hz : H < B) : Box w' H x y :=
  ⟨by rw [hb.cell (p := ⟨H, 0, none⟩) hz]; exact h.1, by rw [hb.cell (p := ⟨H, 1, none⟩) hz]; exact h.2.1, by rw [hb.frozen (p := ⟨H, 0, none⟩) hz]; exact h.2.2.1, by rw [hb.frozen (p := ⟨H, 1, none⟩) hz]; exact h.2.2.2⟩
theorem Box.new (w : World) (x y : Value) (t : TypeId) : Box (w.alloc (.cells #[x, y] t)) w.heap.size x y := by
  unfold Box; simp [go_sem]
theorem Box.lt {w : World} {H : Nat} {x y : Value} (h : Box w H x y) : H < w.heap.size := by
  rcases Nat.lt_or_ge H w.heap.size with hl | hl
  · exact hl
  · have := h.1; simp [World.cell?, Array.getElem?_eq_none hl] at this
theorem Box.grown {w w' : World} {H : Nat} {x y : Value} {row : Option Nat} (h : Box w H x y) (hg : w.grownBy w' row) (hr : some H ≠ row) : Box w' H x y := by
  refine ⟨by rw [hg.cell_far ⟨H, 0, none⟩ h.lt hr]; exact h.1, by rw [hg.cell_far ⟨H, 1, none⟩ h.lt hr]; exact h.2.1, ?_, ?_⟩
  · rw [World.frozen?_of_block (w := w) (a := ⟨H, 0, none⟩) (hg.block H h.lt hr)]; exact h.2.2.1
  · rw [World.frozen?_of_block (w := w) (a := ⟨H, 1, none⟩) (hg.block H h.lt hr)]; exact h.2.2.2

theorem touch_t (f n g m : Int) (w : World) (h : Wh (f, n)) (k : Wh (g, m)) (ht : touchD (f, n) (g, m)) :
    Calls Try.prog 16 #[.agg #[.int .i64 f, .int .i64 n], .agg #[.int .i64 g, .int .i64 m]] w fun e w' => e = .returned (.bool true) ∧ Below w.heap.size w w' := by
  obtain ⟨h1, h2, h3⟩ := h; obtain ⟨k1, k2, k3⟩ := k; obtain ⟨t1, t2⟩ := ht
  simp only at *
  have := touch_yes f n g m w h1 h2 h3 k1 k2 k3 t1
  rwa [decide_eq_true t2] at this
theorem touch_f (f n g m : Int) (w : World) (h : Wh (f, n)) (k : Wh (g, m)) (ht : ¬ touchD (f, n) (g, m)) :
    Calls Try.prog 16 #[.agg #[.int .i64 f, .int .i64 n], .agg #[.int .i64 g, .int .i64 m]] w fun e w' => e = .returned (.bool false) ∧ Below w.heap.size w w' := by
  obtain ⟨h1, h2, h3⟩ := h; obtain ⟨k1, k2, k3⟩ := k; unfold touchD at ht
  simp only at *
  by_cases t1 : f ≤ g + m
  · have := touch_yes f n g m w h1 h2 h3 k1 k2 k3 t1
    rwa [decide_eq_false (by omega)] at this
  · exact touch_c f n g m w h1 h2 h3 k1 k2 k3 (by omega)
theorem join_t (f n g m : Int) (w : World) (h : Wh (f, n)) (k : Wh (g, m)) (ht : touchD (f, n) (g, m)) :
    Calls Try.prog 8 #[.agg #[.int .i64 f, .int .i64 n], .agg #[.int .i64 g, .int .i64 m]] w fun e w' => e = .returned (.tuple #[.agg #[.int .i64 (joinS (f, n) (g, m)).1, .int .i64 (joinS (f, n) (g, m)).2], .bool true]) ∧ Below w.heap.size w w' := by
  obtain ⟨h1, h2, h3⟩ := h; obtain ⟨k1, k2, k3⟩ := k; obtain ⟨t1, t2⟩ := ht
  simp only at *
  exact join_yes f n g m _ _ w h1 h2 h3 k1 k2 k3 t1 t2 rfl rfl (by unfold joinS; simp only; split <;> omega) (by unfold joinS; simp only; split <;> omega) (by split <;> omega) (by split <;> omega)

theorem Box.set {w : World} {H : Nat} {x y : Value} (h : Box w H x y) (u v : Value) : Box ((w.setCell ⟨H, 0, none⟩ u).setCell ⟨H, 1, none⟩ v) H u v := by
  obtain ⟨a, b, c, d⟩ := h
  unfold Box
  simp [go_sem, a, b, c, d]

theorem own_set {w : World} {base : Nat} {v : Value} {n : Nat} {xs : List Value} (h : w.ownsRow base 23 2 v n xs) {a : Addr} (ha : a.block < base) (u : Value) : (w.setCell a u).ownsRow base 23 2 v n xs := by
  refine ⟨h.1, ?_⟩
  rcases h.2 with h | ⟨g, cap, cur, hv, hb, hc, hr⟩
  · exact .inl h
  · exact .inr ⟨g, cap, cur, hv, hb, by rw [Below.heap_setCell w a u g (by omega)]; exact hc, hr⟩

theorem own_mono {w : World} {base base' : Nat} {v : Value} {n : Nat} {xs : List Value} (h : w.ownsRow base 23 2 v n xs) (hb : base' ≤ base) : w.ownsRow base' 23 2 v n xs := by
  refine ⟨h.1, ?_⟩
  rcases h.2 with h0 | ⟨g, cap, cur, hv, hg, hr⟩
  · exact .inl h0
  · exact .inr ⟨g, cap, cur, hv, Nat.le_trans hb hg, hr⟩
theorem app_box {w2 w5 : World} {O : Nat} {x y : Value} {obj : Obj} {row : Option Nat} (h : Box w2 O x y) (hg : (w2.alloc obj).grownBy w5 row) (hne : some O ≠ row) : Box w5 O x y :=
  (h.below ((Below.refl w2.heap.size w2).alloc (Nat.le_refl _) obj) h.lt).grown hg hne
theorem app_below {W : Nat} {w w2 w5 : World} {obj : Obj} {row : Option Nat} (hB : Below W w w2) (hW : W ≤ w2.heap.size) (hg : (w2.alloc obj).grownBy w5 row) (hr : ∀ j, row = some j → W ≤ j) : Below W w w5 :=
  (hB.alloc hW _).grown hg (by simp; omega) hr

theorem canon_64 {ps : List Sp} (hc : Canon ps) : ps.length ≤ 64 := by have := canon_length hc; have := (cnt_bound hc).2; omega

/-- Integers of int64. -/
def Fits (l : List Sp) : Prop := ∀ p ∈ l, p.1 ≤ 9223372036854775807

theorem Row.slice {w : World} {v : Value} {ps : List Sp} (h : Row w v ps) : ∃ a c, v = .slice a ps.length c := by
  rcases h with ⟨⟨a, c, rfl⟩, rfl⟩ | ⟨g, o, cap, rfl, _⟩
  · exact ⟨_, _, rfl⟩
  · exact ⟨_, _, rfl⟩

theorem Cells.but {x : Nat} {u : Value} {w w' : World} {g o : Nat} {ps : List Sp} (h : Cells w g o ps) (hg : g < w.heap.size) (hx : w.heap[x]? = some (.cells #[u] 60 (0, 0))) (hb : But x w w') : Cells w' g o ps := by
  rcases Row.but (.inr ⟨g, o, 0, rfl, hg, h⟩) hx hb with ⟨_, rfl⟩ | ⟨g', o', c', he, _, hc⟩
  · intro i p hp; simp at hp
  · cases he; exact hc

theorem less_any (o s : Sp) (w : World) (ho : Wh o) (hf : s.1 ≤ 9223372036854775807) :
    Calls Try.prog 9 #[.agg #[.int .i64 o.1, .int .i64 o.2], .agg #[.int .i64 s.1, .int .i64 s.2]] w fun e w' => ∃ v, e = .returned v ∧ w'.ownsRow w.heap.size 23 2 v (lessS o s).length (spansV (lessS o s)) ∧ Below w.heap.size w w' := by
  obtain ⟨f, n⟩ := o; obtain ⟨g, m⟩ := s
  obtain ⟨h1, h2, h3⟩ := id ho
  simp only at h1 h2 h3 hf ⊢
  by_cases hs : Wh (g, m)
  · obtain ⟨k1, k2, k3⟩ := id hs
    simp only at k1 k2 k3
    by_cases hm : f < g + m ∧ g < f + n
    · have hl : lessS (f, n) (g, m) = (if f < g then [(f, g - f)] else []) ++ (if g + m < f + n then [(g + m, f + n - (g + m))] else []) := by
        simp only [lessS]; rw [if_pos ⟨hs, hm⟩]
      rw [hl]
      have ht := fun w => meet_some f n g m _ _ w h1 h2 h3 k1 k2 k3 rfl rfl (by split <;> split <;> omega) (by split <;> omega) (by split <;> omega)
      by_cases c1 : f < g
      · by_cases c2 : g + m < f + n
        · simp only [if_pos c1, if_pos c2] at ht ⊢
          simpa [spansV] using less_11 f n g m g (g + m) w h1 h2 h3 c1 (by omega) c2 ht
        · simp only [if_pos c1, if_neg c2] at ht ⊢
          simpa [spansV] using less_10 f n g m g (f + n) w h1 h2 h3 c1 (by omega) rfl ht
      · by_cases c2 : g + m < f + n
        · simp only [if_neg c1, if_pos c2] at ht ⊢
          simpa [spansV] using less_01 f n g m f (g + m) w h1 h2 h3 rfl (by omega) c2 ht
        · simp only [if_neg c1, if_neg c2] at ht ⊢
          simpa [spansV] using less_00 f n g m f (f + n) w h1 h2 h3 rfl (by omega) rfl ht
    · have hl : lessS (f, n) (g, m) = [(f, n)] := by
        simp only [lessS]; rw [if_neg fun h => hm h.2]
      rw [hl]
      simpa [spansV] using less_all f n g m w h1 h2 h3 fun w => meet_none f n g m _ _ w h1 h2 h3 k1 k2 k3 rfl rfl (by split <;> split <;> omega)
  · have hl : lessS (f, n) (g, m) = [(f, n)] := by
      simp only [lessS]; rw [if_neg fun h => hs h.1]
    rw [hl]
    simpa [spansV] using less_all f n g m w h1 h2 h3 fun w => meet_b f n g m w hf h1 h2 h3 hs

theorem own_slice {w : World} {base : Nat} {v : Value} {n : Nat} {xs : List Value} (h : w.ownsRow base 23 2 v n xs) : ∃ a c, v = .slice a n c := by
  rcases h.2 with ⟨rfl, rfl⟩ | ⟨g, cap, cur, hv, _⟩
  · exact ⟨_, _, rfl⟩
  · exact ⟨_, _, hv⟩

theorem own_room {w : World} {base : Nat} {v : Value} {n : Nat} {xs : List Value} (h : w.ownsRow base 23 2 v n xs) : (v = .slice none 0 0 ∧ n = 0) ∨ ∃ g c, v = .slice (some ⟨g, 0, none⟩) n c ∧ n ≤ c := by
  rcases h.2 with ⟨rfl, rfl⟩ | ⟨g, cap, cur, hv, _, _, hn, _⟩
  · exact .inl ⟨rfl, rfl⟩
  · exact .inr ⟨g, cap, hv, hn⟩
theorem Hid.intro {p : Prop} (h : p) : Hid p := h

theorem Row.sliced {w : World} {v : Value} {ps : List Sp} (h : Row w v ps) : ∃ a n c, v = .slice a n c := by
  obtain ⟨a, c, h⟩ := h.slice
  exact ⟨a, _, c, h⟩

theorem less_length (o s : Sp) : (lessS o s).length ≤ 2 := by
  unfold lessS; split <;> (try split) <;> (try split) <;> simp

end Go.Proofs.Ytfaecglmpkcjlaa
