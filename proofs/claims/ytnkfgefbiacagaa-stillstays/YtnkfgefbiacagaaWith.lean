/-
  The contract of runs.with: a new list; nothing that was there is written.
-/
import Derived.Test.YtnkfgefbiacagaaRowz
namespace Go.Proofs.Ytnkfgefbiacagaa
open Go.ChangeShapes Go.WideShapes Go.ChangeAt Go.RowKit
attribute [local go_sem ↓] Go.wp_at_zero Go.wp_at_succ

/-- A box of two cells that may be written. -/
def Box (w : World) (H : Nat) (x y : Value) : Prop := w.cell? ⟨H, 0, none⟩ = some x ∧ w.cell? ⟨H, 1, none⟩ = some y ∧ w.frozen? ⟨H, 0, none⟩ = false ∧ w.frozen? ⟨H, 1, none⟩ = false

theorem Box.below {w w' : World} {H B : Nat} {x y : Value} (h : Box w H x y) (hb : Below B w w') (hz : H < B) : Box w' H x y :=
  ⟨by rw [hb.cell (p := ⟨H, 0, none⟩) hz]; exact h.1, by rw [hb.cell (p := ⟨H, 1, none⟩) hz]; exact h.2.1, by rw [hb.frozen (p := ⟨H, 0, none⟩) hz]; exact h.2.2.1, by rw [hb.frozen (p := ⟨H, 1, none⟩) hz]; exact h.2.2.2⟩
theorem Box.new (w : World) (x y : Value) (t : TypeId) : Box (w.alloc (.cells #[x, y] t)) w.heap.size x y := by
  unfold Box; simp [go_sem]
theorem Box.lt {w : World} {H : Nat} {x y : Value} (h : Box w H x y) : H < w.heap.size := by
  rcases Nat.lt_or_ge H w.heap.size with hl | hl
  · exact hl
  · have := h.1; simp [World.cell?, Array.getElem?_eq_none hl] at this
theorem Box.grown {w w' : World} {H : Nat} {x y : Value} {row : Option Nat} (h : Box w H x y) (hg : w.grownBy w' row) (hr : some H ≠ row) : Box w' H x y := by
  refine ⟨by rw [hg.cell_far ⟨H, 0, none⟩ h.lt hr]; exact h.1, by rw [hg.cell_far ⟨H, 1, none⟩ h.lt hr]; exact h.2.1, ?_, ?_⟩
  · rw [World.frozen?_of_block (w := w) (a := ⟨H, 0, none⟩) (hg.block H h.lt hr)]; exact h.2.2.1
  · rw [World.frozen?_of_block (w := w) (a := ⟨H, 1, none⟩) (hg.block H h.lt hr)]; exact h.2.2.2

theorem touch_t (f n g m : Int) (w : World) (h : Wh (f, n)) (k : Wh (g, m)) (ht : touchD (f, n) (g, m)) :
    Calls Try.prog 36 #[.agg #[.int .i64 f, .int .i64 n], .agg #[.int .i64 g, .int .i64 m]] w fun e w' => e = .returned (.bool true) ∧ Below w.heap.size w w' := by
  obtain ⟨h1, h2, h3⟩ := h; obtain ⟨k1, k2, k3⟩ := k; obtain ⟨t1, t2⟩ := ht
  simp only at *
  have := touch_yes f n g m w h1 h2 h3 k1 k2 k3 t1
  rwa [decide_eq_true t2] at this
theorem touch_f (f n g m : Int) (w : World) (h : Wh (f, n)) (k : Wh (g, m)) (ht : ¬ touchD (f, n) (g, m)) :
    Calls Try.prog 36 #[.agg #[.int .i64 f, .int .i64 n], .agg #[.int .i64 g, .int .i64 m]] w fun e w' => e = .returned (.bool false) ∧ Below w.heap.size w w' := by
  obtain ⟨h1, h2, h3⟩ := h; obtain ⟨k1, k2, k3⟩ := k; unfold touchD at ht
  simp only at *
  by_cases t1 : f ≤ g + m
  · have := touch_yes f n g m w h1 h2 h3 k1 k2 k3 t1
    rwa [decide_eq_false (by omega)] at this
  · exact touch_c f n g m w h1 h2 h3 k1 k2 k3 (by omega)
theorem join_t (f n g m : Int) (w : World) (h : Wh (f, n)) (k : Wh (g, m)) (ht : touchD (f, n) (g, m)) :
    Calls Try.prog 37 #[.agg #[.int .i64 f, .int .i64 n], .agg #[.int .i64 g, .int .i64 m]] w fun e w' => e = .returned (.tuple #[.agg #[.int .i64 (joinS (f, n) (g, m)).1, .int .i64 (joinS (f, n) (g, m)).2], .bool true]) ∧ Below w.heap.size w w' := by
  obtain ⟨h1, h2, h3⟩ := h; obtain ⟨k1, k2, k3⟩ := k; obtain ⟨t1, t2⟩ := ht
  simp only at *
  exact join_yes f n g m _ _ w h1 h2 h3 k1 k2 k3 t1 t2 rfl rfl (by unfold joinS; simp only; split <;> omega) (by unfold joinS; simp only; split <;> omega) (by split <;> omega) (by split <;> omega)

theorem Box.set {w : World} {H : Nat} {x y : Value} (h : Box w H x y) (u v : Value) : Box ((w.setCell ⟨H, 0, none⟩ u).setCell ⟨H, 1, none⟩ v) H u v := by
  obtain ⟨a, b, c, d⟩ := h
  unfold Box
  simp [go_sem, a, b, c, d]

theorem own_set {w : World} {base : Nat} {v : Value} {n : Nat} {xs : List Value} (h : w.ownsRow base 41 2 v n xs) {a : Addr} (ha : a.block < base) (u : Value) : (w.setCell a u).ownsRow base 41 2 v n xs := by
  refine ⟨h.1, ?_⟩
  rcases h.2 with h | ⟨g, cap, cur, hv, hb, hc, hr⟩
  · exact .inl h
  · exact .inr ⟨g, cap, cur, hv, hb, by rw [Below.heap_setCell w a u g (by omega)]; exact hc, hr⟩

theorem own_mono {w : World} {base base' : Nat} {v : Value} {n : Nat} {xs : List Value} (h : w.ownsRow base 41 2 v n xs) (hb : base' ≤ base) : w.ownsRow base' 41 2 v n xs := by
  refine ⟨h.1, ?_⟩
  rcases h.2 with h0 | ⟨g, cap, cur, hv, hg, hr⟩
  · exact .inl h0
  · exact .inr ⟨g, cap, cur, hv, Nat.le_trans hb hg, hr⟩
theorem app_box {w2 w5 : World} {O : Nat} {x y : Value} {obj : Obj} {row : Option Nat} (h : Box w2 O x y) (hg : (w2.alloc obj).grownBy w5 row) (hne : some O ≠ row) : Box w5 O x y :=
  (h.below ((Below.refl w2.heap.size w2).alloc (Nat.le_refl _) obj) h.lt).grown hg hne
theorem app_below {W : Nat} {w w2 w5 : World} {obj : Obj} {row : Option Nat} (hB : Below W w w2) (hW : W ≤ w2.heap.size) (hg : (w2.alloc obj).grownBy w5 row) (hr : ∀ j, row = some j → W ≤ j) : Below W w w5 :=
  (hB.alloc hW _).grown hg (by simp; omega) hr

/-- What a round of 'with' has behind a call that is only new: the boxes of s and o, what was laid. -/
theorem with_carry {w wr w1 : World} {p q f n : Value} {out : Value} {outs : List Sp} (hb : Below (wr.alloc (.cells #[p, q] 41)).heap.size (wr.alloc (.cells #[p, q] 41)) w1)
    (hB : Below w.heap.size w wr) (hs : Box wr w.heap.size f n) (hown : wr.ownsRow (w.heap.size + 1) 41 2 out outs.length (spansV outs)) :
    Box w1 w.heap.size f n ∧ Box w1 wr.heap.size p q ∧ w1.ownsRow (w.heap.size + 1) 41 2 out outs.length (spansV outs) ∧ Below w.heap.size w w1 ∧ wr.heap.size < w1.heap.size ∧ w.heap.size < wr.heap.size := by
  have hlt := hs.lt
  have hba : Below wr.heap.size wr w1 := ((Below.refl _ _).alloc (Nat.le_refl _) _).trans (hb.mono (by simp))
  exact ⟨hs.below hba hlt, (Box.new wr p q 41).below hb (by simp), own_below hown hba, hB.trans (hba.mono hB.size), by have := hb.size; simp at this; omega, hlt⟩

set_option maxRecDepth 100000 in
theorem with_some (ps : List Sp) (s : Sp) (g o c : Nat) (w : World) (h64 : ps.length ≤ 64) (hg : g < w.heap.size) (hc : Hid (Cells w g o ps)) (hw : Hid (∀ p ∈ ps, Wh p)) (hs : Hid (Wh s)) :
    Calls Try.prog 31 #[.slice (some ⟨g, o, none⟩) ps.length c, .agg #[.int .i64 s.1, .int .i64 s.2]] w fun e w' => ∃ v, e = .returned v ∧ w'.ownsRow w.heap.size 41 2 v (withG ps false s).length (spansV (withG ps false s)) ∧ Below w.heap.size w w' := by
  obtain ⟨i0, hi0, hz0', hz1', hz2'⟩ := info_parts Try.info41
  go_enter Try.func31, Try.ntmps31
  go_wp2_with fail
  go_loopw [5, 6, 11] (fun out lv iv wr => ∃ (i : Nat) (outs : List Sp) (laid : Bool) (s' : Sp), i ≤ ps.length ∧ iv = .int .i64 i ∧ lv = .bool laid ∧ wr.ownsRow (w.heap.size + 1) 41 2 out outs.length (spansV outs) ∧ outs.length ≤ 2 * i ∧ Box wr w.heap.size (.int .i64 s'.1) (.int .i64 s'.2) ∧ Wh s' ∧ outs ++ withG (ps.drop i) laid s' = withG ps false s ∧ Below w.heap.size w wr) (fun _ _ iv _ => ps.length - (intOf iv).toNat)
  case atStart => exact ⟨0, [], false, s, Nat.zero_le _, rfl, rfl, World.ownsRow_nil _ _ _ _, Nat.zero_le _, Box.new _ _ _ _, hs.out, by simp, (Below.refl _ _).alloc (Nat.le_refl _) _⟩
  case round =>
    obtain ⟨i, outs, laid, ⟨f', n'⟩, hi, rfl, rfl, hown, hol, ⟨r0, r1, z0, z1⟩, hws, heq, hB⟩ := hrel
    have i0' : (0 : Int) ≤ (i : Int) := Int.natCast_nonneg _
    by_cases hlt : i < ps.length
    · obtain ⟨⟨p, q⟩, hp⟩ : ∃ p, ps[i]? = some p := ⟨ps[i]'hlt, by simp [hlt]⟩
      have hd : ps.drop i = (p, q) :: ps.drop (i + 1) := by rw [List.drop_eq_getElem_cons hlt]; congr 1; simp [hlt] at hp; exact hp
      have hwp : Wh (p, q) := hw.out _ (List.mem_of_getElem? hp)
      have ha := (hc.out.below hB hg) i _ hp
      have d0 := ha.1
      have d1 := ha.2
      have i1 : (i : Int) < (ps.length : Int) := by omega
      have hgr : g < wr.heap.size := Nat.lt_of_lt_of_le hg hB.size
      simp only at d0 d1 r0 r1
      have hzz : w.heap.size < wr.heap.size := Box.lt ⟨r0, r1, z0, z1⟩
      by_cases ht : touchD (p, q) (f', n')
      · have heq' : Hid (outs ++ withG (ps.drop (i + 1)) laid (joinS (p, q) (f', n')) = withG ps false s) := by rw [← heq, hd]; simp [Hid, withG, ht]
        have hjw : Hid (Wh (joinS (p, q) (f', n'))) := join_whole hwp hws ht
        have hwp' : Hid (Wh (p, q)) := hwp
        have hws' : Hid (Wh (f', n')) := hws
        have ht' : Hid (touchD (p, q) (f', n')) := ht
        clear ha hp hd hws hwp ht heq
        go_wp2_with fail
        refine (touch_t _ _ _ _ _ hwp'.out hws'.out ht'.out).mono ?_; rintro e w1 ⟨rfl, hb⟩
        obtain ⟨⟨a0, a1, a2, a3⟩, ⟨b0, b1, b2, b3⟩, hown1, hB1, hz1, hz0⟩ := with_carry hb hB ⟨r0, r1, z0, z1⟩ hown
        clear hb d0 d1 r0 r1 z0 z1 hown hB
        generalize wr.heap.size = O at *
        go_wp2_with fail
        refine (join_t _ _ _ _ _ hwp'.out hws'.out ht'.out).mono ?_; rintro e w2 ⟨rfl, hb2⟩
        have hz2 : w.heap.size < w1.heap.size := by omega
        have hown2 := own_below hown1 hb2
        have hB2 := below_step hB1 hb2
        obtain ⟨c0, c1, c2, c3⟩ := Box.below (H := w.heap.size) ⟨a0, a1, a2, a3⟩ hb2 hz2
        clear a0 a1 a2 a3 b0 b1 b2 b3 hb2 hown1 hB1
        go_wp2
        go_roundw
        case rel =>
          refine ⟨i + 1, outs, laid, joinS (p, q) (f', n'), by omega, by go_num, rfl, own_set (own_set hown2 (by show w.heap.size < _; omega) _) (by show w.heap.size < _; omega) _, by omega, Box.set ⟨c0, c1, c2, c3⟩ _ _, hjw.out, heq'.out, (hB2.setCell (Nat.le_refl _) _).setCell (Nat.le_refl _) _⟩
        case measure => simp [intOf]; omega
      · have hob := fun j hj => hown.lt j hj
        have hwp' : Hid (Wh (p, q)) := hwp
        have hws' : Hid (Wh (f', n')) := hws
        have ht' : Hid (¬ touchD (p, q) (f', n')) := ht
        cases laid with
        | false =>
          by_cases hbef : f' + n' < p
          · have heq' : Hid ((outs ++ [(f', n')] ++ [(p, q)]) ++ withG (ps.drop (i + 1)) true (f', n') = withG ps false s) := by rw [← heq, hd]; simp [Hid, withG, ht, hbef]
            clear ha hp hd hws hwp ht heq
            go_wp2_with fail
            refine (touch_f _ _ _ _ _ hwp'.out hws'.out ht'.out).mono ?_; rintro e w1 ⟨rfl, hb⟩
            obtain ⟨⟨a0, a1, a2, a3⟩, ⟨b0, b1, b2, b3⟩, hown1, hB1, hz1, hz0⟩ := with_carry hb hB ⟨r0, r1, z0, z1⟩ hown
            clear hb d0 d1 r0 r1 z0 z1 hown hB
            generalize wr.heap.size = O at *
            have hz2 : w.heap.size < w1.heap.size := by omega
            go_wp2_with fail
            go_region_held3 (fun w' => w'.cell? ⟨w.heap.size, 0, none⟩ = some (.int .i64 f') ∧ w'.cell? ⟨w.heap.size, 1, none⟩ = some (.int .i64 n') ∧ w'.cell? ⟨O, 0, none⟩ = some (.int .i64 p) ∧ w'.cell? ⟨O, 1, none⟩ = some (.int .i64 q) ∧ Below w1.heap.size w1 w')
              (first
                | exact ⟨a0, a1, b0, b1, (Below.refl _ _).drew⟩
                | exact keepPQ hz2 hz1 a0 a1 b0 b1 (below_drew hb2))
              (first
                | (go_at_call 28; refine (end_yes _ _ _ hws'.out).mono ?_; rintro e w2 ⟨rfl, hb2⟩))
            all_goals
              have hb2' := below_drew hb2
              have hz3 : w1.heap.size ≤ w2.heap.size := hb2'.size
              have hown2 := own_below hown1 hb2'
              have hB2 := below_step hB1 hb2'
              obtain ⟨c0, c1, c2, c3⟩ := Box.below (H := w.heap.size) ⟨a0, a1, a2, a3⟩ hb2' hz2
              obtain ⟨e0, e1, e2, e3⟩ := Box.below (H := O) ⟨b0, b1, b2, b3⟩ hb2' hz1
              clear a0 a1 a2 a3 b0 b1 b2 b3 hb2 hb2' hown1 hB1
              go_wp2_with (first
                | (at_builtin; refine wpList_append_lies _ rfl _ _ 35 rfl (w.heap.size + 1) 41 i0 (.agg #[.int .i64 0, .int .i64 0]) 2 16 Try.underlying35 hi0 hz0' hz1' hz2' rfl (by decide) _ _ _ rfl (hown2.alloc _) ⟨w2.heap.size, 0, none⟩ 1 1 [.int .i64 f', .int .i64 n'] rfl rfl (World.news_of_block (cs := #[.int .i64 f', .int .i64 n']) (t := 41) (fr := (0, 0)) (heap_alloc_new w2 _)) (by simp [Value.oneCell']) (by decide) (by unfold maxLen; omega) (by omega) (by simp; omega) (w2.heap.size + 1) (by simp) ?_; intro g5 cap5 w5 hown5 hgrow5 hat5 hlt5; obtain ⟨x0, x1, x2, x3⟩ := app_box ⟨e0, e1, e2, e3⟩ hgrow5 (fun h => by have := hob O h.symm; omega); have y5 := app_box ⟨c0, c1, c2, c3⟩ hgrow5 (fun h => by have := hob _ h.symm; omega); have hB5 := app_below hB2 (by omega) hgrow5 (fun j hj => by have := hob j hj; omega); have hz5 : w2.heap.size < w5.heap.size := (by have := hgrow5.size; simp at this; omega); clear e0 e1 e2 e3 c0 c1 c2 c3 hgrow5 hown2 hB2)
                | (at_builtin; refine wpList_append_lies _ rfl _ _ 35 rfl (w.heap.size + 1) 41 i0 (.agg #[.int .i64 0, .int .i64 0]) 2 16 Try.underlying35 hi0 hz0' hz1' hz2' rfl (by decide) _ _ _ rfl (hown5.alloc _) ⟨w5.heap.size, 0, none⟩ 1 1 [.int .i64 p, .int .i64 q] rfl rfl (World.news_of_block (cs := #[.int .i64 p, .int .i64 q]) (t := 41) (fr := (0, 0)) (heap_alloc_new w5 _)) (by simp [Value.oneCell']) (by decide) (by unfold maxLen; omega) (by omega) (by simp; omega) (w5.heap.size + 1) (by simp) ?_; intro g6 cap6 w6 hown6 hgrow6 hat6 hlt6; have y6 := app_box y5 hgrow6 (fun h => by have := hown5.lt _ h.symm; omega); have hB6 := app_below hB5 (by omega) hgrow6 (fun j hj => by have := hown5.lt j hj; omega)))
              go_roundw
              case rel =>
                refine ⟨i + 1, outs ++ [(f', n')] ++ [(p, q)], true, (f', n'), by omega, by go_num, rfl, ?_, by simp; omega, y6, hws'.out, heq'.out, hB6⟩
                rw [spansV_append, spansV_append]; simpa [spansV] using hown6
              case measure => simp [intOf]; omega
          · have heq' : Hid ((outs ++ [(p, q)]) ++ withG (ps.drop (i + 1)) false (f', n') = withG ps false s) := by rw [← heq, hd]; simp [Hid, withG, ht, hbef]
            clear ha hp hd hws hwp ht heq
            go_wp2_with fail
            refine (touch_f _ _ _ _ _ hwp'.out hws'.out ht'.out).mono ?_; rintro e w1 ⟨rfl, hb⟩
            obtain ⟨⟨a0, a1, a2, a3⟩, ⟨b0, b1, b2, b3⟩, hown1, hB1, hz1, hz0⟩ := with_carry hb hB ⟨r0, r1, z0, z1⟩ hown
            clear hb d0 d1 r0 r1 z0 z1 hown hB
            generalize wr.heap.size = O at *
            have hz2 : w.heap.size < w1.heap.size := by omega
            go_wp2_with fail
            go_region_held3 (fun w' => w'.cell? ⟨w.heap.size, 0, none⟩ = some (.int .i64 f') ∧ w'.cell? ⟨w.heap.size, 1, none⟩ = some (.int .i64 n') ∧ w'.cell? ⟨O, 0, none⟩ = some (.int .i64 p) ∧ w'.cell? ⟨O, 1, none⟩ = some (.int .i64 q) ∧ Below w1.heap.size w1 w')
              (first
                | exact ⟨a0, a1, b0, b1, (Below.refl _ _).drew⟩
                | exact keepPQ hz2 hz1 a0 a1 b0 b1 (below_drew hb2))
              (first
                | (go_at_call 28; refine (end_yes _ _ _ hws'.out).mono ?_; rintro e w2 ⟨rfl, hb2⟩))
            all_goals
              have hb2' := below_drew hb2
              have hz3 : w1.heap.size ≤ w2.heap.size := hb2'.size
              have hown2 := own_below hown1 hb2'
              have hB2 := below_step hB1 hb2'
              obtain ⟨c0, c1, c2, c3⟩ := Box.below (H := w.heap.size) ⟨a0, a1, a2, a3⟩ hb2' hz2
              obtain ⟨e0, e1, e2, e3⟩ := Box.below (H := O) ⟨b0, b1, b2, b3⟩ hb2' hz1
              clear a0 a1 a2 a3 b0 b1 b2 b3 hb2 hb2' hown1 hB1
              go_wp2_with (at_builtin; refine wpList_append_lies _ rfl _ _ 35 rfl (w.heap.size + 1) 41 i0 (.agg #[.int .i64 0, .int .i64 0]) 2 16 Try.underlying35 hi0 hz0' hz1' hz2' rfl (by decide) _ _ _ rfl (hown2.alloc _) ⟨w2.heap.size, 0, none⟩ 1 1 [.int .i64 p, .int .i64 q] rfl rfl (World.news_of_block (cs := #[.int .i64 p, .int .i64 q]) (t := 41) (fr := (0, 0)) (heap_alloc_new w2 _)) (by simp [Value.oneCell']) (by decide) (by unfold maxLen; omega) (by omega) (by simp; omega) (w2.heap.size + 1) (by simp) ?_; intro g5 cap5 w5 hown5 hgrow5 hat5 hlt5)
              have y5 := app_box ⟨c0, c1, c2, c3⟩ hgrow5 (fun h => by have := hob _ h.symm; omega)
              have hB5 := app_below hB2 (by omega) hgrow5 (fun j hj => by have := hob j hj; omega)
              go_roundw
              case rel =>
                refine ⟨i + 1, outs ++ [(p, q)], false, (f', n'), by omega, by go_num, rfl, ?_, by simp; omega, y5, hws'.out, heq'.out, hB5⟩
                rw [spansV_append]; simpa [spansV] using hown5
              case measure => simp [intOf]; omega
        | true =>
          have heq' : Hid ((outs ++ [(p, q)]) ++ withG (ps.drop (i + 1)) true (f', n') = withG ps false s) := by rw [← heq, hd]; simp [Hid, withG, ht]
          clear ha hp hd hws hwp ht heq
          go_wp2_with fail
          refine (touch_f _ _ _ _ _ hwp'.out hws'.out ht'.out).mono ?_; rintro e w1 ⟨rfl, hb⟩
          obtain ⟨⟨a0, a1, a2, a3⟩, ⟨b0, b1, b2, b3⟩, hown1, hB1, hz1, hz0⟩ := with_carry hb hB ⟨r0, r1, z0, z1⟩ hown
          clear hb d0 d1 r0 r1 z0 z1 hown hB
          generalize wr.heap.size = O at *
          have hz2 : w.heap.size < w1.heap.size := by omega
          go_wp2_with fail
          go_quiet (fail)
          have hb2' : Below w1.heap.size w1 (w1.drewN nq) := ⟨rfl, rfl, rfl, Nat.le_refl _, fun _ _ => rfl⟩
          generalize w1.drewN nq = w2 at *
          have hz3 : w1.heap.size ≤ w2.heap.size := hb2'.size
          have hown2 := own_below hown1 hb2'
          have hB2 := below_step hB1 hb2'
          obtain ⟨c0, c1, c2, c3⟩ := Box.below (H := w.heap.size) ⟨a0, a1, a2, a3⟩ hb2' hz2
          obtain ⟨e0, e1, e2, e3⟩ := Box.below (H := O) ⟨b0, b1, b2, b3⟩ hb2' hz1
          clear a0 a1 a2 a3 b0 b1 b2 b3 hb2' hown1 hB1
          go_wp2_with (at_builtin; refine wpList_append_lies _ rfl _ _ 35 rfl (w.heap.size + 1) 41 i0 (.agg #[.int .i64 0, .int .i64 0]) 2 16 Try.underlying35 hi0 hz0' hz1' hz2' rfl (by decide) _ _ _ rfl (hown2.alloc _) ⟨w2.heap.size, 0, none⟩ 1 1 [.int .i64 p, .int .i64 q] rfl rfl (World.news_of_block (cs := #[.int .i64 p, .int .i64 q]) (t := 41) (fr := (0, 0)) (heap_alloc_new w2 _)) (by simp [Value.oneCell']) (by decide) (by unfold maxLen; omega) (by omega) (by simp; omega) (w2.heap.size + 1) (by simp) ?_; intro g5 cap5 w5 hown5 hgrow5 hat5 hlt5)
          have y5 := app_box ⟨c0, c1, c2, c3⟩ hgrow5 (fun h => by have := hob _ h.symm; omega)
          have hB5 := app_below hB2 (by omega) hgrow5 (fun j hj => by have := hob j hj; omega)
          go_roundw
          case rel =>
            refine ⟨i + 1, outs ++ [(p, q)], true, (f', n'), by omega, by go_num, rfl, ?_, by simp; omega, y5, hws'.out, heq'.out, hB5⟩
            rw [spansV_append]; simpa [spansV] using hown5
          case measure => simp [intOf]; omega
    · have hdr : ps.drop i = [] := List.drop_eq_nil_of_le (by omega)
      have i1 : ¬ (i : Int) < (ps.length : Int) := by omega
      have hzz : w.heap.size < wr.heap.size := Box.lt ⟨r0, r1, z0, z1⟩
      have hob := fun j hj => hown.lt j hj
      rw [hdr] at heq
      simp only at r0 r1
      cases laid with
      | false =>
        have heq' : Hid (outs ++ [(f', n')] = withG ps false s) := (show outs ++ [(f', n')] = withG ps false s from by simpa [withG] using heq)
        clear heq hdr hws
        go_wp2_with (at_builtin; refine wpList_append_lies _ rfl _ _ 35 rfl (w.heap.size + 1) 41 i0 (.agg #[.int .i64 0, .int .i64 0]) 2 16 Try.underlying35 hi0 hz0' hz1' hz2' rfl (by decide) _ _ _ rfl (hown.alloc _) ⟨wr.heap.size, 0, none⟩ 1 1 [.int .i64 f', .int .i64 n'] rfl rfl (World.news_of_block (cs := #[.int .i64 f', .int .i64 n']) (t := 41) (fr := (0, 0)) (heap_alloc_new wr _)) (by simp [Value.oneCell']) (by decide) (by unfold maxLen; omega) (by omega) (by simp; omega) (wr.heap.size + 1) (by simp) ?_; intro g5 cap5 w5 hown5 hgrow5 hat5 hlt5)
        have hB5 := app_below hB (by omega) hgrow5 (fun j hj => by have := hob j hj; omega)
        go_ret
        rw [← heq'.out]
        refine ⟨_, rfl, own_mono ?_ (Nat.le_succ _), hB5⟩
        rw [spansV_append]; simpa [spansV] using hown5
      | true =>
        have heq' : Hid (outs = withG ps false s) := (show outs = withG ps false s from by simpa [withG] using heq)
        clear heq hdr hws
        go_wp2
        go_ret
        rw [← heq'.out]
        exact ⟨_, rfl, own_mono hown (Nat.le_succ _), hB⟩

set_option maxRecDepth 100000 in
theorem with_nil (s : Sp) (a : Option Addr) (c : Nat) (w : World) :
    Calls Try.prog 31 #[.slice a 0 c, .agg #[.int .i64 s.1, .int .i64 s.2]] w fun e w' => ∃ v, e = .returned v ∧ w'.ownsRow w.heap.size 41 2 v 1 (spansV [s]) ∧ Below w.heap.size w w' := by
  obtain ⟨i0, hi0, hz0', hz1', hz2'⟩ := info_parts Try.info41
  go_enter Try.func31, Try.ntmps31
  go_wp2_with fail
  go_loopw [5, 6, 11] (fun out lv iv wr => out = .slice none 0 0 ∧ lv = .bool false ∧ iv = .int .i64 0 ∧ Box wr w.heap.size (.int .i64 s.1) (.int .i64 s.2) ∧ Below w.heap.size w wr) (fun _ _ _ _ => 0)
  case atStart => exact ⟨rfl, rfl, rfl, Box.new _ _ _ _, (Below.refl _ _).alloc (Nat.le_refl _) _⟩
  case round =>
    obtain ⟨rfl, rfl, rfl, ⟨r0, r1, z0, z1⟩, hB⟩ := hrel
    have hzz : w.heap.size < wr.heap.size := Box.lt ⟨r0, r1, z0, z1⟩
    have hown : wr.ownsRow (w.heap.size + 1) 41 2 (.slice none 0 0) 0 [] := World.ownsRow_nil _ _ _ _
    obtain ⟨f', n'⟩ := s
    simp only at r0 r1
    go_wp2_with (at_builtin; refine wpList_append_lies _ rfl _ _ 35 rfl (w.heap.size + 1) 41 i0 (.agg #[.int .i64 0, .int .i64 0]) 2 16 Try.underlying35 hi0 hz0' hz1' hz2' rfl (by decide) _ _ _ rfl (hown.alloc _) ⟨wr.heap.size, 0, none⟩ 1 1 [.int .i64 f', .int .i64 n'] rfl rfl (World.news_of_block (cs := #[.int .i64 f', .int .i64 n']) (t := 41) (fr := (0, 0)) (heap_alloc_new wr _)) (by simp [Value.oneCell']) (by decide) (by unfold maxLen; omega) (by omega) (by simp; omega) (wr.heap.size + 1) (by simp) ?_; intro g5 cap5 w5 hown5 hgrow5 hat5 hlt5)
    have hB5 := app_below hB (by omega) hgrow5 nofun
    go_ret
    refine ⟨_, rfl, own_mono ?_ (Nat.le_succ _), hB5⟩
    simpa [spansV] using hown5

/-- runs.with of a list of whole spans and a whole span. -/
theorem with_any {w : World} {v : Value} {ps : List Sp} (h : Row w v ps) (s : Sp) (hc : Canon ps) (hs : Wh s) :
    Calls Try.prog 31 #[v, .agg #[.int .i64 s.1, .int .i64 s.2]] w fun e w' => ∃ v, e = .returned v ∧ Row w' v (withG ps false s) ∧ T49 w' v ∧ Below w.heap.size w w' := by
  by_cases e : ps = []
  · subst e
    obtain ⟨a, c, rfl⟩ := h.nil
    exact (with_nil s a c w).mono fun e w' ⟨v, he, ho, hb⟩ => ⟨v, he, own_row (ps := [s]) ho, own_t49 ho, hb⟩
  · rcases h with ⟨_, h0⟩ | ⟨g, o, cap, rfl, hg, hcs⟩
    · exact absurd h0 e
    have h64 : ps.length ≤ 64 := by have := canon_length hc; have := (cnt_bound hc).2; omega
    exact (with_some ps s g o cap w h64 hg hcs (canon_whole hc) hs).mono fun e w' ⟨v, he, ho, hb⟩ => ⟨v, he, own_row ho, own_t49 ho, hb⟩
end Go.Proofs.Ytnkfgefbiacagaa
