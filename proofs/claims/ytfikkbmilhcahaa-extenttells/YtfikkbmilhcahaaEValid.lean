/-
  The contract of extent.Valid, of every tidy list.
-/
import Derived.Test.YtfikkbmilhcahaaECut
import Derived.Test.YtfikkbmilhcahaaSetMath
import Derived.BigQuiet
namespace Go.Proofs.Ytfikkbmilhcahaa
open Go.ChangeShapes Go.WideShapes Go.ChangeAt Go.RowKit
attribute [local go_sem ↓] Go.wp_at_zero Go.wp_at_succ

def fitsL (b : Int) (l : List Ex) : Bool := l.all fun x => decide (x.1 + x.2.1 ≤ b)
theorem on_no2 (a b : Ex) (w : World) (ha : Al a) (h : ¬ On a b) :
    Calls Try.prog 42 #[.agg #[.int .i64 a.1, .int .i64 a.2.1, .int .i64 a.2.2], .agg #[.int .i64 b.1, .int .i64 b.2.1, .int .i64 b.2.2]] w fun e w' => e = .returned (.bool false) ∧ Below w.heap.size w w' :=
  (on_any _ _ _ _ _ _ w ha).mono fun e w' ⟨he, hb⟩ => ⟨by rw [he]; simp [h], hb⟩
theorem tidy_t (x : Ex) (w : World) (h : Al x) :
    Calls Try.prog 40 #[.agg #[.int .i64 x.1, .int .i64 x.2.1, .int .i64 x.2.2]] w fun e w' => e = .returned (.bool true) ∧ Below w.heap.size w w' :=
  (tidy_any _ _ _ w (by unfold Al at h; omega)).mono fun e w' ⟨he, hb⟩ => ⟨by rw [he]; simp [h], hb⟩
/-- Two that stand one behind the other. -/
theorem tp_two : ∀ {l : List Ex} {p : Ex} {i : Nat} {x y : Ex}, Tp p l → l[i]? = some x → l[i + 1]? = some y → x.1 + x.2.1 ≤ y.1 ∧ ¬ On x y
  | [], _, i, _, _, _, h, _ => by simp at h
  | a :: r, p, 0, x, y, h, hx, hy => by
    simp at hx; subst hx
    cases r with
    | nil => simp at hy
    | cons b s => simp at hy; subst hy; exact ⟨h.2.2.2.1, h.2.2.2.2.1⟩
  | a :: r, p, i + 1, x, y, h, hx, hy => tp_two h.2.2.2 (by simpa using hx) (by simpa using hy)

theorem keep33 {W W' : World} {O g o : Nat} {x y z u v t : Value} (h : W.cell? ⟨O, 0, none⟩ = some x ∧ W.cell? ⟨O, 1, none⟩ = some y ∧ W.cell? ⟨O, 2, none⟩ = some z ∧ W.cell? ⟨g, o, none⟩ = some u ∧ W.cell? ⟨g, o + 1, none⟩ = some v ∧ W.cell? ⟨g, o + 2, none⟩ = some t) (hb : Below W.heap.size W W') :
    W'.cell? ⟨O, 0, none⟩ = some x ∧ W'.cell? ⟨O, 1, none⟩ = some y ∧ W'.cell? ⟨O, 2, none⟩ = some z ∧ W'.cell? ⟨g, o, none⟩ = some u ∧ W'.cell? ⟨g, o + 1, none⟩ = some v ∧ W'.cell? ⟨g, o + 2, none⟩ = some t ∧ Below W.heap.size W W' := by
  obtain ⟨a, b, c, d, e, f⟩ := h
  obtain ⟨hc, _⟩ := bcell hb
  exact ⟨by rw [hc _ _ (cell_lt a)]; exact a, by rw [hc _ _ (cell_lt a)]; exact b, by rw [hc _ _ (cell_lt a)]; exact c, by rw [hc _ _ (cell_lt d)]; exact d, by rw [hc _ _ (cell_lt d)]; exact e, by rw [hc _ _ (cell_lt d)]; exact f, hb⟩
theorem held7 {W0 W : World} {A B C D E F : Prop} (h : A ∧ B ∧ C ∧ D ∧ E ∧ F ∧ Below W0.heap.size W0 W) : Below W0.heap.size W0 W := h.2.2.2.2.2.2
set_option maxRecDepth 100000 in
theorem valid_row {w : World} {v : Value} {l : List Ex} (hr : BkE.Row w v l) (ht : Ti l) (bl : Int) :
    Calls Try.prog 34 #[v, .int .i64 bl] w fun e w' => e = .returned (.bool (fitsL bl l)) ∧ Below w.heap.size w w' := by
  obtain ⟨a, c, rfl⟩ := hr.slice
  have hl := ti_len ht
  have hr' := Hid.intro hr
  have ht' := Hid.intro ht
  clear hr ht
  obtain ⟨R, hR⟩ : ∃ R, Hid (fitsL bl l = R) := ⟨_, rfl⟩
  rw [hR.out]
  go_enter Try.func34, Try.ntmps34
  go_wp2_with fail
  go_loopw [9] (fun jv wr => ∃ i : Nat, i ≤ l.length ∧ jv = .int .i64 i ∧ fitsL bl (l.take i) = true ∧ Below w.heap.size w wr) (fun jv _ => l.length - (intOf jv).toNat)
  case atStart => exact ⟨0, Nat.zero_le _, rfl, rfl, Below.refl _ _⟩
  case round =>
    obtain ⟨i, hi, rfl, hf, hB⟩ := hrel
    have i0' : (0 : Int) ≤ (i : Int) := Int.natCast_nonneg _
    by_cases hlt : i < l.length
    · obtain ⟨g, o, ⟨p, q, r⟩, rfl, hg, hp, d0, d1, d2⟩ := erow_at (hr'.out.below hB) hlt
      have hal : Al (p, q, r) := (tp_al ht'.out _ (List.mem_of_getElem? hp)).1
      have hal' := Hid.intro hal
      obtain ⟨h1, h2, h3⟩ : 0 ≤ p ∧ 1 ≤ q ∧ q ≤ 64 - p := ⟨hal.1, hal.2.1, hal.2.2.1⟩
      have i1 : (i : Int) < (l.length : Int) := by omega
      have htk : Hid (fitsL bl (l.take (i + 1)) = decide (p + q ≤ bl)) := Hid.intro (by
        unfold fitsL at hf ⊢
        rw [List.take_add_one, hp, List.all_append, hf]; simp)
      have hno : Hid (¬ p + q ≤ bl → R = false) := Hid.intro (fun h => by
        rw [← hR.out]
        unfold fitsL
        rw [List.all_eq_false]
        exact ⟨_, List.mem_of_getElem? hp, by simpa using h⟩)
      have hp' := Hid.intro hp
      have hbo := Hid.intro (Bx.new wr (p, q, r) 24)
      have hBa := Hid.intro (hB.alloc hB.size (.cells #[.int .i64 p, .int .i64 q, .int .i64 r] 24))
      have hzl := hB.size
      have hgl := hg
      simp only at d0 d1 d2
      clear hal hf hp hB
      go_wp2_with fail
      clear d0 d1 d2
      have hro := Hid.intro (hr'.out.below (Below.trans hBa.out (Below.refl _ _)))
      generalize wr.alloc (.cells #[.int .i64 p, .int .i64 q, .int .i64 r] 24) = w2 at *
      generalize wr.heap.size = O at *
      refine (tidy_t (p, q, r) _ hal'.out).mono ?_; rintro e w3 ⟨rfl, hb3⟩
      have hbo3 := Hid.intro (hbo.out.below hb3 hbo.out.lt)
      obtain ⟨a0, a1, a2, _⟩ := hbo3.out
      simp only at a0 a1 a2
      have hB3 := Hid.intro (hBa.out.trans (hb3.mono hBa.out.size))
      clear hb3 hBa hbo
      go_wp2_with fail
      refine (spanOf_any p q r _).mono ?_; rintro e w4 ⟨rfl, hb4⟩
      have hbo4 := Hid.intro (hbo3.out.below hb4 hbo3.out.lt)
      have hB4 := Hid.intro (hB3.out.trans (hb4.mono hB3.out.size))
      clear hb4 hB3 hbo3 a0 a1 a2
      go_wp2_with fail
      refine (valid_yes p q bl _ h1 h2 h3).mono ?_; rintro e w5 ⟨rfl, hb5⟩
      have hbo5 := Hid.intro (hbo4.out.below hb5 hbo4.out.lt)
      have hB5 := Hid.intro (hB4.out.trans (hb5.mono hB4.out.size))
      have hro5 := Hid.intro (hr'.out.below hB5.out)
      clear hb5 hB4 hbo4
      by_cases hfit : p + q ≤ bl
      · have hd : decide (p + q ≤ bl) = true := by simp [hfit]
        have htk2 := Hid.intro (htk.out.trans hd)
        rw [hd]
        clear htk hfit hd hno
        by_cases hz : i = 0
        · subst hz
          go_wp2_with fail
          go_big_region
          all_goals
            go_wp2
            go_roundw
            case rel => exact ⟨0 + 1, by omega, by go_num, htk2.out, hB5.out.drew⟩
            case measure => simp [intOf] <;> omega
        · obtain ⟨j, rfl⟩ : ∃ j, i = j + 1 := ⟨i - 1, by omega⟩
          obtain ⟨g', o', ⟨f, n, d⟩, he, hg', hq, e0', e1', e2'⟩ := erow_at hro5.out (i := j) (by omega)
          cases he
          obtain ⟨t1, t2⟩ := tp_two ht'.out hq hp'.out
          have halq := (tp_al ht'.out _ (List.mem_of_getElem? hq)).1
          obtain ⟨k1, k2, k3⟩ : 0 ≤ f ∧ 1 ≤ n ∧ n ≤ 64 - f := ⟨halq.1, halq.2.1, halq.2.2.1⟩
          have hj0 : (0 : Int) ≤ (j : Int) := Int.natCast_nonneg _
          have hj1 : (j : Int) < (l.length : Int) := by omega
          have hcast : ((j + 1 : Nat) : Int) = (j : Int) + 1 := by omega
          have t3 : ¬ p < f + n := by simp only at t1; omega
          have hw1 : IntKind.i64.wrap (j : Int) = (j : Int) := IntWalk.i64_in _ (by omega)
          have hw2 : IntKind.i64.wrap ((j : Int) + 1 - 1) = (j : Int) := by rw [show (j : Int) + 1 - 1 = j by omega]; exact hw1
          have t2' := Hid.intro t2
          have halq' := Hid.intro halq
          have hdc : decide (p < f + n) = false := by simp; omega
          simp only at e0' e1' e2'
          obtain ⟨a0, a1, a2, _⟩ := hbo5.out
          simp only at a0 a1 a2
          have hO5 : O < w5.heap.size := hbo5.out.lt
          have hC := Hid.intro (show w5.cell? ⟨O, 0, none⟩ = some (.int .i64 p) ∧ w5.cell? ⟨O, 1, none⟩ = some (.int .i64 q) ∧ w5.cell? ⟨O, 2, none⟩ = some (.int .i64 r) ∧ w5.cell? ⟨g, o + j * 3, none⟩ = some (.int .i64 f) ∧ w5.cell? ⟨g, o + j * 3 + 1, none⟩ = some (.int .i64 n) ∧ w5.cell? ⟨g, o + j * 3 + 2, none⟩ = some (.int .i64 d) from ⟨a0, a1, a2, e0', e1', e2'⟩)
          rw [hcast]
          clear hq t1 t2 halq hz hro5 hp' hbo5
          go_wp2_with fail
          clear a0 a1 a2 e0' e1' e2'
          go_region_held3 (fun w' => w'.cell? ⟨O, 0, none⟩ = some (.int .i64 p) ∧ w'.cell? ⟨O, 1, none⟩ = some (.int .i64 q) ∧ w'.cell? ⟨O, 2, none⟩ = some (.int .i64 r) ∧ w'.cell? ⟨g, o + j * 3, none⟩ = some (.int .i64 f) ∧ w'.cell? ⟨g, o + j * 3 + 1, none⟩ = some (.int .i64 n) ∧ w'.cell? ⟨g, o + j * 3 + 2, none⟩ = some (.int .i64 d) ∧ Below w5.heap.size w5 w')
            (first
              | exact keep33 hC.out below_drw
              | exact keep33 hC.out (below_step (held7 (by assumption)) hx1)
              | exact keep33 hC.out (below_step (held7 (by assumption)) hx2)
              | exact keep33 hC.out (below_step (held7 (by assumption)) hx3))
            (first
              | (go_at_call 38; refine (spanOf_any f n d _).mono ?_; rintro e x1 ⟨rfl, hx1⟩)
              | (go_at_call 79; refine (end_yes f n _ ⟨k1, k2, k3⟩).mono ?_; rintro e x2 ⟨rfl, hx2⟩)
              | (go_at_call 42; refine (on_no2 (f, n, d) (p, q, r) _ halq'.out t2'.out).mono ?_; rintro e x3 ⟨rfl, hx3⟩))
          all_goals
            have hB6 : Hid (Below w.heap.size w x3) := Hid.intro (hB5.out.trans ((held7 (W := x3) (W0 := w5) (by assumption)).mono hB5.out.size))
            go_wp2
            go_roundw
            case rel => exact ⟨j + 1 + 1, by omega, by go_num, htk2.out, hB6.out⟩
            case measure => simp [intOf]; omega
      · have hd : decide (p + q ≤ bl) = false := by simp [hfit]
        have hRf := hno.out (by omega)
        rw [hd]
        clear htk hfit hd hno
        go_wp2
        go_ret
        exact ⟨by rw [hRf]; rfl, hB5.out⟩
    · have hi' : i = l.length := by omega
      have hfin : R = true := by rw [← hR.out]; rw [hi', List.take_length] at hf; exact hf
      go_wp2
      go_ret
      exact ⟨by rw [hfin]; rfl, hB⟩
end Go.Proofs.Ytfikkbmilhcahaa
