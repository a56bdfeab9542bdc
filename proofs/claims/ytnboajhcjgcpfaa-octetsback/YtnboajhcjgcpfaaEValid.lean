/-
  The contract of extent.Valid, of every list: whether it is tidy.
-/
import Derived.Test.YtnboajhcjgcpfaaEBox
import Derived.Test.YtnboajhcjgcpfaaOMath
import Derived.BigQuiet
import Derived.Deep.RegionHeld3
namespace Go.Proofs.Ytnboajhcjgcpfaa
open Go.ChangeShapes Go.WideShapes Go.ChangeAt Go.RowKit
attribute [local go_sem ↓] Go.wp_at_zero Go.wp_at_succ

theorem on_no2 (a b : Ex) (w : World) (ha : Al a) (h : ¬ On a b) :
    Calls Try.prog 77 #[.agg #[.int .i64 a.1, .int .i64 a.2.1, .int .i64 a.2.2], .agg #[.int .i64 b.1, .int .i64 b.2.1, .int .i64 b.2.2]] w fun e w' => e = .returned (.bool false) ∧ Below w.heap.size w w' :=
  (on_any _ _ _ _ _ _ w ha).mono fun e w' ⟨he, hb⟩ => ⟨by rw [he]; simp [h], hb⟩
theorem tidy_t (x : Ex) (w : World) (h : Al x) :
    Calls Try.prog 73 #[.agg #[.int .i64 x.1, .int .i64 x.2.1, .int .i64 x.2.2]] w fun e w' => e = .returned (.bool true) ∧ Below w.heap.size w w' :=
  (tidy_any _ _ _ w (by unfold Al at h; omega)).mono fun e w' ⟨he, hb⟩ => ⟨by rw [he]; simp [h], hb⟩
/-- Two that stand one behind the other. -/
theorem tp_two : ∀ {l : List Ex} {p : Ex} {i : Nat} {x y : Ex}, Tp p l → l[i]? = some x → l[i + 1]? = some y → x.1 + x.2.1 ≤ y.1 ∧ ¬ On x y
  | [], _, i, _, _, _, h, _ => by simp at h
  | a :: r, p, 0, x, y, h, hx, hy => by
    simp at hx; subst hx
    cases r with
    | nil => simp at hy
    | cons b s => simp at hy; subst hy; exact ⟨h.2.2.2.1, h.2.2.2.2.1⟩
  | a :: r, p, i + 1, x, y, h, hx, hy => tp_two h.2.2.2 (by simpa using hx) (by simpa using hy)
theorem keep33 {W W' : World} {O g o : Nat} {x y z u v t : Value} (h : W.cell? ⟨O, 0, none⟩ = some x ∧ W.cell? ⟨O, 1, none⟩ = some y ∧ W.cell? ⟨O, 2, none⟩ = some z ∧ W.cell? ⟨g, o, none⟩ = some u ∧ W.cell? ⟨g, o + 1, none⟩ = some v ∧ W.cell? ⟨g, o + 2, none⟩ = some t) (hb : Below W.heap.size W W') :
    W'.cell? ⟨O, 0, none⟩ = some x ∧ W'.cell? ⟨O, 1, none⟩ = some y ∧ W'.cell? ⟨O, 2, none⟩ = some z ∧ W'.cell? ⟨g, o, none⟩ = some u ∧ W'.cell? ⟨g, o + 1, none⟩ = some v ∧ W'.cell? ⟨g, o + 2, none⟩ = some t ∧ Below W.heap.size W W' := by
  obtain ⟨a, b, c, d, e, f⟩ := h
  obtain ⟨hc, _⟩ := bcell hb
  exact ⟨by rw [hc _ _ (cell_lt a)]; exact a, by rw [hc _ _ (cell_lt a)]; exact b, by rw [hc _ _ (cell_lt a)]; exact c, by rw [hc _ _ (cell_lt d)]; exact d, by rw [hc _ _ (cell_lt d)]; exact e, by rw [hc _ _ (cell_lt d)]; exact f, hb⟩
theorem held7 {W0 W : World} {A B C D E F : Prop} (h : A ∧ B ∧ C ∧ D ∧ E ∧ F ∧ Below W0.heap.size W0 W) : Below W0.heap.size W0 W := h.2.2.2.2.2.2

theorem on_yes2 (a b : Ex) (w : World) (ha : Al a) (h : On a b) :
    Calls Try.prog 77 #[.agg #[.int .i64 a.1, .int .i64 a.2.1, .int .i64 a.2.2], .agg #[.int .i64 b.1, .int .i64 b.2.1, .int .i64 b.2.2]] w fun e w' => e = .returned (.bool true) ∧ Below w.heap.size w w' :=
  (on_any _ _ _ _ _ _ w ha).mono fun e w' ⟨he, hb⟩ => ⟨by rw [he]; simp [h], hb⟩
theorem tidy_f (x : Ex) (w : World) (hx : x.1 ≤ 9223372036854775807) (h : ¬ Al x) :
    Calls Try.prog 73 #[.agg #[.int .i64 x.1, .int .i64 x.2.1, .int .i64 x.2.2]] w fun e w' => e = .returned (.bool false) ∧ Below w.heap.size w w' :=
  (tidy_any _ _ _ w hx).mono fun e w' ⟨he, hb⟩ => ⟨by rw [he]; simp [h], hb⟩
/-- What is ahead of a place of a list. -/
theorem lst_take {l : List Ex} {j : Nat} {y : Ex} (h : l[j]? = some y) : lst e0 (l.take (j + 1)) = y := by
  rw [List.take_add_one, h, Option.toList_some, lst_app]; rfl
theorem ti_step {l : List Ex} {i : Nat} {x : Ex} (h : l[i]? = some x) : Ti (l.take (i + 1)) ↔ Ti (l.take i) ∧ (lst e0 (l.take i)).1 + (lst e0 (l.take i)).2.1 ≤ x.1 ∧ ¬ On (lst e0 (l.take i)) x ∧ Al x := by
  unfold Ti
  rw [List.take_add_one, h, Option.toList_some, tp_app]
  constructor
  · rintro ⟨a, b, c, d, _⟩; exact ⟨a, b, c, d⟩
  · rintro ⟨a, b, c, d⟩; exact ⟨a, b, c, d, trivial⟩
theorem ti_part {l : List Ex} (h : Ti l) (i : Nat) : Ti (l.take i) := by
  unfold Ti at h ⊢
  rw [← List.take_append_drop i l] at h
  exact (tp_app.1 h).1
theorem ti_first {x : Ex} (h : Al x) : e0.1 + e0.2.1 ≤ x.1 ∧ ¬ On e0 x := by
  unfold Al at h
  refine ⟨by unfold e0; simp only; omega, fun g => ?_⟩
  unfold On e0 at g
  simp only at g
  omega

def Hi (l : List Ex) : Prop := ∀ x ∈ l, x.1 ≤ 9223372036854775807
set_option maxRecDepth 100000 in
set_option maxHeartbeats 2000000 in
theorem valid_all {w : World} {v : Value} {l : List Ex} (hr : BkE.Row w v l) (hh : Hi l) (hl : l.length ≤ 1000000) :
    Calls Try.prog 38 #[v, .int .i64 64] w fun e w' => e = .returned (.bool (decide (Ti l))) ∧ Below w.heap.size w w' := by
  obtain ⟨a, c, rfl⟩ := hr.slice
  have hr' := Hid.intro hr
  have hh' := Hid.intro hh
  clear hr hh
  obtain ⟨R, hR⟩ : ∃ R, Hid (decide (Ti l) = R) := ⟨_, rfl⟩
  rw [hR.out]
  have hno : Hid (∀ i, ¬ Ti (l.take i) → R = false) := Hid.intro (fun i h => by rw [← hR.out]; exact decide_eq_false (fun g => h (ti_part g i)))
  go_enter Try.func38, Try.ntmps38
  go_wp2_with fail
  go_loopw [9] (fun jv wr => ∃ i : Nat, i ≤ l.length ∧ jv = .int .i64 i ∧ Ti (l.take i) ∧ Below w.heap.size w wr) (fun jv _ => l.length - (intOf jv).toNat)
  case atStart => exact ⟨0, Nat.zero_le _, rfl, trivial, Below.refl _ _⟩
  case round =>
    obtain ⟨i, hi, rfl, hf, hB⟩ := hrel
    have i0' : (0 : Int) ≤ (i : Int) := Int.natCast_nonneg _
    have hf' := Hid.intro hf
    clear hf
    by_cases hlt : i < l.length
    · obtain ⟨g, o, ⟨p, q, r⟩, rfl, hg, hp, d0, d1, d2⟩ := erow_at (hr'.out.below hB) hlt
      have hst := Hid.intro (ti_step hp)
      have i1 : (i : Int) < (l.length : Int) := by omega
      have hp' := Hid.intro hp
      have hhx : p ≤ 9223372036854775807 := hh'.out _ (List.mem_of_getElem? hp)
      have hbo := Hid.intro (Bx.new wr (p, q, r) 71)
      have hBa := Hid.intro (hB.alloc hB.size (.cells #[.int .i64 p, .int .i64 q, .int .i64 r] 71))
      have hzl := hB.size
      simp only at d0 d1 d2
      clear hp hB
      by_cases hal : Al (p, q, r)
      · have hal' := Hid.intro hal
        obtain ⟨h1, h2, h3⟩ : 0 ≤ p ∧ 1 ≤ q ∧ q ≤ 64 - p := ⟨hal.1, hal.2.1, hal.2.2.1⟩
        clear hal
        go_wp2_with fail
        clear d0 d1 d2
        generalize wr.alloc (.cells #[.int .i64 p, .int .i64 q, .int .i64 r] 71) = w2 at *
        generalize wr.heap.size = O at *
        refine (tidy_t (p, q, r) _ hal'.out).mono ?_; rintro e w3 ⟨rfl, hb3⟩
        have hbo3 := Hid.intro (hbo.out.below hb3 hbo.out.lt)
        obtain ⟨a0, a1, a2, _⟩ := hbo3.out
        simp only at a0 a1 a2
        have hB3 := Hid.intro (hBa.out.trans (hb3.mono hBa.out.size))
        clear hb3 hBa hbo
        go_wp2_with fail
        refine (spanOf_any p q r _).mono ?_; rintro e w4 ⟨rfl, hb4⟩
        have hbo4 := Hid.intro (hbo3.out.below hb4 hbo3.out.lt)
        have hB4 := Hid.intro (hB3.out.trans (hb4.mono hB3.out.size))
        clear hb4 hB3 hbo3 a0 a1 a2
        go_wp2_with fail
        refine (valid_yes p q 64 _ h1 h2 h3).mono ?_; rintro e w5 ⟨rfl, hb5⟩
        have hbo5 := Hid.intro (hbo4.out.below hb5 hbo4.out.lt)
        have hB5 := Hid.intro (hB4.out.trans (hb5.mono hB4.out.size))
        have hro5 := Hid.intro (hr'.out.below hB5.out)
        clear hb5 hB4 hbo4
        have hd : decide (p + q ≤ 64) = true := by simp; omega
        rw [hd]
        clear hd
        by_cases hz : i = 0
        · subst hz
          have hnx := Hid.intro (hst.out.2 ⟨hf'.out, by rw [List.take_zero]; exact (ti_first hal'.out).1, by rw [List.take_zero]; exact (ti_first hal'.out).2, hal'.out⟩)
          go_wp2_with fail
          go_big_region
          all_goals
            go_wp2
            go_roundw
            case rel => exact ⟨0 + 1, by omega, by go_num, hnx.out, hB5.out.drew⟩
            case measure => simp [intOf] <;> omega
        · obtain ⟨j, rfl⟩ : ∃ j, i = j + 1 := ⟨i - 1, by omega⟩
          obtain ⟨g', o', ⟨f, n, d⟩, he, hg', hq, e0', e1', e2'⟩ := erow_at hro5.out (i := j) (by omega)
          cases he
          have hlq := Hid.intro (lst_take hq)
          have halq : Al (f, n, d) := ((ti_step hq).1 hf'.out).2.2.2
          obtain ⟨k1, k2, k3⟩ : 0 ≤ f ∧ 1 ≤ n ∧ n ≤ 64 - f := ⟨halq.1, halq.2.1, halq.2.2.1⟩
          have hj0 : (0 : Int) ≤ (j : Int) := Int.natCast_nonneg _
          have hj1 : (j : Int) < (l.length : Int) := by omega
          have hcast : ((j + 1 : Nat) : Int) = (j : Int) + 1 := by omega
          have hw1 : IntKind.i64.wrap (j : Int) = (j : Int) := IntWalk.i64_in _ (by omega)
          have hw2 : IntKind.i64.wrap ((j : Int) + 1 - 1) = (j : Int) := by rw [show (j : Int) + 1 - 1 = j by omega]; exact hw1
          have halq' := Hid.intro halq
          simp only at e0' e1' e2'
          obtain ⟨a0, a1, a2, _⟩ := hbo5.out
          simp only at a0 a1 a2
          have hO5 : O < w5.heap.size := hbo5.out.lt
          have hC := Hid.intro (show w5.cell? ⟨O, 0, none⟩ = some (.int .i64 p) ∧ w5.cell? ⟨O, 1, none⟩ = some (.int .i64 q) ∧ w5.cell? ⟨O, 2, none⟩ = some (.int .i64 r) ∧ w5.cell? ⟨g, o + j * 3, none⟩ = some (.int .i64 f) ∧ w5.cell? ⟨g, o + j * 3 + 1, none⟩ = some (.int .i64 n) ∧ w5.cell? ⟨g, o + j * 3 + 2, none⟩ = some (.int .i64 d) from ⟨a0, a1, a2, e0', e1', e2'⟩)
          rw [hcast]
          clear hq halq hz hro5 hp' hbo5
          by_cases t3 : p < f + n
          · have hRf := Hid.intro (hno.out (j + 1 + 1) (fun h => by have := (hst.out.1 h).2.1; rw [hlq.out] at this; simp only at this; omega))
            have hdc : decide (p < f + n) = true := by simp; omega
            go_wp2_with fail
            clear a0 a1 a2 e0' e1' e2'
            refine wp_region_held_drew (S := fun w' => w'.cell? ⟨O, 0, none⟩ = some (.int .i64 p) ∧ w'.cell? ⟨O, 1, none⟩ = some (.int .i64 q) ∧ w'.cell? ⟨O, 2, none⟩ = some (.int .i64 r) ∧ w'.cell? ⟨g, o + j * 3, none⟩ = some (.int .i64 f) ∧ w'.cell? ⟨g, o + j * 3 + 1, none⟩ = some (.int .i64 n) ∧ w'.cell? ⟨g, o + j * 3 + 2, none⟩ = some (.int .i64 d) ∧ Below w5.heap.size w5 w') (by kernel_rfl) (keep33 hC.out below_drw) (fun hHeld => ?_)
            refine wpAnyH_take (i := 0) (v := .int .i64 ((j : Int) + 1)) rfl (by kernel_rfl) (by kernel_rfl) (by kernel_rfl) (fun _ _ _ h => h) (Or.inl ⟨by rfl, fun w' hSw => by clear hSw; go_simp⟩) hHeld ?_
            change wpAnyH _ _ _ _ _ _ _ (Act.put _ (some 24) _) _
            simp only [Act.put, List.setIfInBounds_toArray, List.set_cons_zero, List.set_cons_succ]
            refine wpAnyH_take (i := 1) (v := .bool true) rfl (by kernel_rfl) (by kernel_rfl) (by kernel_rfl) (fun _ _ _ h => h) (Or.inl ⟨by rfl, fun w' hSw => by clear hSw; go_simp⟩) hHeld ?_
            change wpAnyH _ _ _ _ _ _ _ (Act.put _ (some 25) _) _
            simp only [Act.put, List.setIfInBounds_toArray, List.set_cons_zero, List.set_cons_succ]
            refine wpAnyH_take (i := 2) (v := .bool true) rfl (by kernel_rfl) (by kernel_rfl) (by kernel_rfl) (fun _ _ _ h => h) (Or.inl ⟨by rfl, fun w' hSw => by clear hSw; go_simp⟩) hHeld ?_
            change wpAnyH _ _ _ _ _ _ _ (Act.put _ (some 26) _) _
            simp only [Act.put, List.setIfInBounds_toArray, List.set_cons_zero, List.set_cons_succ]
            refine wpAnyH_take (i := 3) (v := .pointer (some ⟨O, 0, none⟩)) rfl (by kernel_rfl) (by kernel_rfl) (by kernel_rfl) (fun _ _ _ h => h) (Or.inl ⟨by rfl, fun w' hSw => by clear hSw; go_simp⟩) hHeld ?_
            change wpAnyH _ _ _ _ _ _ _ (Act.put _ (some 27) _) _
            simp only [Act.put, List.setIfInBounds_toArray, List.set_cons_zero, List.set_cons_succ]
            refine wpAnyH_take (i := 4) (v := .int .i64 p) rfl (by kernel_rfl) (by kernel_rfl) (by kernel_rfl) (fun _ _ _ h => h) (Or.inl ⟨by rfl, fun w' hSw => by obtain ⟨s0, s1, s2, s3, s4, s5, _⟩ := hSw; go_simp⟩) hHeld ?_
            change wpAnyH _ _ _ _ _ _ _ (Act.put _ (some 28) _) _
            simp only [Act.put, List.setIfInBounds_toArray, List.set_cons_zero, List.set_cons_succ]
            refine wpAnyH_take (i := 5) (v := .slice (some ⟨g, o, none⟩) l.length c) rfl (by kernel_rfl) (by kernel_rfl) (by kernel_rfl) (fun _ _ _ h => h) (Or.inl ⟨by rfl, fun w' hSw => by clear hSw; go_simp⟩) hHeld ?_
            change wpAnyH _ _ _ _ _ _ _ (Act.put _ (some 29) _) _
            simp only [Act.put, List.setIfInBounds_toArray, List.set_cons_zero, List.set_cons_succ]
            refine wpAnyH_take (i := 6) (v := .int .i64 ((j : Int) + 1)) rfl (by kernel_rfl) (by kernel_rfl) (by kernel_rfl) (fun _ _ _ h => h) (Or.inl ⟨by rfl, fun w' hSw => by clear hSw; go_simp⟩) hHeld ?_
            change wpAnyH _ _ _ _ _ _ _ (Act.put _ (some 30) _) _
            simp only [Act.put, List.setIfInBounds_toArray, List.set_cons_zero, List.set_cons_succ]
            refine wpAnyH_take (i := 7) (v := .int .i64 (j : Int)) rfl (by kernel_rfl) (by kernel_rfl) (by kernel_rfl) (fun _ _ _ h => h) (Or.inl ⟨by rfl, fun w' hSw => by clear hSw; go_simp⟩) hHeld ?_
            change wpAnyH _ _ _ _ _ _ _ (Act.put _ (some 31) _) _
            simp only [Act.put, List.setIfInBounds_toArray, List.set_cons_zero, List.set_cons_succ]
            refine wpAnyH_take (i := 8) (v := .pointer (some ⟨g, o + j * 3, none⟩)) rfl (by kernel_rfl) (by kernel_rfl) (by kernel_rfl) (fun _ _ _ h => h) (Or.inl ⟨by rfl, fun w' hSw => by clear hSw; go_simp⟩) hHeld ?_
            change wpAnyH _ _ _ _ _ _ _ (Act.put _ (some 32) _) _
            simp only [Act.put, List.setIfInBounds_toArray, List.set_cons_zero, List.set_cons_succ]
            refine wpAnyH_take (i := 9) (v := .agg #[.int .i64 f, .int .i64 n, .int .i64 d]) rfl (by kernel_rfl) (by kernel_rfl) (by kernel_rfl) (fun _ _ _ h => h) (Or.inl ⟨by rfl, fun w' hSw => by obtain ⟨s0, s1, s2, s3, s4, s5, _⟩ := hSw; go_simp⟩) hHeld ?_
            change wpAnyH _ _ _ _ _ _ _ (Act.put _ (some 33) _) _
            simp only [Act.put, List.setIfInBounds_toArray, List.set_cons_zero, List.set_cons_succ]
            refine wpAnyH_ready (rs := [10]) (by kernel_rfl) (by simp) ?_
            refine AllReadyH.cons rfl (fun K hK => ?_) AllReadyH.nil
            go_simp
            refine (spanOf_any f n d _).mono ?_; rintro e x1 ⟨rfl, hx1⟩
            refine hK.out _ _ (keep33 hC.out (below_step (held7 hHeld) hx1)) (fun hHeld => ?_); clear hK K
            refine wpAnyH_ready (rs := [11]) (by kernel_rfl) (by simp) ?_
            refine AllReadyH.cons rfl (fun K hK => ?_) AllReadyH.nil
            go_simp
            refine (end_yes f n _ ⟨k1, k2, k3⟩).mono ?_; rintro e x2 ⟨rfl, hx2⟩
            refine hK.out _ _ (keep33 hC.out (below_step (held7 hHeld) hx2)) (fun hHeld => ?_); clear hK K
            refine wpAnyH_take (i := 12) (v := .bool true) rfl (by kernel_rfl) (by kernel_rfl) (by kernel_rfl) (fun _ _ _ h => h) (Or.inl ⟨by rfl, fun w' hSw => by clear hSw; go_simp⟩) hHeld ?_
            change wpAnyH _ _ _ _ _ _ _ (Act.put _ (some 36) _) _
            simp only [Act.put, List.setIfInBounds_toArray, List.set_cons_zero, List.set_cons_succ]
            refine wpAnyH_take (i := 13) (v := .bool true) rfl (by kernel_rfl) (by kernel_rfl) (by kernel_rfl) (fun _ _ _ h => h) (Or.inl ⟨by rfl, fun w' hSw => by clear hSw; go_simp⟩) hHeld ?_
            change wpAnyH _ _ _ _ _ _ _ (Act.put _ (some 37) _) _
            simp only [Act.put, List.setIfInBounds_toArray, List.set_cons_zero, List.set_cons_succ]
            refine wpAnyH_take (i := 14) (v := undef) rfl (by kernel_rfl) (by kernel_rfl) (by kernel_rfl) (fun _ _ _ h => h) (Or.inr ⟨by rfl, rfl⟩) hHeld ?_
            change wpAnyH _ _ _ _ _ _ _ (Act.put _ (some 38) _) _
            simp only [Act.put, List.setIfInBounds_toArray, List.set_cons_zero, List.set_cons_succ]
            refine wpAnyH_take (i := 15) (v := undef) rfl (by kernel_rfl) (by kernel_rfl) (by kernel_rfl) (fun _ _ _ h => h) (Or.inr ⟨by rfl, rfl⟩) hHeld ?_
            change wpAnyH _ _ _ _ _ _ _ (Act.put _ (some 39) _) _
            simp only [Act.put, List.setIfInBounds_toArray, List.set_cons_zero, List.set_cons_succ]
            refine wpAnyH_take (i := 16) (v := undef) rfl (by kernel_rfl) (by kernel_rfl) (by kernel_rfl) (fun _ _ _ h => h) (Or.inr ⟨by rfl, rfl⟩) hHeld ?_
            change wpAnyH _ _ _ _ _ _ _ (Act.put _ (some 40) _) _
            simp only [Act.put, List.setIfInBounds_toArray, List.set_cons_zero, List.set_cons_succ]
            refine wpAnyH_take (i := 17) (v := undef) rfl (by kernel_rfl) (by kernel_rfl) (by kernel_rfl) (fun _ _ _ h => h) (Or.inr ⟨by rfl, rfl⟩) hHeld ?_
            change wpAnyH _ _ _ _ _ _ _ (Act.put _ (some 41) _) _
            simp only [Act.put, List.setIfInBounds_toArray, List.set_cons_zero, List.set_cons_succ]
            refine wpAnyH_take (i := 18) (v := undef) rfl (by kernel_rfl) (by kernel_rfl) (by kernel_rfl) (fun _ _ _ h => h) (Or.inr ⟨by rfl, rfl⟩) hHeld ?_
            change wpAnyH _ _ _ _ _ _ _ (Act.put _ (some 42) _) _
            simp only [Act.put, List.setIfInBounds_toArray, List.set_cons_zero, List.set_cons_succ]
            refine wpAnyH_take (i := 19) (v := undef) rfl (by kernel_rfl) (by kernel_rfl) (by kernel_rfl) (fun _ _ _ h => h) (Or.inr ⟨by rfl, rfl⟩) hHeld ?_
            change wpAnyH _ _ _ _ _ _ _ (Act.put _ (some 43) _) _
            simp only [Act.put, List.setIfInBounds_toArray, List.set_cons_zero, List.set_cons_succ]
            refine wpAnyH_take (i := 20) (v := undef) rfl (by kernel_rfl) (by kernel_rfl) (by kernel_rfl) (fun _ _ _ h => h) (Or.inr ⟨by rfl, rfl⟩) hHeld ?_
            change wpAnyH _ _ _ _ _ _ _ (Act.put _ (some 44) _) _
            simp only [Act.put, List.setIfInBounds_toArray, List.set_cons_zero, List.set_cons_succ]
            refine wpAnyH_take (i := 21) (v := .bool true) rfl (by kernel_rfl) (by kernel_rfl) (by kernel_rfl) (fun _ _ _ h => h) (Or.inl ⟨by rfl, fun w' hSw => by clear hSw; go_simp⟩) hHeld ?_
            change wpAnyH _ _ _ _ _ _ _ (Act.put _ (some 45) _) _
            simp only [Act.put, List.setIfInBounds_toArray, List.set_cons_zero, List.set_cons_succ]
            refine wpAnyH_take (i := 22) (v := .bool true) rfl (by kernel_rfl) (by kernel_rfl) (by kernel_rfl) (fun _ _ _ h => h) (Or.inl ⟨by rfl, fun w' hSw => by clear hSw; go_simp⟩) hHeld ?_
            change wpAnyH _ _ _ _ _ _ _ (Act.put _ (some 46) _) _
            simp only [Act.put, List.setIfInBounds_toArray, List.set_cons_zero, List.set_cons_succ]
            refine wpAnyH_done (by kernel_rfl) ?_ _
            all_goals
              have hB6 : Hid (Below w.heap.size w x2) := Hid.intro (hB5.out.trans ((held7 (W := x2) (W0 := w5) (by assumption)).mono hB5.out.size))
              go_wp2
              go_ret
              exact ⟨by rw [hRf.out]; rfl, hB6.out⟩
          have hdc : decide (p < f + n) = false := by simp; omega
          by_cases t2 : On (f, n, d) (p, q, r)
          · have hRf := Hid.intro (hno.out (j + 1 + 1) (fun h => by have := (hst.out.1 h).2.2.1; rw [hlq.out] at this; exact this t2))
            have t2' := Hid.intro t2
            clear t2
            go_wp2_with fail
            clear a0 a1 a2 e0' e1' e2'
            go_region_held3 (fun w' => w'.cell? ⟨O, 0, none⟩ = some (.int .i64 p) ∧ w'.cell? ⟨O, 1, none⟩ = some (.int .i64 q) ∧ w'.cell? ⟨O, 2, none⟩ = some (.int .i64 r) ∧ w'.cell? ⟨g, o + j * 3, none⟩ = some (.int .i64 f) ∧ w'.cell? ⟨g, o + j * 3 + 1, none⟩ = some (.int .i64 n) ∧ w'.cell? ⟨g, o + j * 3 + 2, none⟩ = some (.int .i64 d) ∧ Below w5.heap.size w5 w')
              (first
                | exact keep33 hC.out below_drw
                | exact keep33 hC.out (below_step (held7 (by assumption)) hx1)
                | exact keep33 hC.out (below_step (held7 (by assumption)) hx2)
                | exact keep33 hC.out (below_step (held7 (by assumption)) hx3))
              (first
                | (go_at_call 75; refine (spanOf_any f n d _).mono ?_; rintro e x1 ⟨rfl, hx1⟩)
                | (go_at_call 76; refine (end_yes f n _ ⟨k1, k2, k3⟩).mono ?_; rintro e x2 ⟨rfl, hx2⟩)
                | (go_at_call 77; refine (on_yes2 (f, n, d) (p, q, r) _ halq'.out t2'.out).mono ?_; rintro e x3 ⟨rfl, hx3⟩))
            all_goals
              have hB6 : Hid (Below w.heap.size w x3) := Hid.intro (hB5.out.trans ((held7 (W := x3) (W0 := w5) (by assumption)).mono hB5.out.size))
              go_wp2
              go_ret
              exact ⟨by rw [hRf.out]; rfl, hB6.out⟩
          · have hnx := Hid.intro (hst.out.2 ⟨hf'.out, by rw [hlq.out]; simp only; omega, by rw [hlq.out]; exact t2, hal'.out⟩)
            have t2' := Hid.intro t2
            clear t2
            go_wp2_with fail
            clear a0 a1 a2 e0' e1' e2'
            go_region_held3 (fun w' => w'.cell? ⟨O, 0, none⟩ = some (.int .i64 p) ∧ w'.cell? ⟨O, 1, none⟩ = some (.int .i64 q) ∧ w'.cell? ⟨O, 2, none⟩ = some (.int .i64 r) ∧ w'.cell? ⟨g, o + j * 3, none⟩ = some (.int .i64 f) ∧ w'.cell? ⟨g, o + j * 3 + 1, none⟩ = some (.int .i64 n) ∧ w'.cell? ⟨g, o + j * 3 + 2, none⟩ = some (.int .i64 d) ∧ Below w5.heap.size w5 w')
              (first
                | exact keep33 hC.out below_drw
                | exact keep33 hC.out (below_step (held7 (by assumption)) hx1)
                | exact keep33 hC.out (below_step (held7 (by assumption)) hx2)
                | exact keep33 hC.out (below_step (held7 (by assumption)) hx3))
              (first
                | (go_at_call 75; refine (spanOf_any f n d _).mono ?_; rintro e x1 ⟨rfl, hx1⟩)
                | (go_at_call 76; refine (end_yes f n _ ⟨k1, k2, k3⟩).mono ?_; rintro e x2 ⟨rfl, hx2⟩)
                | (go_at_call 77; refine (on_no2 (f, n, d) (p, q, r) _ halq'.out t2'.out).mono ?_; rintro e x3 ⟨rfl, hx3⟩))
            all_goals
              have hB6 : Hid (Below w.heap.size w x3) := Hid.intro (hB5.out.trans ((held7 (W := x3) (W0 := w5) (by assumption)).mono hB5.out.size))
              go_wp2
              go_roundw
              case rel => exact ⟨j + 1 + 1, by omega, by go_num, hnx.out, hB6.out⟩
              case measure => simp [intOf]; omega
      · have hRf := Hid.intro (hno.out (i + 1) (fun h => hal (hst.out.1 h).2.2.2))
        have hal' := Hid.intro hal
        clear hal
        go_wp2_with fail
        clear d0 d1 d2
        generalize wr.alloc (.cells #[.int .i64 p, .int .i64 q, .int .i64 r] 71) = w2 at *
        generalize wr.heap.size = O at *
        refine (tidy_f (p, q, r) _ hhx hal'.out).mono ?_; rintro e w3 ⟨rfl, hb3⟩
        have hB3 := Hid.intro (hBa.out.trans (hb3.mono hBa.out.size))
        clear hb3 hBa hbo
        go_wp2
        go_ret
        exact ⟨by rw [hRf.out]; rfl, hB3.out⟩
    · have hi' : i = l.length := by omega
      have hfin : R = true := by rw [← hR.out]; have := hf'.out; rw [hi', List.take_length] at this; exact decide_eq_true this
      go_wp2
      go_ret
      exact ⟨by rw [hfin]; rfl, hB⟩
end Go.Proofs.Ytnboajhcjgcpfaa
