/-
  The contract of extent.Set, of every tidy list and every extent; of slices.Clone at extents.
-/
import Derived.Test.YtfikkbmilhcahaaECut
import Derived.Test.YtfikkbmilhcahaaSetMath
import Derived.Lib.LazyBuf
import Derived.Deep.Cut
namespace Go.Proofs.Ytfikkbmilhcahaa
open Go.ChangeShapes Go.WideShapes Go.ChangeAt Go.RowKit
attribute [local go_sem ↓] Go.wp_at_zero Go.wp_at_succ

theorem on_t (a b : Ex) (w : World) (ha : Al a) (h : On a b) :
    Calls Try.prog 42 #[.agg #[.int .i64 a.1, .int .i64 a.2.1, .int .i64 a.2.2], .agg #[.int .i64 b.1, .int .i64 b.2.1, .int .i64 b.2.2]] w fun e w' => e = .returned (.bool true) ∧ Below w.heap.size w w' :=
  (on_any _ _ _ _ _ _ w ha).mono fun e w' ⟨he, hb⟩ => ⟨by rw [he]; simp [h], hb⟩
theorem on_f (a b : Ex) (w : World) (ha : Al a) (h : ¬ On a b) :
    Calls Try.prog 42 #[.agg #[.int .i64 a.1, .int .i64 a.2.1, .int .i64 a.2.2], .agg #[.int .i64 b.1, .int .i64 b.2.1, .int .i64 b.2.2]] w fun e w' => e = .returned (.bool false) ∧ Below w.heap.size w w' :=
  (on_any _ _ _ _ _ _ w ha).mono fun e w' ⟨he, hb⟩ => ⟨by rw [he]; simp [h], hb⟩

theorem Bx.set {w : World} {H : Nat} {x : Ex} (h : Bx w H x) (y : Ex) : Bx (((w.setCell ⟨H, 0, none⟩ (.int .i64 y.1)).setCell ⟨H, 1, none⟩ (.int .i64 y.2.1)).setCell ⟨H, 2, none⟩ (.int .i64 y.2.2)) H y := by
  obtain ⟨a, b, c, d, e, f⟩ := h
  unfold Bx
  simp [go_sem, a, b, c, d, e, f]
theorem Bx.set1 {w : World} {H : Nat} {x : Ex} (h : Bx w H x) (n : Int) : Bx (w.setCell ⟨H, 1, none⟩ (.int .i64 n)) H (x.1, n, x.2.2) := by
  obtain ⟨a, b, c, d, e, f⟩ := h
  unfold Bx
  simp [go_sem, a, b, c, d, e, f]

/- slices.Clone -/
theorem eql22 (w : World) (a : Option Addr) (l c : Nat) : (binOp .eql 22 (.slice a l c) (.slice none 0 0)).run Try.prog w = .ok (.bool a.isNone) w := run_eql_slice_nil w 22 24 a l c Try.underlying22
attribute [local go_sem] eql22
theorem clone_nil (c : Nat) (w : World) :
    Calls Try.prog 41 #[.slice none 0 c] w fun e w' => e = .returned (.slice none 0 0) ∧ Below w.heap.size w w' := by
  go_enter Try.func41, Try.ntmps41
  go_wp2
  go_ret
  exact ⟨rfl, Below.refl _ _⟩
theorem own_empty (w : World) : (w.alloc (.cells #[] 24)).ownsRow w.heap.size 24 3 (.slice (some ⟨w.heap.size, 0, none⟩) 0 0) 0 [] :=
  ⟨rfl, .inr ⟨w.heap.size, 0, #[], rfl, Nat.le_refl _, by have := heap_alloc_new w (.cells #[] 24); simpa using this, Nat.le_refl _, Nat.zero_le _, rfl, rfl⟩⟩
set_option maxRecDepth 100000 in
theorem clone_some (ps : List Ex) (g o c : Nat) (w : World) (h0 : 0 < ps.length) (hl : ps.length ≤ 1000000) (h : Hid (BkE.Cells w g o ps)) (hg : g < w.heap.size) :
    Calls Try.prog 41 #[.slice (some ⟨g, o, none⟩) ps.length c] w fun e w' => ∃ v, e = .returned v ∧ w'.ownsRow w.heap.size 24 3 v ps.length (BkE.itemsV ps) ∧ Below w.heap.size w w' := by
  obtain ⟨i0, hi0, hz0', hz1', hz2'⟩ := info_parts BkE.Try.infoE
  have hba : Below w.heap.size w (w.alloc (.cells #[] 24)) := (Below.refl _ _).alloc (Nat.le_refl _) _
  have hcs : Hid (BkE.Cells (w.alloc (.cells #[] 24)) g o ps) := h.out.below hba hg
  go_enter Try.func41, Try.ntmps41
  go_wp2_with (at_builtin; refine wpList_append_lies _ rfl _ _ 22 rfl w.heap.size 24 i0 (.agg #[.int .i64 0, .int .i64 0, .int .i64 0]) 3 24 Try.underlying22 hi0 hz0' hz1' hz2' rfl (by decide) _ 0 [] rfl (own_empty w) ⟨g, o, none⟩ ps.length c (BkE.itemsV ps) rfl (BkE.itemsV_length ps) (BkE.row_news hcs.out) (BkE.itemsV_one ps) h0 (by unfold maxLen; omega) (by omega) (by simp) (w.heap.size + 1) (by simp) ?_; intro g5 cap5 w5 hown5 hgrow5 hat5 hlt5)
  go_ret
  exact ⟨_, rfl, by simpa using hown5, hba.grown hgrow5 (by simp) (fun j hj => by cases hj; exact Nat.le_refl _)⟩
theorem clone_zero (a : Addr) (c : Nat) (w : World) :
    Calls Try.prog 41 #[.slice (some a) 0 c] w fun e w' => ∃ v, e = .returned v ∧ w'.ownsRow w.heap.size 24 3 v 0 [] ∧ Below w.heap.size w w' := by
  go_enter Try.func41, Try.ntmps41
  go_wp2
  go_ret
  exact ⟨_, rfl, own_empty w, (Below.refl _ _).alloc (Nat.le_refl _) _⟩
theorem clone_row {w : World} {v : Value} {ps : List Ex} (h : BkE.Row w v ps) (hl : ps.length ≤ 1000000) :
    Calls Try.prog 41 #[v] w fun e w' => ∃ v, e = .returned v ∧ w'.ownsRow w.heap.size 24 3 v ps.length (BkE.itemsV ps) ∧ Below w.heap.size w w' := by
  rcases h with ⟨⟨a, c, rfl⟩, rfl⟩ | ⟨g, o, cap, rfl, hg, hc⟩
  · cases a with
    | none => exact (clone_nil c w).mono fun e w' ⟨he, hb⟩ => ⟨_, he, World.ownsRow_nil _ _ _ _, hb⟩
    | some a => exact clone_zero a c w
  · by_cases e : ps = []
    · subst e; exact clone_zero _ cap w
    · exact clone_some ps g o cap w (List.length_pos_iff.2 e) hl hc hg

/-- What the walk carries through the loop: the box of x, the list that is made, the list that was cut. -/
structure SL (w0 w2 : World) (H : Nat) (cv : Value) (c : List Ex) (w : World) (y : Ex) (ov : Value) (out : List Ex) : Prop where
  bx : Bx w H y
  row : BkE.Row w cv c
  own : w.ownsRow w2.heap.size 24 3 ov out.length (BkE.itemsV out)
  bel : Below w0.heap.size w0 w
  hH : H < w2.heap.size
  cb : ∀ b, cv.ownBlock = some b → b < w2.heap.size ∧ b ≠ H
  h0 : w0.heap.size ≤ H
  sz : w2.heap.size ≤ w.heap.size
theorem SL.below {w0 w2 w w' : World} {H : Nat} {cv ov : Value} {c out : List Ex} {y : Ex} (h : SL w0 w2 H cv c w y ov out) (hb : Below w.heap.size w w') : SL w0 w2 H cv c w' y ov out :=
  ⟨h.bx.below hb h.bx.lt, h.row.below hb, BkE.own_below h.own hb, h.bel.trans (hb.mono h.bel.size), h.hH, h.cb, h.h0, Nat.le_trans h.sz hb.size⟩
theorem SL.alloc {w0 w2 w : World} {H : Nat} {cv ov : Value} {c out : List Ex} {y : Ex} (h : SL w0 w2 H cv c w y ov out) (o : Obj) : SL w0 w2 H cv c (w.alloc o) y ov out := h.below ((Below.refl _ _).alloc (Nat.le_refl _) _)
theorem SL.app {w0 w2 w w' : World} {H g cap : Nat} {cv ov : Value} {c out : List Ex} {y o : Ex} {ob : Obj} (h : SL w0 w2 H cv c w y ov out) (hg : (w.alloc ob).grownBy w' ov.ownBlock)
    (ho : w'.ownsRow w2.heap.size 24 3 (.slice (some ⟨g, 0, none⟩) (out.length + 1) cap) (out.length + 1) (BkE.itemsV out ++ [.int .i64 o.1, .int .i64 o.2.1, .int .i64 o.2.2])) :
    SL w0 w2 H cv c w' y (.slice (some ⟨g, 0, none⟩) (out.length + 1) cap) (out ++ [o]) := by
  have h1 := h.alloc ob
  have hlo : ∀ b, ov.ownBlock = some b → w2.heap.size ≤ b := fun b hb => (h.own.lt b hb).1
  refine ⟨h1.bx.grown hg (fun e => by have := hlo _ e.symm; have := h.hH; omega), ?_, by rw [List.length_append, BkE.itemsV_append]; exact ho, h1.bel.grown hg h1.bel.size (fun b hb => by have := hlo b hb; have := h.h0; have := h.hH; omega), h.hH, h.cb, h.h0, Nat.le_trans h1.sz hg.size⟩
  rcases h1.row with hr | ⟨g, o, cap, hv, hgl, hc⟩
  · exact .inl hr
  · exact .inr ⟨g, o, cap, hv, Nat.lt_of_lt_of_le hgl hg.size, hc.block (hg.block g hgl (fun e => by have := hlo _ e.symm; have := (h.cb g (by rw [hv]; rfl)).1; omega))⟩
theorem far_row {w : World} {v : Value} {l : List Ex} {H o : Nat} {u : Value} (h : BkE.Row w v l) (hne : ∀ b, v.ownBlock = some b → b ≠ H) : BkE.Row (w.setCell ⟨H, o, none⟩ u) v l :=
  h.ofBlock (fun b hb => Below.heap_setCell w ⟨H, o, none⟩ u b (hne b hb)) (by simp)
theorem far_own {w : World} {base n H o : Nat} {v u : Value} {xs : List Value} (h : w.ownsRow base 24 3 v n xs) (hH : H < base) : (w.setCell ⟨H, o, none⟩ u).ownsRow base 24 3 v n xs :=
  Bk0.ow_ofBlock h fun b hb => Below.heap_setCell w ⟨H, o, none⟩ u b (show b ≠ H from by have := (h.lt b hb).1; omega)
theorem SL.set {w0 w2 w : World} {H : Nat} {cv ov : Value} {c out : List Ex} {y : Ex} (h : SL w0 w2 H cv c w y ov out) (z : Ex) :
    SL w0 w2 H cv c (((w.setCell ⟨H, 0, none⟩ (.int .i64 z.1)).setCell ⟨H, 1, none⟩ (.int .i64 z.2.1)).setCell ⟨H, 2, none⟩ (.int .i64 z.2.2)) z ov out :=
  have hn : ∀ b, cv.ownBlock = some b → b ≠ H := fun b hb => (h.cb b hb).2
  ⟨h.bx.set z, far_row (far_row (far_row h.row hn) hn) hn, far_own (far_own (far_own h.own h.hH) h.hH) h.hH, ((h.bel.setCell h.h0 _).setCell h.h0 _).setCell h.h0 _, h.hH, h.cb, h.h0, by simpa using h.sz⟩
theorem SL.set1 {w0 w2 w : World} {H : Nat} {cv ov : Value} {c out : List Ex} {y : Ex} (h : SL w0 w2 H cv c w y ov out) (n : Int) :
    SL w0 w2 H cv c (w.setCell ⟨H, 1, none⟩ (.int .i64 n)) (y.1, n, y.2.2) ov out :=
  have hn : ∀ b, cv.ownBlock = some b → b ≠ H := fun b hb => (h.cb b hb).2
  ⟨h.bx.set1 n, far_row h.row hn, far_own h.own h.hH, h.bel.setCell h.h0 _, h.hH, h.cb, h.h0, by simpa using h.sz⟩

theorem set_no {w : World} {v : Value} {l : List Ex} (hr : BkE.Row w v l) (hl : l.length ≤ 1000) (x : Ex) (hx : ¬ Al x) (hf : x.1 ≤ 9223372036854775807) :
    Calls Try.prog 14 #[v, .agg #[.int .i64 x.1, .int .i64 x.2.1, .int .i64 x.2.2]] w fun e w' => ∃ v, e = .returned v ∧ w'.ownsRow w.heap.size 24 3 v l.length (BkE.itemsV l) ∧ Below w.heap.size w w' := by
  obtain ⟨f, n, d⟩ := x
  have hr' := Hid.intro hr
  have hx' : decide (Al (f, n, d)) = false := by simp [hx]
  clear hr hx
  simp only at hf ⊢
  go_enter Try.func14, Try.ntmps14
  go_wp2_with fail
  refine (tidy_any f n d _ hf).mono ?_; rintro e w1 ⟨rfl, hb⟩
  have hB1 : Below w.heap.size w w1 := ((Below.refl _ _).alloc (Nat.le_refl _) _).trans (hb.mono (by simp))
  clear hb
  rw [hx']
  go_wp2_with fail
  refine (clone_row (hr'.out.below hB1) (by omega)).mono ?_; rintro e w2 ⟨v2, rfl, hv2, hb2⟩
  go_wp2
  go_ret
  exact ⟨_, rfl, BkE.own_mono hv2 hB1.size, hB1.trans (hb2.mono hB1.size)⟩

set_option maxRecDepth 100000 in
set_option maxHeartbeats 1000000 in
theorem set_yes {w : World} {v : Value} {l : List Ex} (hr : BkE.Row w v l) (ht : Ti l) (hl : l.length ≤ 100) (x : Ex) (hx : Al x) :
    Calls Try.prog 14 #[v, .agg #[.int .i64 x.1, .int .i64 x.2.1, .int .i64 x.2.2]] w fun e w' => ∃ v, e = .returned v ∧ w'.ownsRow w.heap.size 24 3 v (setL l x).length (BkE.itemsV (setL l x)) ∧ Below w.heap.size w w' := by
  obtain ⟨i0, hi0, hz0', hz1', hz2'⟩ := info_parts BkE.Try.infoE
  obtain ⟨f, n, d⟩ := x
  obtain ⟨hcT, _⟩ := cutL_spec (f, n) l e0 ht
  have hcl := cutL_len (f, n) l e0 ht
  have hend := Hid.intro (stS_end hx ht)
  have hca : Hid (∀ o ∈ cutL l (f, n), Al o) := Hid.intro fun o ho => (tp_al hcT o ho).1
  have hr' := Hid.intro hr
  have hx' := Hid.intro hx
  have ht' := Hid.intro ht
  have hf : f ≤ 64 := by unfold Al at hx; simp only at hx; omega
  have hclen : (cutL l (f, n)).length ≤ 101 := by split at hcl <;> omega
  have htr : decide (Al (f, n, d)) = true := by simp [hx]
  have hbx0 := Hid.intro (Bx.new w (f, n, d) 24)
  simp only at hend ⊢
  clear hr hx ht hcT hcl
  go_enter Try.func14, Try.ntmps14
  go_wp2_with fail
  refine (tidy_any f n d _ (by omega)).mono ?_; rintro e w1 ⟨rfl, hb⟩
  have hB1 : Below w.heap.size w w1 := ((Below.refl _ _).alloc (Nat.le_refl _) _).trans (hb.mono (by simp))
  have hx1 := Hid.intro (hbx0.out.below hb (by simp))
  obtain ⟨p0, p1, p2, _⟩ := hx1.out
  simp only at p0 p1 p2
  clear hb hbx0
  rw [htr]
  go_wp2_with fail
  refine (spanOf_any f n d _).mono ?_; rintro e w2 ⟨rfl, hb2⟩
  have hB2 := hB1.trans (hb2.mono hB1.size)
  have hx2 := Hid.intro (hx1.out.below hb2 hx1.out.lt)
  clear hB1 hb2 hx1 p0 p1 p2
  go_wp2_with fail
  refine (cut_row (hr'.out.below hB2) ht'.out (by omega) (f, n) (by simp only; omega)).mono ?_; rintro e w3 ⟨v3, rfl, hv3, hb3⟩
  have hB3 := hB2.trans (hb3.mono hB2.size)
  have hx3 := Hid.intro (hx2.out.below hb3 hx2.out.lt)
  generalize cutL l (f, n) = c at *
  have hrow3 := BkE.own_row hv3
  have hcb3 : ∀ b, v3.ownBlock = some b → b < w3.heap.size ∧ b ≠ w.heap.size := fun b hb => ⟨(hv3.lt b hb).2, by have := (hv3.lt b hb).1; have := hx2.out.lt; omega⟩
  obtain ⟨a3, c3, rfl⟩ := hrow3.slice
  have hS3 : Hid (SL w w3 w.heap.size (.slice a3 c.length c3) c w3 (f, n, d) (.slice none 0 0) []) := Hid.intro ⟨hx3.out, hrow3, World.ownsRow_nil _ _ _ _, hB3, hx3.out.lt, hcb3, Nat.le_refl _, Nat.le_refl _⟩
  clear hB2 hx2 hv3 hb3 hx3 hrow3 hcb3 hB3 hr'
  go_wp2_with fail
  go_loopw [5, 6, 19] (fun ov lv jv wr => ∃ (i : Nat) (y : Ex) (out : List Ex) (laid : Bool), i ≤ c.length ∧ jv = .int .i64 i ∧ lv = .bool laid ∧ stS (f, n, d) c i = (y, out, laid) ∧ SL w w3 w.heap.size (.slice a3 c.length c3) c wr y ov out) (fun _ _ jv _ => c.length - (intOf jv).toNat)
  case atStart => exact ⟨0, (f, n, d), [], false, Nat.zero_le _, rfl, rfl, rfl, hS3.out⟩
  case round =>
    obtain ⟨i, ⟨y1, y2, y3⟩, out, laid, hi, rfl, rfl, hst, hSL⟩ := hrel
    have i0' : (0 : Int) ≤ (i : Int) := Int.natCast_nonneg _
    have hal := stS_al hx'.out hca.out i
    rw [hst] at hal
    obtain ⟨haly, hol⟩ := hal
    simp only at haly hol
    have hst' := Hid.intro hst
    have hal' := Hid.intro haly
    obtain ⟨a1, a2, a3', a4, a5⟩ : 0 ≤ y1 ∧ 1 ≤ y2 ∧ y2 ≤ 64 - y1 ∧ 0 ≤ y3 ∧ y3 ≤ 60 := by unfold Al at haly; simp only at haly; omega
    have hS := Hid.intro hSL
    by_cases hlt : i < c.length
    · obtain ⟨g, o, ⟨p, q, r⟩, rfl, hg, hp, d0, d1, d2⟩ := erow_at hSL.row hlt
      have halo : Al (p, q, r) := hca.out _ (List.mem_of_getElem? hp)
      obtain ⟨b1, b2, b3, b4, b5⟩ : 0 ≤ p ∧ 1 ≤ q ∧ q ≤ 64 - p ∧ 0 ≤ r ∧ r ≤ 60 := by unfold Al at halo; simp only at halo; omega
      have hao := Hid.intro halo
      have hnx : Hid (stS (f, n, d) c (i + 1) = stepS ((y1, y2, y3), out, laid) (p, q, r)) := Hid.intro (by rw [stS_succ hp, hst])
      have i1 : (i : Int) < (c.length : Int) := by omega
      simp only at d0 d1 d2
      have hbo := Hid.intro (Bx.new wr (p, q, r) 24)
      have hSa := Hid.intro (hS.out.alloc (.cells #[.int .i64 p, .int .i64 q, .int .i64 r] 24))
      have hOH : Hid (wr.heap.size ≠ w.heap.size ∧ w.heap.size < wr.heap.size) := Hid.intro (by have := hSL.bx.lt; omega)
      have hOo : Hid (∀ b, u5.ownBlock = some b → b ≠ wr.heap.size) := Hid.intro fun b hb => by have := (hSL.own.lt b hb).2; omega
      obtain ⟨q0, q1, q2, _⟩ := hSL.bx
      simp only at q0 q1 q2
      have hzz : w.heap.size < wr.heap.size := hSL.bx.lt
      clear hst haly hSL hp halo hS
      simp only at hbo
      go_wp2_with fail
      clear d0 d1 d2 q0 q1 q2 hg
      generalize wr.alloc (.cells #[.int .i64 p, .int .i64 q, .int .i64 r] 24) = w4 at *
      generalize wr.heap.size = O at *
      by_cases h1 : On (p, q, r) (y1, y2, y3)
      · refine (on_t (p, q, r) (y1, y2, y3) _ hao.out h1).mono ?_; rintro e w5 ⟨rfl, hb5⟩
        have hS5 := Hid.intro (hSa.out.below hb5)
        obtain ⟨q0, q1, q2, z0, z1, z2⟩ := hS5.out.bx
        obtain ⟨e0', e1', e2', _⟩ := hbo.out.below hb5 hbo.out.lt
        simp only at q0 q1 q2 e0' e1' e2'
        have hnx' : Hid (stS (f, n, d) c (i + 1) = ((p, q + y2, r), out, laid)) := Hid.intro (by rw [hnx.out]; unfold stepS; simp [h1])
        have h1' := Hid.intro h1
        clear h1 hb5 hSa hbo
        go_wp2
        go_roundw
        case rel => exact ⟨i + 1, (p, q + y2, r), out, laid, by omega, by go_num, rfl, hnx'.out, hS5.out.set (p, q + y2, r)⟩
        case measure => simp [intOf]; omega
      · refine (on_f (p, q, r) (y1, y2, y3) _ hao.out h1).mono ?_; rintro e w5 ⟨rfl, hb5⟩
        have hS5 := Hid.intro (hSa.out.below hb5)
        have hbo5 := Hid.intro (hbo.out.below hb5 hbo.out.lt)
        obtain ⟨q0, q1, q2, z0, z1, z2⟩ := hS5.out.bx
        obtain ⟨e0', e1', e2', _⟩ := hbo5.out
        simp only at q0 q1 q2 e0' e1' e2'
        clear hb5 hSa hbo
        go_wp2_with fail
        clear q0 q1 q2 z0 z1 z2 e0' e1' e2'
        by_cases h2 : On (y1, y2, y3) (p, q, r)
        · refine (on_t (y1, y2, y3) (p, q, r) _ hal'.out h2).mono ?_; rintro e w6 ⟨rfl, hb6⟩
          have hS6 := Hid.intro (hS5.out.below hb6)
          obtain ⟨q0, q1, q2, z0, z1, z2⟩ := hS6.out.bx
          obtain ⟨e0', e1', e2', _⟩ := hbo5.out.below hb6 hbo5.out.lt
          simp only at q0 q1 q2 e0' e1' e2'
          have hnx' : Hid (stS (f, n, d) c (i + 1) = ((y1, y2 + q, y3), out, laid)) := Hid.intro (by rw [hnx.out]; unfold stepS; simp [h1, h2])
          clear h1 h2 hb6 hS5 hbo5
          go_wp2
          go_roundw
          case rel => exact ⟨i + 1, (y1, y2 + q, y3), out, laid, by omega, by go_num, rfl, hnx'.out, hS6.out.set1 (y2 + q)⟩
          case measure => simp [intOf]; omega
        · refine (on_f (y1, y2, y3) (p, q, r) _ hal'.out h2).mono ?_; rintro e w6 ⟨rfl, hb6⟩
          have hS6 := Hid.intro (hS5.out.below hb6)
          have hbo6 := Hid.intro (hbo5.out.below hb6 hbo5.out.lt)
          obtain ⟨q0, q1, q2, z0, z1, z2⟩ := hS6.out.bx
          obtain ⟨e0', e1', e2', _⟩ := hbo6.out
          have hO6 : O < w6.heap.size := hbo6.out.lt
          have hH6 : w.heap.size < w6.heap.size := hS6.out.bx.lt
          simp only at q0 q1 q2 e0' e1' e2'
          clear hb6 hS5 hbo5
          by_cases hb : laid = false ∧ y1 < p
          · obtain ⟨hb1, hb2⟩ := hb
            have hnx' : Hid (stS (f, n, d) c (i + 1) = ((y1, y2, y3), out ++ [(y1, y2, y3)] ++ [(p, q, r)], true)) := Hid.intro (by rw [hnx.out]; unfold stepS; simp [h1, h2, hb1, hb2])
            clear h1 h2
            subst hb1
            go_upto_region 15 with (first | (at_builtin; refine wpList_append_lies _ rfl _ _ 22 rfl w3.heap.size 24 i0 (.agg #[.int .i64 0, .int .i64 0, .int .i64 0]) 3 24 Try.underlying22 hi0 hz0' hz1' hz2' rfl (by decide) _ out.length (BkE.itemsV out) rfl (hS6.out.own.alloc _) ⟨w6.heap.size, 0, none⟩ 1 1 [.int .i64 y1, .int .i64 y2, .int .i64 y3] rfl rfl (World.news_of_block (cs := #[.int .i64 y1, .int .i64 y2, .int .i64 y3]) (t := 24) (fr := (0, 0)) (heap_alloc_new w6 _)) (by simp [Value.oneCell']) (by decide) (by unfold maxLen; omega) (by omega) (by have := hS6.out.sz; simp; omega) (w6.heap.size + 1) (by simp) ?_; intro g7 cap7 w7 hown7 hgrow7 hat7 hlt7))
            have hS7 := Hid.intro (hS6.out.app (o := (y1, y2, y3)) hgrow7 hown7)
            have hbo7 := Hid.intro ((hbo6.out.below ((Below.refl w6.heap.size w6).alloc (Nat.le_refl _) (.cells #[.int .i64 y1, .int .i64 y2, .int .i64 y3] 24)) hO6).grown hgrow7 (fun e => hOo.out _ e.symm rfl))
            clear q0 q1 q2 z0 z1 z2 e0' e1' e2' hO6 hH6 hgrow7 hown7 hat7 hlt7 hS6 hbo6
            obtain ⟨e0', e1', e2', _⟩ := hbo7.out
            have hO7 : O < w7.heap.size := hbo7.out.lt
            simp only at e0' e1' e2'
            have hle7 : (out ++ [(y1, y2, y3)]).length ≤ 2 * i + 1 := by simp; omega
            have hln : out.length + 1 = (out ++ [(y1, y2, y3)]).length := by simp
            rw [hln]
            rw [hln] at hS7
            clear hln
            generalize out ++ [(y1, y2, y3)] = out2 at *
            go_wp2_with (at_builtin; refine wpList_append_lies _ rfl _ _ 22 rfl w3.heap.size 24 i0 (.agg #[.int .i64 0, .int .i64 0, .int .i64 0]) 3 24 Try.underlying22 hi0 hz0' hz1' hz2' rfl (by decide) _ out2.length (BkE.itemsV out2) rfl (hS7.out.own.alloc _) ⟨w7.heap.size, 0, none⟩ 1 1 [.int .i64 p, .int .i64 q, .int .i64 r] rfl rfl (World.news_of_block (cs := #[.int .i64 p, .int .i64 q, .int .i64 r]) (t := 24) (fr := (0, 0)) (heap_alloc_new w7 _)) (by simp [Value.oneCell']) (by decide) (by unfold maxLen; omega) (by omega) (by have := hS7.out.sz; simp; omega) (w7.heap.size + 1) (by simp) ?_; intro g8 cap8 w8 hown8 hgrow8 hat8 hlt8)
            go_roundw
            case rel => exact ⟨i + 1, (y1, y2, y3), out2 ++ [(p, q, r)], true, by omega, by go_num, rfl, hnx'.out, hS7.out.app (o := (p, q, r)) hgrow8 hown8⟩
            case measure => simp [intOf]; omega
          · have hnx' : Hid (stS (f, n, d) c (i + 1) = ((y1, y2, y3), out ++ [(p, q, r)], laid)) := Hid.intro (by rw [hnx.out]; unfold stepS; simp [h1, h2, hb])
            cases laid with
            | true =>
              clear h1 h2 hb
              go_wp2_with (at_builtin; refine wpList_append_lies _ rfl _ _ 22 rfl w3.heap.size 24 i0 (.agg #[.int .i64 0, .int .i64 0, .int .i64 0]) 3 24 Try.underlying22 hi0 hz0' hz1' hz2' rfl (by decide) _ out.length (BkE.itemsV out) rfl (hS6.out.own.alloc _) ⟨w6.heap.size, 0, none⟩ 1 1 [.int .i64 p, .int .i64 q, .int .i64 r] rfl rfl (World.news_of_block (cs := #[.int .i64 p, .int .i64 q, .int .i64 r]) (t := 24) (fr := (0, 0)) (heap_alloc_new w6 _)) (by simp [Value.oneCell']) (by decide) (by unfold maxLen; omega) (by omega) (by have := hS6.out.sz; simp; omega) (w6.heap.size + 1) (by simp) ?_; intro g7 cap7 w7 hown7 hgrow7 hat7 hlt7)
              go_roundw
              case rel => exact ⟨i + 1, (y1, y2, y3), out ++ [(p, q, r)], true, by omega, by go_num, rfl, hnx'.out, hS6.out.app (o := (p, q, r)) hgrow7 hown7⟩
              case measure => simp [intOf]; omega
            | false =>
              have hb2 : ¬ y1 < p := fun h => hb ⟨rfl, h⟩
              clear h1 h2 hb
              go_wp2_with (at_builtin; refine wpList_append_lies _ rfl _ _ 22 rfl w3.heap.size 24 i0 (.agg #[.int .i64 0, .int .i64 0, .int .i64 0]) 3 24 Try.underlying22 hi0 hz0' hz1' hz2' rfl (by decide) _ out.length (BkE.itemsV out) rfl (hS6.out.own.alloc _) ⟨w6.heap.size, 0, none⟩ 1 1 [.int .i64 p, .int .i64 q, .int .i64 r] rfl rfl (World.news_of_block (cs := #[.int .i64 p, .int .i64 q, .int .i64 r]) (t := 24) (fr := (0, 0)) (heap_alloc_new w6 _)) (by simp [Value.oneCell']) (by decide) (by unfold maxLen; omega) (by omega) (by have := hS6.out.sz; simp; omega) (w6.heap.size + 1) (by simp) ?_; intro g7 cap7 w7 hown7 hgrow7 hat7 hlt7)
              go_roundw
              case rel => exact ⟨i + 1, (y1, y2, y3), out ++ [(p, q, r)], false, by omega, by go_num, rfl, hnx'.out, hS6.out.app (o := (p, q, r)) hgrow7 hown7⟩
              case measure => simp [intOf]; omega
    · have hi' : i = c.length := by omega
      obtain ⟨q0, q1, q2, z0, z1, z2⟩ := hSL.bx
      simp only at q0 q1 q2
      have hfin : Hid (finS ((y1, y2, y3), out, laid) = setL l (f, n, d)) := Hid.intro (by rw [← hend.out, ← hi', hst])
      subst hi'
      have hzz : w.heap.size < wr.heap.size := hSL.bx.lt
      have hSz : Hid (w.heap.size ≤ w3.heap.size) := Hid.intro (Nat.le_trans hSL.h0 (Nat.le_of_lt hSL.hH))
      cases laid with
      | true =>
        have hfin' : out = setL l (f, n, d) := hfin.out
        clear hst
        go_wp2
        go_ret
        exact ⟨_, rfl, by rw [← hfin']; exact BkE.own_mono hSL.own hSz.out, hSL.bel⟩
      | false =>
        have hfin' : out ++ [(y1, y2, y3)] = setL l (f, n, d) := hfin.out
        clear hst
        go_wp2_with (at_builtin; refine wpList_append_lies _ rfl _ _ 22 rfl w3.heap.size 24 i0 (.agg #[.int .i64 0, .int .i64 0, .int .i64 0]) 3 24 Try.underlying22 hi0 hz0' hz1' hz2' rfl (by decide) _ out.length (BkE.itemsV out) rfl (hSL.own.alloc _) ⟨wr.heap.size, 0, none⟩ 1 1 [.int .i64 y1, .int .i64 y2, .int .i64 y3] rfl rfl (World.news_of_block (cs := #[.int .i64 y1, .int .i64 y2, .int .i64 y3]) (t := 24) (fr := (0, 0)) (heap_alloc_new wr _)) (by simp [Value.oneCell']) (by decide) (by unfold maxLen; omega) (by omega) (by have := hSL.sz; simp; omega) (wr.heap.size + 1) (by simp) ?_; intro g7 cap7 w7 hown7 hgrow7 hat7 hlt7)
        go_ret
        have h9 := hSL.app (o := (y1, y2, y3)) hgrow7 hown7
        exact ⟨_, rfl, by rw [← hfin']; exact BkE.own_mono h9.own hSz.out, h9.bel⟩
/-- Set, of every tidy list and every extent. -/
theorem set_any {w : World} {v : Value} {l : List Ex} (hr : BkE.Row w v l) (ht : Ti l) (x : Ex) (hf : x.1 ≤ 9223372036854775807) :
    Calls Try.prog 14 #[v, .agg #[.int .i64 x.1, .int .i64 x.2.1, .int .i64 x.2.2]] w fun e w' => ∃ v, e = .returned v ∧ w'.ownsRow w.heap.size 24 3 v (setL l x).length (BkE.itemsV (setL l x)) ∧ Below w.heap.size w w' := by
  have hl := ti_len ht
  by_cases hx : Al x
  · exact set_yes hr ht (by omega) x hx
  · have e : setL l x = l := by unfold setL; rw [if_neg hx]
    rw [e]; exact set_no hr (by omega) x hx hf
end Go.Proofs.Ytfikkbmilhcahaa
