/-
  Contracts for RunsPlay: emulsionbook's LentSpans and StaysSpans, runs' Copy and Has, and all calls of a nil *Runs.
-/
import Derived.Test.YtpdbnldbdmhhfaaMeetWalk
namespace Go.Proofs.Ytpdbnldbdmhhfaa
open Go.ChangeShapes Go.WideShapes Go.ChangeAt Go.RowKit
attribute [local go_sem ↓] Go.wp_at_zero Go.wp_at_succ

/-- A list with room behind it, in which a mark stands. -/
def Lent (w : World) (u : Value) (l : List Sp) : Prop :=
  ∃ g cap, u = .slice (some ⟨g, 0, none⟩) l.length cap ∧ l.length < cap ∧ g < w.heap.size ∧ Cells w g 0 (l ++ [(-77, 0)])

theorem Cells.left {w : World} {g o : Nat} {l m : List Sp} (h : Cells w g o (l ++ m)) : Cells w g o l := fun i p hp => by
  refine h i p ?_
  rw [List.getElem?_append_left (List.getElem?_eq_some_iff.1 hp).1]; exact hp
theorem Lent.row {w : World} {u : Value} {l : List Sp} (h : Lent w u l) : Row w u l := by
  obtain ⟨g, cap, hu, _, hg, hc⟩ := h
  exact .inr ⟨g, 0, cap, hu, hg, hc.left⟩
theorem Lent.below {w w' : World} {u : Value} {l : List Sp} (h : Lent w u l) (hb : Below w.heap.size w w') : Lent w' u l := by
  obtain ⟨g, cap, hu, hl, hg, hc⟩ := h
  exact ⟨g, cap, hu, hl, Nat.lt_of_lt_of_le hg hb.size, hc.below hb hg⟩
theorem Lent.but {w w' : World} {u : Value} {l ps : List Sp} {x : Nat} (h : Lent w u l) (hx : RObj w x ps) (hb : But x w w') : Lent w' u l := by
  obtain ⟨g, cap, hu, hl, hg, hc⟩ := h
  obtain ⟨v, hv, _⟩ := hx
  exact ⟨g, cap, hu, hl, Nat.lt_of_lt_of_le hg hb.size, hc.but hg hv hb⟩

set_option maxRecDepth 100000 in
theorem lent_any {w : World} {v : Value} {l : List Sp} (h : Row w v l) (hl : l.length ≤ 1000) :
    Calls Try.prog 9 #[v] w fun e w' => ∃ u, e = .returned u ∧ Lent w' u l ∧ Below w.heap.size w w' := by
  obtain ⟨i0, hi0, hz0', hz1', hz2'⟩ := info_parts Try.info49
  have h' := Hid.intro h
  obtain ⟨a, c, rfl⟩ := h.slice
  clear h
  go_enter Try.func9, Try.ntmps9
  go_wp2_with fail
  refine (copy_rows h'.out (by omega)).mono ?_; rintro e w1 ⟨cv, rfl, hcv, hb1⟩
  obtain ⟨a1, c1, rfl⟩ := own_slice hcv
  have hz1 := hb1.size
  go_wp2_with (at_builtin; refine wpList_append_lies _ rfl _ _ 22 rfl w.heap.size 49 i0 (.agg #[.int .i64 0, .int .i64 0]) 2 16 Try.underlying22 hi0 hz0' hz1' hz2' rfl (by decide) _ _ _ rfl (hcv.alloc _) ⟨w1.heap.size, 0, none⟩ 1 1 [.int .i64 (-77), .int .i64 0] rfl rfl (World.news_of_block (cs := #[.int .i64 (-77), .int .i64 0]) (t := 49) (fr := (0, 0)) (heap_alloc_new w1 _)) (by simp [Value.oneCell']) (by decide) (by unfold maxLen; omega) (by omega) (by simp; omega) (w1.heap.size + 1) (by simp) ?_; intro g5 cap5 w5 hown5 hgrow5 hat5 hlt5; have hle5 := own_le hown5; have k1 : ((l.length : Nat) : Int) ≤ (cap5 : Int) := (by omega); have k0 : (0 : Int) ≤ ((l.length : Nat) : Int) := Int.natCast_nonneg _; have k2 : l.length ≤ cap5 := (by omega))
  go_ret
  refine ⟨_, rfl, ⟨g5, cap5, rfl, by omega, hlt5, fun i p hp => ?_⟩, app_below hb1 hz1 hgrow5 (fun j hj => (hcv.lt j hj).1)⟩
  have := row_cells (ps := l ++ [(-77, 0)]) (base := w.heap.size) (g := g5) (cap := cap5) (w := w5) (by rw [List.length_append, spansV_append]; exact hown5) i p hp
  rw [Nat.zero_add]; exact this

set_option maxRecDepth 100000 in
theorem stays_any {w : World} {u v : Value} {l : List Sp} (h : Lent w u l) (hv : Row w v l) (hl : l.length ≤ 1000) :
    Calls Try.prog 11 #[u, v] w fun e w' => e = .returned (.bool true) ∧ Below w.heap.size w w' := by
  have hr := Hid.intro h.row
  have hv' := Hid.intro hv
  obtain ⟨g, cap, rfl, hcap, hg, hc⟩ := h
  have hcell : w.cell? ⟨g, l.length * 2, none⟩ = some (.int .i64 (-77)) := by
    have := (hc l.length (-77, 0) (by simp)).1
    rwa [Nat.zero_add] at this
  have hcell' := Hid.intro hcell
  clear hc hv hcell
  have k0 : (0 : Int) ≤ ((l.length : Nat) : Int) := Int.natCast_nonneg _
  have k1 : ((l.length : Nat) : Int) + 1 ≤ (cap : Int) := by omega
  have k2 : l.length + 1 ≤ cap := by omega
  go_enter Try.func11, Try.ntmps11
  go_wp2_with fail
  refine (same_rows hr.out hv'.out (by omega)).mono ?_; rintro e w1 ⟨rfl, hb1⟩
  have q : w1.cell? ⟨g, l.length * 2, none⟩ = some (.int .i64 (-77)) := by rw [hb1.cell (p := ⟨g, l.length * 2, none⟩) hg]; exact hcell'.out
  go_wp2
  go_ret
  exact ⟨rfl, hb1⟩

theorem robj_of {w : World} {v : Value} {ps : List Sp} (hr : Row w v ps) (ht : T49 w v) : RObj (w.alloc (.cells #[v] 60)) w.heap.size ps := by
  have hb : Below w.heap.size w (w.alloc (.cells #[v] 60)) := (Below.refl _ _).alloc (Nat.le_refl _) _
  exact ⟨v, by have := heap_alloc_new w (.cells #[v] 60); simpa using this, hr.below hb, ht.below hb⟩

theorem copy_any {w : World} {b : Nat} {ps : List Sp} (h : RObj w b ps) (hc : Canon ps) :
    Calls Try.prog 16 #[.pointer (some ⟨b, 0, none⟩)] w fun e w' => ∃ c, e = .returned (.pointer (some ⟨c, 0, none⟩)) ∧ w.heap.size ≤ c ∧ Hid (RObj w' c ps) ∧ Below w.heap.size w w' := by
  have h' := Hid.intro h
  have hl := canon_64 hc
  clear h hc
  go_enter Try.func16, Try.ntmps16
  go_wp2_with fail
  refine (all_any h'.out (by omega)).mono ?_; rintro e w1 ⟨v, rfl, ho, hb⟩
  obtain ⟨a, c, rfl⟩ := own_slice ho
  have ho' := Hid.intro ho
  clear ho
  go_wp2
  go_ret
  exact ⟨_, rfl, hb.size, robj_of (own_row ho'.out) (own_t49 ho'.out), hb.alloc hb.size _⟩
end Go.Proofs.Ytpdbnldbdmhhfaa
