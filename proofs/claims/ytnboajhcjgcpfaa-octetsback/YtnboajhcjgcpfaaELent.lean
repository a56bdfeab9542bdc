/-
  LentExtents, StaysExtents: a list with room behind it, in which a mark stands.
-/
import Derived.Test.YtnboajhcjgcpfaaBkELists
import Derived.Test.YtnboajhcjgcpfaaEBox
namespace Go.Proofs.Ytnboajhcjgcpfaa
open Go.ChangeShapes Go.WideShapes Go.ChangeAt Go.RowKit
attribute [local go_sem ↓] Go.wp_at_zero Go.wp_at_succ

/-- A list that was lent: its cells, and the mark behind them. -/
def Lent (w : World) (base g cap : Nat) (l : List Ex) : Prop := w.ownsRow base 71 3 (.slice (some ⟨g, 0, none⟩) (l.length + 1) cap) (l.length + 1) (BkE.itemsV (l ++ [(-77, 0, 0)]))
theorem Lent.cells {w : World} {base g cap : Nat} {l : List Ex} (h : Lent w base g cap l) : BkE.Cells w g 0 (l ++ [(-77, 0, 0)]) := by
  have h' : w.ownsRow base 71 3 (.slice (some ⟨g, 0, none⟩) (l ++ [((-77 : Int), (0 : Int), (0 : Int))]).length cap) (l ++ [((-77 : Int), (0 : Int), (0 : Int))]).length (BkE.itemsV (l ++ [(-77, 0, 0)])) := by
    rw [List.length_append]; exact h
  exact BkE.row_cells h'
theorem Lent.row {w : World} {base g cap : Nat} {l : List Ex} (h : Lent w base g cap l) : BkE.Row w (.slice (some ⟨g, 0, none⟩) l.length cap) l := by
  have hc := h.cells
  exact .inr ⟨g, 0, cap, rfl, (h.lt g rfl).2, fun i p hp => hc i p (by rw [List.getElem?_append_left (List.getElem?_eq_some_iff.1 hp).1]; exact hp)⟩
theorem Lent.mark {w : World} {base g cap : Nat} {l : List Ex} (h : Lent w base g cap l) : w.cell? ⟨g, l.length * 3, none⟩ = some (.int .i64 (-77)) := by
  have := (h.cells l.length (-77, 0, 0) (by simp)).1
  simpa using this
theorem Lent.cap {w : World} {base g cap : Nat} {l : List Ex} (h : Lent w base g cap l) : l.length + 1 ≤ cap ∧ cap ≤ maxLen := by
  rcases h.2 with ⟨h0, _⟩ | ⟨g', c', cur, hv, _, _, hn, hm, _⟩
  · cases h0
  · cases hv; exact ⟨hn, hm⟩
theorem Lent.below {w w' : World} {base g cap : Nat} {l : List Ex} (h : Lent w base g cap l) (hb : Below w.heap.size w w') : Lent w' base g cap l := BkE.own_below h hb
theorem one_own {w : World} {base g cap : Nat} {l : List Ex} (h : w.ownsRow base 71 3 (.slice (some ⟨g, 0, none⟩) (l.length + 1) cap) (l.length + 1) (BkE.itemsV l ++ [.int .i64 (-77), .int .i64 0, .int .i64 0])) : Lent w base g cap l := by
  unfold Lent
  rw [BkE.itemsV_append]; exact h
set_option maxRecDepth 100000 in
theorem lent_any {w : World} {v : Value} {l : List Ex} (hr : BkE.Row w v l) (hl : l.length ≤ 1000) :
    Calls Try.prog 14 #[v] w fun e w' => ∃ g cap, e = .returned (.slice (some ⟨g, 0, none⟩) l.length cap) ∧ Lent w' w.heap.size g cap l ∧ Below w.heap.size w w' := by
  obtain ⟨i0, hi0, hz0', hz1', hz2'⟩ := info_parts BkE.Try.infoE
  obtain ⟨a, c, rfl⟩ := hr.slice
  have hr' := Hid.intro hr
  clear hr
  have l0 : (0 : Int) ≤ (l.length : Int) := Int.natCast_nonneg _
  have l1 : (l.length : Int) ≤ 1000 := by omega
  go_enter Try.func14, Try.ntmps14
  go_wp2_with fail
  refine (BkE.copy_rows hr'.out (by omega)).mono ?_; rintro e w2 ⟨v2, rfl, hv2, hb2⟩
  have hsz := hb2.size
  have l2 : l.length ≤ 9223372036854775807 := by omega
  go_wp2_with (at_builtin; refine wpList_append_lies _ rfl _ _ 30 rfl w.heap.size 71 i0 (.agg #[.int .i64 0, .int .i64 0, .int .i64 0]) 3 24 Try.underlying30 hi0 hz0' hz1' hz2' rfl (by decide) _ l.length (BkE.itemsV l) rfl (hv2.alloc _) ⟨w2.heap.size, 0, none⟩ 1 1 [.int .i64 (-77), .int .i64 0, .int .i64 0] rfl rfl (World.news_of_block (cs := #[.int .i64 (-77), .int .i64 0, .int .i64 0]) (t := 71) (fr := (0, 0)) (heap_alloc_new w2 _)) (by simp [Value.oneCell']) (by decide) (by unfold maxLen; omega) (by omega) (by simp; omega) (w2.heap.size + 1) (by simp) ?_; intro g5 cap5 w5 hown5 hgrow5 hat5 hlt5; have hB := Hid.intro ((hb2.alloc hsz (.cells #[.int .i64 (-77), .int .i64 0, .int .i64 0] 71)).grown hgrow5 (Nat.le_trans hsz (by simp)) (fun j hj => (hv2.lt j hj).1)); have hL := Hid.intro (one_own hown5); have hc1 : l.length ≤ cap5 := (by have := hL.out.cap; omega); have hc2 : ¬ cap5 < l.length := (by omega); have hc3 : (l.length : Int) ≤ (cap5 : Int) := (by omega); clear hown5 hgrow5 hat5 hlt5)
  go_ret
  exact ⟨g5, cap5, rfl, hL.out, hB.out⟩
set_option maxRecDepth 100000 in
theorem stays_any {w : World} {base g cap : Nat} {v : Value} {l : List Ex} (hL : Lent w base g cap l) (hr : BkE.Row w v l) (hl : l.length ≤ 1000) :
    Calls Try.prog 18 #[.slice (some ⟨g, 0, none⟩) l.length cap, v] w fun e w' => e = .returned (.bool true) ∧ Below w.heap.size w w' := by
  have hL' := Hid.intro hL
  have hr' := Hid.intro hr
  have hcap := hL.cap
  have hc1 : l.length + 1 ≤ cap := hcap.1
  have hc2 : ¬ cap < l.length + 1 := by omega
  have hc3 : (l.length : Int) + 1 ≤ (cap : Int) := by omega
  have l0 : (0 : Int) ≤ (l.length : Int) := Int.natCast_nonneg _
  have l1 : (l.length : Int) ≤ 1000 := by omega
  clear hL hr hcap
  go_enter Try.func18, Try.ntmps18
  go_wp2_with fail
  refine (BkE.same_rows hL'.out.row hr'.out (by omega)).mono ?_; rintro e w2 ⟨rfl, hb2⟩
  have hm : w2.cell? ⟨g, l.length * 3, none⟩ = some (.int .i64 (-77)) := (hL'.out.below hb2).mark
  have h1 : ((l.length : Int) + 1).toNat = l.length + 1 := by omega
  go_wp2
  go_ret
  exact ⟨rfl, hb2⟩
end Go.Proofs.Ytnboajhcjgcpfaa
