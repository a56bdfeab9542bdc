/-
  LentInts, StaysInts: a list with room behind it, in which a mark stands; a []int that is handed in.
-/
import Derived.Test.YtgigpohfkppplaaBkIApart
import Derived.Test.YtgigpohfkppplaaLParts
import Derived.Deep.SlicePairs
import Derived.OpenShut
namespace Go.Proofs.Ytgigpohfkppplaa
open Go.ChangeShapes Go.WideShapes Go.ChangeAt Go.RowKit Go.Deep
attribute [local go_sem ↓] Go.wp_at_zero Go.wp_at_succ

/-- A list that was lent: its cells, and the mark behind them. -/
def Lent (w : World) (base g cap : Nat) (l : List Int) : Prop := w.ownsRow base 3 1 (.slice (some ⟨g, 0, none⟩) (l.length + 1) cap) (l.length + 1) (BkI.itemsV (l ++ [-77]))
theorem Lent.cells {w : World} {base g cap : Nat} {l : List Int} (h : Lent w base g cap l) : BkI.Cells w g 0 (l ++ [-77]) := by
  have h' : w.ownsRow base 3 1 (.slice (some ⟨g, 0, none⟩) (l ++ [(-77 : Int)]).length cap) (l ++ [(-77 : Int)]).length (BkI.itemsV (l ++ [-77])) := by
    rw [List.length_append]; exact h
  exact BkI.row_cells h'
theorem Lent.row {w : World} {base g cap : Nat} {l : List Int} (h : Lent w base g cap l) : BkI.Row w (.slice (some ⟨g, 0, none⟩) l.length cap) l := by
  have hc := h.cells
  exact .inr ⟨g, 0, cap, rfl, (h.lt g rfl).2, fun i p hp => hc i p (by rw [List.getElem?_append_left (List.getElem?_eq_some_iff.1 hp).1]; exact hp)⟩
theorem Lent.mark {w : World} {base g cap : Nat} {l : List Int} (h : Lent w base g cap l) : w.cell? ⟨g, l.length, none⟩ = some (.int .i64 (-77)) := by
  have := h.cells l.length (-77) (by simp)
  simpa using this
theorem Lent.cap {w : World} {base g cap : Nat} {l : List Int} (h : Lent w base g cap l) : l.length + 1 ≤ cap ∧ cap ≤ maxLen := by
  rcases h.2 with ⟨h0, _⟩ | ⟨g', c', cur, hv, _, _, hn, hm, _⟩
  · cases h0
  · cases hv; exact ⟨hn, hm⟩
theorem Lent.below {w w' : World} {base g cap : Nat} {l : List Int} (h : Lent w base g cap l) (hb : Below w.heap.size w w') : Lent w' base g cap l := BkI.own_below h hb
theorem one_own {w : World} {base g cap : Nat} {l : List Int} (h : w.ownsRow base 3 1 (.slice (some ⟨g, 0, none⟩) (l.length + 1) cap) (l.length + 1) (BkI.itemsV l ++ [.int .i64 (-77)])) : Lent w base g cap l := by
  unfold Lent
  rw [BkI.itemsV_append]; exact h
set_option maxRecDepth 100000 in
theorem lent_any {w : World} {v : Value} {l : List Int} (hr : BkI.Row w v l) (hl : l.length ≤ 1000) :
    Calls Try.prog 17 #[v] w fun e w' => ∃ g cap, e = .returned (.slice (some ⟨g, 0, none⟩) l.length cap) ∧ Lent w' w.heap.size g cap l ∧ Below w.heap.size w w' := by
  obtain ⟨i0, hi0, hz0', hz1', hz2'⟩ := info_parts BkI.Try.infoE
  obtain ⟨a, c, rfl⟩ := hr.slice
  have hr' := Hid.intro hr
  clear hr
  have l0 : (0 : Int) ≤ (l.length : Int) := Int.natCast_nonneg _
  have l1 : (l.length : Int) ≤ 1000 := by omega
  go_enter Try.func17, Try.ntmps17
  go_wp2_with fail
  refine (BkI.copy_rows hr'.out (by omega)).mono ?_; rintro e w2 ⟨v2, rfl, hv2, hb2⟩
  have hsz := hb2.size
  have l2 : l.length ≤ 9223372036854775807 := by omega
  go_wp2_with (at_builtin; refine wpList_append_lies _ rfl _ _ 33 rfl w.heap.size 3 i0 (.int .i64 0) 1 8 Try.underlying33 hi0 hz0' hz1' hz2' rfl (by decide) _ l.length (BkI.itemsV l) rfl (hv2.alloc _) ⟨w2.heap.size, 0, none⟩ 1 1 [.int .i64 (-77)] rfl rfl (World.news_of_block (cs := #[.int .i64 (-77)]) (t := 3) (fr := (0, 0)) (heap_alloc_new w2 _)) (by simp [Value.oneCell']) (by decide) (by unfold maxLen; omega) (by omega) (by simp; omega) (w2.heap.size + 1) (by simp) ?_; intro g5 cap5 w5 hown5 hgrow5 hat5 hlt5; have hB := Hid.intro ((hb2.alloc hsz (.cells #[.int .i64 (-77)] 3)).grown hgrow5 (Nat.le_trans hsz (by simp)) (fun j hj => (hv2.lt j hj).1)); have hL := Hid.intro (one_own hown5); have hc1 : l.length ≤ cap5 := (by have := hL.out.cap; omega); have hc2 : ¬ cap5 < l.length := (by omega); have hc3 : (l.length : Int) ≤ (cap5 : Int) := (by omega); clear hown5 hgrow5 hat5 hlt5)
  go_ret
  exact ⟨g5, cap5, rfl, hL.out, hB.out⟩
set_option maxRecDepth 100000 in
theorem stays_any {w : World} {base g cap : Nat} {v : Value} {l : List Int} (hL : Lent w base g cap l) (hr : BkI.Row w v l) (hl : l.length ≤ 1000) :
    Calls Try.prog 20 #[.slice (some ⟨g, 0, none⟩) l.length cap, v] w fun e w' => e = .returned (.bool true) ∧ Below w.heap.size w w' := by
  have hL' := Hid.intro hL
  have hr' := Hid.intro hr
  have hcap := hL.cap
  have hc1 : l.length + 1 ≤ cap := hcap.1
  have hc2 : ¬ cap < l.length + 1 := by omega
  have hc3 : (l.length : Int) + 1 ≤ (cap : Int) := by omega
  have l0 : (0 : Int) ≤ (l.length : Int) := Int.natCast_nonneg _
  have l1 : (l.length : Int) ≤ 1000 := by omega
  clear hL hr hcap
  go_enter Try.func20, Try.ntmps20
  go_wp2_with fail
  refine (BkI.same_rows hL'.out.row hr'.out (by omega)).mono ?_; rintro e w2 ⟨rfl, hb2⟩
  have hm : w2.cell? ⟨g, l.length, none⟩ = some (.int .i64 (-77)) := (hL'.out.below hb2).mark
  have h1 : ((l.length : Int) + 1).toNat = l.length + 1 := by omega
  go_wp2
  go_ret
  exact ⟨rfl, hb2⟩

/-! ### What is handed in. -/
def IntsAt (W : World) (v : Value) (l : List Int) : Prop := BkI.Row W v l
theorem cellsI : Try.prog.cellsOf 3 = 1 := by kernel_rfl
theorem laidOut : laidOutB Try.prog = true := by kernel_rfl
set_option maxRecDepth 100000 in
theorem ints_of_trod {H : Type} {enc : TypeId × Value → H} {W : World} {v : Value} {fuel : Nat} {x : DataW H × List MemPlace}
    (hf : DataW.trod enc Try.prog W 0 (fun _ => true) true fuel 33 [v] = some x) : ∃ l, IntsAt W v l := by
  rcases open_slice1 Try.underlying33 cellsI hf with ⟨hcs, _⟩ | ⟨a, len, cap, m, n, V, D, Pl, hcs, _, hl, hm, hmm, hx, hcell⟩
  · cases hcs
    exact ⟨[], .inl ⟨⟨_, _, rfl⟩, rfl⟩⟩
  · cases hcs
    simp at hmm
    subst hmm
    have each : ∀ i, i < m → ∃ b : Int, W.cell? (a.add i) = some (.int .i64 b) := by
      intro i hi
      obtain ⟨h1, h2⟩ := hcell i hi
      obtain ⟨b, hb, _, _⟩ := DataW.trod_int Try.underlying3 h2
      have hv : V i = .int .i64 b := by simpa using hb
      exact ⟨b, by rw [h1, hv]⟩
    obtain ⟨q, hq⟩ := choose_lt each
    refine ⟨(List.range len).map q, ?_⟩
    by_cases h0 : len = 0
    · subst h0; exact .inl ⟨⟨_, _, rfl⟩, rfl⟩
    · obtain ⟨b, off, spot⟩ := a
      have hc0 := hq 0 (by omega)
      have hspot : spot = none := by simpa [Addr.add] using World.cell?_spot hc0
      subst hspot
      have hbl : b < W.heap.size := World.block_lt_of_cell? W _ hc0
      refine .inr ⟨b, off, m, by simp, hbl, fun i e hp => ?_⟩
      have hi : i < len := by have := (List.getElem?_eq_some_iff.1 hp).1; simpa using this
      have hp' : e = q i := by simp [hi] at hp; exact hp.symm
      subst hp'
      have := hq i (by omega)
      rw [Addr.add_mid] at this
      exact this
set_option maxRecDepth 100000 in
theorem open_ints {H : Type} {enc : TypeId × Value → H} {W : World} {base : Nat} {v : Value} {d : DataW H} {p : List MemPlace} (hv : Value.okWide Try.prog W .any base 33 v)
    (h : DataW.Trod enc Try.prog W 0 (fun _ => true) true 33 v d p) : (∃ l, IntsAt W v l) ∧ ∀ x ∈ p, x.block < W.heap.size := by
  refine ⟨?_, by obtain ⟨m, hm⟩ := h; exact DataW.trod_lt m _ _ _ hm⟩
  obtain ⟨a0, len0, cap0, rfl⟩ := okWide_slice Try.underlying33 hv
  obtain ⟨fuel, hf⟩ := h
  exact ints_of_trod (by simpa [Value.cells] using hf)
end Go.Proofs.Ytgigpohfkppplaa
