/-
  The contract of span.Less: of a span that is not whole none; of one that Meet finds nothing of in the other all of it; else what is ahead of what both have, and what is behind it; a new list each time; nothing that was there is written.
-/
import Derived.Test.YtfikkbmilhcahaaJoin
import Derived.Deep.AppendLies
namespace Go.Proofs.Ytfikkbmilhcahaa
open Go.ChangeShapes Go.WideShapes Go.ChangeAt Go.RowKit
attribute [local go_sem ↓] Go.wp_at_zero Go.wp_at_succ

theorem Try.info26 : (Try.prog.info? 26).map (fun i => (i.zero, i.size, i.bytes)) = some (some (.agg #[.int .i64 0, .int .i64 0]), 2, 16) := by kernel_rfl

theorem end_at (f n k : Int) (w : World) (h : 0 ≤ f ∧ 1 ≤ n ∧ n ≤ 64 - f) (hk : f + n = k) :
    Calls Try.prog 79 #[.agg #[.int .i64 f, .int .i64 n]] w fun e w' => e = .returned (.int .i64 k) ∧ Below w.heap.size w w' := by
  subst hk; exact end_yes f n w h

theorem own_below {w w' : World} {base : Nat} {v : Value} {n : Nat} {xs : List Value} (h : w.ownsRow base 26 2 v n xs) (hb : Below w.heap.size w w') : w'.ownsRow base 26 2 v n xs := by
  refine ⟨h.1, ?_⟩
  rcases h.2 with h0 | ⟨g, cap, cur, hv, hg, hc, hr⟩
  · exact .inl h0
  · refine .inr ⟨g, cap, cur, hv, hg, ?_, hr⟩
    rw [hb.block g (by rcases Nat.lt_or_ge g w.heap.size with hl | hl; · exact hl
                       · rw [Array.getElem?_eq_none hl] at hc; cases hc)]
    exact hc

theorem keepPQ {p q B : Nat} {x y u v : Value} {w2 w3 : World} (hp : p < B) (hq : q < B) (a0 : w2.cell? ⟨p, 0, none⟩ = some x) (a1 : w2.cell? ⟨p, 1, none⟩ = some y) (b0 : w2.cell? ⟨q, 0, none⟩ = some u) (b1 : w2.cell? ⟨q, 1, none⟩ = some v) (hb : Below B w2 w3) :
    w3.cell? ⟨p, 0, none⟩ = some x ∧ w3.cell? ⟨p, 1, none⟩ = some y ∧ w3.cell? ⟨q, 0, none⟩ = some u ∧ w3.cell? ⟨q, 1, none⟩ = some v ∧ Below B w2 w3 := by
  refine ⟨?_, ?_, ?_, ?_, hb⟩
  · rw [hb.cell (p := ⟨p, 0, none⟩) hp]; exact a0
  · rw [hb.cell (p := ⟨p, 1, none⟩) hp]; exact a1
  · rw [hb.cell (p := ⟨q, 0, none⟩) hq]; exact b0
  · rw [hb.cell (p := ⟨q, 1, none⟩) hq]; exact b1

theorem lt_alloc {p : Nat} {w : World} {o : Obj} (h : p < w.heap.size) : p < (w.alloc o).heap.size := by simp; omega

/-- Behind an append onto nil. -/
theorem below_app {w3 w5 : World} {o : Obj} (hg : (w3.alloc o).grownBy w5 none) : Below w3.heap.size w3 w5 :=
  ((Below.refl _ _).alloc (Nat.le_refl _) _).grown hg (by simp) nofun

theorem keep4 {p q : Nat} {x y u v : Value} {w2 w3 : World} (hp : p < w2.heap.size) (hq : q < w2.heap.size) (a0 : w2.cell? ⟨p, 0, none⟩ = some x) (a1 : w2.cell? ⟨p, 1, none⟩ = some y) (b0 : w2.cell? ⟨q, 0, none⟩ = some u) (b1 : w2.cell? ⟨q, 1, none⟩ = some v) (hb : Below w2.heap.size w2 w3) :
    w3.cell? ⟨p, 0, none⟩ = some x ∧ w3.cell? ⟨p, 1, none⟩ = some y ∧ w3.cell? ⟨q, 0, none⟩ = some u ∧ w3.cell? ⟨q, 1, none⟩ = some v := by
  obtain ⟨h0, h1, h2, h3, _⟩ := keepPQ hp hq a0 a1 b0 b1 hb
  exact ⟨h0, h1, h2, h3⟩

theorem keepA {p q : Nat} {x y u v : Value} {w : World} {o : Obj} (hp : p < w.heap.size) (hq : q < w.heap.size) (h : w.cell? ⟨p, 0, none⟩ = some x ∧ w.cell? ⟨p, 1, none⟩ = some y ∧ w.cell? ⟨q, 0, none⟩ = some u ∧ w.cell? ⟨q, 1, none⟩ = some v) :
    (w.alloc o).cell? ⟨p, 0, none⟩ = some x ∧ (w.alloc o).cell? ⟨p, 1, none⟩ = some y ∧ (w.alloc o).cell? ⟨q, 0, none⟩ = some u ∧ (w.alloc o).cell? ⟨q, 1, none⟩ = some v :=
  keep4 hp hq h.1 h.2.1 h.2.2.1 h.2.2.2 ((Below.refl _ _).alloc (Nat.le_refl _) _)

theorem keepG {p q : Nat} {x y u v : Value} {w w' : World} {row : Option Nat} (hg : w.grownBy w' row) (hp' : some p ≠ row) (hq' : some q ≠ row) (hp : p < w.heap.size) (hq : q < w.heap.size) (h : w.cell? ⟨p, 0, none⟩ = some x ∧ w.cell? ⟨p, 1, none⟩ = some y ∧ w.cell? ⟨q, 0, none⟩ = some u ∧ w.cell? ⟨q, 1, none⟩ = some v) :
    w'.cell? ⟨p, 0, none⟩ = some x ∧ w'.cell? ⟨p, 1, none⟩ = some y ∧ w'.cell? ⟨q, 0, none⟩ = some u ∧ w'.cell? ⟨q, 1, none⟩ = some v := by
  refine ⟨?_, ?_, ?_, ?_⟩
  · rw [hg.cell_far ⟨p, 0, none⟩ hp hp']; exact h.1
  · rw [hg.cell_far ⟨p, 1, none⟩ hp hp']; exact h.2.1
  · rw [hg.cell_far ⟨q, 0, none⟩ hq hq']; exact h.2.2.1
  · rw [hg.cell_far ⟨q, 1, none⟩ hq hq']; exact h.2.2.2

theorem less_nil (f n g m : Int) (w : World) (hf : f ≤ 9223372036854775807) (h : ¬ (0 ≤ f ∧ 1 ≤ n ∧ n ≤ 64 - f)) :
    Calls Try.prog 43 #[.agg #[.int .i64 f, .int .i64 n], .agg #[.int .i64 g, .int .i64 m]] w fun e w' => ∃ v, e = .returned v ∧ w'.ownsRow w.heap.size 26 2 v 0 [] ∧ Below w.heap.size w w' := by
  have hh : Hid (¬ (0 ≤ f ∧ 1 ≤ n ∧ n ≤ 64 - f)) := h
  clear h
  go_enter Try.func43, Try.ntmps43
  go_wp2_with fail
  refine (whole_no _ _ _ hf hh.out).mono ?_; rintro e w1 ⟨rfl, hb⟩
  go_wp2
  go_ret
  exact ⟨_, rfl, World.ownsRow_nil _ _ _ _, below2 hb⟩

set_option maxRecDepth 100000 in
/-- Where Meet says no: all of the first span. -/
theorem less_all (f n g m : Int) (w : World) (h1 : 0 ≤ f) (h2 : 1 ≤ n) (h3 : n ≤ 64 - f) 
    (ht : ∀ w, Calls Try.prog 81 #[.agg #[.int .i64 f, .int .i64 n], .agg #[.int .i64 g, .int .i64 m]] w fun e w' => e = .returned (.tuple #[.agg #[.int .i64 0, .int .i64 0], .bool false]) ∧ Below w.heap.size w w') :
    Calls Try.prog 43 #[.agg #[.int .i64 f, .int .i64 n], .agg #[.int .i64 g, .int .i64 m]] w fun e w' => ∃ v, e = .returned v ∧ w'.ownsRow w.heap.size 26 2 v 1 [.int .i64 f, .int .i64 n] ∧ Below w.heap.size w w' := by
  have hh : Hid (∀ w, Calls Try.prog 81 #[.agg #[.int .i64 f, .int .i64 n], .agg #[.int .i64 g, .int .i64 m]] w fun e w' => e = .returned (.tuple #[.agg #[.int .i64 0, .int .i64 0], .bool false]) ∧ Below w.heap.size w w') := ht
  clear ht
  go_enter Try.func43, Try.ntmps43
  go_wp2_with fail
  refine (whole_yes _ _ _ ⟨h1, h2, h3⟩).mono ?_; rintro e w1 ⟨rfl, hb⟩
  obtain ⟨hz1, a0, a1, b0, b1⟩ := cells2 hb
  have hB1 : Below w.heap.size w w1 := below2 hb
  clear hb
  go_wp2_with fail
  refine (hh.out _).mono ?_; rintro e w2 ⟨rfl, hb2⟩
  obtain ⟨c0, c1, c2, c3, _⟩ := keep2 hz1 a0 a1 b0 b1 hb2
  have hz2 : w.heap.size + 1 < w2.heap.size := by have := hb2.size; omega
  have hz0 : w.heap.size < w2.heap.size := by omega
  have hB2 : Below w.heap.size w w2 := below_step hB1 hb2
  clear hb2 a0 a1 b0 b1 hB1 hz1 hh
  go_wp2
  go_ret
  refine ⟨_, rfl, ⟨by simp, .inr ⟨w2.heap.size + 1, 1, #[.int .i64 f, .int .i64 n], rfl, by omega, ?_, by omega, by unfold maxLen; omega, by simp, by simp⟩⟩, ?_⟩
  · have := heap_alloc_new (w2.alloc (.cells #[.int .i64 0, .int .i64 0] 26)) (.cells #[.int .i64 f, .int .i64 n] 26); simpa using this
  · exact (hB2.alloc (by omega) _).alloc (by simp; omega) _

set_option maxRecDepth 100000 in
/-- Where both have the blocks from lo on and ahead of hi: nothing. -/
theorem less_00 (f n g m lo hi : Int) (w : World) (h1 : 0 ≤ f) (h2 : 1 ≤ n) (h3 : n ≤ 64 - f) (hl : f = lo) (hlh : lo < hi) (hr : hi = f + n)
    (ht : ∀ w, Calls Try.prog 81 #[.agg #[.int .i64 f, .int .i64 n], .agg #[.int .i64 g, .int .i64 m]] w fun e w' => e = .returned (.tuple #[.agg #[.int .i64 lo, .int .i64 (hi - lo)], .bool true]) ∧ Below w.heap.size w w') :
    Calls Try.prog 43 #[.agg #[.int .i64 f, .int .i64 n], .agg #[.int .i64 g, .int .i64 m]] w fun e w' => ∃ v, e = .returned v ∧ w'.ownsRow w.heap.size 26 2 v 0 [] ∧ Below w.heap.size w w' := by
  have hh : Hid (∀ w, Calls Try.prog 81 #[.agg #[.int .i64 f, .int .i64 n], .agg #[.int .i64 g, .int .i64 m]] w fun e w' => e = .returned (.tuple #[.agg #[.int .i64 lo, .int .i64 (hi - lo)], .bool true]) ∧ Below w.heap.size w w') := ht
  clear ht
  have q0 : 0 ≤ lo := by omega
  have q1 : hi ≤ 64 := by omega
  have q2 : hi ≤ f + n := by omega
  have q3 : f ≤ lo := by omega
  have q4 : ¬ f < lo := by omega
  have q5 : ¬ hi < f + n := by omega
  clear hl hr
  go_enter Try.func43, Try.ntmps43
  go_wp2_with fail
  refine (whole_yes _ _ _ ⟨h1, h2, h3⟩).mono ?_; rintro e w1 ⟨rfl, hb⟩
  obtain ⟨hz1, a0, a1, b0, b1⟩ := cells2 hb
  have hB1 : Below w.heap.size w w1 := below2 hb
  clear hb
  go_wp2_with fail
  refine (hh.out _).mono ?_; rintro e w2 ⟨rfl, hb2⟩
  obtain ⟨c0, c1, c2, c3, _⟩ := keep2 hz1 a0 a1 b0 b1 hb2
  have hz2 : w.heap.size + 1 < w2.heap.size := by have := hb2.size; omega
  have hz0 : w.heap.size < w2.heap.size := by omega
  have hB2 : Below w.heap.size w w2 := below_step hB1 hb2
  clear hb2 a0 a1 b0 b1 hB1 hz1 hh
  go_wp2_with fail
  generalize hw3 : w2.alloc (Obj.cells #[Value.int IntKind.i64 lo, Value.int IntKind.i64 (hi - lo)] 26) = w3
  have hb3 : Below (w2.alloc (Obj.cells #[Value.int IntKind.i64 lo, Value.int IntKind.i64 (hi - lo)] 26)).heap.size (w2.alloc (Obj.cells #[Value.int IntKind.i64 lo, Value.int IntKind.i64 (hi - lo)] 26)) w3 := by rw [hw3]; exact Below.refl _ _
  clear hw3
  obtain ⟨hc3, _⟩ := bcell hb3
  have s0 : w3.cell? ⟨w.heap.size, 0, none⟩ = some (.int .i64 f) := by rw [hc3 w.heap.size 0 (by simp; omega)]; simp [go_sem, hz0, c0]
  have s1 : w3.cell? ⟨w.heap.size, 1, none⟩ = some (.int .i64 n) := by rw [hc3 w.heap.size 1 (by simp; omega)]; simp [go_sem, hz0, c1]
  have t0 : w3.cell? ⟨w2.heap.size, 0, none⟩ = some (.int .i64 lo) := by rw [hc3 w2.heap.size 0 (by simp)]; simp [go_sem]
  have t1 : w3.cell? ⟨w2.heap.size, 1, none⟩ = some (.int .i64 (hi - lo)) := by rw [hc3 w2.heap.size 1 (by simp)]; simp [go_sem]
  have hq : w2.heap.size < w3.heap.size := by have := hb3.size; simp at this; omega
  have hp : w.heap.size < w3.heap.size := by omega
  have hB3 : Below w.heap.size w w3 := (hB2.alloc (by omega) _).trans (hb3.mono (by simp; omega))
  clear hb3 hc3 c0 c1 c2 c3 hB2 hz2
  generalize w2.heap.size = r at *
  go_region_held3 (fun w' => w'.cell? ⟨w.heap.size, 0, none⟩ = some (.int .i64 f) ∧ w'.cell? ⟨w.heap.size, 1, none⟩ = some (.int .i64 n) ∧ w'.cell? ⟨r, 0, none⟩ = some (.int .i64 lo) ∧ w'.cell? ⟨r, 1, none⟩ = some (.int .i64 (hi - lo)) ∧ Below w3.heap.size w3 w')
    (first
      | exact ⟨s0, s1, t0, t1, (Below.refl _ _).drew⟩
      | exact keepPQ hp hq s0 s1 t0 t1 (below_step (below_drew hx1) hx2)
      | exact keepPQ hp hq s0 s1 t0 t1 (below_drew hx1))
    (first
      | (go_at_call_of 79 (Value.agg #[.int .i64 lo, .int .i64 (hi - lo)]); refine (end_at lo (hi - lo) hi _ ⟨by omega, by omega, by omega⟩ (by omega)).mono ?_; rintro e x1 ⟨rfl, hx1⟩)
      | (go_at_call_of 79 (Value.agg #[.int .i64 f, .int .i64 n]); refine (end_yes _ _ _ ⟨h1, h2, h3⟩).mono ?_; rintro e x2 ⟨rfl, hx2⟩))
  all_goals
    go_wp2
    go_ret
    exact ⟨_, rfl, World.ownsRow_nil _ _ _ _, below_step hB3 (below_step (below_drew hx1) hx2)⟩

set_option maxRecDepth 100000 in
/-- Where both have the blocks from lo on and ahead of hi: what is ahead of them. -/
theorem less_10 (f n g m lo hi : Int) (w : World) (h1 : 0 ≤ f) (h2 : 1 ≤ n) (h3 : n ≤ 64 - f) (hl : f < lo) (hlh : lo < hi) (hr : hi = f + n)
    (ht : ∀ w, Calls Try.prog 81 #[.agg #[.int .i64 f, .int .i64 n], .agg #[.int .i64 g, .int .i64 m]] w fun e w' => e = .returned (.tuple #[.agg #[.int .i64 lo, .int .i64 (hi - lo)], .bool true]) ∧ Below w.heap.size w w') :
    Calls Try.prog 43 #[.agg #[.int .i64 f, .int .i64 n], .agg #[.int .i64 g, .int .i64 m]] w fun e w' => ∃ v, e = .returned v ∧ w'.ownsRow w.heap.size 26 2 v 1 [.int .i64 f, .int .i64 (lo - f)] ∧ Below w.heap.size w w' := by
  have hh : Hid (∀ w, Calls Try.prog 81 #[.agg #[.int .i64 f, .int .i64 n], .agg #[.int .i64 g, .int .i64 m]] w fun e w' => e = .returned (.tuple #[.agg #[.int .i64 lo, .int .i64 (hi - lo)], .bool true]) ∧ Below w.heap.size w w') := ht
  clear ht
  have q0 : 0 ≤ lo := by omega
  have q1 : hi ≤ 64 := by omega
  have q2 : hi ≤ f + n := by omega
  have q3 : f ≤ lo := by omega
  have q4 : f < lo := hl
  have q5 : ¬ hi < f + n := by omega
  clear hl hr
  obtain ⟨i0, hi0, hz0', hz1', hz2'⟩ := info_parts Try.info26
  go_enter Try.func43, Try.ntmps43
  go_wp2_with fail
  refine (whole_yes _ _ _ ⟨h1, h2, h3⟩).mono ?_; rintro e w1 ⟨rfl, hb⟩
  obtain ⟨hz1, a0, a1, b0, b1⟩ := cells2 hb
  have hB1 : Below w.heap.size w w1 := below2 hb
  clear hb
  go_wp2_with fail
  refine (hh.out _).mono ?_; rintro e w2 ⟨rfl, hb2⟩
  obtain ⟨c0, c1, c2, c3, _⟩ := keep2 hz1 a0 a1 b0 b1 hb2
  have hz2 : w.heap.size + 1 < w2.heap.size := by have := hb2.size; omega
  have hz0 : w.heap.size < w2.heap.size := by omega
  have hB2 : Below w.heap.size w w2 := below_step hB1 hb2
  clear hb2 a0 a1 b0 b1 hB1 hz1 hh
  go_wp2_with fail
  have hb3 : Below (w2.alloc (Obj.cells #[Value.int IntKind.i64 lo, Value.int IntKind.i64 (hi - lo)] 26)).heap.size (w2.alloc (Obj.cells #[Value.int IntKind.i64 lo, Value.int IntKind.i64 (hi - lo)] 26)) (w2.alloc (Obj.cells #[Value.int IntKind.i64 lo, Value.int IntKind.i64 (hi - lo)] 26)) := Below.refl _ _
  refine (between_any _ _ _ (by omega) (by omega) (by omega) (by omega)).mono ?_; rintro e w3 ⟨rfl, hb3⟩
  obtain ⟨hc3, _⟩ := bcell hb3
  have s0 : w3.cell? ⟨w.heap.size, 0, none⟩ = some (.int .i64 f) := by rw [hc3 w.heap.size 0 (by simp; omega)]; simp [go_sem, hz0, c0]
  have s1 : w3.cell? ⟨w.heap.size, 1, none⟩ = some (.int .i64 n) := by rw [hc3 w.heap.size 1 (by simp; omega)]; simp [go_sem, hz0, c1]
  have t0 : w3.cell? ⟨w2.heap.size, 0, none⟩ = some (.int .i64 lo) := by rw [hc3 w2.heap.size 0 (by simp)]; simp [go_sem]
  have t1 : w3.cell? ⟨w2.heap.size, 1, none⟩ = some (.int .i64 (hi - lo)) := by rw [hc3 w2.heap.size 1 (by simp)]; simp [go_sem]
  have hq : w2.heap.size < w3.heap.size := by have := hb3.size; simp at this; omega
  have hp : w.heap.size < w3.heap.size := by omega
  have hB3 : Below w.heap.size w w3 := (hB2.alloc (by omega) _).trans (hb3.mono (by simp; omega))
  clear hb3 hc3 c0 c1 c2 c3 hB2 hz2
  generalize w2.heap.size = r at *
  go_wp2_with (at_builtin; refine wpList_append_lies _ rfl _ _ 49 rfl w.heap.size 26 i0 (.agg #[.int .i64 0, .int .i64 0]) 2 16 Try.underlying49 hi0 hz0' hz1' hz2' rfl (by decide) (.slice none 0 0) 0 [] rfl (World.ownsRow_nil _ _ _ _) ⟨w3.heap.size, 0, none⟩ 1 1 [.int .i64 f, .int .i64 (lo - f)] rfl rfl (World.news_of_block (cs := #[.int .i64 f, .int .i64 (lo - f)]) (t := 26) (fr := (0, 0)) (heap_alloc_new w3 _)) (by simp [Value.oneCell']) (by decide) (by unfold maxLen; omega) (by omega) (by simp; omega) (w3.heap.size + 1) (by simp) ?_; intro g5 cap5 w5 hown5 hgrow5 hat5 hlt5)
  simp only [Nat.zero_add, List.nil_append] at hown5 ⊢
  have hg5 : g5 = w3.heap.size + 1 := by rcases hat5 with h | h; · cases h
                                         · exact h
  obtain ⟨s0, s1, t0, t1, _⟩ := keepPQ hp hq s0 s1 t0 t1 (below_app hgrow5)
  have hB5 : Below w.heap.size w w5 := below_step hB3 (below_app hgrow5)
  have hp : w.heap.size < w5.heap.size := by have := (below_app hgrow5).size; omega
  have hq : r < w5.heap.size := by have := (below_app hgrow5).size; omega
  have hgp : g5 ≠ w.heap.size := by omega
  have hgq : g5 ≠ r := by omega
  clear hgrow5 hat5 hB3 hg5
  go_wp2_with fail
  go_region_held3 (fun w' => w'.cell? ⟨w.heap.size, 0, none⟩ = some (.int .i64 f) ∧ w'.cell? ⟨w.heap.size, 1, none⟩ = some (.int .i64 n) ∧ w'.cell? ⟨r, 0, none⟩ = some (.int .i64 lo) ∧ w'.cell? ⟨r, 1, none⟩ = some (.int .i64 (hi - lo)) ∧ Below w5.heap.size w5 w')
    (first
      | exact ⟨s0, s1, t0, t1, (Below.refl _ _).drew⟩
      | exact keepPQ hp hq s0 s1 t0 t1 (below_step (below_drew hx1) hx2)
      | exact keepPQ hp hq s0 s1 t0 t1 (below_drew hx1))
    (first
      | (go_at_call_of 79 (Value.agg #[.int .i64 lo, .int .i64 (hi - lo)]); refine (end_at lo (hi - lo) hi _ ⟨by omega, by omega, by omega⟩ (by omega)).mono ?_; rintro e x1 ⟨rfl, hx1⟩)
      | (go_at_call_of 79 (Value.agg #[.int .i64 f, .int .i64 n]); refine (end_yes _ _ _ ⟨h1, h2, h3⟩).mono ?_; rintro e x2 ⟨rfl, hx2⟩))
  all_goals
    go_wp2
    go_ret
    exact ⟨_, rfl, own_below hown5 (below_step (below_drew hx1) hx2), below_step hB5 (below_step (below_drew hx1) hx2)⟩

set_option maxRecDepth 100000 in
/-- Where both have the blocks from lo on and ahead of hi: what is behind them. -/
theorem less_01 (f n g m lo hi : Int) (w : World) (h1 : 0 ≤ f) (h2 : 1 ≤ n) (h3 : n ≤ 64 - f) (hl : f = lo) (hlh : lo < hi) (hr : hi < f + n)
    (ht : ∀ w, Calls Try.prog 81 #[.agg #[.int .i64 f, .int .i64 n], .agg #[.int .i64 g, .int .i64 m]] w fun e w' => e = .returned (.tuple #[.agg #[.int .i64 lo, .int .i64 (hi - lo)], .bool true]) ∧ Below w.heap.size w w') :
    Calls Try.prog 43 #[.agg #[.int .i64 f, .int .i64 n], .agg #[.int .i64 g, .int .i64 m]] w fun e w' => ∃ v, e = .returned v ∧ w'.ownsRow w.heap.size 26 2 v 1 [.int .i64 hi, .int .i64 (f + n - hi)] ∧ Below w.heap.size w w' := by
  have hh : Hid (∀ w, Calls Try.prog 81 #[.agg #[.int .i64 f, .int .i64 n], .agg #[.int .i64 g, .int .i64 m]] w fun e w' => e = .returned (.tuple #[.agg #[.int .i64 lo, .int .i64 (hi - lo)], .bool true]) ∧ Below w.heap.size w w') := ht
  clear ht
  have q0 : 0 ≤ lo := by omega
  have q1 : hi ≤ 64 := by omega
  have q2 : hi ≤ f + n := by omega
  have q3 : f ≤ lo := by omega
  have q4 : ¬ f < lo := by omega
  have q5 : hi < f + n := hr
  clear hl hr
  obtain ⟨i0, hi0, hz0', hz1', hz2'⟩ := info_parts Try.info26
  go_enter Try.func43, Try.ntmps43
  go_wp2_with fail
  refine (whole_yes _ _ _ ⟨h1, h2, h3⟩).mono ?_; rintro e w1 ⟨rfl, hb⟩
  obtain ⟨hz1, a0, a1, b0, b1⟩ := cells2 hb
  have hB1 : Below w.heap.size w w1 := below2 hb
  clear hb
  go_wp2_with fail
  refine (hh.out _).mono ?_; rintro e w2 ⟨rfl, hb2⟩
  obtain ⟨c0, c1, c2, c3, _⟩ := keep2 hz1 a0 a1 b0 b1 hb2
  have hz2 : w.heap.size + 1 < w2.heap.size := by have := hb2.size; omega
  have hz0 : w.heap.size < w2.heap.size := by omega
  have hB2 : Below w.heap.size w w2 := below_step hB1 hb2
  clear hb2 a0 a1 b0 b1 hB1 hz1 hh
  go_wp2_with fail
  generalize hw3 : w2.alloc (Obj.cells #[Value.int IntKind.i64 lo, Value.int IntKind.i64 (hi - lo)] 26) = w3
  have hb3 : Below (w2.alloc (Obj.cells #[Value.int IntKind.i64 lo, Value.int IntKind.i64 (hi - lo)] 26)).heap.size (w2.alloc (Obj.cells #[Value.int IntKind.i64 lo, Value.int IntKind.i64 (hi - lo)] 26)) w3 := by rw [hw3]; exact Below.refl _ _
  clear hw3
  obtain ⟨hc3, _⟩ := bcell hb3
  have s0 : w3.cell? ⟨w.heap.size, 0, none⟩ = some (.int .i64 f) := by rw [hc3 w.heap.size 0 (by simp; omega)]; simp [go_sem, hz0, c0]
  have s1 : w3.cell? ⟨w.heap.size, 1, none⟩ = some (.int .i64 n) := by rw [hc3 w.heap.size 1 (by simp; omega)]; simp [go_sem, hz0, c1]
  have t0 : w3.cell? ⟨w2.heap.size, 0, none⟩ = some (.int .i64 lo) := by rw [hc3 w2.heap.size 0 (by simp)]; simp [go_sem]
  have t1 : w3.cell? ⟨w2.heap.size, 1, none⟩ = some (.int .i64 (hi - lo)) := by rw [hc3 w2.heap.size 1 (by simp)]; simp [go_sem]
  have hq : w2.heap.size < w3.heap.size := by have := hb3.size; simp at this; omega
  have hp : w.heap.size < w3.heap.size := by omega
  have hB3 : Below w.heap.size w w3 := (hB2.alloc (by omega) _).trans (hb3.mono (by simp; omega))
  clear hb3 hc3 c0 c1 c2 c3 hB2 hz2
  generalize w2.heap.size = r at *
  go_region_held3 (fun w' => w'.cell? ⟨w.heap.size, 0, none⟩ = some (.int .i64 f) ∧ w'.cell? ⟨w.heap.size, 1, none⟩ = some (.int .i64 n) ∧ w'.cell? ⟨r, 0, none⟩ = some (.int .i64 lo) ∧ w'.cell? ⟨r, 1, none⟩ = some (.int .i64 (hi - lo)) ∧ Below w3.heap.size w3 w')
    (first
      | exact ⟨s0, s1, t0, t1, (Below.refl _ _).drew⟩
      | exact keepPQ hp hq s0 s1 t0 t1 (below_step (below_drew hx1) hx2)
      | exact keepPQ hp hq s0 s1 t0 t1 (below_drew hx1))
    (first
      | (go_at_call_of 79 (Value.agg #[.int .i64 lo, .int .i64 (hi - lo)]); refine (end_at lo (hi - lo) hi _ ⟨by omega, by omega, by omega⟩ (by omega)).mono ?_; rintro e x1 ⟨rfl, hx1⟩)
      | (go_at_call_of 79 (Value.agg #[.int .i64 f, .int .i64 n]); refine (end_yes _ _ _ ⟨h1, h2, h3⟩).mono ?_; rintro e x2 ⟨rfl, hx2⟩))
  all_goals
    obtain ⟨s0, s1, t0, t1, _⟩ := keepPQ hp hq s0 s1 t0 t1 (below_step (below_drew hx1) hx2)
    have hownx : x2.ownsRow w.heap.size 26 2 (.slice none 0 0) 0 [] := World.ownsRow_nil _ _ _ _
    have hBx : Below w.heap.size w x2 := below_step hB3 (below_step (below_drew hx1) hx2)
    have hpx : w.heap.size < x2.heap.size := by have := (below_step (below_drew hx1) hx2).size; omega
    have hqx : r < x2.heap.size := by have := (below_step (below_drew hx1) hx2).size; omega
    clear hx1 hx2 hB3 hp hq
    go_wp2_with fail
    go_region_held3 (fun w' => w'.cell? ⟨w.heap.size, 0, none⟩ = some (.int .i64 f) ∧ w'.cell? ⟨w.heap.size, 1, none⟩ = some (.int .i64 n) ∧ w'.cell? ⟨r, 0, none⟩ = some (.int .i64 lo) ∧ w'.cell? ⟨r, 1, none⟩ = some (.int .i64 (hi - lo)))
      (first
        | exact ⟨s0, s1, t0, t1⟩
        | exact keepG hgrow6 (by nofun) (by nofun) (lt_alloc (Nat.lt_of_lt_of_le hpx (below_step (below_step (below_drew hy1) hy2) hy3).size)) (lt_alloc (Nat.lt_of_lt_of_le hqx (below_step (below_step (below_drew hy1) hy2) hy3).size)) (keepA (Nat.lt_of_lt_of_le hpx (below_step (below_step (below_drew hy1) hy2) hy3).size) (Nat.lt_of_lt_of_le hqx (below_step (below_step (below_drew hy1) hy2) hy3).size) (keep4 hpx hqx s0 s1 t0 t1 (below_step (below_step (below_drew hy1) hy2) hy3)))
        | exact keepA (Nat.lt_of_lt_of_le hpx (below_step (below_step (below_drew hy1) hy2) hy3).size) (Nat.lt_of_lt_of_le hqx (below_step (below_step (below_drew hy1) hy2) hy3).size) (keep4 hpx hqx s0 s1 t0 t1 (below_step (below_step (below_drew hy1) hy2) hy3))
        | exact keep4 hpx hqx s0 s1 t0 t1 (below_step (below_step (below_drew hy1) hy2) hy3)
        | exact keep4 hpx hqx s0 s1 t0 t1 (below_step (below_drew hy1) hy2)
        | exact keep4 hpx hqx s0 s1 t0 t1 (below_drew hy1))
      (first
        | (go_at_call_of 79 (Value.agg #[.int .i64 lo, .int .i64 (hi - lo)]); refine (end_at lo (hi - lo) hi _ ⟨by omega, by omega, by omega⟩ (by omega)).mono ?_; rintro e y1 ⟨rfl, hy1⟩)
        | (go_at_call_of 79 (Value.agg #[.int .i64 f, .int .i64 n]); refine (end_yes _ _ _ ⟨h1, h2, h3⟩).mono ?_; rintro e y2 ⟨rfl, hy2⟩)
        | (go_at_call 82; refine (between_any _ _ _ (by omega) (by omega) (by omega) (by omega)).mono ?_; rintro e y3 ⟨rfl, hy3⟩)
        | (refine step_append_lies _ (by rfl) _ _ 49 (by rfl) w.heap.size 26 i0 (.agg #[.int .i64 0, .int .i64 0]) 2 16 Try.underlying49 hi0 hz0' hz1' hz2' rfl (by decide) (.slice none 0 0) 0 [] (by rfl) (World.ownsRow_nil _ _ _ _) ⟨y3.heap.size, 0, none⟩ 1 1 [.int .i64 hi, .int .i64 (f + n - hi)] (by rfl) (by rfl) (World.news_of_block (cs := #[.int .i64 hi, .int .i64 (f + n - hi)]) (t := 26) (fr := (0, 0)) (heap_alloc_new y3 _)) (by simp [Value.oneCell']) (by decide) (by unfold maxLen; omega) (by omega) (by have := hBx.size; have := (below_step (below_step (below_drew hy1) hy2) hy3).size; simp; omega) (y3.heap.size + 1) (by simp) ?_; intro g6 cap6 w6 hown6 hgrow6 hat6 hlt6))
    all_goals
      go_wp2
      go_ret
      refine ⟨_, rfl, by simpa using hown6, ?_⟩
      have hBy := below_step hBx (below_step (below_step (below_drew hy1) hy2) hy3)
      exact (hBy.alloc hBy.size _).grown hgrow6 (by have := hBy.size; simp; omega) nofun

set_option maxRecDepth 100000 in
/-- Where both have the blocks from lo on and ahead of hi: what is ahead of them; what is behind them. -/
theorem less_11 (f n g m lo hi : Int) (w : World) (h1 : 0 ≤ f) (h2 : 1 ≤ n) (h3 : n ≤ 64 - f) (hl : f < lo) (hlh : lo < hi) (hr : hi < f + n)
    (ht : ∀ w, Calls Try.prog 81 #[.agg #[.int .i64 f, .int .i64 n], .agg #[.int .i64 g, .int .i64 m]] w fun e w' => e = .returned (.tuple #[.agg #[.int .i64 lo, .int .i64 (hi - lo)], .bool true]) ∧ Below w.heap.size w w') :
    Calls Try.prog 43 #[.agg #[.int .i64 f, .int .i64 n], .agg #[.int .i64 g, .int .i64 m]] w fun e w' => ∃ v, e = .returned v ∧ w'.ownsRow w.heap.size 26 2 v 2 [.int .i64 f, .int .i64 (lo - f), .int .i64 hi, .int .i64 (f + n - hi)] ∧ Below w.heap.size w w' := by
  have hh : Hid (∀ w, Calls Try.prog 81 #[.agg #[.int .i64 f, .int .i64 n], .agg #[.int .i64 g, .int .i64 m]] w fun e w' => e = .returned (.tuple #[.agg #[.int .i64 lo, .int .i64 (hi - lo)], .bool true]) ∧ Below w.heap.size w w') := ht
  clear ht
  have q0 : 0 ≤ lo := by omega
  have q1 : hi ≤ 64 := by omega
  have q2 : hi ≤ f + n := by omega
  have q3 : f ≤ lo := by omega
  have q4 : f < lo := hl
  have q5 : hi < f + n := hr
  clear hl hr
  obtain ⟨i0, hi0, hz0', hz1', hz2'⟩ := info_parts Try.info26
  go_enter Try.func43, Try.ntmps43
  go_wp2_with fail
  refine (whole_yes _ _ _ ⟨h1, h2, h3⟩).mono ?_; rintro e w1 ⟨rfl, hb⟩
  obtain ⟨hz1, a0, a1, b0, b1⟩ := cells2 hb
  have hB1 : Below w.heap.size w w1 := below2 hb
  clear hb
  go_wp2_with fail
  refine (hh.out _).mono ?_; rintro e w2 ⟨rfl, hb2⟩
  obtain ⟨c0, c1, c2, c3, _⟩ := keep2 hz1 a0 a1 b0 b1 hb2
  have hz2 : w.heap.size + 1 < w2.heap.size := by have := hb2.size; omega
  have hz0 : w.heap.size < w2.heap.size := by omega
  have hB2 : Below w.heap.size w w2 := below_step hB1 hb2
  clear hb2 a0 a1 b0 b1 hB1 hz1 hh
  go_wp2_with fail
  have hb3 : Below (w2.alloc (Obj.cells #[Value.int IntKind.i64 lo, Value.int IntKind.i64 (hi - lo)] 26)).heap.size (w2.alloc (Obj.cells #[Value.int IntKind.i64 lo, Value.int IntKind.i64 (hi - lo)] 26)) (w2.alloc (Obj.cells #[Value.int IntKind.i64 lo, Value.int IntKind.i64 (hi - lo)] 26)) := Below.refl _ _
  refine (between_any _ _ _ (by omega) (by omega) (by omega) (by omega)).mono ?_; rintro e w3 ⟨rfl, hb3⟩
  obtain ⟨hc3, _⟩ := bcell hb3
  have s0 : w3.cell? ⟨w.heap.size, 0, none⟩ = some (.int .i64 f) := by rw [hc3 w.heap.size 0 (by simp; omega)]; simp [go_sem, hz0, c0]
  have s1 : w3.cell? ⟨w.heap.size, 1, none⟩ = some (.int .i64 n) := by rw [hc3 w.heap.size 1 (by simp; omega)]; simp [go_sem, hz0, c1]
  have t0 : w3.cell? ⟨w2.heap.size, 0, none⟩ = some (.int .i64 lo) := by rw [hc3 w2.heap.size 0 (by simp)]; simp [go_sem]
  have t1 : w3.cell? ⟨w2.heap.size, 1, none⟩ = some (.int .i64 (hi - lo)) := by rw [hc3 w2.heap.size 1 (by simp)]; simp [go_sem]
  have hq : w2.heap.size < w3.heap.size := by have := hb3.size; simp at this; omega
  have hp : w.heap.size < w3.heap.size := by omega
  have hB3 : Below w.heap.size w w3 := (hB2.alloc (by omega) _).trans (hb3.mono (by simp; omega))
  clear hb3 hc3 c0 c1 c2 c3 hB2 hz2
  generalize w2.heap.size = r at *
  go_wp2_with (at_builtin; refine wpList_append_lies _ rfl _ _ 49 rfl w.heap.size 26 i0 (.agg #[.int .i64 0, .int .i64 0]) 2 16 Try.underlying49 hi0 hz0' hz1' hz2' rfl (by decide) (.slice none 0 0) 0 [] rfl (World.ownsRow_nil _ _ _ _) ⟨w3.heap.size, 0, none⟩ 1 1 [.int .i64 f, .int .i64 (lo - f)] rfl rfl (World.news_of_block (cs := #[.int .i64 f, .int .i64 (lo - f)]) (t := 26) (fr := (0, 0)) (heap_alloc_new w3 _)) (by simp [Value.oneCell']) (by decide) (by unfold maxLen; omega) (by omega) (by simp; omega) (w3.heap.size + 1) (by simp) ?_; intro g5 cap5 w5 hown5 hgrow5 hat5 hlt5)
  simp only [Nat.zero_add, List.nil_append] at hown5 ⊢
  have hg5 : g5 = w3.heap.size + 1 := by rcases hat5 with h | h; · cases h
                                         · exact h
  obtain ⟨s0, s1, t0, t1, _⟩ := keepPQ hp hq s0 s1 t0 t1 (below_app hgrow5)
  have hB5 : Below w.heap.size w w5 := below_step hB3 (below_app hgrow5)
  have hp : w.heap.size < w5.heap.size := by have := (below_app hgrow5).size; omega
  have hq : r < w5.heap.size := by have := (below_app hgrow5).size; omega
  have hgp : g5 ≠ w.heap.size := by omega
  have hgq : g5 ≠ r := by omega
  clear hgrow5 hat5 hB3 hg5
  go_wp2_with fail
  go_region_held3 (fun w' => w'.cell? ⟨w.heap.size, 0, none⟩ = some (.int .i64 f) ∧ w'.cell? ⟨w.heap.size, 1, none⟩ = some (.int .i64 n) ∧ w'.cell? ⟨r, 0, none⟩ = some (.int .i64 lo) ∧ w'.cell? ⟨r, 1, none⟩ = some (.int .i64 (hi - lo)) ∧ Below w5.heap.size w5 w')
    (first
      | exact ⟨s0, s1, t0, t1, (Below.refl _ _).drew⟩
      | exact keepPQ hp hq s0 s1 t0 t1 (below_step (below_drew hx1) hx2)
      | exact keepPQ hp hq s0 s1 t0 t1 (below_drew hx1))
    (first
      | (go_at_call_of 79 (Value.agg #[.int .i64 lo, .int .i64 (hi - lo)]); refine (end_at lo (hi - lo) hi _ ⟨by omega, by omega, by omega⟩ (by omega)).mono ?_; rintro e x1 ⟨rfl, hx1⟩)
      | (go_at_call_of 79 (Value.agg #[.int .i64 f, .int .i64 n]); refine (end_yes _ _ _ ⟨h1, h2, h3⟩).mono ?_; rintro e x2 ⟨rfl, hx2⟩))
  all_goals
    obtain ⟨s0, s1, t0, t1, _⟩ := keepPQ hp hq s0 s1 t0 t1 (below_step (below_drew hx1) hx2)
    have hownx : x2.ownsRow w.heap.size 26 2 (.slice (some ⟨g5, 0, none⟩) 1 cap5) 1 [.int .i64 f, .int .i64 (lo - f)] := (own_below hown5 (below_step (below_drew hx1) hx2))
    have hBx : Below w.heap.size w x2 := below_step hB5 (below_step (below_drew hx1) hx2)
    have hpx : w.heap.size < x2.heap.size := by have := (below_step (below_drew hx1) hx2).size; omega
    have hqx : r < x2.heap.size := by have := (below_step (below_drew hx1) hx2).size; omega
    clear hx1 hx2 hB5 hp hq
    go_wp2_with fail
    go_region_held3 (fun w' => w'.cell? ⟨w.heap.size, 0, none⟩ = some (.int .i64 f) ∧ w'.cell? ⟨w.heap.size, 1, none⟩ = some (.int .i64 n) ∧ w'.cell? ⟨r, 0, none⟩ = some (.int .i64 lo) ∧ w'.cell? ⟨r, 1, none⟩ = some (.int .i64 (hi - lo)))
      (first
        | exact ⟨s0, s1, t0, t1⟩
        | exact keepG hgrow6 (by simpa [Value.ownBlock] using Ne.symm hgp) (by simpa [Value.ownBlock] using Ne.symm hgq) (lt_alloc (Nat.lt_of_lt_of_le hpx (below_step (below_step (below_drew hy1) hy2) hy3).size)) (lt_alloc (Nat.lt_of_lt_of_le hqx (below_step (below_step (below_drew hy1) hy2) hy3).size)) (keepA (Nat.lt_of_lt_of_le hpx (below_step (below_step (below_drew hy1) hy2) hy3).size) (Nat.lt_of_lt_of_le hqx (below_step (below_step (below_drew hy1) hy2) hy3).size) (keep4 hpx hqx s0 s1 t0 t1 (below_step (below_step (below_drew hy1) hy2) hy3)))
        | exact keepA (Nat.lt_of_lt_of_le hpx (below_step (below_step (below_drew hy1) hy2) hy3).size) (Nat.lt_of_lt_of_le hqx (below_step (below_step (below_drew hy1) hy2) hy3).size) (keep4 hpx hqx s0 s1 t0 t1 (below_step (below_step (below_drew hy1) hy2) hy3))
        | exact keep4 hpx hqx s0 s1 t0 t1 (below_step (below_step (below_drew hy1) hy2) hy3)
        | exact keep4 hpx hqx s0 s1 t0 t1 (below_step (below_drew hy1) hy2)
        | exact keep4 hpx hqx s0 s1 t0 t1 (below_drew hy1))
      (first
        | (go_at_call_of 79 (Value.agg #[.int .i64 lo, .int .i64 (hi - lo)]); refine (end_at lo (hi - lo) hi _ ⟨by omega, by omega, by omega⟩ (by omega)).mono ?_; rintro e y1 ⟨rfl, hy1⟩)
        | (go_at_call_of 79 (Value.agg #[.int .i64 f, .int .i64 n]); refine (end_yes _ _ _ ⟨h1, h2, h3⟩).mono ?_; rintro e y2 ⟨rfl, hy2⟩)
        | (go_at_call 82; refine (between_any _ _ _ (by omega) (by omega) (by omega) (by omega)).mono ?_; rintro e y3 ⟨rfl, hy3⟩)
        | (refine step_append_lies _ (by rfl) _ _ 49 (by rfl) w.heap.size 26 i0 (.agg #[.int .i64 0, .int .i64 0]) 2 16 Try.underlying49 hi0 hz0' hz1' hz2' rfl (by decide) (.slice (some ⟨g5, 0, none⟩) 1 cap5) 1 [.int .i64 f, .int .i64 (lo - f)] (by rfl) ((own_below hownx (below_step (below_step (below_drew hy1) hy2) hy3)).alloc _) ⟨y3.heap.size, 0, none⟩ 1 1 [.int .i64 hi, .int .i64 (f + n - hi)] (by rfl) (by rfl) (World.news_of_block (cs := #[.int .i64 hi, .int .i64 (f + n - hi)]) (t := 26) (fr := (0, 0)) (heap_alloc_new y3 _)) (by simp [Value.oneCell']) (by decide) (by unfold maxLen; omega) (by omega) (by have := hBx.size; have := (below_step (below_step (below_drew hy1) hy2) hy3).size; simp; omega) (y3.heap.size + 1) (by simp) ?_; intro g6 cap6 w6 hown6 hgrow6 hat6 hlt6))
    all_goals
      go_wp2
      go_ret
      refine ⟨_, rfl, by simpa using hown6, ?_⟩
      have hBy := below_step hBx (below_step (below_step (below_drew hy1) hy2) hy3)
      exact (hBy.alloc hBy.size _).grown hgrow6 (by have := hBy.size; simp; omega) (fun k hk => (hownx.lt k hk).1)
end Go.Proofs.Ytfikkbmilhcahaa
