/-
  RunsOrder's walk.
-/
import Derived.Test.YtpdbnldbdmhhfaaAlive
namespace Go.Proofs.Ytpdbnldbdmhhfaa
open Go.ChangeShapes Go.WideShapes Go.ChangeAt Go.RowKit
attribute [local go_sem ↓] Go.wp_at_zero Go.wp_at_succ

/-- Too many spans, or none: alive's answer. -/
theorem order_out (a : Option Addr) (n c : Nat) (turn : Int) (w : World) (h : (30 : Int) < (n : Int) ∨ n = 0) :
    Calls Try.prog 5 #[.slice a n c, .int .i64 turn] w fun e w' => e = .returned (.bool true) ∧ Below w.heap.size w w' := by
  rcases h with h | h
  · have hd : decide ((30 : Int) < (n : Int)) = true := decide_eq_true h
    go_enter Try.func5, Try.ntmps5
    go_wp2_with fail
    refine (alive_any _).mono ?_; rintro e w1 ⟨rfl, hb1⟩
    go_wp2
    go_ret
    exact ⟨rfl, hb1⟩
  · subst h
    go_enter Try.func5, Try.ntmps5
    go_wp2_with fail
    refine (alive_any _).mono ?_; rintro e w1 ⟨rfl, hb1⟩
    go_wp2
    go_ret
    exact ⟨rfl, hb1⟩

theorem turn_in (turn : Int) (n : Nat) (hn : 0 < n) : ∃ k : Nat, k < n ∧ (Int.tmod turn n + n) % (n : Int) = k ∧ -(n : Int) < Int.tmod turn n ∧ Int.tmod turn n < n := by
  have h1 : -(n : Int) < Int.tmod turn n := by
    have := Int.lt_tmod_of_pos turn (show (0 : Int) < n by omega)
    exact this
  have h2 : Int.tmod turn n < n := Int.tmod_lt_of_pos turn (by omega)
  have h3 : 0 ≤ (Int.tmod turn n + n) % (n : Int) := Int.emod_nonneg _ (by omega)
  have h4 : (Int.tmod turn n + n) % (n : Int) < n := Int.emod_lt_of_pos _ (by omega)
  exact ⟨((Int.tmod turn n + n) % (n : Int)).toNat, by omega, by omega, h1, h2⟩

theorem Cells.drop {w : World} {g o : Nat} {ps : List Sp} (h : Cells w g o ps) (k : Nat) : Cells w g (o + k * 2) (ps.drop k) := by
  intro i p hp
  rw [List.getElem?_drop] at hp
  have := h (k + i) p hp
  have e : o + (k + i) * 2 = o + k * 2 + i * 2 := by omega
  rw [e] at this
  exact this
theorem Cells.take {w : World} {g o : Nat} {ps : List Sp} (h : Cells w g o ps) (k : Nat) : Cells w g o (ps.take k) := by
  intro i p hp
  refine h i p ?_
  rw [List.getElem?_take] at hp
  split at hp
  · exact hp
  · cases hp

theorem in_mem {l m : List Sp} (h : ∀ p, p ∈ l ↔ p ∈ m) (k : Int) : In l k ↔ In m k := by
  unfold In
  constructor
  · rintro ⟨p, hp, hk⟩; exact ⟨p, (h p).1 hp, hk⟩
  · rintro ⟨p, hp, hk⟩; exact ⟨p, (h p).2 hp, hk⟩
theorem rot_mem (l : List Sp) (k : Nat) (p : Sp) : p ∈ l.drop k ++ l.take k ↔ p ∈ l := by
  rw [List.mem_append]
  constructor
  · rintro (h | h)
    · exact List.mem_of_mem_drop h
    · exact List.mem_of_mem_take h
  · intro h
    rw [← List.take_append_drop k l, List.mem_append] at h
    exact h.symm
/-- Spans in another order are the same set. -/
theorem rot_put (l : List Sp) (k : Nat) : putR [] (l.drop k ++ l.take k) = putR [] l := by
  have h1 := put_spec (l.drop k ++ l.take k) [] trivial
  have h2 := put_spec l [] trivial
  refine canon_ext h1.1 h2.1 fun x => ?_
  rw [h1.2, h2.2, in_mem (rot_mem l k)]
/-- What is put in twice is in it once. -/
theorem rot_twice (l : List Sp) (k : Nat) : putR (putR [] l) (l.drop k ++ l.take k) = putR [] l := by
  have h2 := put_spec l [] trivial
  have h1 := put_spec (l.drop k ++ l.take k) _ h2.1
  refine canon_ext h1.1 h2.1 fun x => ?_
  rw [h1.2, h2.2, in_mem (rot_mem l k)]
  simp [in_nil]
theorem cut_all (l : List Sp) : cutR (putR [] l) l = [] := by
  have h2 := put_spec l [] trivial
  have h1 := cut_spec l _ h2.1
  refine canon_ext h1.1 trivial fun x => ?_
  rw [h1.2, h2.2]
  simp [in_nil]
theorem rot_fits {l : List Sp} (h : Fits l) (k : Nat) : Fits (l.drop k ++ l.take k) := fun p hp => h p ((rot_mem l k p).1 hp)

theorem own_le {w : World} {base g n cap : Nat} {xs : List Value} (h : w.ownsRow base 49 2 (.slice (some ⟨g, 0, none⟩) n cap) n xs) : n ≤ cap := by
  rcases own_room h with ⟨h, _⟩ | ⟨g', c', h, hle⟩
  · cases h
  · cases h; exact hle
theorem Row.robj {x : Nat} {w w' : World} {v : Value} {ps qs : List Sp} (h : Row w v ps) (hx : RObj w x qs) (hb : But x w w') : Row w' v ps := by
  obtain ⟨u, hu, _⟩ := hx
  exact h.but hu hb
theorem order_len (l : List Sp) : (putR [] l).length ≤ 1000000 := by have := canon_64 (put_spec l [] trivial).1; omega
theorem same_t {w : World} {b b' : Nat} {ps : List Sp} (h : RObj w b ps) (h' : RObj w b' ps) (hl : ps.length ≤ 1000000) :
    Calls Try.prog 17 #[.pointer (some ⟨b, 0, none⟩), .pointer (some ⟨b', 0, none⟩)] w fun e w' => e = .returned (.bool true) ∧ Below w.heap.size w w' := by
  have := same_any h h' hl
  rwa [decide_eq_true rfl] at this
theorem order_of {w : World} {l : List Sp} {k : Nat} {v : Value} (hl : Row w v (l.drop k ++ l.take k)) (hf : Fits l) (hn : l.length ≤ 1000000) :
    Calls Try.prog 10 #[v] w fun e w' => e = .returned (.pointer (some ⟨w.heap.size, 0, none⟩)) ∧ Hid (RObj w' w.heap.size (putR [] l)) ∧ Below w.heap.size w w' := by
  have := of_any hl (rot_fits hf k) (by rw [List.length_append, List.length_drop, List.length_take]; omega)
  rwa [rot_put] at this
theorem order_put {w : World} {b : Nat} {l : List Sp} {k : Nat} {v : Value} (hr : RObj w b (putR [] l)) (hl : Row w v (l.drop k ++ l.take k)) (hf : Fits l) (hn : l.length ≤ 1000000) :
    Calls Try.prog 14 #[.pointer (some ⟨b, 0, none⟩), v] w fun e w' => e = .returned (.int .i64 0) ∧ Hid (RObj w' b (putR [] l)) ∧ But b w w' := by
  have := put_any hr (put_spec l [] trivial).1 hl (rot_fits hf k) (by rw [List.length_append, List.length_drop, List.length_take]; omega)
  rw [rot_twice, Int.sub_self] at this
  exact this
theorem order_cut {w : World} {b : Nat} {l : List Sp} {v : Value} (hr : RObj w b (putR [] l)) (hl : Row w v l) (hf : Fits l) (hn : l.length ≤ 1000000) :
    Calls Try.prog 15 #[.pointer (some ⟨b, 0, none⟩), v] w fun e w' => e = .returned (.int .i64 (cnt (putR [] l))) ∧ Hid (RObj w' b []) ∧ But b w w' := by
  have := cut_any hr (put_spec l [] trivial).1 hl hf hn
  rw [cut_all] at this
  simp only [cnt, Int.sub_zero] at this
  exact this

set_option maxRecDepth 100000 in
theorem order_walk (ps : List Sp) (n g o c : Nat) (turn : Int) (w : World) (hn : ps.length = n) (h0 : 0 < n) (h30 : n ≤ 30) (hnc : n ≤ c) (hg : g < w.heap.size) (hc : Hid (Cells w g o ps)) (hf : Hid (Fits ps)) :
    Calls Try.prog 5 #[.slice (some ⟨g, o, none⟩) n c, .int .i64 turn] w fun e w' => e = .returned (.bool true) ∧ Below w.heap.size w w' := by
  obtain ⟨i0, hi0, hz0', hz1', hz2'⟩ := info_parts Try.info49
  obtain ⟨k, hk, hkt, hr1, hr2⟩ := turn_in turn n h0
  have hkt' : Hid ((Int.tmod turn n + n) % (n : Int) = k) := hkt
  clear hkt
  have j0 : (0 : Int) < (n : Int) := by omega
  have j1 : (n : Int) ≤ 30 := by omega
  have j2 : (n : Int) ≠ 0 := by omega
  have j3 : decide ((30 : Int) < (n : Int)) = false := decide_eq_false (by omega)
  have j4 : decide ((n : Int) = 0) = false := decide_eq_false (by omega)
  have j5 : n ≠ 0 := by omega
  go_enter Try.func5, Try.ntmps5
  go_wp2_with fail
  refine (alive_any _).mono ?_; rintro e w1 ⟨rfl, hb1⟩
  go_wp2_with fail
  simp only [hkt'.out]
  have hc1 : Hid (Cells w1 g o ps) := hc.out.below hb1 hg
  have hg1 : g < w1.heap.size := Nat.lt_of_lt_of_le hg hb1.size
  have k0 : (0 : Int) ≤ (k : Int) := by omega
  have k1 : (k : Int) ≤ (n : Int) := by omega
  have k2 : (n : Int) ≤ (c : Int) := by omega
  have k3 : (k : Int) ≤ (c : Int) := by omega
  have k4 : ¬ c = k := by omega
  clear hr1 hr2 hkt' j3 j4
  rcases Nat.eq_zero_or_pos k with hk0 | hk0
  · subst hk0
    go_region_held3 (fun w' => Below w1.heap.size w1 w')
      (first
        | exact (Below.refl _ _).drew
        | exact hB3)
      (first
        | (refine step_append_lies _ (by rfl) _ _ 22 (by rfl) w1.heap.size 49 i0 (.agg #[.int .i64 0, .int .i64 0]) 2 16 Try.underlying22 hi0 hz0' hz1' hz2' rfl (by decide) (.slice none 0 0) 0 [] (by rfl) (World.ownsRow_nil _ _ _ _) ⟨g, o, none⟩ n c (spansV ps) (by rfl) (by rw [spansV_length, hn]) (row_news (hc1.out.below below_drw hg1)) (spansV_one _) (by omega) (by unfold maxLen; omega) (by omega) (Nat.le_refl _) w1.heap.size rfl ?_; intro g3 cap3 w3 hown3 hgrow3 hat3 hlt3; have hB3 : Below w1.heap.size w1 w3 := below_drw.trans (below_app0 hgrow3); have hle3 := own_le hown3))
    all_goals
      have hrow3 : Hid (Row w3 (.slice (some ⟨g3, 0, none⟩) n cap3) (ps.drop 0 ++ ps.take 0)) := by
        have e : ps.drop 0 ++ ps.take 0 = ps := by simp
        rw [e]
        exact own_row (base := w1.heap.size) (by rw [hn]; simpa using hown3)
      go_wp2_with fail
      have hra : Hid (Row w3 (.slice (some ⟨g, o, none⟩) n c) ps) := .inr ⟨g, o, c, by rw [hn], Nat.lt_of_lt_of_le hg1 hB3.size, hc1.out.below hB3 hg1⟩
      refine (of_any hra.out hf.out (by omega)).mono ?_; rintro e w4 ⟨rfl, hr4, hb4⟩
      have hr4' : Hid (RObj w4 w3.heap.size (putR [] ps)) := hr4
      clear hr4
      go_wp2_with fail
      refine (order_of (k := 0) (hrow3.out.below hb4) hf.out (by omega)).mono ?_; rintro e w5 ⟨rfl, hr5, hb5⟩
      have hr5r : Hid (RObj w5 w3.heap.size (putR [] ps)) := hr4'.out.below hb5
      have hne : w3.heap.size < w4.heap.size := hr4'.out.lt
      have hb35 := below_step hb4 hb5
      have hra5 : Hid (Row w5 (.slice (some ⟨g, o, none⟩) n c) ps) := hra.out.below hb35
      have hrow5 := Hid.intro (hrow3.out.below hb35)
      have hB5 : Below w.heap.size w w5 := below_step (below_step hb1 hB3) hb35
      have hz3 : w.heap.size ≤ w3.heap.size := by have := hb1.size; have := hB3.size; omega
      clear hra hrow3 hr4' hb4 hb5 hb35 hc1
      generalize w3.heap.size = R at *
      generalize w4.heap.size = Q at *
      go_wp2_with fail
      refine (same_t hr5r.out hr5.out (order_len ps)).mono ?_; rintro e w6 ⟨rfl, hb6⟩
      go_wp2_with fail
      refine (order_put (k := 0) (hr5r.out.below hb6) (hrow5.out.below hb6) hf.out (by omega)).mono ?_; rintro e w7 ⟨rfl, hr7, hb7⟩
      have hr7s : Hid (RObj w7 Q (putR [] ps)) := (hr5.out.below hb6).but (hr5r.out.below hb6) hb7 (by omega)
      have hra7 : Hid (Row w7 (.slice (some ⟨g, o, none⟩) n c) ps) := (hra5.out.below hb6).robj (hr5r.out.below hb6) hb7
      have hB7 : Below w.heap.size w w7 := (below_step hB5 hb6).trans (hb7.belowAt hz3 (by have := hB5.size; have := hb6.size; omega))
      clear hr5r hr5 hrow5 hra5 hb6 hb7 hB5
      go_wp2_with fail
      refine (same_t hr7.out hr7s.out (order_len ps)).mono ?_; rintro e w8 ⟨rfl, hb8⟩
      go_wp2_with fail
      refine (order_cut (hr7s.out.below hb8) (hra7.out.below hb8) hf.out (by omega)).mono ?_; rintro e w9 ⟨rfl, hr9, hb9⟩
      have hr9r : Hid (RObj w9 R (putR [] ps)) := (hr7.out.below hb8).but (hr7s.out.below hb8) hb9 (by omega)
      have hB9 : Below w.heap.size w w9 := (below_step hB7 hb8).trans (hb9.belowAt (by omega) (by have := hB7.size; have := hb8.size; omega))
      clear hr7 hr7s hra7 hb8 hb9 hB7
      go_wp2_with fail
      refine (count_any hr9r.out (put_spec ps [] trivial).1).mono ?_; rintro e w10 ⟨rfl, hb10⟩
      go_wp2_with fail
      refine (count_any (hr9.out.below hb10) trivial).mono ?_; rintro e w11 ⟨rfl, hb11⟩
      go_wp2
      go_ret
      exact ⟨rfl, below_step (below_step hB9 hb10) hb11⟩
  · have hdl : (ps.drop k).length = n - k := by rw [List.length_drop, hn]
    have htl : (ps.take k).length = k := by rw [List.length_take, hn]; omega
    go_region_held3 (fun w' => Below w1.heap.size w1 w')
      (first
        | exact (Below.refl _ _).drew
        | exact hB3
        | exact hB2)
      (first
        | (refine step_append_lies _ (by rfl) _ _ 22 (by rfl) w1.heap.size 49 i0 (.agg #[.int .i64 0, .int .i64 0]) 2 16 Try.underlying22 hi0 hz0' hz1' hz2' rfl (by decide) (.slice none 0 0) 0 [] (by rfl) (World.ownsRow_nil _ _ _ _) ⟨g, o + k * 2, none⟩ (n - k) (c - k) (spansV (ps.drop k)) (by rfl) (by rw [spansV_length, hdl]) (row_news ((hc1.out.drop k).below below_drw hg1)) (spansV_one _) (by omega) (by unfold maxLen; omega) (by omega) (Nat.le_refl _) w1.heap.size rfl ?_; intro g2 cap2 w2 hown2 hgrow2 hat2 hlt2; have hB2 : Below w1.heap.size w1 w2 := below_drw.trans (below_app0 hgrow2))
        | (refine step_append_lies _ (by rfl) _ _ 22 (by rfl) w1.heap.size 49 i0 (.agg #[.int .i64 0, .int .i64 0]) 2 16 Try.underlying22 hi0 hz0' hz1' hz2' rfl (by decide) (.slice (some ⟨g2, 0, none⟩) (0 + (n - k)) cap2) (0 + (n - k)) ([] ++ spansV (ps.drop k)) (by rfl) hown2 ⟨g, o, none⟩ k c (spansV (ps.take k)) (by rfl) (by rw [spansV_length, htl]) (row_news ((hc1.out.take k).below hB2 hg1)) (spansV_one _) hk0 (by unfold maxLen; omega) (by omega) hB2.size w2.heap.size rfl ?_; intro g3 cap3 w3 hown3 hgrow3 hat3 hlt3; have hB3 : Below w1.heap.size w1 w3 := hB2.grown hgrow3 hB2.size (fun j hj => (hown2.lt j hj).1)))
    all_goals
      have hrow3 : Hid (Row w3 (.slice (some ⟨g3, 0, none⟩) (n - k + k) cap3) (ps.drop k ++ ps.take k)) :=
        own_row (base := w1.heap.size) (by rw [List.length_append, hdl, htl, spansV_append]; simpa using hown3)
      go_wp2_with fail
      have hra : Hid (Row w3 (.slice (some ⟨g, o, none⟩) n c) ps) := .inr ⟨g, o, c, by rw [hn], Nat.lt_of_lt_of_le hg1 hB3.size, hc1.out.below hB3 hg1⟩
      refine (of_any hra.out hf.out (by omega)).mono ?_; rintro e w4 ⟨rfl, hr4, hb4⟩
      have hr4' : Hid (RObj w4 w3.heap.size (putR [] ps)) := hr4
      clear hr4
      go_wp2_with fail
      refine (order_of (k := k) (hrow3.out.below hb4) hf.out (by omega)).mono ?_; rintro e w5 ⟨rfl, hr5, hb5⟩
      have hr5r : Hid (RObj w5 w3.heap.size (putR [] ps)) := hr4'.out.below hb5
      have hne : w3.heap.size < w4.heap.size := hr4'.out.lt
      have hb35 := below_step hb4 hb5
      have hra5 : Hid (Row w5 (.slice (some ⟨g, o, none⟩) n c) ps) := hra.out.below hb35
      have hrow5 := Hid.intro (hrow3.out.below hb35)
      have hB5 : Below w.heap.size w w5 := below_step (below_step hb1 hB3) hb35
      have hz3 : w.heap.size ≤ w3.heap.size := by have := hb1.size; have := hB3.size; omega
      clear hra hrow3 hr4' hb4 hb5 hb35 hc1
      generalize w3.heap.size = R at *
      generalize w4.heap.size = Q at *
      go_wp2_with fail
      refine (same_t hr5r.out hr5.out (order_len ps)).mono ?_; rintro e w6 ⟨rfl, hb6⟩
      go_wp2_with fail
      refine (order_put (k := k) (hr5r.out.below hb6) (hrow5.out.below hb6) hf.out (by omega)).mono ?_; rintro e w7 ⟨rfl, hr7, hb7⟩
      have hr7s : Hid (RObj w7 Q (putR [] ps)) := (hr5.out.below hb6).but (hr5r.out.below hb6) hb7 (by omega)
      have hra7 : Hid (Row w7 (.slice (some ⟨g, o, none⟩) n c) ps) := (hra5.out.below hb6).robj (hr5r.out.below hb6) hb7
      have hB7 : Below w.heap.size w w7 := (below_step hB5 hb6).trans (hb7.belowAt hz3 (by have := hB5.size; have := hb6.size; omega))
      clear hr5r hr5 hrow5 hra5 hb6 hb7 hB5
      go_wp2_with fail
      refine (same_t hr7.out hr7s.out (order_len ps)).mono ?_; rintro e w8 ⟨rfl, hb8⟩
      go_wp2_with fail
      refine (order_cut (hr7s.out.below hb8) (hra7.out.below hb8) hf.out (by omega)).mono ?_; rintro e w9 ⟨rfl, hr9, hb9⟩
      have hr9r : Hid (RObj w9 R (putR [] ps)) := (hr7.out.below hb8).but (hr7s.out.below hb8) hb9 (by omega)
      have hB9 : Below w.heap.size w w9 := (below_step hB7 hb8).trans (hb9.belowAt (by omega) (by have := hB7.size; have := hb8.size; omega))
      clear hr7 hr7s hra7 hb8 hb9 hB7
      go_wp2_with fail
      refine (count_any hr9r.out (put_spec ps [] trivial).1).mono ?_; rintro e w10 ⟨rfl, hb10⟩
      go_wp2_with fail
      refine (count_any (hr9.out.below hb10) trivial).mono ?_; rintro e w11 ⟨rfl, hb11⟩
      go_wp2
      go_ret
      exact ⟨rfl, below_step (below_step hB9 hb10) hb11⟩
end Go.Proofs.Ytpdbnldbdmhhfaa
