/-
  RunsLess' walk.
-/
import Derived.Test.YtpdbnldbdmhhfaaOrderWalk
import Derived.Test.YtpdbnldbdmhhfaaBoth
import Derived.Test.YtpdbnldbdmhhfaaArgs
namespace Go.Proofs.Ytpdbnldbdmhhfaa
open Go.ChangeShapes Go.WideShapes Go.ChangeAt Go.RowKit
attribute [local go_sem ↓] Go.wp_at_zero Go.wp_at_succ

theorem of_canon (l : List Sp) : Canon (putR [] l) := (put_spec l [] trivial).1
theorem of_in (l : List Sp) (k : Int) : In (putR [] l) k ↔ In l k := by rw [(put_spec l [] trivial).2]; simp [in_nil]
theorem cut_canon (a b : List Sp) : Canon (cutR (putR [] a) b) := (cut_spec b _ (of_canon a)).1
theorem cut_in (a b : List Sp) (k : Int) : In (cutR (putR [] a) b) k ↔ In a k ∧ ¬ In b k := by rw [(cut_spec b _ (of_canon a)).2, of_in]
theorem bothOf_canon (a b : List Sp) : Canon (bothL (putR [] a) (putR [] b)) := (both_spec _ _ (of_canon a) (of_canon b)).1
theorem bothOf_in (a b : List Sp) (k : Int) : In (bothL (putR [] a) (putR [] b)) k ↔ In a k ∧ In b k := by rw [(both_spec _ _ (of_canon a) (of_canon b)).2, of_in, of_in]

theorem less_cnt (a b : List Sp) : cnt (putR [] a) - cnt (cutR (putR [] a) b) = cnt (bothL (putR [] a) (putR [] b)) := by
  have := cnt_part (of_canon a) (cut_canon a b) (bothOf_canon a b) (fun k => by
    rw [of_in, cut_in, bothOf_in]
    by_cases h : In b k <;> simp [h]) (fun k h1 h2 => by
    rw [cut_in] at h1; rw [bothOf_in] at h2; exact h1.2 h2.2)
  omega
theorem less_none (a b : List Sp) : bothL (cutR (putR [] a) b) (putR [] b) = [] := by
  have h := both_spec _ _ (cut_canon a b) (of_canon b)
  refine canon_ext h.1 trivial fun k => ?_
  rw [h.2, cut_in, of_in]
  simp only [in_nil, iff_false]
  exact fun h => h.1.2 h.2
theorem less_back (a b : List Sp) : putR (cutR (putR [] a) b) (bothL (putR [] a) (putR [] b)) = putR [] a := by
  have h := put_spec (bothL (putR [] a) (putR [] b)) _ (cut_canon a b)
  refine canon_ext h.1 (of_canon a) fun k => ?_
  rw [h.2, cut_in, bothOf_in, of_in]
  by_cases h : In b k <;> simp [h]
theorem canon_fits {l : List Sp} (h : Canon l) : Fits l := fun p hp => by have := canon_whole h p hp; unfold Wh at this; omega

theorem less_cut {w : World} {b : Nat} {x l : List Sp} {v : Value} (hr : RObj w b (putR [] x)) (hl : Row w v l) (hf : Fits l) (hn : l.length ≤ 1000000) :
    Calls Try.prog 15 #[.pointer (some ⟨b, 0, none⟩), v] w fun e w' => e = .returned (.int .i64 (cnt (bothL (putR [] x) (putR [] l)))) ∧ Hid (RObj w' b (cutR (putR [] x) l)) ∧ But b w w' := by
  have := cut_any hr (of_canon x) hl hf hn
  rw [less_cnt] at this
  exact this
theorem less_both {w : World} {r s : Nat} {x l : List Sp} (hr : RObj w r (cutR (putR [] x) l)) (hs : RObj w s (putR [] l)) :
    Calls Try.prog 26 #[.pointer (some ⟨r, 0, none⟩), .pointer (some ⟨s, 0, none⟩)] w fun e w' => e = .returned (.pointer (some ⟨w.heap.size, 0, none⟩)) ∧ Hid (RObj w' w.heap.size []) ∧ Below w.heap.size w w' := by
  have := both_any hr hs (cut_canon x l) (of_canon l)
  rw [less_none] at this
  exact this
theorem less_put {w : World} {b : Nat} {x l : List Sp} {v : Value} (hr : RObj w b (cutR (putR [] x) l)) (hl : Row w v (bothL (putR [] x) (putR [] l))) :
    Calls Try.prog 14 #[.pointer (some ⟨b, 0, none⟩), v] w fun e w' => ∃ z : Int, e = .returned (.int .i64 z) ∧ Hid (RObj w' b (putR [] x)) ∧ But b w w' := by
  refine (put_any hr (cut_canon x l) hl (canon_fits (bothOf_canon x l)) (by have := canon_64 (bothOf_canon x l); omega)).mono ?_
  rintro e w' ⟨he, hr, hb⟩
  rw [less_back] at hr
  exact ⟨_, he, hr, hb⟩

/-- Too many spans: alive's answer. -/
theorem less_out (a b : Option Addr) (n m c d : Nat) (w : World) (h : (30 : Int) < (n : Int) ∨ ((n : Int) ≤ 30 ∧ (30 : Int) < (m : Int))) :
    Calls Try.prog 7 #[.slice a n c, .slice b m d] w fun e w' => e = .returned (.bool true) ∧ Below w.heap.size w w' := by
  rcases h with h | ⟨h0, h⟩
  · have hd : decide ((30 : Int) < (n : Int)) = true := decide_eq_true h
    go_enter Try.func7, Try.ntmps7
    go_wp2_with fail
    refine (alive_any _).mono ?_; rintro e w1 ⟨rfl, hb1⟩
    go_wp2
    go_ret
    exact ⟨rfl, hb1⟩
  · have hd0 : decide ((30 : Int) < (n : Int)) = false := decide_eq_false (by omega)
    have hd : decide ((30 : Int) < (m : Int)) = true := decide_eq_true h
    go_enter Try.func7, Try.ntmps7
    go_wp2_with fail
    refine (alive_any _).mono ?_; rintro e w1 ⟨rfl, hb1⟩
    go_wp2
    go_ret
    exact ⟨rfl, hb1⟩

set_option maxRecDepth 100000 in
theorem less_walk (x l : List Sp) (n m c d : Nat) (a0 a1 : Option Addr) (w : World) (hn : x.length = n) (hm : l.length = m) (h30 : n ≤ 30) (h30' : m ≤ 30) (hx : Hid (Row w (.slice a0 n c) x)) (hl : Hid (Row w (.slice a1 m d) l)) (hfx : Hid (Fits x)) (hfl : Hid (Fits l)) :
    Calls Try.prog 7 #[.slice a0 n c, .slice a1 m d] w fun e w' => e = .returned (.bool true) ∧ Below w.heap.size w w' := by
  have j1 : (n : Int) ≤ 30 := by omega
  have j2 : (m : Int) ≤ 30 := by omega
  have j3 : decide ((30 : Int) < (n : Int)) = false := decide_eq_false (by omega)
  have j4 : decide ((30 : Int) < (m : Int)) = false := decide_eq_false (by omega)
  go_enter Try.func7, Try.ntmps7
  go_wp2_with fail
  refine (alive_any _).mono ?_; rintro e w1 ⟨rfl, hb1⟩
  go_wp2_with fail
  refine (of_any (hx.out.below hb1) hfx.out (by omega)).mono ?_; rintro e w2 ⟨rfl, hr2, hb2⟩
  have hr2' := Hid.intro hr2
  have hB2 := below_step hb1 hb2
  have z2 := hr2.lt
  have z1 := hb1.size
  clear hr2
  go_wp2_with fail
  refine (of_any (hl.out.below hB2) hfl.out (by omega)).mono ?_; rintro e w3 ⟨rfl, hs3, hb3⟩
  have hs3' := Hid.intro hs3
  have hB3 := below_step hB2 hb3
  have z3 := hs3.lt
  clear hs3
  go_wp2_with fail
  refine (of_any (hx.out.below hB3) hfx.out (by omega)).mono ?_; rintro e w4 ⟨rfl, ht4, hb4⟩
  have ht4' := Hid.intro ht4
  have hB4 := below_step hB3 hb4
  have hs4 : Hid (RObj w4 w2.heap.size (putR [] l)) := hs3'.out.below hb4
  have hr4 : Hid (RObj w4 w1.heap.size (putR [] x)) := hr2'.out.below (below_step hb3 hb4)
  have hl4 : Hid (Row w4 (.slice a1 m d) l) := hl.out.below hB4
  have z4 := ht4.lt
  clear ht4 hb1 hb2 hb3 hb4 hr2' hs3' hB2 hB3 hx hl
  generalize w1.heap.size = R at *
  generalize w2.heap.size = S at *
  generalize w3.heap.size = T at *
  go_wp2_with fail
  refine (both_any hr4.out hs4.out (of_canon x) (of_canon l)).mono ?_; rintro e w5 ⟨rfl, hd5, hb5⟩
  have hd5' := Hid.intro hd5
  have z5 := hd5.lt
  have hr5 : Hid (RObj w5 R (putR [] x)) := hr4.out.below hb5
  have hs5 : Hid (RObj w5 S (putR [] l)) := hs4.out.below hb5
  have ht5 : Hid (RObj w5 T (putR [] x)) := ht4'.out.below hb5
  have hl5 : Hid (Row w5 (.slice a1 m d) l) := hl4.out.below hb5
  have hB5 := below_step hB4 hb5
  clear hd5 hb5 hr4 hs4 ht4' hl4 hB4
  generalize w4.heap.size = D at *
  go_wp2_with fail
  refine (less_cut hr5.out hl5.out hfl.out (by omega)).mono ?_; rintro e w6 ⟨rfl, hr6, hb6⟩
  have hs6 : Hid (RObj w6 S (putR [] l)) := hs5.out.but hr5.out hb6 (by omega)
  have ht6 : Hid (RObj w6 T (putR [] x)) := ht5.out.but hr5.out hb6 (by omega)
  have hd6 : Hid (RObj w6 D (bothL (putR [] x) (putR [] l))) := hd5'.out.but hr5.out hb6 (by omega)
  have hB6 : Below w.heap.size w w6 := hB5.trans (hb6.belowAt (by omega) hB5.size)
  clear hr5 hs5 ht5 hd5' hl5 hb6 hB5
  go_wp2_with fail
  refine (count_any hd6.out (bothOf_canon x l)).mono ?_; rintro e w7 ⟨rfl, hb7⟩
  have hr7 : Hid (RObj w7 R (cutR (putR [] x) l)) := hr6.out.below hb7
  have hs7 : Hid (RObj w7 S (putR [] l)) := hs6.out.below hb7
  go_wp2_with fail
  refine (less_both hr7.out hs7.out).mono ?_; rintro e w8 ⟨rfl, _, hb8⟩
  go_wp2_with fail
  refine (less_both (hr7.out.below hb8) (hs7.out.below hb8)).mono ?_; rintro e w9 ⟨rfl, he9, hb9⟩
  go_wp2_with fail
  refine (count_any he9.out trivial).mono ?_; rintro e w10 ⟨rfl, hb10⟩
  have hb610 : Below w6.heap.size w6 w10 := below_step hb7 (below_step hb8 (below_step hb9 hb10))
  have hr10 : Hid (RObj w10 R (cutR (putR [] x) l)) := hr6.out.below hb610
  have ht10 : Hid (RObj w10 T (putR [] x)) := ht6.out.below hb610
  have hd10 : Hid (RObj w10 D (bothL (putR [] x) (putR [] l))) := hd6.out.below hb610
  have hB10 := below_step hB6 hb610
  clear he9 hb7 hb8 hb9 hb10 hb610 hr6 hs6 ht6 hd6 hr7 hs7 hB6
  generalize w7.heap.size = E at *
  generalize w8.heap.size = E2 at *
  go_wp2_with fail
  refine (all_any hd10.out (by have := canon_64 (bothOf_canon x l); omega)).mono ?_; rintro e w11 ⟨v, rfl, ho, hb11⟩
  have hro := Hid.intro (own_row ho)
  have hr11 : Hid (RObj w11 R (cutR (putR [] x) l)) := hr10.out.below hb11
  have ht11 : Hid (RObj w11 T (putR [] x)) := ht10.out.below hb11
  have hB11 := below_step hB10 hb11
  clear ho hr10 ht10 hd10 hb11 hB10
  go_wp2_with fail
  refine (less_put hr11.out hro.out).mono ?_; rintro e w12 ⟨z, rfl, hr12, hb12⟩
  have ht12 : Hid (RObj w12 T (putR [] x)) := ht11.out.but hr11.out hb12 (by omega)
  have hB12 : Below w.heap.size w w12 := hB11.trans (hb12.belowAt (by omega) hB11.size)
  clear hr11 ht11 hro hb12 hB11
  go_wp2_with fail
  refine (same_t hr12.out ht12.out (order_len x)).mono ?_; rintro e w13 ⟨rfl, hb13⟩
  go_wp2
  go_ret
  exact ⟨rfl, below_step hB12 hb13⟩
end Go.Proofs.Ytpdbnldbdmhhfaa
