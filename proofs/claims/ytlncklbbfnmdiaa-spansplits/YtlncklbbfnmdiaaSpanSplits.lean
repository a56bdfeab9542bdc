/-
  SpanSplits: for every two spans (four integers of Go's type int) the law returns true, and nothing that was there is written: no condition.
-/
import Derived.Test.YtlncklbbfnmdiaaRows
import Derived.Test.YtlncklbbfnmdiaaSplitYes
import Derived.WalkKit
import Derived.ProofKit
import Derived.OpenShut
import Derived.Lib.SmallJoins
namespace Go.Proofs.Ytlncklbbfnmdiaa.spanSplits
open Go.ChangeShapes Go.WideShapes Go.ChangeAt Go.RowKit Go.Joins
set_option linter.unusedVariables false

theorem split_out (f n g m : Int) (w : World) (h : ¬ (0 ≤ f ∧ 1 ≤ n ∧ n ≤ 64 - f)) :
    Calls Try.prog 5 #[.agg #[.int .i64 f, .int .i64 n], .agg #[.int .i64 g, .int .i64 m]] w fun e w' => e = .returned (.bool true) ∧ Below w.heap.size w w' := by
  have hh : Hid (¬ (0 ≤ f ∧ 1 ≤ n ∧ n ≤ 64 - f)) := h
  clear h
  go_enter Try.func5, Try.ntmps5
  go_wp2_with fail
  refine (refWhole_no _ _ _ hh.out).mono ?_; rintro e w0 ⟨rfl, hb⟩
  have hB : Below w.heap.size w w0 := below2 hb
  clear hb
  go_wp2_with fail
  refine (alive_any _).mono ?_; rintro e w1 ⟨rfl, hb⟩
  go_wp2
  go_ret
  exact ⟨rfl, below_step hB hb⟩

theorem split_all (f n g m : Int) (w : World) (h1 : 0 ≤ f) (h2 : 1 ≤ n) (h3 : n ≤ 64 - f)
    (hm : ∀ w, Calls Try.prog 11 #[.agg #[.int .i64 f, .int .i64 n], .agg #[.int .i64 g, .int .i64 m]] w fun e w' => e = .returned (.tuple #[.agg #[.int .i64 0, .int .i64 0], .bool false]) ∧ Below w.heap.size w w') :
    Calls Try.prog 5 #[.agg #[.int .i64 f, .int .i64 n], .agg #[.int .i64 g, .int .i64 m]] w fun e w' => e = .returned (.bool true) ∧ Below w.heap.size w w' := by
  refine split_no f n g m 0 0 [(f, n)] w h1 h2 h3 ?_ ⟨by simp, by simp⟩ ?_ (show putL true zeros [(f, n)] = putSpan true zeros (f, n) from rfl) (fun w => less_all f n g m w h1 h2 h3 hm) hm
  · intro p hp; simp at hp; subst hp; exact ⟨h1, h2, h3⟩
  · show sumN _ = n; simp [sumN]

theorem split_meet (f n g m lo hi : Int) (w : World) (h1 : 0 ≤ f) (h2 : 1 ≤ n) (h3 : n ≤ 64 - f) (hl : f ≤ lo) (hlh : lo < hi) (hr : hi ≤ f + n)
    (hm : ∀ w, Calls Try.prog 11 #[.agg #[.int .i64 f, .int .i64 n], .agg #[.int .i64 g, .int .i64 m]] w fun e w' => e = .returned (.tuple #[.agg #[.int .i64 lo, .int .i64 (hi - lo)], .bool true]) ∧ Below w.heap.size w w') :
    Calls Try.prog 5 #[.agg #[.int .i64 f, .int .i64 n], .agg #[.int .i64 g, .int .i64 m]] w fun e w' => e = .returned (.bool true) ∧ Below w.heap.size w w' := by
  by_cases e1 : f < lo
  · by_cases e2 : hi < f + n
    · refine split_y1 f n g m lo (hi - lo) [(f, lo - f), (hi, f + n - hi), (lo, hi - lo)] [(f, lo - f), (hi, f + n - hi)] w h1 h2 h3 ?_ ⟨by simp, by simp⟩ ?_ ?_ rfl (by show 0 < _; simp) (fun w => less_11 f n g m lo hi w h1 h2 h3 e1 hlh e2 hm) hm
      · intro p hp; simp at hp; rcases hp with rfl | rfl | rfl <;> (simp only; omega)
      · show sumN _ = n; simp [sumN]; omega
      · refine parts _ f n fun i hi => ?_
        rw [Bool.eq_iff_iff]; simp [inB]; omega
    · refine split_y1 f n g m lo (hi - lo) [(f, lo - f), (lo, hi - lo)] [(f, lo - f)] w h1 h2 h3 ?_ ⟨by simp, by simp⟩ ?_ ?_ rfl (by show 0 < _; simp) (fun w => less_10 f n g m lo hi w h1 h2 h3 e1 hlh (by omega) hm) hm
      · intro p hp; simp at hp; rcases hp with rfl | rfl <;> (simp only; omega)
      · show sumN _ = n; simp [sumN]; omega
      · refine parts _ f n fun i hi => ?_
        rw [Bool.eq_iff_iff]; simp [inB]; omega
  · by_cases e2 : hi < f + n
    · refine split_y1 f n g m lo (hi - lo) [(hi, f + n - hi), (lo, hi - lo)] [(hi, f + n - hi)] w h1 h2 h3 ?_ ⟨by simp, by simp⟩ ?_ ?_ rfl (by show 0 < _; simp) (fun w => less_01 f n g m lo hi w h1 h2 h3 (by omega) hlh e2 hm) hm
      · intro p hp; simp at hp; rcases hp with rfl | rfl <;> (simp only; omega)
      · show sumN _ = n; simp [sumN]; omega
      · refine parts _ f n fun i hi => ?_
        rw [Bool.eq_iff_iff]; simp [inB]; omega
    · refine split_y0 f n g m lo (hi - lo) [(lo, hi - lo)] w h1 h2 h3 ?_ ⟨by simp, by simp⟩ ?_ ?_ rfl (fun w => less_zero f n g m lo hi w h1 h2 h3 (by omega) hlh (by omega) hm) hm
      · intro p hp; simp at hp; subst hp; simp only; omega
      · show sumN _ = n; simp [sumN]; omega
      · refine parts _ f n fun i hi => ?_
        rw [Bool.eq_iff_iff]; simp [inB]; omega

theorem walk (f n g m : Int) (w0 : (Lit.int .i64 f).wf = true) (w1 : (Lit.int .i64 n).wf = true) (w2 : (Lit.int .i64 g).wf = true) (w3 : (Lit.int .i64 m).wf = true) (w : World) :
    Calls Try.prog 5 #[.agg #[.int .i64 f, .int .i64 n], .agg #[.int .i64 g, .int .i64 m]] w fun e w' => e = .returned (.bool true) ∧ Below w.heap.size w w' := by
  have hg := (bounds_i64 w2).2
  by_cases ha : 0 ≤ f ∧ 1 ≤ n ∧ n ≤ 64 - f
  · by_cases hb : 0 ≤ g ∧ 1 ≤ m ∧ m ≤ 64 - g
    · by_cases hl : (if f < g then g else f) < (if g + m < f + n then g + m else f + n)
      · exact split_meet f n g m _ _ w ha.1 ha.2.1 ha.2.2 (by split <;> omega) hl (by split <;> omega) (fun w => meet_some f n g m _ _ w ha.1 ha.2.1 ha.2.2 hb.1 hb.2.1 hb.2.2 rfl rfl hl (by split <;> omega) (by split <;> omega))
      · exact split_all f n g m w ha.1 ha.2.1 ha.2.2 (fun w => meet_none f n g m _ _ w ha.1 ha.2.1 ha.2.2 hb.1 hb.2.1 hb.2.2 rfl rfl (by omega))
    · exact split_all f n g m w ha.1 ha.2.1 ha.2.2 (fun w => meet_b f n g m w hg ha.1 ha.2.1 ha.2.2 hb)
  · exact split_out f n g m w ha

theorem own : ownKnob Try.prog.godebug = none := by kernel_rfl
theorem cells23 : Try.prog.cellsOf 23 = 2 := by kernel_rfl
theorem spanReads {H : Type} (enc : TypeId × Value → H) (a b : Int) (wa : (Lit.int .i64 a).wf = true) (wb : (Lit.int .i64 b).wf = true) (W : World) (sp : Nat → Bool) :
    DataW.Trod enc Try.prog W 0 sp true 23 (.agg #[.int .i64 a, .int .i64 b]) (.agg [.lit (.int .i64 a), .lit (.int .i64 b)]) [] :=
  shut_agg2 (y0 := (.lit (.int .i64 a), [])) (y1 := (.lit (.int .i64 b), [])) Try.underlying23 (by kernel_rfl) cells23 ⟨1, by simp [DataW.trod, Try.underlying3, wa]⟩ ⟨1, by simp [DataW.trod, Try.underlying3, wb]⟩

/-! ### From the walk to the row. -/
set_option maxRecDepth 100000 in
theorem lifted (os : Os) (started : os.Started) (H : Type) (enc : TypeId × Value → H) :
    ReturnsInHanded {} Try.checked os 5 .any (Rows.spanSplitsSpec.pre6 enc Try.prog Try.f5 Rows.spanSplitsRow.domain false) (Rows.spanSplitsSpec.post enc Try.prog Try.f5 false true false false) := by
  refine returnsInHanded_of_change (C := Try.checked) own started (by kernel_rfl) Try.func5
    (ChangeSpec.witness6 (enc := enc) (C := Try.checked) false ⟨#[], #[.agg #[.int .i64 0, .int .i64 0], .agg #[.int .i64 0, .int .i64 0]], []⟩ 8 (by kernel_rfl) (by kernel_rfl) (by kernel_rfl) (by kernel_rfl)) ?_
  intro W base args ds gs before hval0 hW hcnd _
  have hval : ∀ (j : Nat) t v, Try.f5.params[j]? = some t → args[j]? = some v → Value.okWide Try.prog W .any base t v := hval0
  have hW' := hW
  obtain ⟨p, q, hA0, hV, rfl, hfz, hnd⟩ := hW
  have hA : DataW.TrodAll enc Try.prog W 0 (fun _ => true) true Try.f5.params.toList args.toList ds p := hA0
  rw [Try.params5] at hA hval
  obtain ⟨v0, vs0, d0, ds0, p0, q0, hargs, rfl, rfl, h0, r0⟩ := trodAll_cons hA
  obtain ⟨v1, vs1, d1, ds1, p1, q1, rfl, rfl, rfl, h1, r1⟩ := trodAll_cons r0
  obtain ⟨rfl, rfl, rfl⟩ := trodAll_nil r1
  obtain rfl : args = #[v0, v1] := by cases args; simp_all
  obtain ⟨rfl, rfl⟩ := trodVars_none hV
  obtain ⟨c0, e0, y0, x0, m0, rfl, rfl, rfl, hy0, hx0⟩ := open_agg2 Try.underlying23 (by kernel_rfl) cells23 (hval 0 23 v0 rfl rfl) h0
  obtain ⟨a0, q0, rfl, wa0⟩ := DataW.trod_int Try.underlying3 hy0
  obtain ⟨b0, r0, rfl, wb0⟩ := DataW.trod_int Try.underlying3 hx0
  simp at q0 r0
  subst q0 r0
  obtain ⟨c1, e1, y1, x1, m1, rfl, rfl, rfl, hy1, hx1⟩ := open_agg2 Try.underlying23 (by kernel_rfl) cells23 (hval 1 23 v1 rfl rfl) h1
  obtain ⟨a1, q1, rfl, wa1⟩ := DataW.trod_int Try.underlying3 hy1
  obtain ⟨b1, r1, rfl, wb1⟩ := DataW.trod_int Try.underlying3 hx1
  simp at q1 r1
  subst q1 r1
  clear hA0 hval0
  simp only [List.append_nil] at hW'
  refine (walk a0 b0 a1 b1 wa0 wb0 wa1 wb1 W).mono fun e W' ⟨he, hg⟩ => ?_
  subst he
  exact ⟨_, rfl, _, _, _, [], _, [], hW', trodAll_mk1 (shut_bool Try.underlying4 _), (trodAll_cons_mk (spanReads enc a0 b0 wa0 wb0 _ _) (trodAll_cons_mk (spanReads enc a1 b1 wa1 wb1 _ _) trodAll_mk0)), rfl, hg.frame _, fun h => by cases h⟩

theorem over : Rows.spanSplitsRow.holds Try.pinned (OpenSpec.ofChange Rows.spanSplitsSpec) :=
  OpenClaim.holds_of_wide 5 Try.f5 rfl rfl rfl rfl rfl rfl rfl ⟨rfl, rfl, rfl, rfl, rfl⟩ rfl rfl rfl rfl rfl (by kernel_rfl) Try.func5 (by kernel_rfl)
    (of_decide_eq_true (by kernel_rfl)) (by unfold Func.isWrapper; first | (rw [if_pos (by decide +kernel)]; kernel_rfl) | (rw [if_neg (by decide +kernel)]; exact ⟨rfl, rfl⟩))
    (fun os started H enc _ => lifted os started H enc)

end Go.Proofs.Ytlncklbbfnmdiaa.spanSplits
namespace Go.Proofs.Ytlncklbbfnmdiaa
theorem spanSplits_holds : Rows.SpanSplitsSaid := spanSplits.over
end Go.Proofs.Ytlncklbbfnmdiaa
