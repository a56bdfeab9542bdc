/-
  RunsPlay: spans put in and taken out, in every order; what comes next; copies go on by themselves; what is handed in stays; lists kept, marked, grown.
-/
import Derived.Test.YtpdbnldbdmhhfaaRows
import Derived.Test.YtpdbnldbdmhhfaaPlayWalk
import Derived.Test.YtpdbnldbdmhhfaaArgOps
import Derived.WalkKit
import Derived.ProofKit
import Derived.OpenShut
namespace Go.Proofs.Ytpdbnldbdmhhfaa.runsPlay
open Go.ChangeShapes Go.WideShapes Go.ChangeAt Go.RowKit
set_option linter.unusedVariables false

theorem walk {W : World} {v u : Value} {l : List Sp} {os : List OpE} {x : Int} (h : Handed W v l) (k : OpsAt W u os) (_ : (Lit.int .i64 x).wf = true) :
    Calls Try.prog 3 #[v, u, .int .i64 x] W fun e w' => e = .returned (.bool true) ∧ Below W.heap.size W w' := by
  obtain ⟨hr, hf, a, c, rfl, hle, _⟩ := h
  obtain ⟨b, d, hu⟩ : ∃ b d, u = .slice b os.length d := by
    rcases k with ⟨rfl, b, d, hu⟩ | ⟨g, o, cap, hu, _⟩
    · exact ⟨b, d, hu⟩
    · exact ⟨_, _, hu⟩
  subst hu
  by_cases h40 : l.length ≤ 40
  · by_cases k50 : os.length ≤ 50
    · exact play_walk l os l.length os.length c d a b x W rfl rfl h40 k50 hr hf k
    · exact play_out a b l.length os.length c d x W (.inr ⟨by omega, by omega⟩)
  · exact play_out a b l.length os.length c d x W (.inl (by omega))

theorem own : ownKnob Try.prog.godebug = none := by kernel_rfl

/-! ### From the walk to the row. -/
set_option maxRecDepth 100000 in
theorem lifted (os : Os) (started : os.Started) (H : Type) (enc : TypeId × Value → H) :
    ReturnsInHanded {} Try.checked os 3 .any (Rows.runsPlaySpec.pre6 enc Try.prog Try.f3 Rows.runsPlayRow.domain false) (Rows.runsPlaySpec.post enc Try.prog Try.f3 false true false false) := by
  refine returnsInHanded_of_change (C := Try.checked) own started (by kernel_rfl) Try.func3
    (ChangeSpec.witness6 (enc := enc) (C := Try.checked) false ⟨#[], #[.slice none 0 0, .slice none 0 0, .int .i64 0], []⟩ 8 (by kernel_rfl) (by kernel_rfl) (by kernel_rfl) (by kernel_rfl)) ?_
  intro W base args ds gs before hval0 hW hcnd _
  have hval : ∀ (j : Nat) t v, Try.f3.params[j]? = some t → args[j]? = some v → Value.okWide Try.prog W .any base t v := hval0
  have hW' := hW
  obtain ⟨p, q, hA0, hV, rfl, hfz, hnd⟩ := hW
  have hA : DataW.TrodAll enc Try.prog W 0 (fun _ => true) true Try.f3.params.toList args.toList ds p := hA0
  rw [Try.params3] at hA hval
  obtain ⟨v0, vs0, d0, ds0, p0, q0, hargs, rfl, rfl, h0, r0⟩ := trodAll_cons hA
  obtain ⟨v1, vs1, d1, ds1, p1, q1, rfl, rfl, rfl, h1, r1⟩ := trodAll_cons r0
  obtain ⟨v2, vs2, d2, ds2, p2, q2, rfl, rfl, rfl, h2, r2⟩ := trodAll_cons r1
  obtain ⟨rfl, rfl, rfl⟩ := trodAll_nil r2
  obtain rfl : args = #[v0, v1, v2] := by cases args; simp_all
  obtain ⟨rfl, rfl⟩ := trodVars_none hV
  have k0 := h0
  obtain ⟨⟨l0, w0⟩, lt0⟩ := open_spans (hval 0 22 v0 rfl rfl) h0
  have k1 := h1
  obtain ⟨⟨l1, w1⟩, lt1⟩ := open_ops (hval 1 23 v1 rfl rfl) h1
  obtain ⟨a2, rfl, rfl, rfl, w2⟩ := open_int Try.underlying3 (hval 2 3 v2 rfl rfl) h2
  clear hA0 hval0
  refine (walk w0 w1 w2).mono fun e W' ⟨he, bel⟩ => ?_
  subst he
  exact ⟨_, rfl, _, _, _, [], _, [], hW', trodAll_mk1 (shut_bool Try.underlying4 _), (trodAll_cons_mk (Below.trod laidOut (by kernel_rfl) (of_decide_eq_true (by kernel_rfl)) k0 bel lt0) (trodAll_cons_mk (Below.trod laidOut (by kernel_rfl) (of_decide_eq_true (by kernel_rfl)) k1 bel lt1) (trodAll_cons_mk (shut_int Try.underlying3 w2) trodAll_mk0))), rfl, bel.frame _, fun h => by cases h⟩

theorem over : Rows.runsPlayRow.holds Try.pinned (OpenSpec.ofChange Rows.runsPlaySpec) :=
  OpenClaim.holds_of_wide 3 Try.f3 rfl rfl rfl rfl rfl rfl rfl ⟨rfl, rfl, rfl, rfl, rfl⟩ rfl rfl rfl rfl rfl (by kernel_rfl) Try.func3 (by kernel_rfl)
    (of_decide_eq_true (by kernel_rfl)) (by unfold Func.isWrapper; first | (rw [if_pos (by decide +kernel)]; kernel_rfl) | (rw [if_neg (by decide +kernel)]; exact ⟨rfl, rfl⟩))
    (fun os started H enc _ => lifted os started H enc)

end Go.Proofs.Ytpdbnldbdmhhfaa.runsPlay
namespace Go.Proofs.Ytpdbnldbdmhhfaa
theorem runsPlay_holds : Rows.RunsPlaySaid := runsPlay.over
end Go.Proofs.Ytpdbnldbdmhhfaa
