/-
  SpanBlocks: for every two integers of Go's type int the law returns true, and nothing that was there is written: no condition.
-/
import Derived.Test.YtlncklbbfnmdiaaRows
import Derived.Test.YtlncklbbfnmdiaaAlive
import Derived.WalkKit
import Derived.ProofKit
import Derived.OpenShut
namespace Go.Proofs.Ytlncklbbfnmdiaa.spanBlocks
open Go.ChangeShapes Go.WideShapes Go.ChangeAt Go.RowKit
set_option linter.unusedVariables false      -- a walk need not use every 'w<i>' (that an integer argument fits its kind)

theorem own : ownKnob Try.prog.godebug = none := by kernel_rfl

/-! ### The walk: the Go text returns true; nothing that was there is written. -/
theorem blocks_at (a n : Int) (w : World) (h1 : 0 ≤ a) (h2 : 1 ≤ n) (h3 : n ≤ 512 - a) :
    Calls Try.prog 23 #[.int .i64 a, .int .i64 n] w fun e w' => e = .returned (.tuple #[.agg #[.int .i64 (a / 8), .int .i64 ((a + n - 1) / 8 - a / 8 + 1)], .bool true]) ∧ Below w.heap.size w w' := by
  have h := blocks_yes a n w h1 h2 h3
  rw [show (a + n - 1) / 8 + 1 - a / 8 = (a + n - 1) / 8 - a / 8 + 1 from by omega] at h
  exact h

theorem walk_no (a n : Int) (w : World) (ha : a ≤ 9223372036854775807) (hn : -9223372036854775808 ≤ n) (h : ¬ (0 ≤ a ∧ 1 ≤ n ∧ n ≤ 512 - a))
    (hk : (a < 0) ∨ (0 ≤ a ∧ n < 1) ∨ (0 ≤ a ∧ 1 ≤ n ∧ 512 < n) ∨ (0 ≤ a ∧ 1 ≤ n ∧ n ≤ 512 ∧ 512 - n < a)) :
    Calls Try.prog 4 #[.int .i64 a, .int .i64 n] w fun e w' => e = .returned (.bool true) ∧ Below w.heap.size w w' := by
  have hh : Hid (¬ (0 ≤ a ∧ 1 ≤ n ∧ n ≤ 512 - a)) := h
  clear h
  rcases hk with k1 | ⟨k0, k1⟩ | ⟨k0, k1, k2⟩ | ⟨k0, k1, k2, k3⟩
  all_goals
    go_enter Try.func4, Try.ntmps4
    go_wp2_with fail
    refine (alive_any _).mono ?_; rintro e w1 ⟨rfl, hb1⟩
    go_wp2_with fail
    refine (blocks_no _ _ _ hh.out ha).mono ?_; rintro e w2 ⟨rfl, hb2⟩
    have hB : Below w.heap.size w w2 := below_step hb1 hb2
    clear hb1 hb2
    go_wp2
    go_ret
    exact ⟨rfl, hB.alloc hB.size _⟩

theorem walk_yes (a n : Int) (w : World) (h1 : 0 ≤ a) (h2 : 1 ≤ n) (h3 : n ≤ 512 - a) :
    Calls Try.prog 4 #[.int .i64 a, .int .i64 n] w fun e w' => e = .returned (.bool true) ∧ Below w.heap.size w w' := by
  go_enter Try.func4, Try.ntmps4
  go_wp2_with fail
  refine (alive_any _).mono ?_; rintro e w1 ⟨rfl, hb1⟩
  go_wp2_with fail
  refine (blocks_at _ _ _ h1 h2 h3).mono ?_; rintro e w2 ⟨rfl, hb2⟩
  have hB : Below w.heap.size w w2 := below_step hb1 hb2
  clear hb1 hb2
  go_wp2
  go_ret
  exact ⟨rfl, hB.alloc hB.size _⟩

theorem walk (a0 : Int) (a1 : Int) (w0 : (Lit.int .i64 a0).wf = true) (w1 : (Lit.int .i64 a1).wf = true) (w : World) :
    Calls Try.prog 4 #[.int .i64 a0, .int .i64 a1] w fun e w' => e = .returned (.bool true) ∧ Below w.heap.size w w' := by
  have b0 := bounds_i64 w0
  have b1 := bounds_i64 w1
  by_cases h : 0 ≤ a0 ∧ 1 ≤ a1 ∧ a1 ≤ 512 - a0
  · exact walk_yes a0 a1 w h.1 h.2.1 h.2.2
  · exact walk_no a0 a1 w b0.2 b1.1 h (by omega)

/-! ### From the walk to the row. -/
set_option maxRecDepth 100000 in
theorem lifted (os : Os) (started : os.Started) (H : Type) (enc : TypeId × Value → H) :
    ReturnsInHanded {} Try.checked os 4 .any (Rows.spanBlocksSpec.pre6 enc Try.prog Try.f4 Rows.spanBlocksRow.domain false) (Rows.spanBlocksSpec.post enc Try.prog Try.f4 false true false false) := by
  refine returnsInHanded_of_change (C := Try.checked) own started (by kernel_rfl) Try.func4
    (ChangeSpec.witness6 (enc := enc) (C := Try.checked) false ⟨#[], #[.int .i64 0, .int .i64 0], []⟩ 8 (by kernel_rfl) (by kernel_rfl) (by kernel_rfl) (by kernel_rfl)) ?_
  intro W base args ds gs before hval0 hW hcnd _
  have hval : ∀ (j : Nat) t v, Try.f4.params[j]? = some t → args[j]? = some v → Value.okWide Try.prog W .any base t v := hval0
  have hW' := hW
  obtain ⟨p, q, hA0, hV, rfl, hfz, hnd⟩ := hW
  have hA : DataW.TrodAll enc Try.prog W 0 (fun _ => true) true Try.f4.params.toList args.toList ds p := hA0
  rw [Try.params4] at hA hval
  obtain ⟨v0, vs0, d0, ds0, p0, q0, hargs, rfl, rfl, h0, r0⟩ := trodAll_cons hA
  obtain ⟨v1, vs1, d1, ds1, p1, q1, rfl, rfl, rfl, h1, r1⟩ := trodAll_cons r0
  obtain ⟨rfl, rfl, rfl⟩ := trodAll_nil r1
  obtain rfl : args = #[v0, v1] := by cases args; simp_all
  obtain ⟨rfl, rfl⟩ := trodVars_none hV
  obtain ⟨a0, rfl, rfl, rfl, w0⟩ := open_int Try.underlying3 (hval 0 3 v0 rfl rfl) h0
  obtain ⟨a1, rfl, rfl, rfl, w1⟩ := open_int Try.underlying3 (hval 1 3 v1 rfl rfl) h1
  clear hA0 hval0
  simp only [List.append_nil] at hW'
  refine (walk a0 a1 w0 w1 W).mono fun e W' ⟨he, hg⟩ => ?_
  subst he
  exact ⟨_, rfl, _, _, _, [], _, [], hW', trodAll_mk1 (shut_bool Try.underlying4 _), (trodAll_cons_mk (shut_int Try.underlying3 w0) (trodAll_cons_mk (shut_int Try.underlying3 w1) trodAll_mk0)), rfl, hg.frame _, fun h => by cases h⟩

theorem over : Rows.spanBlocksRow.holds Try.pinned (OpenSpec.ofChange Rows.spanBlocksSpec) :=
  OpenClaim.holds_of_wide 4 Try.f4 rfl rfl rfl rfl rfl rfl rfl ⟨rfl, rfl, rfl, rfl, rfl⟩ rfl rfl rfl rfl rfl (by kernel_rfl) Try.func4 (by kernel_rfl)
    (of_decide_eq_true (by kernel_rfl)) (by unfold Func.isWrapper; first | (rw [if_pos (by decide +kernel)]; kernel_rfl) | (rw [if_neg (by decide +kernel)]; exact ⟨rfl, rfl⟩))
    (fun os started H enc _ => lifted os started H enc)

end Go.Proofs.Ytlncklbbfnmdiaa.spanBlocks
namespace Go.Proofs.Ytlncklbbfnmdiaa
theorem spanBlocks_holds : Rows.SpanBlocksSaid := spanBlocks.over
end Go.Proofs.Ytlncklbbfnmdiaa
