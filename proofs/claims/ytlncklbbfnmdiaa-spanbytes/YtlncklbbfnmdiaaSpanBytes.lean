/-
  SpanBytes: for every three integers of Go's type int the law returns true, and nothing that was there is written: no condition.
-/
import Derived.Test.YtlncklbbfnmdiaaRows
import Derived.Test.YtlncklbbfnmdiaaAlive
import Derived.WalkKit
import Derived.ProofKit
import Derived.OpenShut
namespace Go.Proofs.Ytlncklbbfnmdiaa.spanBytes
open Go.ChangeShapes Go.WideShapes Go.ChangeAt Go.RowKit
set_option linter.unusedVariables false      -- a walk need not use every 'w<i>' (that an integer argument fits its kind)

theorem own : ownKnob Try.prog.godebug = none := by kernel_rfl

/-! ### The walk: the Go text returns true; nothing that was there is written. -/
theorem blocks_v (a n p q : Int) (w : World) (h1 : 0 ≤ a) (h2 : 1 ≤ n) (h3 : n ≤ 512 - a) (hp : a / 8 = p) (hq : (a + n - 1) / 8 + 1 = q) :
    Calls Try.prog 23 #[.int .i64 a, .int .i64 n] w fun e w' => e = .returned (.tuple #[.agg #[.int .i64 p, .int .i64 (q - p)], .bool true]) ∧ Below w.heap.size w w' := by
  subst hp hq
  exact blocks_yes a n w h1 h2 h3

theorem has_in (f n k : Int) (w : World) (h1 : 0 ≤ f) (h2 : 1 ≤ n) (h3 : n ≤ 64 - f) (h4 : f ≤ k) (h5 : k < f + n) :
    Calls Try.prog 21 #[.agg #[.int .i64 f, .int .i64 n], .int .i64 k] w fun e w' => e = .returned (.bool true) ∧ Below w.heap.size w w' := by
  have h := has_yes f n k w h1 h2 h3 h4
  rw [decide_eq_true h5] at h
  exact h

theorem valid_in (f n k : Int) (w : World) (h1 : 0 ≤ f) (h2 : 1 ≤ n) (h3 : n ≤ 64 - f) (h4 : f + n ≤ k) :
    Calls Try.prog 15 #[.agg #[.int .i64 f, .int .i64 n], .int .i64 k] w fun e w' => e = .returned (.bool true) ∧ Below w.heap.size w w' := by
  have h := valid_yes f n k w h1 h2 h3
  rw [decide_eq_true h4] at h
  exact h

theorem walk_out (a m n : Int) (w : World) (hk : a < 0 ∨ (0 ≤ a ∧ m < 1) ∨ (0 ≤ a ∧ 1 ≤ m ∧ n < 1) ∨ (0 ≤ a ∧ 1 ≤ m ∧ 1 ≤ n ∧ 300 < a) ∨ (0 ≤ a ∧ 1 ≤ m ∧ 1 ≤ n ∧ a ≤ 300 ∧ 100 < m) ∨ (0 ≤ a ∧ 1 ≤ m ∧ 1 ≤ n ∧ a ≤ 300 ∧ m ≤ 100 ∧ 100 < n)) :
    Calls Try.prog 7 #[.int .i64 a, .int .i64 m, .int .i64 n] w fun e w' => e = .returned (.bool true) ∧ Below w.heap.size w w' := by
  rcases hk with k1 | ⟨k0, k1⟩ | ⟨k0, k1, k2⟩ | ⟨k0, k1, k2, k3⟩ | ⟨k0, k1, k2, k3, k4⟩ | ⟨k0, k1, k2, k3, k4, k5⟩
  all_goals
    go_enter Try.func7, Try.ntmps7
    go_wp2_with fail
    refine (alive_any _).mono ?_; rintro e w1 ⟨rfl, hb1⟩
    go_wp2
    go_ret
    exact ⟨rfl, hb1⟩

theorem walk_in (a m n p q r s : Int) (w : World) (h1 : 0 ≤ a) (h2 : 1 ≤ m) (h3 : 1 ≤ n) (h4 : a ≤ 300) (h5 : m ≤ 100) (h6 : n ≤ 100)
    (ep : Hid (a / 8 = p)) (eq : Hid ((a + m - 1) / 8 + 1 = q)) (er : Hid ((a + m) / 8 = r)) (es : Hid ((a + m + n - 1) / 8 + 1 = s)) :
    Calls Try.prog 7 #[.int .i64 a, .int .i64 m, .int .i64 n] w fun e w' => e = .returned (.bool true) ∧ Below w.heap.size w w' := by
  have F : Hid (0 ≤ p ∧ p ≤ r ∧ p < q ∧ q ≤ r + 1 ∧ r ≤ q ∧ r < s ∧ q ≤ s ∧ s ≤ 64 ∧ p ≤ a / 8 ∧ a / 8 < s ∧ p ≤ (a + m + n - 1) / 8 ∧ (a + m + n - 1) / 8 < s) := by
    have := ep.out; have := eq.out; have := er.out; have := es.out
    show _ ∧ _
    omega
  go_enter Try.func7, Try.ntmps7
  go_wp2_with fail
  refine (alive_any _).mono ?_; rintro e w1 ⟨rfl, hb1⟩
  go_wp2_with fail
  refine (blocks_v a m p q _ h1 h2 (by omega) ep.out eq.out).mono ?_; rintro e w2 ⟨rfl, hb2⟩
  have hB2 : Below w.heap.size w w2 := below_step hb1 hb2
  clear hb1 hb2
  go_wp2_with fail
  refine (blocks_v (a + m) n r s _ (by omega) h3 (by omega) er.out es.out).mono ?_; rintro e w3 ⟨rfl, hb3⟩
  obtain ⟨hc3, _⟩ := bcell hb3
  have s0 : w3.cell? ⟨w2.heap.size, 0, none⟩ = some (.int .i64 p) := by rw [hc3 w2.heap.size 0 (by simp)]; simp [go_sem]
  have s1 : w3.cell? ⟨w2.heap.size, 1, none⟩ = some (.int .i64 (q - p)) := by rw [hc3 w2.heap.size 1 (by simp)]; simp [go_sem]
  have hz3 : w2.heap.size < w3.heap.size := by have := hb3.size; simp at this; omega
  have hB3 : Below w.heap.size w w3 := (hB2.alloc hB2.size _).trans (hb3.mono (by have := hB2.size; simp; omega))
  clear hb3 hc3 hB2
  generalize w2.heap.size = b2 at *
  go_wp2_with fail
  refine (blocks_v a (m + n) p s _ h1 (by omega) (by omega) ep.out (by have := es.out; omega)).mono ?_; rintro e w4 ⟨rfl, hb4⟩
  obtain ⟨hc4, _⟩ := bcell hb4
  have s0 : w4.cell? ⟨b2, 0, none⟩ = some (.int .i64 p) := by rw [hc4 b2 0 (by simp; omega)]; simp [go_sem, hz3, s0]
  have s1 : w4.cell? ⟨b2, 1, none⟩ = some (.int .i64 (q - p)) := by rw [hc4 b2 1 (by simp; omega)]; simp [go_sem, hz3, s1]
  have t0 : w4.cell? ⟨w3.heap.size, 0, none⟩ = some (.int .i64 r) := by rw [hc4 w3.heap.size 0 (by simp)]; simp [go_sem]
  have t1 : w4.cell? ⟨w3.heap.size, 1, none⟩ = some (.int .i64 (s - r)) := by rw [hc4 w3.heap.size 1 (by simp)]; simp [go_sem]
  have hz4 : w3.heap.size < w4.heap.size := by have := hb4.size; simp at this; omega
  have hz2 : b2 < w4.heap.size := by omega
  have hB4 : Below w.heap.size w w4 := (hB3.alloc hB3.size _).trans (hb4.mono (by have := hB3.size; simp; omega))
  clear hb4 hc4 hB3 hz3
  generalize w3.heap.size = b3 at *
  go_wp2_with fail
  refine (join_yes p (q - p) r (s - r) p s _ (by have := F.out; omega) (by have := F.out; omega) (by have := F.out; omega) (by have := F.out; omega) (by have := F.out; omega) (by have := F.out; omega) (by have := F.out; omega) (by have := F.out; omega) (by have := F.out; split <;> omega) (by have := F.out; split <;> omega) (by have := F.out; omega) (by have := F.out; omega) (by have := F.out; omega) (by have := F.out; omega)).mono ?_; rintro e w5 ⟨rfl, hb5⟩
  obtain ⟨hc5, _⟩ := bcell hb5
  have t0 : w5.cell? ⟨w4.heap.size, 0, none⟩ = some (.int .i64 p) := by rw [hc5 w4.heap.size 0 (by simp)]; simp [go_sem]
  have t1 : w5.cell? ⟨w4.heap.size, 1, none⟩ = some (.int .i64 (s - p)) := by rw [hc5 w4.heap.size 1 (by simp)]; simp [go_sem]
  have hz5 : w4.heap.size < w5.heap.size := by have := hb5.size; simp at this; omega
  have hB5 : Below w.heap.size w w5 := (hB4.alloc hB4.size _).trans (hb5.mono (by have := hB4.size; simp; omega))
  clear hb5 hc5 hB4 hz4 hz2 s0 s1
  generalize w4.heap.size = b4 at *
  go_wp2_with fail
  refine (has_in p (s - p) (a / 8) _ (by have := F.out; omega) (by have := F.out; omega) (by have := F.out; omega) (by have := F.out; omega) (by have := F.out; omega)).mono ?_; rintro e w6 ⟨rfl, hb6⟩
  obtain ⟨hc6, _⟩ := bcell hb6
  have t0 : w6.cell? ⟨b4, 0, none⟩ = some (.int .i64 p) := by rw [hc6 b4 0 (by simp; omega)]; simp [go_sem, hz5, t0]
  have t1 : w6.cell? ⟨b4, 1, none⟩ = some (.int .i64 (s - p)) := by rw [hc6 b4 1 (by simp; omega)]; simp [go_sem, hz5, t1]
  have hz6 : b4 < w6.heap.size := by have := hb6.size; simp at this; omega
  have hB6 : Below w.heap.size w w6 := (hB5.alloc hB5.size _).trans (hb6.mono (by have := hB5.size; simp; omega))
  clear hb6 hc6 hB5 hz5
  go_wp2_with fail
  refine (has_in p (s - p) ((a + m + n - 1) / 8) _ (by have := F.out; omega) (by have := F.out; omega) (by have := F.out; omega) (by have := F.out; omega) (by have := F.out; omega)).mono ?_; rintro e w7 ⟨rfl, hb7⟩
  obtain ⟨hc7, _⟩ := bcell hb7
  have t0 : w7.cell? ⟨b4, 0, none⟩ = some (.int .i64 p) := by rw [hc7 b4 0 hz6]; exact t0
  have t1 : w7.cell? ⟨b4, 1, none⟩ = some (.int .i64 (s - p)) := by rw [hc7 b4 1 hz6]; exact t1
  have hB7 : Below w.heap.size w w7 := below_step hB6 hb7
  clear hb7 hc7 hB6 hz6
  go_wp2_with fail
  refine (valid_in p (s - p) 64 _ (by have := F.out; omega) (by have := F.out; omega) (by have := F.out; omega) (by have := F.out; omega)).mono ?_; rintro e w8 ⟨rfl, hb8⟩
  go_wp2
  go_ret
  exact ⟨rfl, below_step hB7 hb8⟩

theorem walk (a0 : Int) (a1 : Int) (a2 : Int) (w0 : (Lit.int .i64 a0).wf = true) (w1 : (Lit.int .i64 a1).wf = true) (w2 : (Lit.int .i64 a2).wf = true) (w : World) :
    Calls Try.prog 7 #[.int .i64 a0, .int .i64 a1, .int .i64 a2] w fun e w' => e = .returned (.bool true) ∧ Below w.heap.size w w' := by
  by_cases h : 0 ≤ a0 ∧ 1 ≤ a1 ∧ 1 ≤ a2 ∧ a0 ≤ 300 ∧ a1 ≤ 100 ∧ a2 ≤ 100
  · obtain ⟨h1, h2, h3, h4, h5, h6⟩ := h
    exact walk_in a0 a1 a2 _ _ _ _ w h1 h2 h3 h4 h5 h6 rfl rfl rfl rfl
  · exact walk_out a0 a1 a2 w (by omega)

/-! ### From the walk to the row. -/
set_option maxRecDepth 100000 in
theorem lifted (os : Os) (started : os.Started) (H : Type) (enc : TypeId × Value → H) :
    ReturnsInHanded {} Try.checked os 7 .any (Rows.spanBytesSpec.pre6 enc Try.prog Try.f7 Rows.spanBytesRow.domain false) (Rows.spanBytesSpec.post enc Try.prog Try.f7 false true false false) := by
  refine returnsInHanded_of_change (C := Try.checked) own started (by kernel_rfl) Try.func7
    (ChangeSpec.witness6 (enc := enc) (C := Try.checked) false ⟨#[], #[.int .i64 0, .int .i64 0, .int .i64 0], []⟩ 8 (by kernel_rfl) (by kernel_rfl) (by kernel_rfl) (by kernel_rfl)) ?_
  intro W base args ds gs before hval0 hW hcnd _
  have hval : ∀ (j : Nat) t v, Try.f7.params[j]? = some t → args[j]? = some v → Value.okWide Try.prog W .any base t v := hval0
  have hW' := hW
  obtain ⟨p, q, hA0, hV, rfl, hfz, hnd⟩ := hW
  have hA : DataW.TrodAll enc Try.prog W 0 (fun _ => true) true Try.f7.params.toList args.toList ds p := hA0
  rw [Try.params7] at hA hval
  obtain ⟨v0, vs0, d0, ds0, p0, q0, hargs, rfl, rfl, h0, r0⟩ := trodAll_cons hA
  obtain ⟨v1, vs1, d1, ds1, p1, q1, rfl, rfl, rfl, h1, r1⟩ := trodAll_cons r0
  obtain ⟨v2, vs2, d2, ds2, p2, q2, rfl, rfl, rfl, h2, r2⟩ := trodAll_cons r1
  obtain ⟨rfl, rfl, rfl⟩ := trodAll_nil r2
  obtain rfl : args = #[v0, v1, v2] := by cases args; simp_all
  obtain ⟨rfl, rfl⟩ := trodVars_none hV
  obtain ⟨a0, rfl, rfl, rfl, w0⟩ := open_int Try.underlying3 (hval 0 3 v0 rfl rfl) h0
  obtain ⟨a1, rfl, rfl, rfl, w1⟩ := open_int Try.underlying3 (hval 1 3 v1 rfl rfl) h1
  obtain ⟨a2, rfl, rfl, rfl, w2⟩ := open_int Try.underlying3 (hval 2 3 v2 rfl rfl) h2
  clear hA0 hval0
  simp only [List.append_nil] at hW'
  refine (walk a0 a1 a2 w0 w1 w2 W).mono fun e W' ⟨he, hg⟩ => ?_
  subst he
  exact ⟨_, rfl, _, _, _, [], _, [], hW', trodAll_mk1 (shut_bool Try.underlying4 _), (trodAll_cons_mk (shut_int Try.underlying3 w0) (trodAll_cons_mk (shut_int Try.underlying3 w1) (trodAll_cons_mk (shut_int Try.underlying3 w2) trodAll_mk0))), rfl, hg.frame _, fun h => by cases h⟩

theorem over : Rows.spanBytesRow.holds Try.pinned (OpenSpec.ofChange Rows.spanBytesSpec) :=
  OpenClaim.holds_of_wide 7 Try.f7 rfl rfl rfl rfl rfl rfl rfl ⟨rfl, rfl, rfl, rfl, rfl⟩ rfl rfl rfl rfl rfl (by kernel_rfl) Try.func7 (by kernel_rfl)
    (of_decide_eq_true (by kernel_rfl)) (by unfold Func.isWrapper; first | (rw [if_pos (by decide +kernel)]; kernel_rfl) | (rw [if_neg (by decide +kernel)]; exact ⟨rfl, rfl⟩))
    (fun os started H enc _ => lifted os started H enc)

end Go.Proofs.Ytlncklbbfnmdiaa.spanBytes
namespace Go.Proofs.Ytlncklbbfnmdiaa
theorem spanBytes_holds : Rows.SpanBytesSaid := spanBytes.over
end Go.Proofs.Ytlncklbbfnmdiaa
