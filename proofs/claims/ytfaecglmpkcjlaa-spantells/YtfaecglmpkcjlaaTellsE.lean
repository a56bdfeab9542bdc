/-
  What SpanTells meets: each call by what its spans are.
-/
import Derived.Test.YtfaecglmpkcjlaaTellsB
namespace Go.Proofs.Ytfaecglmpkcjlaa
open Go.ChangeShapes Go.WideShapes Go.ChangeAt Go.RowKit
attribute [local go_sem ↓] Go.wp_at_zero Go.wp_at_succ


theorem wh_iff (f n : Int) : Wh (f, n) ↔ (0 ≤ f ∧ 1 ≤ n ∧ n ≤ 64 - f) := Iff.rfl

theorem whole_sym (f n : Int) (w : World) :
    Calls Try.prog 6 #[.agg #[.int .i64 f, .int .i64 n]] w fun e w' => e = .returned (.bool (decide (Wh (f, n)))) ∧ Below w.heap.size w w' := by
  by_cases h : Wh (f, n)
  · rw [decide_eq_true h]; exact refWhole_yes f n w h
  · rw [decide_eq_false h]; exact refWhole_no f n w h

/-- Where a span ends. -/
def endS (p : Sp) : Int := if Wh p then p.1 + p.2 else 0
theorem end_sym (f n : Int) (w : World) (hf : f ≤ 9223372036854775807) :
    Calls Try.prog 12 #[.agg #[.int .i64 f, .int .i64 n]] w fun e w' => e = .returned (.int .i64 (endS (f, n))) ∧ Below w.heap.size w w' := by
  by_cases h : Wh (f, n)
  · rw [show endS (f, n) = f + n from if_pos h]; exact end_yes f n w h
  · rw [show endS (f, n) = 0 from if_neg h]; exact end_no f n w hf h

theorem valid_t (f n k : Int) (w : World) (h : Wh (f, n)) :
    Calls Try.prog 11 #[.agg #[.int .i64 f, .int .i64 n], .int .i64 k] w fun e w' => e = .returned (.bool (decide (endS (f, n) ≤ k))) ∧ Below w.heap.size w w' := by
  rw [show endS (f, n) = f + n from if_pos h]; exact valid_yes f n k w h.1 h.2.1 h.2.2

theorem has_sym (f n k : Int) (w : World) (hf : f ≤ 9223372036854775807) :
    Calls Try.prog 17 #[.agg #[.int .i64 f, .int .i64 n], .int .i64 k] w fun e w' => e = .returned (.bool (decide (In (putR [] [(f, n)]) k))) ∧ Below w.heap.size w w' := by
  rw [put_one]
  by_cases h : Wh (f, n)
  · rw [if_pos h]
    have hin : In [(f, n)] k ↔ (f ≤ k ∧ k < f + n) := by rw [in_cons]; simp [in_nil, hasW, h]
    by_cases h4 : f ≤ k
    · rw [show decide (In [(f, n)] k) = decide (k < f + n) from decide_eq_decide.2 (hin.trans ⟨fun x => x.2, fun x => ⟨h4, x⟩⟩)]
      exact has_yes f n k w h.1 h.2.1 h.2.2 h4
    · rw [show decide (In [(f, n)] k) = false from decide_eq_false (fun x => h4 (hin.1 x).1)]
      exact has_below f n k w h.1 h.2.1 h.2.2 h4
  · rw [if_neg h, decide_eq_false (in_nil k)]
    exact has_no f n k w hf h

/-- Whether two touch. -/
def Tb (a b : Sp) : Bool := decide (Wh a ∧ Wh b ∧ touchD a b)
theorem touch_sym (f n g m : Int) (w : World) (hf : f ≤ 9223372036854775807) (hg : g ≤ 9223372036854775807) :
    Calls Try.prog 16 #[.agg #[.int .i64 f, .int .i64 n], .agg #[.int .i64 g, .int .i64 m]] w fun e w' => e = .returned (.bool (Tb (f, n) (g, m))) ∧ Below w.heap.size w w' := by
  by_cases h : Wh (f, n)
  · by_cases k : Wh (g, m)
    · by_cases t : touchD (f, n) (g, m)
      · rw [show Tb (f, n) (g, m) = true from decide_eq_true ⟨h, k, t⟩]; exact touch_t f n g m w h k t
      · rw [show Tb (f, n) (g, m) = false from decide_eq_false (fun x => t x.2.2)]; exact touch_f f n g m w h k t
    · rw [show Tb (f, n) (g, m) = false from decide_eq_false (fun x => k x.2.1)]; exact touch_b f n g m w h.1 h.2.1 h.2.2 hg k
  · rw [show Tb (f, n) (g, m) = false from decide_eq_false (fun x => h x.1)]; exact touch_a f n g m w hf h

def JoinIs (a b : Sp) (jf jn : Int) : Prop := (Tb a b = true → jf = (joinS a b).1 ∧ jn = (joinS a b).2) ∧ (Tb a b = false → jf = 0 ∧ jn = 0)
theorem join_sym (f n g m : Int) (hf : f ≤ 9223372036854775807) (hg : g ≤ 9223372036854775807) :
    ∃ jf jn, (∀ w, Calls Try.prog 8 #[.agg #[.int .i64 f, .int .i64 n], .agg #[.int .i64 g, .int .i64 m]] w fun e w' => e = .returned (.tuple #[.agg #[.int .i64 jf, .int .i64 jn], .bool (Tb (f, n) (g, m))]) ∧ Below w.heap.size w w') ∧ JoinIs (f, n) (g, m) jf jn := by
  cases hT : Tb (f, n) (g, m) with
  | true =>
    obtain ⟨h, k, t⟩ := of_decide_eq_true hT
    exact ⟨_, _, fun w => join_t f n g m w h k t, fun _ => ⟨rfl, rfl⟩, fun h => by rw [hT] at h; cases h⟩
  | false => exact ⟨0, 0, fun w => join_no f n g m w (fun w => by have := touch_sym f n g m w hf hg; rwa [hT] at this), (fun h => by rw [hT] at h; cases h), fun _ => ⟨rfl, rfl⟩⟩

/-- What two have in common. -/
def bothS (a b : Sp) : List Sp := bothL (putR [] [a]) (putR [] [b])
theorem bothS_canon (a b : Sp) : Canon (bothS a b) := (both_spec _ _ (of_canon _) (of_canon _)).1
theorem bothS_none_a {a b : Sp} (h : ¬ Wh a) : bothS a b = [] := by unfold bothS; rw [put_one a, if_neg h]; rfl
theorem bothS_none_b {a b : Sp} (h : ¬ Wh b) : bothS a b = [] := by unfold bothS; rw [put_one b, if_neg h]; unfold bothL meetRow; simp
theorem bothS_some {a b : Sp} (h : Wh a) (k : Wh b) : bothS a b = (meetS a b).toList := by
  unfold bothS; rw [put_one a, put_one b, if_pos h, if_pos k]
  simp only [bothL, meetRow, List.flatMap_cons, List.flatMap_nil, List.append_nil, List.filterMap_cons, List.filterMap_nil]
  cases meetS a b <;> rfl

def MeetIs (a b : Sp) (ok : Bool) (mf mn : Int) : Prop := (ok = true → bothS a b = [(mf, mn)] ∧ Wh (mf, mn) ∧ Wh a ∧ Tb a b = true) ∧ (ok = false → bothS a b = [] ∧ mf = 0 ∧ mn = 0)
theorem meet_sym (f n g m : Int) (hf : f ≤ 9223372036854775807) (hg : g ≤ 9223372036854775807) :
    ∃ ok mf mn, (∀ w, Calls Try.prog 7 #[.agg #[.int .i64 f, .int .i64 n], .agg #[.int .i64 g, .int .i64 m]] w fun e w' => e = .returned (.tuple #[.agg #[.int .i64 mf, .int .i64 mn], .bool ok]) ∧ Below w.heap.size w w') ∧ MeetIs (f, n) (g, m) ok mf mn := by
  by_cases h : Wh (f, n)
  · by_cases k : Wh (g, m)
    · have lh := lo_hi (f, n) (g, m)
      have e1 := bothS_some h k
      unfold meetS at e1
      obtain ⟨h1, h2, h3⟩ := id h
      obtain ⟨k1, k2, k3⟩ := id k
      simp only at h1 h2 h3 k1 k2 k3 lh
      by_cases hlt : loM (f, n) (g, m) < hiM (f, n) (g, m)
      · rw [if_pos hlt] at e1
        refine ⟨true, loM (f, n) (g, m), hiM (f, n) (g, m) - loM (f, n) (g, m), fun w => meet_some f n g m _ _ w h1 h2 h3 k1 k2 k3 rfl rfl hlt (by omega) (by omega), fun _ => ⟨e1, ?_, h, ?_⟩, fun h => by cases h⟩
        · unfold Wh; simp only; omega
        · refine decide_eq_true ⟨h, k, ?_⟩
          unfold touchD; simp only; omega
      · rw [if_neg hlt] at e1
        exact ⟨false, 0, 0, fun w => meet_none f n g m _ _ w h1 h2 h3 k1 k2 k3 rfl rfl (by have := hlt; simp only [loM, hiM] at this ⊢; omega), (fun h => by cases h), fun _ => ⟨e1, rfl, rfl⟩⟩
    · exact ⟨false, 0, 0, fun w => meet_b f n g m w hg h.1 h.2.1 h.2.2 k, (fun h => by cases h), fun _ => ⟨bothS_none_b k, rfl, rfl⟩⟩
  · exact ⟨false, 0, 0, fun w => meet_a f n g m w hf h, (fun h => by cases h), fun _ => ⟨bothS_none_a h, rfl, rfl⟩⟩

/-- What one has and the other one has not. -/
def lessL (a b : Sp) : List Sp := cutR (putR [] [a]) [b]
theorem lessL_canon (a b : Sp) : Canon (lessL a b) := (cut_spec [b] _ (of_canon _)).1
theorem lessL_in (a b : Sp) (k : Int) : In (lessL a b) k ↔ In (putR [] [a]) k ∧ ¬ In (putR [] [b]) k := by
  rw [lessL, (cut_spec [b] _ (of_canon _)).2 k, (put_spec [b] [] trivial).2 k]
  simp [in_nil]
theorem lessL_eq {a b : Sp} (h : Wh a) : lessL a b = lessS a b := by
  unfold lessL; rw [put_one, if_pos h]; simp [cutR]
theorem lessL_len (a b : Sp) : (lessL a b).length ≤ 2 := by
  by_cases h : Wh a
  · rw [lessL_eq h]; exact less_length a b
  · unfold lessL; rw [put_one, if_neg h]; simp [cutR]
theorem less_sym (f n g m : Int) (w : World) (hf : f ≤ 9223372036854775807) (hg : g ≤ 9223372036854775807) :
    Calls Try.prog 9 #[.agg #[.int .i64 f, .int .i64 n], .agg #[.int .i64 g, .int .i64 m]] w fun e w' => ∃ v, e = .returned v ∧ w'.ownsRow w.heap.size 23 2 v (lessL (f, n) (g, m)).length (spansV (lessL (f, n) (g, m))) ∧ Below w.heap.size w w' := by
  by_cases h : Wh (f, n)
  · rw [lessL_eq h]; exact less_any (f, n) (g, m) w h hg
  · have e : lessL (f, n) (g, m) = [] := by unfold lessL; rw [put_one, if_neg h]; simp [cutR]
    rw [e]; exact less_nil f n g m w hf h

/-- Bits on the way to those that only the first one has. -/
def MidL (X Y : List Sp) (k : Nat) (l : List Bool) : Prop := l.length = 64 ∧ ∀ j, j < 64 → l[j]? = some (if j < k then decide (In X (j : Int)) && !decide (In Y (j : Int)) else decide (In X (j : Int)))
theorem midL_start (X Y : List Sp) : MidL X Y 0 (bitsOf X) := ⟨bitsOf_length X, fun j hj => by rw [bitsOf_get X j hj, if_neg (Nat.not_lt_zero _)]⟩
theorem midL_step {X Y : List Sp} {k : Nat} {l : List Bool} (h : MidL X Y k l) (v : Bool) (hv : v = (decide (In X (k : Int)) && !decide (In Y (k : Int)))) : MidL X Y (k + 1) (l.set k v) := by
  refine ⟨by rw [List.length_set]; exact h.1, fun j hj => ?_⟩
  by_cases e : k = j
  · subst e
    rw [List.getElem?_set_self (by rw [h.1]; exact hj), if_pos (Nat.lt_succ_self _), hv]
  · rw [List.getElem?_set_ne e, h.2 j hj]
    by_cases h1 : j < k
    · rw [if_pos h1, if_pos (by omega)]
    · rw [if_neg h1, if_neg (by omega)]
theorem midL_end {a b : Sp} {l : List Bool} (h : MidL (putR [] [a]) (putR [] [b]) 64 l) : l = bitsOf (lessL a b) := by
  refine bits_ext h.1 (bitsOf_length _) fun j hj => ?_
  rw [h.2 j hj, if_pos hj, bitsOf_get _ j hj]
  have := lessL_in a b (j : Int)
  congr 1
  simp only [this]
  by_cases h1 : In (putR [] [a]) (j : Int) <;> by_cases h2 : In (putR [] [b]) (j : Int) <;> simp [h1, h2]
theorem mid_endS {a b : Sp} {l : List Bool} (h : Mid (putR [] [a]) (putR [] [b]) 64 l) : l = bitsOf (bothS a b) := mid_end (of_canon _) (of_canon _) h
end Go.Proofs.Ytfaecglmpkcjlaa
