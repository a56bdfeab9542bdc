/-
  Laws on sets of 64 blocks: whether two are alike, what a block is behind a span was put in, and that the parts of a span together are the span; no program but the equality's own.
-/
import Derived.Test.YtlncklbbfnmdiaaSet
namespace Go.Proofs.Ytlncklbbfnmdiaa
open Go.ChangeShapes Go.WideShapes Go.ChangeAt Go.RowKit

theorem all_range_bools : ∀ (xs ys : List Bool), xs.length = ys.length → ((List.range xs.length).all fun i => xs.getD i false == ys.getD i false) = (xs == ys)
  | [], [], _ => rfl
  | x :: xs, y :: ys, h => by
    have ih := all_range_bools xs ys (by simpa using h)
    rw [List.length_cons, List.range_succ_eq_map, List.all_cons, List.all_map]
    simp only [List.getD_cons_zero, Function.comp_def, List.getD_cons_succ, ih]
    simp [List.cons_beq_cons]
  | [], _ :: _, h => by simp at h
  | _ :: _, [], h => by simp at h

theorem run_equalIn_bools {P : Program} (w : World) (d : Nat) (t e : TypeId) (n : Nat) (ht : P.underlying t = some (.array n e)) (he : P.underlying e = some .bool) (hsz : ∀ w, (sizeOf e).run P w = .ok 1 w)
    (xs ys : List Bool) (hx : xs.length = n) (hy : ys.length = n) :
    (Op.equalIn (d + 2) t (.agg (bv xs).toArray) (.agg (bv ys).toArray)).run P w = .ok (xs == ys) w := by
  rw [← all_range_bools xs ys (hx.trans hy.symm), hx, List.range_eq_range', Op.equalIn]
  simp only [Sem.run_bind, run_underlying ht, Result.andThen_ok, hsz, Std.Legacy.Range.forIn_eq_forIn_range', Std.Legacy.Range.size, Nat.sub_zero, Nat.add_sub_cancel, Nat.div_one]
  have hl : ∀ i ∈ List.range' 0 n 1, i < n := fun i hi => by simpa using (List.mem_range'_1.1 hi).2
  generalize List.range' 0 n 1 = l at hl ⊢
  induction l with
  | nil => simp
  | cons i l ih =>
    have hi : i < n := hl i (by simp)
    have px : (part e (bv xs).toArray (i * 1)).run P w = .ok (.bool (xs.getD i false)) w := by
      simp [part, isAgg, run_underlying he, List.getD, bv, List.getElem?_eq_getElem (show i < xs.length by omega)]
    have py : (part e (bv ys).toArray (i * 1)).run P w = .ok (.bool (ys.getD i false)) w := by
      simp [part, isAgg, run_underlying he, List.getD, bv, List.getElem?_eq_getElem (show i < ys.length by omega)]
    have pe : (Op.equalIn (d + 1) e (.bool (xs.getD i false)) (.bool (ys.getD i false))).run P w = .ok (xs.getD i false == ys.getD i false) w :=
      run_equalIn_bool w d e _ _ he
    simp only [List.forIn_cons, Sem.run_bind, px, py, pe, Result.andThen_ok, List.all_cons]
    cases hb : (xs.getD i false == ys.getD i false)
    · simp
    · simp only [Bool.not_true, Bool.false_eq_true, if_false, Sem.run_pure, Result.andThen_ok, Bool.true_and]
      exact ih fun j hj => hl j (by simp [hj])

theorem size4 (w : World) : (sizeOf 4).run Try.prog w = .ok 1 w := by
  have h : (Try.prog.info? 4).map (·.size) = some 1 := by kernel_rfl
  cases hq : Try.prog.info? 4 with
  | none => simp [hq] at h
  | some i => have : i.size = 1 := by simpa [hq] using h
              simp [sizeOf, typeInfo, hq, this]

theorem sets_eq (xs ys : List Bool) (hx : xs.length = 64) (hy : ys.length = 64) (w : World) :
    (Op.equalIn 10000 26 (.agg (bv xs).toArray) (.agg (bv ys).toArray)).run Try.prog w = .ok (xs == ys) w :=
  run_equalIn_bools w 9998 26 4 64 Try.underlying26 Try.underlying4 size4 xs ys hx hy

theorem putTo_get (l : List Bool) (f : Nat) (on : Bool) : ∀ (k i : Nat), (putTo l f on k)[i]? = if f ≤ i ∧ i < f + k ∧ i < l.length then some on else l[i]?
  | 0, i => by rw [if_neg (by omega)]; rfl
  | k + 1, i => by
    rw [putTo, List.getElem?_set, putTo_length, putTo_get l f on k i]
    by_cases h : f + k = i
    · subst h
      by_cases hl : f + k < l.length
      · simp [hl]
      · simp [hl]
    · simp only [h, if_false]
      by_cases h2 : f ≤ i ∧ i < f + k ∧ i < l.length
      · rw [if_pos h2, if_pos (by omega)]
      · rw [if_neg h2, if_neg (by omega)]

theorem putSpan_get (on : Bool) (l : List Bool) (f n : Int) (i : Nat) : (putSpan on l (f, n))[i]? = if (0 ≤ f ∧ 1 ≤ n ∧ n ≤ 64 - f) ∧ f ≤ i ∧ (i : Int) < f + n ∧ i < l.length then some on else l[i]? := by
  unfold putSpan
  by_cases h : whB f n = true
  · have h' : 0 ≤ f ∧ 1 ≤ n ∧ n ≤ 64 - f := by simpa [whB] using h
    rw [if_pos h, putTo_get]
    by_cases h2 : f.toNat ≤ i ∧ i < f.toNat + n.toNat ∧ i < l.length
    · rw [if_pos h2, if_pos (by omega)]
    · rw [if_neg h2, if_neg (by omega)]
  · have h' : ¬ (0 ≤ f ∧ 1 ≤ n ∧ n ≤ 64 - f) := by simpa [whB] using h
    rw [if_neg h, if_neg (by omega)]

theorem zeros_length : zeros.length = 64 := rfl

/-- Is block i one of a whole span's? -/
def inB (p : Int × Int) (i : Nat) : Bool := decide ((0 ≤ p.1 ∧ 1 ≤ p.2 ∧ p.2 ≤ 64 - p.1) ∧ p.1 ≤ i ∧ (i : Int) < p.1 + p.2)

theorem putSpan_map (l : List Bool) (p : Int × Int) (i : Nat) : (putSpan true l p)[i]? = l[i]?.map (· || inB p i) := by
  obtain ⟨f, n⟩ := p
  rw [putSpan_get]
  by_cases hl : i < l.length
  · rw [List.getElem?_eq_getElem hl]
    by_cases h : (0 ≤ f ∧ 1 ≤ n ∧ n ≤ 64 - f) ∧ f ≤ i ∧ (i : Int) < f + n
    · rw [if_pos ⟨h.1, h.2.1, h.2.2, hl⟩, show inB (f, n) i = true from decide_eq_true h]; simp
    · rw [if_neg (fun h' => h ⟨h'.1, h'.2.1, h'.2.2.1⟩), show inB (f, n) i = false from decide_eq_false h]; simp
  · rw [if_neg (fun h' => hl h'.2.2.2), List.getElem?_eq_none (by omega)]; rfl

theorem putL_map : ∀ (ps : List (Int × Int)) (l : List Bool) (i : Nat), (putL true l ps)[i]? = l[i]?.map (· || ps.any fun p => inB p i)
  | [], l, i => by simp [putL]
  | p :: ps, l, i => by
    have h := putL_map ps (putSpan true l p) i
    rw [show putL true l (p :: ps) = putL true (putSpan true l p) ps from rfl, h, putSpan_map]
    cases l[i]? with
    | none => rfl
    | some b => simp [Bool.or_assoc]

theorem parts (ps : List (Int × Int)) (f n : Int) (h : ∀ i : Nat, i < 64 → (ps.any fun p => inB p i) = inB (f, n) i) : putL true zeros ps = putSpan true zeros (f, n) := by
  apply List.ext_getElem?
  intro i
  rw [putL_map, putSpan_map]
  by_cases hi : i < 64
  · rw [h i hi]
  · rw [List.getElem?_eq_none (by rw [zeros_length]; omega)]; rfl
end Go.Proofs.Ytlncklbbfnmdiaa
