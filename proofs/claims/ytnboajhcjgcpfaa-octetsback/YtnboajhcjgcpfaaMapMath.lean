/-
  The document's map as a list of 64 numbers: what Set, Over, Extents and Ids make of it.
-/
import Derived.Test.YtnboajhcjgcpfaaSetMath
namespace Go.Proofs.Ytnboajhcjgcpfaa

/-- What a map says of the block k. -/
def mv (m : List Int) (k : Int) : Int := if 0 ≤ k then (m[k.toNat]?).getD (-1) else -1
/-- A map that may be. -/
def Sane (m : List Int) : Prop := m.length = 64 ∧ ∀ k, mv m k = -1 ∨ (0 ≤ mv m k ∧ mv m k ≤ 60)
theorem mv_nat (m : List Int) (k : Nat) (h : k < m.length) : m[k]? = some (mv m k) := by
  unfold mv
  rw [if_pos (Int.natCast_nonneg _)]
  simp [h]
theorem mv_out {m : List Int} {k : Int} (hl : m.length = 64) (h : ¬ (0 ≤ k ∧ k < 64)) : mv m k = -1 := by
  unfold mv
  by_cases h0 : 0 ≤ k
  · rw [if_pos h0, List.getElem?_eq_none (by omega)]; rfl
  · rw [if_neg h0]
def mNone : List Int := List.replicate 64 (-1)
theorem mNone_mv (k : Int) : mv mNone k = -1 := by
  by_cases h : 0 ≤ k ∧ k < 64
  · unfold mv mNone
    rw [if_pos h.1, List.getElem?_replicate, if_pos (by omega)]; rfl
  · exact mv_out (by simp [mNone]) h
theorem mNone_sane : Sane mNone := ⟨by simp [mNone], fun k => .inl (mNone_mv k)⟩
/-- The cells from f on, so many, are set. -/
def setTo (m : List Int) (f : Nat) (d : Int) : Nat → List Int
  | 0 => m
  | k + 1 => (setTo m f d k).set (f + k) (if 0 < d then d + (k : Int) else 0)
theorem setTo_length (m : List Int) (f : Nat) (d : Int) : ∀ k, (setTo m f d k).length = m.length
  | 0 => rfl
  | k + 1 => by simp [setTo, setTo_length m f d k]
theorem set_mv (m : List Int) (j : Nat) (b : Int) (hj : j < m.length) (k : Int) : mv (m.set j b) k = if k = (j : Int) then b else mv m k := by
  unfold mv
  by_cases h0 : 0 ≤ k
  · rw [if_pos h0, List.getElem?_set]
    by_cases h : k = (j : Int)
    · rw [if_pos (by omega), if_pos (by omega), if_pos h]; rfl
    · rw [if_neg (by omega), if_neg h, if_pos h0]
  · rw [if_neg h0, if_neg (by omega), if_neg h0]
theorem setTo_mv (m : List Int) (f : Nat) (d : Int) : ∀ n, f + n ≤ m.length → ∀ k : Int, mv (setTo m f d n) k = if (f : Int) ≤ k ∧ k < (f : Int) + (n : Int) then (if 0 < d then d + (k - f) else 0) else mv m k
  | 0, _, k => by rw [if_neg (by omega)]; rfl
  | n + 1, h, k => by
    unfold setTo
    rw [set_mv _ _ _ (by rw [setTo_length]; omega), setTo_mv m f d n (by omega) k]
    by_cases e : k = ((f + n : Nat) : Int)
    · have hc : (f : Int) ≤ k ∧ k < (f : Int) + ((n + 1 : Nat) : Int) := by omega
      have : (n : Int) = k - f := by omega
      rw [if_pos e, if_pos hc, this]
    · rw [if_neg e]
      by_cases h2 : (f : Int) ≤ k ∧ k < (f : Int) + (n : Int)
      · have hc : (f : Int) ≤ k ∧ k < (f : Int) + ((n + 1 : Nat) : Int) := by omega
        rw [if_pos h2, if_pos hc]
      · have hc : ¬ ((f : Int) ≤ k ∧ k < (f : Int) + ((n + 1 : Nat) : Int)) := by omega
        rw [if_neg h2, if_neg hc]
def mSet (m : List Int) (x : Ex) : List Int := if Al x then setTo m x.1.toNat x.2.2 x.2.1.toNat else m
theorem mSet_length (m : List Int) (x : Ex) : (mSet m x).length = m.length := by unfold mSet; split <;> simp [setTo_length]
theorem mSet_mv {m : List Int} (h : m.length = 64) (x : Ex) (k : Int) : mv (mSet m x) k = setF (mv m) x k := by
  unfold mSet setF
  by_cases hx : Al x
  · have ax := hx; unfold Al at ax
    rw [if_pos hx, setTo_mv _ _ _ _ (by omega)]
    have e1 : ((x.1.toNat : Nat) : Int) = x.1 := by omega
    have e2 : ((x.2.1.toNat : Nat) : Int) = x.2.1 := by omega
    rw [e1, e2]
    by_cases hk : x.1 ≤ k ∧ k < x.1 + x.2.1
    · rw [if_pos hk, if_pos (show Al x ∧ x.1 ≤ k ∧ k < x.1 + x.2.1 from ⟨hx, hk⟩)]
      unfold idA
      split <;> split <;> omega
    · rw [if_neg hk, if_neg fun h => hk h.2]
  · rw [if_neg hx, if_neg fun h => hx h.1]
theorem setF_sane {f : Int → Int} (h : ∀ k, f k = -1 ∨ (0 ≤ f k ∧ f k ≤ 60)) (x : Ex) (k : Int) : setF f x k = -1 ∨ (0 ≤ setF f x k ∧ setF f x k ≤ 60) := by
  unfold setF
  split
  · rename_i hk; have := idA_pos hk.1 hk.2.1 hk.2.2; exact .inr ⟨this.1, this.2.1⟩
  · exact h k
theorem mSet_sane {m : List Int} (h : Sane m) (x : Ex) : Sane (mSet m x) :=
  ⟨by rw [mSet_length]; exact h.1, fun k => by rw [mSet_mv h.1]; exact setF_sane h.2 x k⟩
def mOf (l : List Ex) : List Int := l.foldl mSet mNone
theorem fold_sane : ∀ (l : List Ex) {m : List Int}, Sane m → Sane (l.foldl mSet m)
  | [], _, h => h
  | x :: r, _, h => fold_sane r (mSet_sane h x)
theorem mOf_sane (l : List Ex) : Sane (mOf l) := fold_sane l mNone_sane
theorem mv_ext {m m' : List Int} (h : m.length = 64) (h' : m'.length = 64) (e : ∀ k, mv m k = mv m' k) : m = m' := by
  apply List.ext_getElem?
  intro k
  by_cases hk : k < 64
  · rw [mv_nat m k (by omega), mv_nat m' k (by omega), e]
  · rw [List.getElem?_eq_none (by omega), List.getElem?_eq_none (by omega)]
/-- b can be one with a, which stands ahead of it. -/
def Jn (a b : Int) : Prop := (b = 0 ∧ a = 0) ∨ (0 < b ∧ 0 < a ∧ b = a + 1)
instance (a b : Int) : Decidable (Jn a b) := by unfold Jn; infer_instance

/-- The last one, where the block ahead of k is said. -/
theorem ext_last {l : List Ex} {k : Int} (h : Ti l) (hb : ∀ j, k ≤ j → val l j = -1) (hk : 0 ≤ val l (k - 1)) :
    ∃ init x, l = init ++ [x] ∧ x.1 + x.2.1 = k ∧ idA x (k - 1) = val l (k - 1) := by
  rcases List.eq_nil_or_concat l with rfl | ⟨init, x, rfl⟩
  · simp [val] at hk
  · rw [List.concat_eq_append] at *
    refine ⟨init, x, rfl, ?_⟩
    obtain ⟨t1, t2⟩ := tp_app.1 h
    obtain ⟨u1, _, u3, _⟩ := t2
    have ax := u3; unfold Al at ax
    have hv : ∀ j, x.1 ≤ j → val (init ++ [x]) j = if x.1 ≤ j ∧ j < x.1 + x.2.1 then idA x j else -1 := fun j hj => by
      rw [val_app t1, tp_hi t1 (by omega) (by simp [e0]; omega)]
      simp [val]
    have h1 : x.1 + x.2.1 ≤ k := by
      rcases Int.lt_or_le k (x.1 + x.2.1) with hlt | hle
      · have h2 := hb (x.1 + x.2.1 - 1) (by omega)
        rw [hv _ (by omega), if_pos (by omega)] at h2
        have := idA_low (k := x.1 + x.2.1 - 1) u3 (by omega)
        omega
      · exact hle
    have h2 := hv (k - 1) (by omega)
    by_cases h3 : k - 1 < x.1 + x.2.1
    · rw [if_pos (by omega)] at h2
      exact ⟨by omega, h2.symm⟩
    · rw [if_neg (by omega)] at h2; omega
theorem ext_push {l : List Ex} {k b : Int} (h : Ti l) (hb : ∀ j, k ≤ j → val l j = -1) (k0 : 0 ≤ k) (k1 : k < 64) (b0 : 0 ≤ b) (b1 : b ≤ 60) (hj : ¬ (0 ≤ val l (k - 1) ∧ Jn (val l (k - 1)) b)) :
    Ti (l ++ [(k, 1, b)]) ∧ ∀ j, val (l ++ [(k, 1, b)]) j = if j = k then b else val l j := by
  have hal : Al (k, 1, b) := by unfold Al; simp only; omega
  have hend : (lst e0 l).1 + (lst e0 l).2.1 ≤ k ∧ ¬ On (lst e0 l) (k, 1, b) := by
    rcases List.eq_nil_or_concat l with rfl | ⟨init, x, rfl⟩
    · refine ⟨by simp [lst, e0]; omega, fun ho => ?_⟩
      unfold On e0 at ho; simp only [lst] at ho; omega
    · rw [List.concat_eq_append] at *
      obtain ⟨t1, t2⟩ := tp_app.1 h
      obtain ⟨u1, _, u3, _⟩ := t2
      have ax := u3; unfold Al at ax
      have hlx : lst e0 (init ++ [x]) = x := by rw [lst_app]; rfl
      rw [hlx]
      have hv : ∀ j, x.1 ≤ j → val (init ++ [x]) j = if x.1 ≤ j ∧ j < x.1 + x.2.1 then idA x j else -1 := fun j hj => by
        rw [val_app t1, tp_hi t1 (by omega) (by simp [e0]; omega)]
        simp [val]
      have h1 : x.1 + x.2.1 ≤ k := by
        rcases Int.lt_or_le k (x.1 + x.2.1) with hlt | hle
        · have h2 := hb (x.1 + x.2.1 - 1) (by omega)
          rw [hv _ (by omega), if_pos (by omega)] at h2
          have := idA_low (k := x.1 + x.2.1 - 1) u3 (by omega)
          omega
        · exact hle
      refine ⟨h1, fun ho => hj ?_⟩
      unfold On at ho; simp only at ho
      have h2 := hv (k - 1) (by omega)
      rw [if_pos (by omega)] at h2
      rw [h2]
      have := idA_pos u3 (k := k - 1) (by omega) (by omega)
      refine ⟨this.1, ?_⟩
      unfold Jn
      unfold idA at this ⊢
      split <;> omega
  refine ⟨tp_app.2 ⟨h, hend.1, hend.2, hal, trivial⟩, fun j => ?_⟩
  rw [val_app h]
  by_cases e : j = k
  · subst e
    rw [hb j (Int.le_refl _), if_pos rfl, if_neg (by omega)]
    simp [val, idA]
    split <;> omega
  · rw [if_neg e]
    have : val [(k, 1, b)] j = -1 := by simp only [val]; rw [if_neg (by omega)]
    rw [this]
    rcases tp_val h j with g | g
    · rw [g]; rfl
    · rw [if_pos g.1]
theorem ext_bump {init : List Ex} {x : Ex} {k b : Int} (h : Ti (init ++ [x])) (hx : x.1 + x.2.1 = k) (k1 : k < 64) (b1 : b ≤ 60) (hj : Jn (idA x (k - 1)) b) :
    Ti (init ++ [(x.1, x.2.1 + 1, x.2.2)]) ∧ ∀ j, val (init ++ [(x.1, x.2.1 + 1, x.2.2)]) j = if j = k then b else val (init ++ [x]) j := by
  obtain ⟨t1, t2⟩ := tp_app.1 h
  obtain ⟨u1, u2, u3, _⟩ := t2
  have ax := u3; unfold Al at ax
  have hid := idA_pos u3 (k := k - 1) (by omega) (by omega)
  have hb : b = idA (x.1, x.2.1 + 1, x.2.2) k ∧ Al (x.1, x.2.1 + 1, x.2.2) := by
    unfold Jn at hj; unfold Al; unfold idA at *; simp only
    split at hj <;> (try split) <;> omega
  refine ⟨tp_app.2 ⟨t1, u1, fun ho => u2 (by unfold On at ho ⊢; exact ho), hb.2, trivial⟩, fun j => ?_⟩
  rw [val_app t1, val_app t1]
  have hlo := lst_end t1
  have he0 : e0.1 + e0.2.1 = 0 := rfl
  by_cases e : j = k
  · subst e
    rw [tp_hi t1 (by omega) (by omega), if_pos rfl, if_neg (by omega)]
    simp only [val]
    rw [if_pos (by omega)]; exact hb.1.symm
  · rw [if_neg e]
    have : val [(x.1, x.2.1 + 1, x.2.2)] j = val [x] j := by
      simp only [val]
      by_cases h2 : x.1 ≤ j ∧ j < x.1 + x.2.1
      · rw [if_pos h2, if_pos (by omega)]; unfold idA; rfl
      · rw [if_neg h2, if_neg (by omega)]
    rw [this]
end Go.Proofs.Ytnboajhcjgcpfaa
