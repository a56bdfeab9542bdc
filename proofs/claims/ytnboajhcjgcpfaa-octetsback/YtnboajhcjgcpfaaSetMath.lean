/-
  What extent.Set's loop comes to: the steps one by one, and that their end is the list that setA tells.
-/
import Derived.Test.YtnboajhcjgcpfaaEMath
namespace Go.Proofs.Ytnboajhcjgcpfaa

abbrev SS := Ex × List Ex × Bool
def stepS (s : SS) (o : Ex) : SS :=
  if On o s.1 then ((o.1, o.2.1 + s.1.2.1, o.2.2), s.2.1, s.2.2)
  else if On s.1 o then ((s.1.1, s.1.2.1 + o.2.1, s.1.2.2), s.2.1, s.2.2)
  else if s.2.2 = false ∧ s.1.1 < o.1 then (s.1, s.2.1 ++ [s.1] ++ [o], true)
  else (s.1, s.2.1 ++ [o], s.2.2)
def finS (s : SS) : List Ex := if s.2.2 then s.2.1 else s.2.1 ++ [s.1]

theorem stepC (y : Ex) : ∀ (r : List Ex) (out : List Ex), (∀ o ∈ r, ¬ On o y ∧ ¬ On y o) → r.foldl stepS (y, out, true) = (y, out ++ r, true)
  | [], out, _ => by simp
  | o :: r, out, h => by
    have h1 := h o (by simp)
    rw [List.foldl_cons]
    have : stepS (y, out, true) o = (y, out ++ [o], true) := by unfold stepS; simp [h1.1, h1.2]
    rw [this, stepC y r _ (fun o ho => h o (by simp [ho]))]
    simp
theorem stepB : ∀ (r : List Ex) (y : Ex) (out : List Ex), Al y → (∃ q, Tp q r ∧ y.1 + y.2.1 ≤ q.1 + q.2.1) → finS (r.foldl stepS (y, out, false)) = out ++ setB y r
  | [], y, out, _, _ => by simp [finS, setB]
  | o :: r, y, out, hy, ⟨q, ⟨q1, q2, q3, q4⟩, q5⟩ => by
    have ay := hy; unfold Al at ay
    have ao := q3; unfold Al at ao
    have hno : ¬ On o y := fun h => by unfold On at h; omega
    rw [List.foldl_cons]
    unfold setB
    by_cases ho : On y o
    · have : stepS (y, out, false) o = ((y.1, y.2.1 + o.2.1, y.2.2), out, false) := by unfold stepS; simp [hno, ho]
      have ho' := ho; unfold On at ho'
      rw [this, if_pos ho]
      exact stepB r _ out (on_al hy q3 ho) ⟨o, q4, by simp only; omega⟩
    · have hlt : y.1 < o.1 := by omega
      have : stepS (y, out, false) o = (y, out ++ [y] ++ [o], true) := by unfold stepS; simp [hno, ho, hlt]
      rw [this, if_neg ho, stepC y r _ fun z hz => ?_]
      · simp [finS]
      · have hz' := tp_al q4 z hz
        have az := hz'.1; unfold Al at az
        exact ⟨fun h => by unfold On at h; omega, fun h => by unfold On at h; omega⟩
theorem stepA : ∀ (r : List Ex) (x p : Ex) (out : List Ex), Al x → Tp p r → (∀ k, x.1 ≤ k → k < x.1 + x.2.1 → val r k = -1) → finS (r.foldl stepS (x, out, false)) = out ++ setA x r
  | [], x, _, out, _, _, _ => by simp [finS, setA]
  | o :: r, x, p, out, hx, ⟨t1, t2, t3, t4⟩, hv => by
    have ax := hx; unfold Al at ax
    have ao := t3; unfold Al at ao
    have hv2 : ∀ k, x.1 ≤ k → k < x.1 + x.2.1 → (¬ (o.1 ≤ k ∧ k < o.1 + o.2.1)) ∧ val r k = -1 := by
      intro k k1 k2
      have := hv k k1 k2
      simp only [val] at this
      split at this
      · rename_i hk; have := idA_low (k := k) t3 hk.1; omega
      · rename_i hk; exact ⟨hk, this⟩
    unfold setA
    by_cases hb : o.1 + o.2.1 ≤ x.1
    · have hno : ¬ On x o := fun h => by unfold On at h; omega
      rw [if_pos hb, List.foldl_cons]
      by_cases hon : On o x
      · have : stepS (x, out, false) o = ((o.1, o.2.1 + x.2.1, o.2.2), out, false) := by unfold stepS; simp [hon]
        rw [this, if_pos hon]
        have hon' := hon; unfold On at hon'
        refine stepB r _ out (on_al t3 hx hon) ?_
        cases r with
        | nil => exact ⟨(0, o.1 + (o.2.1 + x.2.1), 0), trivial, by simp⟩
        | cons z s =>
          obtain ⟨z1, z2, z3, z4⟩ := t4
          have az := z3; unfold Al at az
          have hz : o.1 + (o.2.1 + x.2.1) ≤ z.1 := by
            rcases Int.lt_or_le z.1 (o.1 + (o.2.1 + x.2.1)) with hlt | hle
            · have := (hv2 z.1 (by omega) (by omega)).2
              simp only [val] at this
              rw [if_pos (by omega)] at this
              have := idA_low (k := z.1) z3 (Int.le_refl _)
              omega
            · exact hle
          exact ⟨(o.1 + (o.2.1 + x.2.1), 0, -1), ⟨by simp only; omega, by unfold On; simp only; omega, z3, z4⟩, by simp⟩
      · have hlt : ¬ x.1 < o.1 := by omega
        have : stepS (x, out, false) o = (x, out ++ [o], false) := by unfold stepS; simp [hon, hno, hlt]
        rw [this, if_neg hon, stepA r x o _ hx t4 (fun k k1 k2 => (hv2 k k1 k2).2)]
        simp
    · rw [if_neg hb]
      have hz : x.1 + x.2.1 ≤ o.1 := by
        rcases Int.lt_or_le o.1 (x.1 + x.2.1) with hlt | hle
        · exfalso
          rcases Int.lt_or_le o.1 x.1 with h | h
          · exact (hv2 x.1 (by omega) (by omega)).1 ⟨by omega, by omega⟩
          · exact (hv2 o.1 (by omega) (by omega)).1 ⟨by omega, by omega⟩
        · exact hle
      exact stepB (o :: r) x out hx ⟨(x.1 + x.2.1, 0, -1), ⟨by simp only; omega, by unfold On; simp only; omega, t3, t4⟩, by simp⟩

/-- The state behind the first i ones. -/
def stS (x : Ex) (c : List Ex) (i : Nat) : SS := (c.take i).foldl stepS (x, [], false)
theorem stS_succ {x : Ex} {c : List Ex} {i : Nat} {o : Ex} (h : c[i]? = some o) : stS x c (i + 1) = stepS (stS x c i) o := by
  unfold stS
  rw [List.take_add_one, h, List.foldl_append]; rfl
theorem stepS_al {s : SS} {o : Ex} (h : Al s.1) (ho : Al o) : Al (stepS s o).1 ∧ (stepS s o).2.1.length ≤ s.2.1.length + 2 := by
  unfold stepS
  split
  · rename_i h1; exact ⟨on_al ho h h1, by simp⟩
  · split
    · rename_i h1; exact ⟨on_al h ho h1, by simp⟩
    · split
      · exact ⟨h, by simp⟩
      · exact ⟨h, by simp⟩
theorem stS_al {x : Ex} {c : List Ex} (hx : Al x) (hc : ∀ o ∈ c, Al o) : ∀ i, Al (stS x c i).1 ∧ (stS x c i).2.1.length ≤ 2 * i
  | 0 => ⟨hx, Nat.le_refl _⟩
  | i + 1 => by
    have ih := stS_al hx hc i
    by_cases h : i < c.length
    · rw [stS_succ (List.getElem?_eq_getElem h)]
      have := stepS_al (o := c[i]) ih.1 (hc _ (List.getElem_mem h))
      exact ⟨this.1, by omega⟩
    · have : stS x c (i + 1) = stS x c i := by unfold stS; rw [List.take_of_length_le (by omega), List.take_of_length_le (by omega)]
      rw [this]; exact ⟨ih.1, by omega⟩
/-- What Set answers of a list that is cut, and x. -/
def setL (l : List Ex) (x : Ex) : List Ex := if Al x then setA x (cutL l (x.1, x.2.1)) else l
theorem stS_end {x : Ex} {l : List Ex} (hx : Al x) (hl : Ti l) : finS (stS x (cutL l (x.1, x.2.1)) (cutL l (x.1, x.2.1)).length) = setL l x := by
  obtain ⟨h1, h2⟩ := cutL_spec (x.1, x.2.1) l e0 hl
  unfold stS setL
  rw [List.take_length, if_pos hx, stepA _ x e0 [] hx h1 fun k k1 k2 => by rw [h2]; unfold cutF; rw [if_pos ((hasW_iff (al_wh hx) k).2 ⟨k1, k2⟩)]]
  simp
/-- The map in which x's blocks are as x says; how long it may be. -/
theorem setL_spec {x : Ex} {l : List Ex} (hl : Ti l) : Ti (setL l x) ∧ (∀ k, val (setL l x) k = setF (val l) x k) ∧ (setL l x).length ≤ l.length + 2 := by
  unfold setL setF
  by_cases hx : Al x
  · rw [if_pos hx]
    obtain ⟨h1, h2⟩ := cutL_spec (x.1, x.2.1) l e0 hl
    have hw := hasW_iff (al_wh hx)
    have ax := hx; unfold Al at ax
    obtain ⟨a, b, c⟩ := setA_spec _ x e0 hx h1 (by simp [e0]; omega) (by unfold On e0; simp only; omega) fun k k1 k2 => by rw [h2]; unfold cutF; rw [if_pos ((hw k).2 ⟨k1, k2⟩)]
    refine ⟨a, fun k => ?_, ?_⟩
    · rw [b, h2]
      unfold cutF
      by_cases hk : x.1 ≤ k ∧ k < x.1 + x.2.1
      · rw [if_pos hk, if_pos ⟨hx, hk⟩]
      · rw [if_neg hk, if_neg fun h => hk ((hw k).1 h), if_neg fun h => hk h.2]
    · have := cutL_len (x.1, x.2.1) l e0 hl
      split at this <;> omega
  · rw [if_neg hx]
    exact ⟨hl, fun k => by rw [if_neg fun h => hx h.1], by omega⟩
theorem ti_len {l : List Ex} (h : Ti l) : l.length ≤ 64 := by
  have : ∀ (l : List Ex) (p : Ex), Tp p l → (∀ x ∈ l, x.1 + x.2.1 ≤ 64) → 0 ≤ p.1 + p.2.1 → p.1 + p.2.1 ≤ 64 → (l.length : Int) ≤ 64 - (p.1 + p.2.1) := by
    intro l
    induction l with
    | nil => intro p _ _ _ h; simp; omega
    | cons x r ih =>
      intro p ⟨a, b, c, d⟩ hx h0 h1
      have ax := c; unfold Al at ax
      have := ih x d (fun y hy => hx y (by simp [hy])) (by omega) (by omega)
      simp only [List.length_cons]; omega
  have h2 := this l e0 h (fun x hx => by have := (tp_al h x hx).1; unfold Al at this; omega) (by simp [e0]) (by simp [e0])
  simp [e0] at h2; omega
end Go.Proofs.Ytnboajhcjgcpfaa
