/-
  Sets of 64 bits and lists of spans: what the document's own Put, Count and Spans tell of them.
-/
import Derived.Test.YtfikkbmilhcahaaRefPut
namespace Go.Proofs.Ytfikkbmilhcahaa

/-- The bits of the blocks of a list. -/
def bitsOf (ps : List Sp) : List Bool := (List.range 64).map fun (k : Nat) => decide (In ps (k : Int))
theorem bitsOf_length (ps : List Sp) : (bitsOf ps).length = 64 := by simp [bitsOf]
theorem bitsOf_get (ps : List Sp) (k : Nat) (h : k < 64) : (bitsOf ps)[k]? = some (decide (In ps (k : Int))) := by
  unfold bitsOf
  rw [List.getElem?_map, List.getElem?_range h]; rfl
theorem bits_ext {l m : List Bool} (hl : l.length = 64) (hm : m.length = 64) (h : ∀ k, k < 64 → l[k]? = m[k]?) : l = m := by
  apply List.ext_getElem?
  intro k
  by_cases hk : k < 64
  · exact h k hk
  · rw [List.getElem?_eq_none (by omega), List.getElem?_eq_none (by omega)]
theorem bitsOf_nil : bitsOf [] = List.replicate 64 false := by
  refine bits_ext (bitsOf_length _) (by simp) fun k hk => ?_
  rw [bitsOf_get _ k hk, List.getElem?_replicate, if_pos hk]
  simp [in_nil]
theorem bitsOf_same {ps qs : List Sp} (h : ∀ k, In ps k ↔ In qs k) : bitsOf ps = bitsOf qs := by
  unfold bitsOf; simp only [h]

theorem putTo_get (l : List Bool) (f : Nat) (on : Bool) (m k : Nat) (hk : k < l.length) : (putTo l f on m)[k]? = if f ≤ k ∧ k < f + m then some on else l[k]? := by
  induction m with
  | zero => rw [if_neg (by omega)]; rfl
  | succ m ih =>
    show ((putTo l f on m).set (f + m) on)[k]? = _
    by_cases e : f + m = k
    · subst e
      rw [List.getElem?_set_self (by rw [putTo_length]; exact hk), if_pos (by omega)]
    · rw [List.getElem?_set_ne e, ih]
      by_cases h : f ≤ k ∧ k < f + m
      · rw [if_pos h, if_pos (by omega)]
      · rw [if_neg h, if_neg (by omega)]

theorem whB_iff (p : Sp) : whB p.1 p.2 = true ↔ Wh p := by simp [whB, Wh]

theorem putSpan_get (on : Bool) (l : List Bool) (p : Sp) (k : Nat) (hl : l.length = 64) (hk : k < 64) : (putSpan on l p)[k]? = if hasW p (k : Int) then some on else l[k]? := by
  unfold putSpan
  by_cases hw : Wh p
  · rw [if_pos ((whB_iff p).2 hw), putTo_get _ _ _ _ _ (by omega)]
    have : (p.1.toNat ≤ k ∧ k < p.1.toNat + p.2.toNat) ↔ hasW p (k : Int) := by
      unfold hasW; simp only [hw, true_and]; unfold Wh at hw; omega
    simp only [this]
  · rw [if_neg (fun h => hw ((whB_iff p).1 h)), if_neg (fun h => hw h.1)]

theorem putL_get (on : Bool) (ps : List Sp) (l : List Bool) (k : Nat) (hl : l.length = 64) (hk : k < 64) : (putL on l ps)[k]? = if In ps (k : Int) then some on else l[k]? := by
  induction ps generalizing l with
  | nil => rw [if_neg (in_nil _)]; rfl
  | cons p ps ih =>
    show (putL on (putSpan on l p) ps)[k]? = _
    rw [ih _ (by rw [putSpan_length]; exact hl), putSpan_get on l p k hl hk]
    by_cases h1 : In ps (k : Int)
    · rw [if_pos h1, if_pos ((in_cons _ _ _).2 (.inr h1))]
    · rw [if_neg h1]
      by_cases h2 : hasW p (k : Int)
      · rw [if_pos h2, if_pos ((in_cons _ _ _).2 (.inl h2))]
      · rw [if_neg h2, if_neg (fun h => by rcases (in_cons _ _ _).1 h with h | h; exact h2 h; exact h1 h)]

theorem put_bits {ps : List Sp} (h : Canon ps) (l : List Sp) : putL true (bitsOf ps) l = bitsOf (putR ps l) := by
  refine bits_ext (by rw [putL_length, bitsOf_length]) (bitsOf_length _) fun k hk => ?_
  rw [putL_get _ _ _ _ (bitsOf_length _) hk, bitsOf_get _ k hk, bitsOf_get _ k hk]
  have := (put_spec l ps h).2 (k : Int)
  by_cases h1 : In l (k : Int) <;> simp [h1, this]
theorem cut_bits {ps : List Sp} (h : Canon ps) (l : List Sp) : putL false (bitsOf ps) l = bitsOf (cutR ps l) := by
  refine bits_ext (by rw [putL_length, bitsOf_length]) (bitsOf_length _) fun k hk => ?_
  rw [putL_get _ _ _ _ (bitsOf_length _) hk, bitsOf_get _ k hk, bitsOf_get _ k hk]
  have := (cut_spec l ps h).2 (k : Int)
  by_cases h1 : In l (k : Int) <;> simp [h1, this]

/-- How many of the first k bits. -/
def upTo (ps : List Sp) (k : Nat) : Nat := (List.range k).countP fun (x : Nat) => decide (In ps (x : Int))
theorem upTo_succ (ps : List Sp) (k : Nat) : upTo ps (k + 1) = upTo ps k + (if In ps (k : Int) then 1 else 0) := by
  unfold upTo
  rw [List.range_succ, List.countP_append]
  by_cases h : In ps (k : Int) <;> simp [h]
theorem upTo_le (ps : List Sp) (k : Nat) : upTo ps k ≤ k := by
  unfold upTo
  have := List.countP_le_length (p := fun (x : Nat) => decide (In ps (x : Int))) (l := List.range k)
  simpa using this
theorem upTo_64 {ps : List Sp} (h : Canon ps) : ((upTo ps 64 : Nat) : Int) = cnt ps := by
  rw [cnt_count h]
  unfold upTo blocks
  rw [List.countP_map]
  rfl

/-! ### Rising lists by their ends. -/
theorem canon_split {l m : List Sp} (h : Canon (l ++ m)) : Canon l ∧ Canon m ∧ ∀ p ∈ l, ∀ q ∈ m, p.1 + p.2 < q.1 := by
  induction l with
  | nil => exact ⟨trivial, h, fun p hp => by simp at hp⟩
  | cons a l ih =>
    obtain ⟨ha, hal, hr⟩ := h
    obtain ⟨c1, c2, c3⟩ := ih hr
    refine ⟨⟨ha, fun q hq => hal q (List.mem_append_left _ hq), c1⟩, c2, fun p hp q hq => ?_⟩
    rcases List.mem_cons.1 hp with rfl | hp
    · exact hal q (List.mem_append_right _ hq)
    · exact c3 p hp q hq

theorem last_at {l : List Sp} {k : Int} (h : Canon l) (hb : ∀ x, In l x → x < k) (hk : In l (k - 1)) : ∃ init f n, l = init ++ [(f, n)] ∧ f + n = k := by
  rcases List.eq_nil_or_concat l with rfl | ⟨init, p, rfl⟩
  · exact absurd hk (in_nil _)
  · rw [List.concat_eq_append] at *
    obtain ⟨f, n⟩ := p
    refine ⟨init, f, n, rfl, ?_⟩
    obtain ⟨c1, c2, c3⟩ := canon_split h
    have hw : Wh (f, n) := c2.1
    have hlast : f + n - 1 < k := hb _ ((in_append _ _ _).2 (.inr ((in_cons _ _ _).2 (.inl ⟨hw, by have := hw.2.1; simp only at *; omega, by simp only; omega⟩))))
    rcases (in_append _ _ _).1 hk with ⟨p, hp, hx⟩ | hx
    · have := c3 p hp (f, n) (by simp)
      have := hx.2.2
      have := hw.2.1
      simp only at *
      omega
    · rcases (in_cons _ _ _).1 hx with hx | hx
      · have := hx.2.2
        simp only at *
        omega
      · exact absurd hx (in_nil _)

theorem bump_canon {init : List Sp} {f n : Int} (h : Canon (init ++ [(f, n)])) (hk : f + n < 64) : Canon (init ++ [(f, n + 1)]) ∧ ∀ x, In (init ++ [(f, n + 1)]) x ↔ In (init ++ [(f, n)]) x ∨ x = f + n := by
  obtain ⟨c1, c2, c3⟩ := canon_split h
  have hw : Wh (f, n) := c2.1
  have hw' : Wh (f, n + 1) := by unfold Wh at *; simp only at *; omega
  refine ⟨canon_append c1 ⟨hw', by simp, trivial⟩ (fun p hp q hq => ?_), fun x => ?_⟩
  · simp at hq; subst hq; exact c3 p hp (f, n) (by simp)
  · rw [in_append, in_append, in_cons, in_cons]
    simp only [in_nil, or_false, hasW, hw, hw', true_and]
    unfold Wh at hw
    simp only at hw
    constructor
    · rintro (h | h)
      · exact .inl (.inl h)
      · by_cases e : x = f + n
        · exact .inr e
        · exact .inl (.inr ⟨h.1, by omega⟩)
    · rintro ((h | h) | h)
      · exact .inl h
      · exact .inr ⟨h.1, by omega⟩
      · exact .inr ⟨by omega, by omega⟩

theorem push_canon {l : List Sp} {k : Int} (h : Canon l) (h0 : 0 ≤ k) (h1 : k < 64) (hb : ∀ x, In l x → x < k) (hk : ¬ In l (k - 1)) : Canon (l ++ [(k, 1)]) ∧ ∀ x, In (l ++ [(k, 1)]) x ↔ In l x ∨ x = k := by
  have hw : Wh (k, 1) := by unfold Wh; simp only; omega
  refine ⟨canon_append h ⟨hw, by simp, trivial⟩ (fun p hp q hq => ?_), fun x => ?_⟩
  · simp at hq; subst hq
    have hp' := canon_whole h p hp
    have := hb (p.1 + p.2 - 1) ⟨p, hp, hp', by have := hp'.2.1; omega, by omega⟩
    by_cases e : p.1 + p.2 = k
    · exact absurd ⟨p, hp, hp', by have := hp'.2.1; omega, by omega⟩ hk
    · simp only; omega
  · rw [in_append, in_cons]
    simp only [in_nil, or_false, hasW, hw, true_and]
    constructor
    · rintro (h | h)
      · exact .inl h
      · exact .inr (by omega)
    · rintro (h | h)
      · exact .inl h
      · exact .inr (by omega)
end Go.Proofs.Ytfikkbmilhcahaa
