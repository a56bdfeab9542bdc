/-
  Pure lists of spans: what with, without, Put, Cut, Both and Count tell, and that whole spans that rise and do not touch are told by their blocks.
-/
import Derived.Below
namespace Go.Proofs.Ytnboajhcjgcpfaa

abbrev Sp := Int × Int
def Wh (p : Sp) : Prop := 0 ≤ p.1 ∧ 1 ≤ p.2 ∧ p.2 ≤ 64 - p.1
instance (p : Sp) : Decidable (Wh p) := by unfold Wh; infer_instance
/-- The block k is one of p's, if p is whole. -/
def hasW (p : Sp) (k : Int) : Prop := Wh p ∧ p.1 ≤ k ∧ k < p.1 + p.2
instance (p : Sp) (k : Int) : Decidable (hasW p k) := by unfold hasW; infer_instance
/-- Whole spans that rise, and of which no two touch. -/
def Canon : List Sp → Prop
  | [] => True
  | p :: l => Wh p ∧ (∀ q ∈ l, p.1 + p.2 < q.1) ∧ Canon l
def In (l : List Sp) (k : Int) : Prop := ∃ p ∈ l, hasW p k
instance (l : List Sp) (k : Int) : Decidable (In l k) := by unfold In; infer_instance

theorem in_nil (k : Int) : ¬ In [] k := by simp [In]
theorem in_cons (p : Sp) (l : List Sp) (k : Int) : In (p :: l) k ↔ hasW p k ∨ In l k := by simp [In]
theorem in_append (l m : List Sp) (k : Int) : In (l ++ m) k ↔ In l k ∨ In m k := by
  induction l with
  | nil => simp [in_nil]
  | cons p l ih => simp only [List.cons_append, in_cons, ih, or_assoc]

theorem canon_whole {l : List Sp} (h : Canon l) : ∀ p ∈ l, Wh p := by
  induction l with
  | nil => simp
  | cons p l ih =>
    intro q hq
    rcases List.mem_cons.1 hq with rfl | hq
    · exact h.1
    · exact ih h.2.2 q hq

/-- Two lists with the same blocks are the same. -/
theorem canon_ext {l m : List Sp} (hl : Canon l) (hm : Canon m) (h : ∀ k, In l k ↔ In m k) : l = m := by
  induction l generalizing m with
  | nil =>
    cases m with
    | nil => rfl
    | cons q m =>
      exact absurd ((h q.1).2 ((in_cons _ _ _).2 (.inl ⟨hm.1, Int.le_refl _, by have := hm.1.2.1; omega⟩))) (in_nil _)
  | cons p l ih =>
    cases m with
    | nil => exact absurd ((h p.1).1 ((in_cons _ _ _).2 (.inl ⟨hl.1, Int.le_refl _, by have := hl.1.2.1; omega⟩))) (in_nil _)
    | cons q m =>
      obtain ⟨hp, hpl, hl'⟩ := hl
      obtain ⟨hq, hqm, hm'⟩ := hm
      have low : ∀ {p : Sp} {l : List Sp} {k : Int}, Wh p → (∀ q ∈ l, p.1 + p.2 < q.1) → In (p :: l) k → p.1 ≤ k ∧ (k ≤ p.1 + p.2 → k < p.1 + p.2) := by
        intro p l k hp hl hk
        rcases (in_cons _ _ _).1 hk with hk | ⟨r, hr, hk⟩
        · exact ⟨hk.2.1, fun _ => hk.2.2⟩
        · have := hl r hr; have := hk.2.1; have := hp.2.1; exact ⟨by omega, by omega⟩
      have a1 := low hq hqm ((h p.1).1 ((in_cons _ _ _).2 (.inl ⟨hp, Int.le_refl _, by have := hp.2.1; omega⟩)))
      have a2 := low hp hpl ((h q.1).2 ((in_cons _ _ _).2 (.inl ⟨hq, Int.le_refl _, by have := hq.2.1; omega⟩)))
      have e1 : p.1 = q.1 := by omega
      have b1 : p.1 + p.2 ≤ q.1 + q.2 := by
        by_cases hlt : q.1 + q.2 < p.1 + p.2
        · have hin : In (p :: l) (q.1 + q.2) := (in_cons _ _ _).2 (.inl ⟨hp, by have := hq.2.1; omega, hlt⟩)
          have := (low hq hqm ((h _).1 hin)).2 (Int.le_refl _)
          omega
        · omega
      have b2 : q.1 + q.2 ≤ p.1 + p.2 := by
        by_cases hlt : p.1 + p.2 < q.1 + q.2
        · have hin : In (q :: m) (p.1 + p.2) := (in_cons _ _ _).2 (.inl ⟨hq, by have := hp.2.1; omega, hlt⟩)
          have := (low hp hpl ((h _).2 hin)).2 (Int.le_refl _)
          omega
        · omega
      have e : p = q := Prod.ext e1 (by omega)
      subst e
      congr 1
      refine ih hl' hm' fun k => ⟨fun hk => ?_, fun hk => ?_⟩
      · rcases (in_cons _ _ _).1 ((h k).1 ((in_cons _ _ _).2 (.inr hk))) with h1 | h1
        · obtain ⟨r, hr, hk⟩ := hk
          have := hpl r hr; have := hk.2.1; have := h1.2.2; omega
        · exact h1
      · rcases (in_cons _ _ _).1 ((h k).2 ((in_cons _ _ _).2 (.inr hk))) with h1 | h1
        · obtain ⟨r, hr, hk⟩ := hk
          have := hqm r hr; have := hk.2.1; have := h1.2.2; omega
        · exact h1

/-- Does o touch s (both whole)? -/
def touchD (o s : Sp) : Prop := o.1 ≤ s.1 + s.2 ∧ s.1 ≤ o.1 + o.2
instance (o s : Sp) : Decidable (touchD o s) := by unfold touchD; infer_instance
def joinS (o s : Sp) : Sp := (if s.1 < o.1 then s.1 else o.1, (if o.1 + o.2 < s.1 + s.2 then s.1 + s.2 else o.1 + o.2) - (if s.1 < o.1 then s.1 else o.1))
/-- What 'with' lays behind what it has laid: of the rest of the list, whether s is laid, and s. -/
def withG : List Sp → Bool → Sp → List Sp
  | [], laid, s => if laid then [] else [s]
  | o :: l, laid, s =>
    if touchD o s then withG l laid (joinS o s)
    else if laid = false ∧ s.1 + s.2 < o.1 then s :: o :: withG l true s
    else o :: withG l laid s

theorem join_whole {o s : Sp} (ho : Wh o) (hs : Wh s) (_ : touchD o s) : Wh (joinS o s) := by
  unfold Wh joinS at *
  simp only
  split <;> split <;> omega

theorem join_has {o s : Sp} (ho : Wh o) (hs : Wh s) (ht : touchD o s) (k : Int) : hasW (joinS o s) k ↔ hasW o k ∨ hasW s k := by
  have hj := join_whole ho hs ht
  unfold hasW
  simp only [ho, hs, hj, true_and]
  unfold touchD at ht
  unfold Wh at ho hs
  unfold joinS
  simp only
  split <;> split <;> omega

theorem with_laid (l : List Sp) (s : Sp) (h : ∀ p ∈ l, s.1 + s.2 < p.1) : withG l true s = l := by
  induction l with
  | nil => rfl
  | cons o l ih =>
    have ho := h o (List.mem_cons_self ..)
    have : ¬ touchD o s := by unfold touchD; omega
    simp [withG, this, ih fun p hp => h p (List.mem_cons_of_mem _ hp)]

theorem with_low (l : List Sp) (s : Sp) (x : Int) (hl : ∀ p ∈ l, x < p.1) (hs : x < s.1) : ∀ p ∈ withG l false s, x < p.1 := by
  induction l generalizing s with
  | nil => simp [withG]; exact hs
  | cons o l ih =>
    have ho := hl o (List.mem_cons_self ..)
    have hl' := fun p hp => hl p (List.mem_cons_of_mem _ hp)
    unfold withG
    split
    · exact ih _ hl' (by unfold joinS; simp only; split <;> omega)
    · split
      · rename_i h1 h2
        intro p hp
        rcases List.mem_cons.1 hp with rfl | hp
        · exact hs
        rcases List.mem_cons.1 hp with rfl | hp
        · exact ho
        -- with s laid, what is left of l
        have : ∀ (l : List Sp), (∀ p ∈ l, x < p.1) → ∀ s, ∀ p ∈ withG l true s, x < p.1 := by
          intro l
          induction l with
          | nil => intro _ s p hp; simp [withG] at hp
          | cons o l ih =>
            intro hl s p hp
            unfold withG at hp
            split at hp
            · exact ih (fun p hp => hl p (List.mem_cons_of_mem _ hp)) _ p hp
            · simp at hp
              rcases hp with rfl | hp
              · exact hl _ (List.mem_cons_self ..)
              · exact ih (fun p hp => hl p (List.mem_cons_of_mem _ hp)) _ p hp
        exact this l hl' s p hp
      · intro p hp
        rcases List.mem_cons.1 hp with rfl | hp
        · exact ho
        · exact ih _ hl' hs p hp

theorem with_spec (l : List Sp) (s : Sp) (hl : Canon l) (hs : Wh s) : Canon (withG l false s) ∧ ∀ k, In (withG l false s) k ↔ In l k ∨ hasW s k := by
  induction l generalizing s with
  | nil => simp [withG, Canon, hs, in_cons, in_nil]
  | cons o l ih =>
    obtain ⟨ho, hol, hl'⟩ := hl
    unfold withG
    split
    · rename_i ht
      obtain ⟨c, i⟩ := ih (joinS o s) hl' (join_whole ho hs ht)
      refine ⟨c, fun k => ?_⟩
      rw [i, join_has ho hs ht, in_cons]
      constructor
      · rintro (h | h | h) <;> simp [h]
      · rintro ((h | h) | h) <;> simp [h]
    · rename_i ht
      split
      · rename_i h2
        rw [with_laid l s fun p hp => by have := hol p hp; have := ho.2.1; omega]
        refine ⟨⟨hs, fun q hq => ?_, ho, hol, hl'⟩, fun k => ?_⟩
        · rcases List.mem_cons.1 hq with rfl | hq
          · exact h2.2
          · have := hol q hq; have := ho.2.1; omega
        · rw [in_cons, in_cons]; constructor
          · rintro (h | h | h) <;> simp [h]
          · rintro ((h | h) | h) <;> simp [h]
      · rename_i h2
        have hlt : o.1 + o.2 < s.1 := by unfold touchD at ht; simp at h2; omega
        obtain ⟨c, i⟩ := ih s hl' hs
        refine ⟨⟨ho, fun q hq => with_low l s _ hol hlt q hq, c⟩, fun k => ?_⟩
        rw [in_cons, in_cons, i]
        constructor
        · rintro (h | h | h) <;> simp [h]
        · rintro ((h | h) | h) <;> simp [h]

/-- Put: one span after the other, those that are not whole left out. -/
def putR (ps : List Sp) : List Sp → List Sp
  | [] => ps
  | s :: l => putR (if Wh s then withG ps false s else ps) l

theorem put_spec (l : List Sp) (ps : List Sp) (h : Canon ps) : Canon (putR ps l) ∧ ∀ k, In (putR ps l) k ↔ In ps k ∨ In l k := by
  induction l generalizing ps with
  | nil => simp [putR, h, in_nil]
  | cons s l ih =>
    unfold putR
    by_cases hs : Wh s
    · simp only [hs, if_true]
      obtain ⟨c, i⟩ := with_spec ps s h hs
      obtain ⟨c', i'⟩ := ih _ c
      refine ⟨c', fun k => ?_⟩
      rw [i', i, in_cons, or_assoc]
    · simp only [hs, if_false]
      obtain ⟨c', i'⟩ := ih _ h
      refine ⟨c', fun k => ?_⟩
      have : ¬ hasW s k := fun h => hs h.1
      rw [i', in_cons]; simp [this]

/-- What is left of o without s. -/
def lessS (o s : Sp) : List Sp :=
  if Wh s ∧ o.1 < s.1 + s.2 ∧ s.1 < o.1 + o.2 then
    (if o.1 < s.1 then [(o.1, s.1 - o.1)] else []) ++ (if s.1 + s.2 < o.1 + o.2 then [(s.1 + s.2, o.1 + o.2 - (s.1 + s.2))] else [])
  else [o]

theorem less_spec (o s : Sp) (ho : Wh o) : Canon (lessS o s) ∧ (∀ q ∈ lessS o s, o.1 ≤ q.1 ∧ q.1 + q.2 ≤ o.1 + o.2) ∧ ∀ k, In (lessS o s) k ↔ hasW o k ∧ ¬ hasW s k := by
  unfold lessS
  split
  · rename_i h
    obtain ⟨hs, h1, h2⟩ := h
    unfold Wh at ho hs
    refine ⟨?_, ?_, fun k => ?_⟩
    · split <;> split <;> simp [Canon, Wh] <;> omega
    · split <;> split <;> simp <;> omega
    · split <;> split <;> simp [in_cons, in_nil, hasW, Wh] <;> omega
  · rename_i h
    refine ⟨by simp [Canon, ho], by simp, fun k => ?_⟩
    simp only [in_cons, in_nil, or_false]
    refine ⟨fun hk => ⟨hk, fun hs => h ⟨hs.1, ?_⟩⟩, fun h => h.1⟩
    unfold hasW at *; omega

theorem canon_append {l m : List Sp} (hl : Canon l) (hm : Canon m) (h : ∀ p ∈ l, ∀ q ∈ m, p.1 + p.2 < q.1) : Canon (l ++ m) := by
  induction l with
  | nil => exact hm
  | cons p l ih =>
    obtain ⟨hp, hpl, hl'⟩ := hl
    refine ⟨hp, fun q hq => ?_, ih hl' fun p hp => h p (List.mem_cons_of_mem _ hp)⟩
    rcases List.mem_append.1 hq with hq | hq
    · exact hpl q hq
    · exact h p (List.mem_cons_self ..) q hq

theorem without_spec (l : List Sp) (s : Sp) (hl : Canon l) : Canon (l.flatMap (lessS · s)) ∧ ∀ k, In (l.flatMap (lessS · s)) k ↔ In l k ∧ ¬ hasW s k := by
  have low : ∀ (l : List Sp) (x : Int), Canon l → (∀ p ∈ l, x < p.1) → ∀ q ∈ l.flatMap (lessS · s), x < q.1 := by
    intro l x hc hl q hq
    obtain ⟨p, hp, hq⟩ := List.mem_flatMap.1 hq
    have := (less_spec p s (canon_whole hc p hp)).2.1 q hq
    have := hl p hp
    omega
  induction l with
  | nil => simp [Canon, in_nil]
  | cons o l ih =>
    obtain ⟨ho, hol, hl'⟩ := hl
    obtain ⟨c, i⟩ := ih hl'
    obtain ⟨c1, b1, i1⟩ := less_spec o s ho
    rw [List.flatMap_cons]
    refine ⟨canon_append c1 c fun p hp q hq => ?_, fun k => ?_⟩
    · have := (b1 p hp).2
      have := low l (o.1 + o.2) hl' hol q hq
      omega
    · rw [in_append, i1, i, in_cons]
      constructor
      · rintro (h | h)
        · exact ⟨.inl h.1, h.2⟩
        · exact ⟨.inr h.1, h.2⟩
      · rintro ⟨h | h, h2⟩
        · exact .inl ⟨h, h2⟩
        · exact .inr ⟨h, h2⟩

def cutR (ps : List Sp) : List Sp → List Sp
  | [] => ps
  | s :: l => cutR (ps.flatMap (lessS · s)) l

theorem cut_spec (l : List Sp) (ps : List Sp) (h : Canon ps) : Canon (cutR ps l) ∧ ∀ k, In (cutR ps l) k ↔ In ps k ∧ ¬ In l k := by
  induction l generalizing ps with
  | nil => simp [cutR, h, in_nil]
  | cons s l ih =>
    unfold cutR
    obtain ⟨c, i⟩ := without_spec ps s h
    obtain ⟨c', i'⟩ := ih _ c
    refine ⟨c', fun k => ?_⟩
    rw [i', i, in_cons, not_or, and_assoc]

/-- How many blocks. -/
def cnt : List Sp → Int
  | [] => 0
  | p :: l => p.2 + cnt l

theorem cnt_append (l m : List Sp) : cnt (l ++ m) = cnt l + cnt m := by
  induction l with
  | nil => simp [cnt]
  | cons p l ih => simp [cnt, ih]; omega

theorem cnt_low {l : List Sp} (hl : Canon l) (x : Int) (hx : x ≤ 64) (h : ∀ p ∈ l, x ≤ p.1) : 0 ≤ cnt l ∧ cnt l ≤ 64 - x := by
  induction l generalizing x with
  | nil => simp [cnt]; omega
  | cons p l ih =>
    obtain ⟨hp, hpl, hl'⟩ := hl
    have := ih hl' (p.1 + p.2) (by have := hp.2.2; omega) (fun q hq => by have := hpl q hq; omega)
    have := h p (List.mem_cons_self ..)
    unfold Wh at hp
    simp only [cnt]
    omega

theorem canon_take {l : List Sp} (h : Canon l) (i : Nat) : Canon (l.take i) := by
  induction l generalizing i with
  | nil => simp [Canon]
  | cons p l ih =>
    cases i with
    | zero => simp [Canon]
    | succ i => exact ⟨h.1, fun q hq => h.2.1 q (List.mem_of_mem_take hq), ih h.2.2 i⟩

theorem cnt_bound {l : List Sp} (h : Canon l) : 0 ≤ cnt l ∧ cnt l ≤ 64 := by
  have := cnt_low h 0 (by omega) (fun p hp => (canon_whole h p hp).1)
  omega

theorem canon_length {l : List Sp} (h : Canon l) : (l.length : Int) ≤ cnt l := by
  induction l with
  | nil => simp [cnt]
  | cons p l ih =>
    have := ih h.2.2
    have := h.1.2.1
    simp [cnt]; omega

/-- As a number of blocks. -/
def blocks : List Int := (List.range 64).map (fun (k : Nat) => (k : Int))

theorem count_span (p : Sp) (hp : Wh p) (n : Nat) : ((((List.range n).map (fun (k : Nat) => (k : Int))).countP (fun k => decide (hasW p k)) : Nat) : Int) = if (n : Int) ≤ p.1 then 0 else if (n : Int) ≤ p.1 + p.2 then n - p.1 else p.2 := by
  induction n with
  | zero => have := hp.1; simp; omega
  | succ n ih =>
    rw [List.range_succ, List.map_append, List.countP_append]
    push_cast
    rw [ih]
    simp only [List.map_cons, List.map_nil, List.countP_cons, List.countP_nil, hasW, hp, true_and, decide_eq_true_eq]
    have := hp.2.1
    split <;> split <;> split <;> (try split) <;> (try split) <;> omega

theorem countP_or (l : List Int) (p q : Int → Bool) (h : ∀ k, p k = true → q k = true → False) : l.countP (fun k => p k || q k) = l.countP p + l.countP q := by
  induction l with
  | nil => rfl
  | cons a l ih =>
    simp only [List.countP_cons, ih]
    have := h a
    cases hp : p a <;> cases hq : q a <;> simp_all <;> omega

theorem cnt_count {l : List Sp} (h : Canon l) : cnt l = (blocks.countP (fun k => decide (In l k)) : Nat) := by
  induction l with
  | nil => simp [cnt, in_nil]
  | cons p l ih =>
    obtain ⟨hp, hpl, hl⟩ := h
    have e : (fun k => decide (In (p :: l) k)) = fun k => (decide (hasW p k) || decide (In l k)) := by
      funext k; rw [← Bool.decide_or]; simp only [in_cons]
    rw [e, countP_or, cnt, ih hl]
    · push_cast
      have := count_span p hp 64
      have h64 := hp.2.2
      have h1 := hp.2.1
      have h2 : (((64 : Nat) : Int)) = 64 := rfl
      rw [h2] at this
      unfold blocks
      rw [this]
      split
      · omega
      · split <;> omega
    · intro k h1 h2
      simp only [decide_eq_true_eq] at h1 h2
      obtain ⟨q, hq, hk⟩ := h2
      have := hpl q hq; have := hk.2.1; have := h1.2.2; omega

theorem cnt_same {l m : List Sp} (hl : Canon l) (hm : Canon m) (h : ∀ k, In l k ↔ In m k) : cnt l = cnt m := by rw [canon_ext hl hm h]

/-- A set parted in two. -/
theorem cnt_part {l m n : List Sp} (hl : Canon l) (hm : Canon m) (hn : Canon n) (h : ∀ k, In l k ↔ In m k ∨ In n k) (hd : ∀ k, In m k → In n k → False) : cnt l = cnt m + cnt n := by
  rw [cnt_count hl, cnt_count hm, cnt_count hn]
  have e : (fun k => decide (In l k)) = fun k => (decide (In m k) || decide (In n k)) := by
    funext k; rw [← Bool.decide_or]; simp only [h]
  rw [e, countP_or _ _ _ fun k h1 h2 => hd k (of_decide_eq_true h1) (of_decide_eq_true h2)]
  push_cast; rfl

def loM (a b : Sp) : Int := if a.1 < b.1 then b.1 else a.1
def hiM (a b : Sp) : Int := if b.1 + b.2 < a.1 + a.2 then b.1 + b.2 else a.1 + a.2
/-- What two spans have in common. -/
def meetS (a b : Sp) : Option Sp := if loM a b < hiM a b then some (loM a b, hiM a b - loM a b) else none

theorem lo_hi (a b : Sp) : a.1 ≤ loM a b ∧ b.1 ≤ loM a b ∧ (loM a b = a.1 ∨ loM a b = b.1) ∧ hiM a b ≤ a.1 + a.2 ∧ hiM a b ≤ b.1 + b.2 ∧ (hiM a b = a.1 + a.2 ∨ hiM a b = b.1 + b.2) := by
  unfold loM hiM
  split <;> split <;> omega

theorem meet_has {a b c : Sp} (ha : Wh a) (hb : Wh b) (h : meetS a b = some c) : Wh c ∧ a.1 ≤ c.1 ∧ c.1 + c.2 ≤ a.1 + a.2 ∧ b.1 ≤ c.1 ∧ c.1 + c.2 ≤ b.1 + b.2 ∧ ∀ k, hasW c k ↔ hasW a k ∧ hasW b k := by
  have hx := lo_hi a b
  unfold meetS at h
  generalize loM a b = lo at *
  generalize hiM a b = hi at *
  by_cases hlt : lo < hi
  · rw [if_pos hlt] at h
    cases h
    have hc : Wh (lo, hi - lo) := by unfold Wh at *; simp only; omega
    refine ⟨hc, by simp only; omega, by simp only; omega, by simp only; omega, by simp only; omega, fun k => ?_⟩
    unfold hasW
    simp only [hc, ha, hb, true_and]
    omega
  · rw [if_neg hlt] at h
    cases h

theorem meet_none_has {a b : Sp} (h : meetS a b = none) (k : Int) : ¬ (hasW a k ∧ hasW b k) := by
  have hx := lo_hi a b
  unfold meetS at h
  generalize loM a b = lo at *
  generalize hiM a b = hi at *
  by_cases hlt : lo < hi
  · rw [if_pos hlt] at h
    cases h
  · unfold hasW
    omega

def meetRow (a : Sp) (l : List Sp) : List Sp := l.filterMap (meetS a)
def bothL (l m : List Sp) : List Sp := l.flatMap (fun a => meetRow a m)

theorem meetRow_spec (a : Sp) (ha : Wh a) (l : List Sp) (hl : Canon l) : Canon (meetRow a l) ∧ (∀ q ∈ meetRow a l, a.1 ≤ q.1 ∧ q.1 + q.2 ≤ a.1 + a.2 ∧ ∃ b ∈ l, b.1 ≤ q.1) ∧ ∀ k, In (meetRow a l) k ↔ hasW a k ∧ In l k := by
  induction l with
  | nil => simp [meetRow, Canon, in_nil]
  | cons b l ih =>
    obtain ⟨hb, hbl, hl'⟩ := hl
    obtain ⟨c, o, i⟩ := ih hl'
    unfold meetRow at *
    rw [List.filterMap_cons]
    split
    · rename_i hm
      refine ⟨c, fun q hq => ?_, fun k => ?_⟩
      · obtain ⟨h1, h2, b', hb', h3⟩ := o q hq
        exact ⟨h1, h2, b', List.mem_cons_of_mem _ hb', h3⟩
      · have := meet_none_has hm k
        rw [i, in_cons]
        constructor
        · rintro ⟨h, h'⟩; exact ⟨h, .inr h'⟩
        · rintro ⟨h, h' | h'⟩
          · exact absurd ⟨h, h'⟩ this
          · exact ⟨h, h'⟩
    · rename_i r hm
      obtain ⟨h1, h2, h3, h4, h5, h6⟩ := meet_has ha hb hm
      refine ⟨⟨h1, fun q hq => ?_, c⟩, fun q hq => ?_, fun k => ?_⟩
      · obtain ⟨_, _, b', hb', h7⟩ := o q hq
        have := hbl b' hb'
        omega
      · rcases List.mem_cons.1 hq with rfl | hq
        · exact ⟨h2, h3, b, List.mem_cons_self .., h4⟩
        · obtain ⟨h1, h2, b', hb', h3⟩ := o q hq
          exact ⟨h1, h2, b', List.mem_cons_of_mem _ hb', h3⟩
      · rw [in_cons, in_cons, h6, i]
        constructor
        · rintro (h | h)
          · exact ⟨h.1, .inl h.2⟩
          · exact ⟨h.1, .inr h.2⟩
        · rintro ⟨h, h' | h'⟩
          · exact .inl ⟨h, h'⟩
          · exact .inr ⟨h, h'⟩

theorem both_spec (l m : List Sp) (hl : Canon l) (hm : Canon m) : Canon (bothL l m) ∧ ∀ k, In (bothL l m) k ↔ In l k ∧ In m k := by
  induction l with
  | nil => simp [bothL, Canon, in_nil]
  | cons a l ih =>
    obtain ⟨ha, hal, hl'⟩ := hl
    obtain ⟨c, i⟩ := ih hl'
    obtain ⟨c1, o1, i1⟩ := meetRow_spec a ha m hm
    unfold bothL at *
    rw [List.flatMap_cons]
    refine ⟨canon_append c1 c fun p hp q hq => ?_, fun k => ?_⟩
    · have h1 := (o1 p hp).2.1
      obtain ⟨b, hb, hq⟩ := List.mem_flatMap.1 hq
      have h2 := ((meetRow_spec b (canon_whole hl' b hb) m hm).2.1 q hq).1
      have := hal b hb
      omega
    · rw [in_append, i1, i, in_cons]
      constructor
      · rintro (h | h)
        · exact ⟨.inl h.1, h.2⟩
        · exact ⟨.inr h.1, h.2⟩
      · rintro ⟨h | h, h2⟩
        · exact .inl ⟨h, h2⟩
        · exact .inr ⟨h, h2⟩
end Go.Proofs.Ytnboajhcjgcpfaa
