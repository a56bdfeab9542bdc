/-
  Pure lists of extents: tidy ones (whole, rising, no two of which can be one) are told by what they say of each block; what Set and Cut make of them.
-/
import Derived.Test.YtnboajhcjgcpfaaMath
namespace Go.Proofs.Ytnboajhcjgcpfaa

abbrev Ex := Int × Int × Int
/-- An extent that is tidy by itself. -/
def Al (x : Ex) : Prop := 0 ≤ x.1 ∧ 1 ≤ x.2.1 ∧ x.2.1 ≤ 64 - x.1 ∧ 0 ≤ x.2.2 ∧ (x.2.2 = 0 ∨ x.2.2 + x.2.1 ≤ 61)
instance (x : Ex) : Decidable (Al x) := by unfold Al; infer_instance
/-- The Id of the block k, which x has. -/
def idA (x : Ex) (k : Int) : Int := if x.2.2 = 0 then 0 else x.2.2 + k - x.1
/-- What a list says of the block k: its Id, or -1. -/
def val : List Ex → Int → Int
  | [], _ => -1
  | x :: r, k => if x.1 ≤ k ∧ k < x.1 + x.2.1 then idA x k else val r k
/-- b begins where a ends, and the two can be one. -/
def On (a b : Ex) : Prop := a.1 + a.2.1 = b.1 ∧ ((a.2.2 = 0 ∧ b.2.2 = 0) ∨ (a.2.2 ≠ 0 ∧ b.2.2 ≠ 0 ∧ b.2.2 = a.2.2 + a.2.1))
instance (a b : Ex) : Decidable (On a b) := by unfold On; infer_instance
/-- A tidy list behind p. -/
def Tp (p : Ex) : List Ex → Prop
  | [] => True
  | x :: r => p.1 + p.2.1 ≤ x.1 ∧ ¬ On p x ∧ Al x ∧ Tp x r
def e0 : Ex := (0, 0, -1)
def Ti (l : List Ex) : Prop := Tp e0 l
/-- The last one of p and l. -/
def lst (p : Ex) : List Ex → Ex
  | [] => p
  | x :: r => lst x r

theorem idA_pos {x : Ex} {k : Int} (h : Al x) (h1 : x.1 ≤ k) (h2 : k < x.1 + x.2.1) : 0 ≤ idA x k ∧ idA x k ≤ 60 ∧ (idA x k = 0 ↔ x.2.2 = 0) := by
  unfold Al at h; unfold idA
  split <;> omega
theorem idA_low {x : Ex} {k : Int} (h : Al x) (h1 : x.1 ≤ k) : 0 ≤ idA x k := by
  unfold Al at h; unfold idA
  split <;> omega

theorem tp_lo : ∀ {l : List Ex} {p : Ex} {k : Int}, Tp p l → k < p.1 + p.2.1 → val l k = -1
  | [], _, _, _, _ => rfl
  | x :: r, p, k, h, hk => by
    obtain ⟨h1, _, h3, h4⟩ := h
    unfold val
    rw [if_neg (by omega)]
    exact tp_lo h4 (by unfold Al at h3; omega)
theorem tp_val : ∀ {l : List Ex} {p : Ex} (_ : Tp p l) (k : Int), val l k = -1 ∨ (0 ≤ val l k ∧ val l k ≤ 60)
  | [], _, _, _ => .inl rfl
  | x :: r, p, h, k => by
    obtain ⟨h1, _, h3, h4⟩ := h
    unfold val
    split
    · rename_i hk; have := idA_pos h3 hk.1 hk.2; exact .inr ⟨this.1, this.2.1⟩
    · exact tp_val h4 k
/-- A block of which is said something is in one of them. -/
theorem tp_mem : ∀ {l : List Ex} {k : Int}, val l k ≠ -1 → ∃ x ∈ l, x.1 ≤ k ∧ k < x.1 + x.2.1
  | [], _, h => absurd rfl h
  | x :: r, k, h => by
    unfold val at h
    split at h
    · rename_i hk; exact ⟨x, by simp, hk⟩
    · obtain ⟨y, hy, h1⟩ := tp_mem h
      exact ⟨y, by simp [hy], h1⟩
theorem tp_al : ∀ {l : List Ex} {p : Ex}, Tp p l → ∀ x ∈ l, Al x ∧ p.1 + p.2.1 ≤ x.1
  | [], _, _, x, hx => by cases hx
  | y :: r, p, h, x, hx => by
    obtain ⟨h1, _, h3, h4⟩ := h
    rcases List.mem_cons.1 hx with rfl | hx
    · exact ⟨h3, h1⟩
    · have := tp_al h4 x hx; exact ⟨this.1, by unfold Al at h3; omega⟩
theorem tp_64 {l : List Ex} (h : Ti l) (k : Int) (hk : val l k ≠ -1) : 0 ≤ k ∧ k < 64 := by
  obtain ⟨x, hx, h1, h2⟩ := tp_mem hk
  have := (tp_al h x hx).1
  unfold Al at this; omega

theorem tp_ext : ∀ {l m : List Ex} {p q : Ex}, Tp p l → Tp q m → (∀ k, val l k = val m k) → l = m
  | [], [], _, _, _, _, _ => rfl
  | [], y :: s, _, _, _, hm, h => by
    have := h y.1
    obtain ⟨_, _, h3, _⟩ := hm
    have ha := h3; unfold Al at ha
    unfold val at this
    rw [if_pos (by omega)] at this
    have := idA_low h3 (Int.le_refl _)
    omega
  | x :: r, [], _, _, hl, _, h => by
    have := h x.1
    obtain ⟨_, _, h3, _⟩ := hl
    have ha := h3; unfold Al at ha
    unfold val at this
    rw [if_pos (by omega)] at this
    have := idA_low h3 (Int.le_refl _)
    omega
  | x :: r, y :: s, p, q, hl, hm, h => by
    obtain ⟨_, _, hx, hr⟩ := hl
    obtain ⟨_, _, hy, hs⟩ := hm
    have ax := hx; unfold Al at ax
    have ay := hy; unfold Al at ay
    have bx : 0 ≤ idA x x.1 := idA_low hx (Int.le_refl _)
    have by' : 0 ≤ idA y y.1 := idA_low hy (Int.le_refl _)
    have vx := h x.1
    have vy := h y.1
    simp only [val] at vx vy
    rw [if_pos (by omega)] at vx
    rw [if_pos (c := y.1 ≤ y.1 ∧ _) (by omega)] at vy
    have e1 : x.1 = y.1 := by
      rcases Int.lt_trichotomy x.1 y.1 with hlt | he | hgt
      · rw [if_neg (by omega), tp_lo hs (by omega)] at vx; omega
      · exact he
      · rw [if_neg (by omega), tp_lo hr (by omega)] at vy; omega
    rw [if_pos (by omega)] at vx
    have e3 : x.2.2 = y.2.2 := by
      unfold idA at vx
      rw [e1] at vx
      split at vx <;> split at vx <;> omega
    have hlong : ∀ {x y : Ex} {r s : List Ex}, Al x → Al y → Tp x r → x.1 = y.1 → x.2.2 = y.2.2 → (∀ k, val (x :: r) k = val (y :: s) k) → ¬ x.2.1 < y.2.1 := by
      intro x y r s hx hy hr e1 e3 h hlt
      have ax := hx; unfold Al at ax
      have ay := hy; unfold Al at ay
      have v := h (x.1 + x.2.1)
      simp only [val] at v
      rw [if_neg (by omega), if_pos (by omega)] at v
      cases r with
      | nil =>
        have := idA_low (k := x.1 + x.2.1) hy (by omega)
        simp only [val] at v; omega
      | cons z t =>
        obtain ⟨z1, z2, z3, z4⟩ := hr
        have az := z3; unfold Al at az
        simp only [val] at v
        by_cases hz : z.1 = x.1 + x.2.1
        · rw [if_pos (by omega)] at v
          apply z2
          unfold On
          unfold idA at v
          refine ⟨hz.symm, ?_⟩
          split at v <;> split at v <;> omega
        · rw [if_neg (by omega), tp_lo z4 (by omega)] at v
          have := idA_low (k := x.1 + x.2.1) hy (by omega)
          omega
    have h1 := hlong (s := s) hx hy hr e1 e3 h
    have h2 := hlong (s := r) hy hx hs e1.symm e3.symm (fun k => (h k).symm)
    have e2 : x.2.1 = y.2.1 := by omega
    have exy : x = y := Prod.ext e1 (Prod.ext e2 e3)
    subst exy
    have : r = s := tp_ext hr hs fun k => by
      by_cases hk : k < x.1 + x.2.1
      · rw [tp_lo hr hk, tp_lo hs hk]
      · have := h k
        simp only [val] at this
        rw [if_neg (by omega), if_neg (by omega)] at this
        exact this
    rw [this]
theorem ti_ext {l m : List Ex} (hl : Ti l) (hm : Ti m) (h : ∀ k, val l k = val m k) : l = m := tp_ext hl hm h

theorem lst_app : ∀ (l m : List Ex) (p : Ex), lst p (l ++ m) = lst (lst p l) m
  | [], _, _ => rfl
  | x :: r, m, p => by simp only [List.cons_append, lst]; exact lst_app r m x
theorem tp_app : ∀ {l m : List Ex} {p : Ex}, Tp p (l ++ m) ↔ Tp p l ∧ Tp (lst p l) m
  | [], _, _ => by simp [Tp, lst]
  | x :: r, m, p => by
    simp only [List.cons_append, Tp, lst]
    rw [tp_app (l := r) (m := m) (p := x)]
    constructor
    · rintro ⟨a, b, c, d, e⟩; exact ⟨⟨a, b, c, d⟩, e⟩
    · rintro ⟨⟨a, b, c, d⟩, e⟩; exact ⟨a, b, c, d, e⟩
theorem val_app : ∀ {l m : List Ex} {p : Ex} (_ : Tp p l) (k : Int), val (l ++ m) k = if 0 ≤ val l k then val l k else val m k
  | [], m, _, _, k => by simp [val]
  | x :: r, m, p, h, k => by
    obtain ⟨_, _, h3, h4⟩ := h
    simp only [List.cons_append, val]
    split
    · rename_i hk; rw [if_pos (idA_low h3 hk.1)]
    · exact val_app h4 k
theorem lst_end : ∀ {l : List Ex} {p : Ex}, Tp p l → p.1 + p.2.1 ≤ (lst p l).1 + (lst p l).2.1
  | [], _, _ => Int.le_refl _
  | x :: r, p, h => by
    obtain ⟨h1, _, h3, h4⟩ := h
    have := lst_end h4
    unfold Al at h3
    simp only [lst]; omega
/-- What lies behind the last one is not said. -/
theorem tp_hi : ∀ {l : List Ex} {p : Ex} {k : Int}, Tp p l → (lst p l).1 + (lst p l).2.1 ≤ k → p.1 + p.2.1 ≤ k → val l k = -1
  | [], _, _, _, _, _ => rfl
  | x :: r, p, k, h, hk, hp => by
    obtain ⟨h1, _, h3, h4⟩ := h
    have := lst_end h4
    simp only [lst] at hk
    simp only [val]
    rw [if_neg (by omega)]
    exact tp_hi h4 hk (by omega)
theorem tp_weak {l : List Ex} {p q : Ex} (h : Tp p l) (h1 : q.1 + q.2.1 ≤ p.1 + p.2.1) (h2 : ∀ x r, l = x :: r → ¬ On q x) : Tp q l := by
  cases l with
  | nil => trivial
  | cons x r =>
    obtain ⟨a, b, c, d⟩ := h
    exact ⟨by omega, h2 x r rfl, c, d⟩

/- Set: what is laid once all of its blocks are cut out -/
def setB (y : Ex) : List Ex → List Ex
  | [] => [y]
  | o :: r => if On y o then setB (y.1, y.2.1 + o.2.1, y.2.2) r else y :: o :: r
def setA (x : Ex) : List Ex → List Ex
  | [] => [x]
  | o :: r => if o.1 + o.2.1 ≤ x.1 then (if On o x then setB (o.1, o.2.1 + x.2.1, o.2.2) r else o :: setA x r) else setB x (o :: r)

theorem on_al {y o : Ex} (hy : Al y) (ho : Al o) (h : On y o) : Al (y.1, y.2.1 + o.2.1, y.2.2) := by
  unfold Al at *; unfold On at h; simp only; omega
theorem on_val {y o : Ex} (hy : Al y) (ho : Al o) (h : On y o) (k : Int) (h1 : y.1 ≤ k) (_ : k < y.1 + (y.2.1 + o.2.1)) : idA (y.1, y.2.1 + o.2.1, y.2.2) k = if k < y.1 + y.2.1 then idA y k else idA o k := by
  unfold Al at *; unfold On at h; unfold idA; simp only
  split <;> split <;> (try split) <;> omega
theorem setB_spec : ∀ (r : List Ex) (y p : Ex), Al y → p.1 + p.2.1 ≤ y.1 → ¬ On p y → (∃ q, Tp q r ∧ y.1 + y.2.1 ≤ q.1 + q.2.1) → Tp p (setB y r) ∧ (∀ k, val (setB y r) k = if y.1 ≤ k ∧ k < y.1 + y.2.1 then idA y k else val r k) ∧ (setB y r).length ≤ r.length + 1
  | [], y, p, hy, h1, h2, _ => ⟨⟨h1, h2, hy, trivial⟩, fun k => rfl, Nat.le_refl _⟩
  | o :: r, y, p, hy, h1, h2, ⟨q, ⟨q1, q2, q3, q4⟩, q5⟩ => by
    unfold setB
    by_cases ho : On y o
    · rw [if_pos ho]
      have hal := on_al hy q3 ho
      have hn : ¬ On p (y.1, y.2.1 + o.2.1, y.2.2) := fun h => h2 (by unfold On at h ⊢; exact h)
      have ho' := ho; unfold On at ho'
      obtain ⟨a, b, c⟩ := setB_spec r (y.1, y.2.1 + o.2.1, y.2.2) p hal h1 hn ⟨o, q4, by simp only; omega⟩
      refine ⟨a, fun k => ?_, by simp only [List.length_cons]; omega⟩
      rw [b k]
      simp only [val]
      have ay := hy; unfold Al at ay
      have ao := q3; unfold Al at ao
      by_cases hk : y.1 ≤ k ∧ k < y.1 + (y.2.1 + o.2.1)
      · rw [if_pos hk, on_val hy q3 ho k hk.1 hk.2]
        by_cases hk2 : k < y.1 + y.2.1
        · rw [if_pos hk2, if_pos (by omega)]
        · rw [if_neg hk2, if_neg (by omega), if_pos (by omega)]
      · rw [if_neg hk, if_neg (by omega), if_neg (by omega)]
    · rw [if_neg ho]
      exact ⟨⟨h1, h2, hy, by omega, ho, q3, q4⟩, fun k => rfl, by simp⟩
/-- x laid into a list that says nothing of its blocks. -/
theorem setA_spec : ∀ (r : List Ex) (x p : Ex), Al x → Tp p r → p.1 + p.2.1 ≤ x.1 → ¬ On p x → (∀ k, x.1 ≤ k → k < x.1 + x.2.1 → val r k = -1) → Tp p (setA x r) ∧ (∀ k, val (setA x r) k = if x.1 ≤ k ∧ k < x.1 + x.2.1 then idA x k else val r k) ∧ (setA x r).length ≤ r.length + 1
  | [], x, p, hx, _, h1, h2, _ => ⟨⟨h1, h2, hx, trivial⟩, fun k => rfl, Nat.le_refl _⟩
  | o :: r, x, p, hx, ⟨t1, t2, t3, t4⟩, h1, h2, hv => by
    have ax := hx; unfold Al at ax
    have ao := t3; unfold Al at ao
    unfold setA
    have hv2 : ∀ k, x.1 ≤ k → k < x.1 + x.2.1 → (¬ (o.1 ≤ k ∧ k < o.1 + o.2.1)) ∧ val r k = -1 := by
      intro k k1 k2
      have := hv k k1 k2
      simp only [val] at this
      split at this
      · rename_i hk; have := idA_low (k := k) t3 hk.1; omega
      · rename_i hk; exact ⟨hk, this⟩
    by_cases hb : o.1 + o.2.1 ≤ x.1
    · rw [if_pos hb]
      by_cases hon : On o x
      · rw [if_pos hon]
        have hal := on_al t3 hx hon
        have hon' := hon; unfold On at hon'
        -- what follows begins behind x
        have hq : Tp x r ∨ True := .inr trivial
        have hrest : ∃ q, Tp q r ∧ o.1 + (o.2.1 + x.2.1) ≤ q.1 + q.2.1 := by
          cases r with
          | nil => exact ⟨(0, o.1 + (o.2.1 + x.2.1), 0), trivial, by simp⟩
          | cons z s =>
            obtain ⟨z1, z2, z3, z4⟩ := t4
            have az := z3; unfold Al at az
            have hz : o.1 + (o.2.1 + x.2.1) ≤ z.1 := by
              rcases Int.lt_or_le z.1 (o.1 + (o.2.1 + x.2.1)) with hlt | hle
              · have := (hv2 z.1 (by omega) (by omega)).2
                simp only [val] at this
                rw [if_pos (by omega)] at this
                have := idA_low (k := z.1) z3 (Int.le_refl _)
                omega
              · exact hle
            exact ⟨(o.1 + (o.2.1 + x.2.1), 0, -1), ⟨by simp only; omega, by unfold On; unfold Al at z3; simp only; omega, z3, z4⟩, by simp⟩
        obtain ⟨a, b, c⟩ := setB_spec r (o.1, o.2.1 + x.2.1, o.2.2) p hal t1 (fun h => t2 (by unfold On at h ⊢; exact h)) hrest
        refine ⟨a, fun k => ?_, by simp only [List.length_cons]; omega⟩
        rw [b k]
        simp only [val]
        by_cases hk : o.1 ≤ k ∧ k < o.1 + (o.2.1 + x.2.1)
        · rw [if_pos hk, on_val t3 hx hon k hk.1 hk.2]
          by_cases hk2 : k < o.1 + o.2.1
          · rw [if_pos hk2, if_neg (by omega), if_pos (by omega)]
          · rw [if_neg hk2, if_pos (by omega)]
        · rw [if_neg hk, if_neg (by omega), if_neg (by omega)]
      · rw [if_neg hon]
        obtain ⟨a, b, c⟩ := setA_spec r x o hx t4 (by omega) hon (fun k k1 k2 => (hv2 k k1 k2).2)
        refine ⟨⟨t1, t2, t3, a⟩, fun k => ?_, by simp only [List.length_cons]; omega⟩
        simp only [val]
        rw [b k]
        by_cases hk : x.1 ≤ k ∧ k < x.1 + x.2.1
        · rw [if_pos hk, if_neg (by omega), if_pos hk]
        · rw [if_neg hk, if_neg hk]
    · rw [if_neg hb]
      have hz : x.1 + x.2.1 ≤ o.1 := by
        rcases Int.lt_or_le o.1 (x.1 + x.2.1) with hlt | hle
        · exfalso
          rcases Int.lt_or_le o.1 x.1 with h | h
          · exact (hv2 x.1 (by omega) (by omega)).1 ⟨by omega, by omega⟩
          · exact (hv2 o.1 (by omega) (by omega)).1 ⟨by omega, by omega⟩
        · exact hle
      exact setB_spec (o :: r) x p hx h1 h2 ⟨(x.1 + x.2.1, 0, -1), ⟨by simp only; omega, by unfold On; simp only; omega, t3, t4⟩, by simp⟩

/- Cut -/
def cut1 (x : Ex) (s : Sp) : List Ex := (lessS (x.1, x.2.1) s).map fun r => (r.1, r.2, idA x r.1)
def cutL (l : List Ex) (s : Sp) : List Ex := l.flatMap (cut1 · s)
def cutF (f : Int → Int) (s : Sp) (k : Int) : Int := if hasW s k then -1 else f k
def setF (f : Int → Int) (x : Ex) (k : Int) : Int := if Al x ∧ x.1 ≤ k ∧ k < x.1 + x.2.1 then idA x k else f k
def overF (f g : Int → Int) (k : Int) : Int := if 0 ≤ g k then g k else f k
theorem al_wh {x : Ex} (h : Al x) : Wh (x.1, x.2.1) := ⟨h.1, h.2.1, h.2.2.1⟩

/-- A piece of an extent. -/
def Pc (x r : Ex) : Prop := x.1 ≤ r.1 ∧ 1 ≤ r.2.1 ∧ r.1 + r.2.1 ≤ x.1 + x.2.1 ∧ r.2.2 = idA x r.1
theorem pc_al {x r : Ex} (h : Al x) (hp : Pc x r) : Al r := by
  unfold Al at *; unfold Pc idA at hp
  split at hp <;> omega
theorem pc_id {x r : Ex} (h : Al x) (hp : Pc x r) (k : Int) (_ : r.1 ≤ k) : idA r k = idA x k := by
  unfold Al at *; unfold Pc idA at hp; unfold idA
  split at hp <;> split <;> (try split) <;> omega
/-- The pieces of one that is cut: none, one or two. -/
theorem cut1_cases (x : Ex) (s : Sp) (hx : Al x) :
    (cut1 x s = [] ∧ Wh s ∧ s.1 ≤ x.1 ∧ x.1 + x.2.1 ≤ s.1 + s.2) ∨
    (cut1 x s = [x] ∧ (¬ Wh s ∨ s.1 + s.2 ≤ x.1 ∨ x.1 + x.2.1 ≤ s.1)) ∨
    (∃ a, cut1 x s = [a] ∧ Wh s ∧ Pc x a ∧ a.1 = x.1 ∧ a.1 + a.2.1 = s.1 ∧ s.1 < x.1 + x.2.1 ∧ x.1 + x.2.1 ≤ s.1 + s.2) ∨
    (∃ b, cut1 x s = [b] ∧ Wh s ∧ Pc x b ∧ b.1 = s.1 + s.2 ∧ x.1 < b.1 ∧ b.1 + b.2.1 = x.1 + x.2.1 ∧ s.1 ≤ x.1) ∨
    (∃ a b, cut1 x s = [a, b] ∧ Wh s ∧ Pc x a ∧ Pc x b ∧ a.1 = x.1 ∧ a.1 + a.2.1 = s.1 ∧ b.1 = s.1 + s.2 ∧ b.1 + b.2.1 = x.1 + x.2.1) := by
  have ax := hx; unfold Al at ax
  unfold cut1 lessS
  simp only
  by_cases h : Wh s ∧ x.1 < s.1 + s.2 ∧ s.1 < x.1 + x.2.1
  · rw [if_pos h]
    obtain ⟨hs, h1, h2⟩ := h
    have ws := hs; unfold Wh at ws
    by_cases ha : x.1 < s.1
    · rw [if_pos ha]
      by_cases hb : s.1 + s.2 < x.1 + x.2.1
      · rw [if_pos hb]
        exact .inr (.inr (.inr (.inr ⟨_, _, rfl, hs, ⟨Int.le_refl _, by simp only; omega, by simp only; omega, rfl⟩, ⟨by simp only; omega, by simp only; omega, by simp only; omega, rfl⟩, rfl, by simp only; omega, rfl, by simp only; omega⟩)))
      · rw [if_neg hb]
        exact .inr (.inr (.inl ⟨_, rfl, hs, ⟨Int.le_refl _, by simp only; omega, by simp only; omega, rfl⟩, rfl, by simp only; omega, by omega, by omega⟩))
    · rw [if_neg ha]
      by_cases hb : s.1 + s.2 < x.1 + x.2.1
      · rw [if_pos hb]
        exact .inr (.inr (.inr (.inl ⟨_, rfl, hs, ⟨by simp only; omega, by simp only; omega, by simp only; omega, rfl⟩, rfl, h1, by simp only; omega, by omega⟩)))
      · rw [if_neg hb]
        exact .inl ⟨rfl, hs, by omega, by omega⟩
  · rw [if_neg h]
    refine .inr (.inl ⟨?_, ?_⟩)
    · have : idA x x.1 = x.2.2 := by unfold idA; split <;> omega
      simp only [List.map_cons, List.map_nil, this]
    · by_cases hs : Wh s
      · right; have : ¬ (x.1 < s.1 + s.2 ∧ s.1 < x.1 + x.2.1) := fun h' => h ⟨hs, h'⟩
        omega
      · exact .inl hs
theorem pc_zero {x r : Ex} (h : Al x) (hp : Pc x r) : (r.2.2 = 0 ↔ x.2.2 = 0) ∧ (x.2.2 ≠ 0 → r.2.2 = x.2.2 + r.1 - x.1) := by
  unfold Al at h; unfold Pc idA at hp
  split at hp <;> omega
theorem hasW_iff {s : Sp} (h : Wh s) (k : Int) : hasW s k ↔ s.1 ≤ k ∧ k < s.1 + s.2 := ⟨fun g => g.2, fun g => ⟨h, g⟩⟩

/-- What is cut out says nothing; all else stays. -/
theorem cutL_spec (s : Sp) : ∀ (l : List Ex) (p : Ex), Tp p l → Tp p (cutL l s) ∧ (∀ k, val (cutL l s) k = cutF (val l) s k)
  | [], p, _ => ⟨trivial, fun k => by unfold cutF; split <;> rfl⟩
  | x :: r, p, ⟨t1, t2, t3, t4⟩ => by
    obtain ⟨ih, iv⟩ := cutL_spec s r x t4
    have ax := t3; unfold Al at ax
    have e : cutL (x :: r) s = cut1 x s ++ cutL r s := rfl
    have hlo : ∀ y z, cutL r s = y :: z → x.1 + x.2.1 ≤ y.1 := fun y z h => by rw [h] at ih; exact ih.1
    have hno : ∀ y z, cutL r s = y :: z → ¬ On x y := fun y z h => by rw [h] at ih; exact ih.2.1
    rw [e]
    unfold cutF at iv ⊢
    rcases cut1_cases x s t3 with ⟨hc, hs, h1, h2⟩ | ⟨hc, h⟩ | ⟨a, hc, hs, pa, a1, a2, a3, a4⟩ | ⟨b, hc, hs, pb, b1, b2, b3, b4⟩ | ⟨a, b, hc, hs, pa, pb, a1, a2, b1, b2⟩
    · rw [hc]
      refine ⟨tp_weak ih (by omega) fun y z h hon => ?_, fun k => ?_⟩
      · have := hlo y z h; unfold On at hon; omega
      · simp only [List.nil_append, val]
        rw [iv k]
        simp only [hasW_iff hs]
        by_cases hk : s.1 ≤ k ∧ k < s.1 + s.2
        · rw [if_pos hk, if_pos hk]
        · rw [if_neg hk, if_neg hk, if_neg (by omega)]
    · rw [hc]
      refine ⟨⟨t1, t2, t3, ih⟩, fun k => ?_⟩
      simp only [List.cons_append, List.nil_append, val]
      rw [iv k]
      by_cases hk : x.1 ≤ k ∧ k < x.1 + x.2.1
      · have : ¬ hasW s k := fun g => by
          rcases h with h | h | h
          · exact h g.1
          · have := g.2; omega
          · have := g.2; omega
        rw [if_pos hk, if_neg this, if_pos hk]
      · rw [if_neg hk, if_neg hk]
    · rw [hc]
      have za := pc_zero t3 pa
      have pa' := pa; unfold Pc at pa'
      refine ⟨⟨by omega, fun h => t2 ?_, pc_al t3 pa, tp_weak ih (by omega) fun y z h hon => ?_⟩, fun k => ?_⟩
      · unfold On at h ⊢; omega
      · have := hlo y z h; unfold On at hon; omega
      · simp only [List.cons_append, List.nil_append, val]
        rw [iv k]
        simp only [hasW_iff hs]
        by_cases hk : a.1 ≤ k ∧ k < a.1 + a.2.1
        · rw [if_pos hk, if_neg (by omega), if_pos (by omega)]
          exact pc_id t3 pa k hk.1
        · rw [if_neg hk]
          by_cases hk2 : s.1 ≤ k ∧ k < s.1 + s.2
          · rw [if_pos hk2, if_pos hk2]
          · rw [if_neg hk2, if_neg hk2, if_neg (by omega)]
    · rw [hc]
      have zb := pc_zero t3 pb
      have pb' := pb; unfold Pc at pb'
      refine ⟨⟨by omega, fun h => ?_, pc_al t3 pb, tp_weak ih (by omega) fun y z h hon => hno y z h ?_⟩, fun k => ?_⟩
      · unfold On at h; omega
      · unfold On at hon ⊢; omega
      · simp only [List.cons_append, List.nil_append, val]
        rw [iv k]
        simp only [hasW_iff hs]
        by_cases hk : b.1 ≤ k ∧ k < b.1 + b.2.1
        · rw [if_pos hk, if_neg (by omega), if_pos (by omega)]
          exact pc_id t3 pb k hk.1
        · rw [if_neg hk]
          by_cases hk2 : s.1 ≤ k ∧ k < s.1 + s.2
          · rw [if_pos hk2, if_pos hk2]
          · rw [if_neg hk2, if_neg hk2, if_neg (by omega)]
    · rw [hc]
      have za := pc_zero t3 pa
      have pa' := pa; unfold Pc at pa'
      have zb := pc_zero t3 pb
      have pb' := pb; unfold Pc at pb'
      have ws := hs; unfold Wh at ws
      refine ⟨⟨by omega, fun h => t2 ?_, pc_al t3 pa, by omega, fun h => ?_, pc_al t3 pb, tp_weak ih (by omega) fun y z h hon => hno y z h ?_⟩, fun k => ?_⟩
      · unfold On at h ⊢; omega
      · unfold On at h; omega
      · unfold On at hon ⊢; omega
      · simp only [List.cons_append, List.nil_append, val]
        rw [iv k]
        simp only [hasW_iff hs]
        by_cases hk : a.1 ≤ k ∧ k < a.1 + a.2.1
        · rw [if_pos hk, if_neg (by omega), if_pos (by omega)]
          exact pc_id t3 pa k hk.1
        · rw [if_neg hk]
          by_cases hk3 : b.1 ≤ k ∧ k < b.1 + b.2.1
          · rw [if_pos hk3, if_neg (by omega), if_pos (by omega)]
            exact pc_id t3 pb k hk3.1
          · rw [if_neg hk3]
            by_cases hk2 : s.1 ≤ k ∧ k < s.1 + s.2
            · rw [if_pos hk2, if_pos hk2]
            · rw [if_neg hk2, if_neg hk2, if_neg (by omega)]
/-- At most one is cut in two. -/
theorem cutL_len (s : Sp) : ∀ (l : List Ex) (p : Ex), Tp p l → (cutL l s).length ≤ l.length + (if p.1 + p.2.1 ≤ s.1 ∧ 0 < s.1 then 1 else 0)
  | [], p, _ => by simp [cutL]
  | x :: r, p, ⟨t1, t2, t3, t4⟩ => by
    have ih := cutL_len s r x t4
    have ax := t3; unfold Al at ax
    have e : cutL (x :: r) s = cut1 x s ++ cutL r s := rfl
    rw [e, List.length_append]
    simp only [List.length_cons]
    rcases cut1_cases x s t3 with ⟨hc, hs, h1, h2⟩ | ⟨hc, h⟩ | ⟨a, hc, hs, pa, a1, a2, a3, a4⟩ | ⟨b, hc, hs, pb, b1, b2, b3, b4⟩ | ⟨a, b, hc, hs, pa, pb, a1, a2, b1, b2⟩ <;>
      rw [hc] <;> simp only [List.length_cons, List.length_nil] <;> unfold Pc at * <;> (try unfold Wh at hs) <;> split at ih <;> split <;> omega

end Go.Proofs.Ytnboajhcjgcpfaa
