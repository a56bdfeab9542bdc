/-
  Items in order: where an item belongs in a list (pos), put in (ins), taken out (del), all numbers under a fingerprint (und). Put in and taken out a list is as it was.
-/
import Derived.Test.YtdmamanlclajjaaGreatChecked
import Derived.WalkKit
import Derived.ProofKit
import Derived.WalkSpells
import Derived.Below
namespace Go.Proofs.YtdmamanlclajjaaGreat
open Go.ChangeShapes Go.WideShapes Go.ChangeAt Go.RowKit

theorem Hid.intro {p : Prop} (h : p) : Hid p := h

abbrev It := Int × Int

/-- a is ahead of b. -/
def lt (a b : It) : Bool := decide (a.1 < b.1 ∨ a.1 = b.1 ∧ a.2 < b.2)
def cmpZ (a b : Int) : Int := if a < b then -1 else if b < a then 1 else 0
def cmpI (a b : It) : Int := if cmpZ a.1 b.1 = 0 then cmpZ a.2 b.2 else cmpZ a.1 b.1

theorem cmpI_lt (a b : It) : cmpI a b < 0 ↔ lt a b = true := by
  unfold cmpI cmpZ lt
  simp only [decide_eq_true_eq]
  repeat' split
  all_goals omega
theorem cmpI_eq (a b : It) : cmpI a b = 0 ↔ a = b := by
  unfold cmpI cmpZ
  rw [Prod.ext_iff]
  repeat' split
  all_goals omega
theorem lt_irr (a : It) : lt a a = false := by unfold lt; simp
theorem lt_trans {a b c : It} (h : lt a b = true) (k : lt b c = true) : lt a c = true := by
  unfold lt at *
  simp only [decide_eq_true_eq] at *
  omega
theorem lt_asym {a b : It} (h : lt a b = true) : lt b a = false := by
  unfold lt at *
  simp only [decide_eq_true_eq, decide_eq_false_iff_not] at *
  omega

def pos : List It → It → Nat
  | [], _ => 0
  | q :: r, p => if lt q p = true then pos r p + 1 else 0
def ins : List It → It → List It
  | [], p => [p]
  | q :: r, p => if lt q p = true then q :: ins r p else p :: q :: r
def del : List It → It → List It
  | [], _ => []
  | q :: r, p => if lt q p = true then q :: del r p else r
/-- All numbers under x. -/
def und : List It → Int → List Int
  | [], _ => []
  | q :: r, x => if q.1 = x then q.2 :: und r x else und r x

/-- In order, none twice. -/
def Ord : List It → Prop
  | [] => True
  | q :: r => (∀ a ∈ r, lt q a = true) ∧ Ord r
def Fits (p : It) : Prop := 0 ≤ p.1 ∧ p.1 ≤ 4294967295 ∧ -9223372036854775808 ≤ p.2 ∧ p.2 ≤ 9223372036854775807

theorem pos_le : ∀ (l : List It) (p : It), pos l p ≤ l.length
  | [], _ => Nat.le_refl _
  | q :: r, p => by have := pos_le r p; simp only [pos, List.length_cons]; split <;> omega
theorem ins_eq : ∀ (l : List It) (p : It), ins l p = l.take (pos l p) ++ p :: l.drop (pos l p)
  | [], _ => rfl
  | q :: r, p => by
    simp only [ins, pos]
    split
    · simp [ins_eq r p]
    · simp
theorem del_eq : ∀ (l : List It) (p : It), del l p = l.take (pos l p) ++ l.drop (pos l p + 1)
  | [], _ => rfl
  | q :: r, p => by
    simp only [del, pos]
    split
    · simp [del_eq r p]
    · simp
theorem del_ins : ∀ (l : List It) (p : It), del (ins l p) p = l
  | [], p => by simp [ins, del, lt_irr]
  | q :: r, p => by
    simp only [ins]
    split
    · rename_i h; simp [del, h, del_ins r p]
    · simp [del, lt_irr]
theorem mem_ins : ∀ (l : List It) (p a : It), a ∈ ins l p ↔ a = p ∨ a ∈ l
  | [], p, a => by simp [ins]
  | q :: r, p, a => by
    simp only [ins]
    split
    · simp [mem_ins r p a]
      constructor
      · rintro (h | h | h) <;> simp [h]
      · rintro (h | h | h) <;> simp [h]
    · simp
theorem ins_ord : ∀ (l : List It) (p : It), Ord l → p ∉ l → Ord (ins l p)
  | [], p, _, _ => by simp [ins, Ord]
  | q :: r, p, h, hp => by
    simp only [List.mem_cons, not_or] at hp
    simp only [ins]
    split
    · rename_i hl
      refine ⟨fun a ha => ?_, ins_ord r p h.2 hp.2⟩
      rcases (mem_ins r p a).1 ha with rfl | ha
      · exact hl
      · exact h.1 a ha
    · rename_i hl
      have hq : lt p q = true := by
        have h1 : p ≠ q := hp.1
        rw [Ne, Prod.ext_iff] at h1
        unfold lt at *
        simp only [decide_eq_true_eq] at *
        omega
      refine ⟨fun a ha => ?_, h⟩
      rcases List.mem_cons.1 ha with rfl | ha
      · exact hq
      · exact lt_trans hq (h.1 a ha)
theorem del_sub : ∀ (l : List It) (p a : It), a ∈ del l p → a ∈ l
  | [], p, a, h => h
  | q :: r, p, a, h => by
    simp only [del] at h
    split at h
    · rcases List.mem_cons.1 h with rfl | h
      · simp
      · exact List.mem_cons_of_mem _ (del_sub r p a h)
    · exact List.mem_cons_of_mem _ h
theorem del_ord : ∀ (l : List It) (p : It), Ord l → Ord (del l p)
  | [], p, h => h
  | q :: r, p, h => by
    simp only [del]
    split
    · exact ⟨fun a ha => h.1 a (del_sub r p a ha), del_ord r p h.2⟩
    · exact h.2
/-- Where it is in it, it lies at its place. -/
theorem pos_mem : ∀ (l : List It) (p : It), Ord l → p ∈ l → l[pos l p]? = some p
  | [], p, _, h => by cases h
  | q :: r, p, h, hp => by
    rcases List.mem_cons.1 hp with rfl | hr
    · simp [pos, lt_irr]
    · have := h.1 p hr
      simp [pos, this, pos_mem r p h.2 hr]
theorem not_mem_del : ∀ (l : List It) (p : It), Ord l → p ∈ l → p ∉ del l p
  | [], p, _, h => by cases h
  | q :: r, p, h, hp => by
    simp only [del]
    split
    · rename_i hl
      intro hm
      rcases List.mem_cons.1 hm with rfl | hm
      · rw [lt_irr] at hl; cases hl
      · rcases List.mem_cons.1 hp with rfl | hr
        · rw [lt_irr] at hl; cases hl
        · exact not_mem_del r p h.2 hr hm
    · rename_i hl
      intro hm
      exact hl (h.1 p hm)
theorem ins_del : ∀ (l : List It) (p : It), Ord l → p ∈ l → ins (del l p) p = l
  | [], p, _, h => by cases h
  | q :: r, p, h, hp => by
    rcases List.mem_cons.1 hp with rfl | hr
    · simp only [del, lt_irr]
      cases r with
      | nil => rfl
      | cons a r =>
        have := lt_asym (h.1 a (by simp))
        simp [ins, this]
    · have hl := h.1 p hr
      simp [del, hl, ins, ins_del r p h.2 hr]
theorem ins_length (l : List It) (p : It) : (ins l p).length = l.length + 1 := by
  induction l with
  | nil => rfl
  | cons q r ih => simp only [ins]; split <;> simp [ih]
theorem del_length (l : List It) (p : It) (h : pos l p < l.length) : (del l p).length + 1 = l.length := by
  induction l with
  | nil => simp at h
  | cons q r ih =>
    simp only [del, pos] at *
    split at h
    · rename_i hl; simp [hl] at *; exact ih h
    · rename_i hl; simp [hl]
theorem pos_lt {l : List It} {p : It} (ho : Ord l) (h : p ∈ l) : pos l p < l.length := (List.getElem?_eq_some_iff.1 (pos_mem l p ho h)).1
/-- The border between those ahead and the others is the place. -/
theorem pos_of : ∀ (l : List It) (p : It) (i : Nat), i ≤ l.length → (∀ t a, t < i → l[t]? = some a → lt a p = true) → (∀ a, l[i]? = some a → lt a p = false) → pos l p = i
  | [], p, i, hi, _, _ => by simp at hi; simp [pos, hi]
  | q :: r, p, 0, _, _, h2 => by simp [pos, h2 q (by simp)]
  | q :: r, p, i + 1, hi, h1, h2 => by
    have := h1 0 q (by omega) (by simp)
    simp only [pos, this, if_true]
    rw [pos_of r p i (by simpa using hi) (fun t a ht ha => h1 (t + 1) a (by omega) (by simpa using ha)) (fun a ha => h2 a (by simpa using ha))]
theorem ord_at : ∀ (l : List It) (s t : Nat) (a b : It), Ord l → s < t → l[s]? = some a → l[t]? = some b → lt a b = true
  | [], s, t, a, b, _, _, h, _ => by simp at h
  | q :: r, 0, t + 1, a, b, h, _, ha, hb => by
    simp at ha hb; subst ha
    exact h.1 b (List.mem_of_getElem? hb)
  | q :: r, s + 1, t + 1, a, b, h, hst, ha, hb => ord_at r s t a b h.2 (by omega) (by simpa using ha) (by simpa using hb)
/-- One that is ahead has those ahead of it ahead. -/
theorem ord_down {l : List It} (h : Ord l) {s t : Nat} {a b p : It} (hst : s ≤ t) (ha : l[s]? = some a) (hb : l[t]? = some b) (hp : lt b p = true) : lt a p = true := by
  rcases Nat.lt_or_eq_of_le hst with hl | rfl
  · exact lt_trans (ord_at l s t a b h hl ha hb) hp
  · rw [ha] at hb; cases hb; exact hp
theorem mem_und : ∀ (l : List It) (x i : Int), i ∈ und l x ↔ (x, i) ∈ l
  | [], x, i => by simp [und]
  | q :: r, x, i => by
    obtain ⟨a, b⟩ := q
    simp only [und, List.mem_cons, Prod.mk.injEq]
    split
    · rename_i h; subst h; simp [mem_und r a i]
    · rename_i h
      simp only [mem_und r x i]
      constructor
      · exact .inr
      · rintro (⟨e, _⟩ | h')
        · exact absurd e.symm h
        · exact h'
theorem und_step (l : List It) (x : Int) (i : Nat) (p : It) (h : l[i]? = some p) (e : p.1 = x) : und (l.drop i) x = p.2 :: und (l.drop (i + 1)) x := by
  obtain ⟨hi, hp⟩ := List.getElem?_eq_some_iff.1 h
  rw [List.drop_eq_getElem_cons hi, hp]
  simp [und, e]
theorem und_none : ∀ (l : List It) (x : Int), (∀ a ∈ l, a.1 ≠ x) → und l x = []
  | [], _, _ => rfl
  | q :: r, x, h => by
    have := h q (by simp)
    simp only [und, this, if_false]
    exact und_none r x fun a ha => h a (by simp [ha])
theorem und_start : ∀ (l : List It) (x : Int), (∀ a ∈ l, Fits a) → und (l.drop (pos l (x, -9223372036854775808))) x = und l x
  | [], _, _ => rfl
  | q :: r, x, h => by
    simp only [pos]
    split
    · rename_i hl
      have hq := (h q (by simp)).2.2.1
      have hx : q.1 ≠ x := by
        unfold lt at hl
        simp only [decide_eq_true_eq] at hl
        omega
      simp only [List.drop_succ_cons, und, hx, if_false]
      exact und_start r x fun a ha => h a (by simp [ha])
    · rfl
/-- Behind the place: another fingerprint ends it. -/
theorem und_end (l : List It) (x : Int) (i : Nat) (p : It) (ho : Ord l) (hf : ∀ a ∈ l, Fits a) (hi : pos l (x, -9223372036854775808) ≤ i) (h : l[i]? = some p) (e : p.1 ≠ x) : und (l.drop i) x = [] := by
  have hpx : x < p.1 := by
    have h0 : lt p (x, -9223372036854775808) = false := by
      cases hc : lt p (x, -9223372036854775808) with
      | false => rfl
      | true =>
        exfalso
        obtain ⟨hlt, _⟩ := List.getElem?_eq_some_iff.1 h
        have key : ∀ (l : List It) (i : Nat) (p q : It), Ord l → l[i]? = some p → lt p q = true → i < pos l q := by
          intro l
          induction l with
          | nil => intro i p q _ h; simp at h
          | cons a r ih =>
            intro i p q ho h hl
            cases i with
            | zero => simp at h; subst h; simp [pos, hl]
            | succ i =>
              have hpr : r[i]? = some p := by simpa using h
              have := lt_trans (ho.1 p (List.mem_of_getElem? hpr)) hl
              simp only [pos, this, if_true]
              have := ih i p q ho.2 hpr hl
              omega
        have := key l i p _ ho h hc
        omega
    unfold lt at h0
    simp only [decide_eq_false_iff_not] at h0
    have := (hf p (List.mem_of_getElem? h)).2.2.1
    omega
  refine und_none _ _ fun a ha => ?_
  obtain ⟨t, ht⟩ := List.getElem?_of_mem ha
  rw [List.getElem?_drop] at ht
  rcases Nat.eq_zero_or_pos t with rfl | hp
  · rw [Nat.add_zero, h] at ht; cases ht; exact e
  · have := ord_at l i (i + t) p a ho (by omega) h ht
    unfold lt at this
    simp only [decide_eq_true_eq] at this
    omega
theorem und_length (l : List It) (x : Int) : (und l x).length ≤ l.length := by
  induction l with
  | nil => exact Nat.le_refl _
  | cons q r ih => simp only [und]; split <;> simp <;> omega
theorem pos_none {l : List It} {p : It} (h : p ∉ l) : l[pos l p]? ≠ some p := fun e => h (List.mem_of_getElem? e)

/-- How many there are in all. -/
def sum : List (List It) → Nat
  | [] => 0
  | l :: r => l.length + sum r
theorem sum_set : ∀ (bs : List (List It)) (k : Nat) (l m : List It), bs[k]? = some l → sum (bs.set k m) + l.length = sum bs + m.length
  | [], k, l, m, h => by simp at h
  | a :: r, 0, l, m, h => by simp at h; subst h; simp [sum]; omega
  | a :: r, k + 1, l, m, h => by have := sum_set r k l m (by simpa using h); simp [sum]; omega
theorem sum_drop (bs : List (List It)) (i : Nat) (l : List It) (h : bs[i]? = some l) : sum (bs.drop i) = l.length + sum (bs.drop (i + 1)) := by
  obtain ⟨hi, hp⟩ := List.getElem?_eq_some_iff.1 h
  rw [List.drop_eq_getElem_cons hi, hp]
  rfl
theorem sum_le (bs : List (List It)) (m : Nat) (h : ∀ l ∈ bs, l.length ≤ m) : sum bs ≤ bs.length * m := by
  induction bs with
  | nil => simp [sum]
  | cons a r ih =>
    have h1 := h a (by simp)
    have h2 := ih fun l hl => h l (by simp [hl])
    simp only [sum, List.length_cons, Nat.succ_mul]
    omega
end Go.Proofs.YtdmamanlclajjaaGreat
