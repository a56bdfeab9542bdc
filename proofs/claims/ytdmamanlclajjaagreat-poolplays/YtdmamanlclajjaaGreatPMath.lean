/-
  A pool as a list of blocks (id, how often it is held, bytes), by id: what is found (find, sel), held once more or less (bump), put in (gap, putL); the fingerprints that a shelf has of it (Prints).
-/
import Derived.Test.YtdmamanlclajjaaGreatBSearch
namespace Go.Proofs.YtdmamanlclajjaaGreat
open Go.ChangeShapes Go.WideShapes Go.ChangeAt Go.RowKit

/-- The block 0. -/
def zer : List UInt8 := [0, 0, 0, 0, 0, 0, 0, 0]
/-- The fingerprint of bytes. -/
def pr (b : List UInt8) : Int := (ofN b : Nat)
theorem pr_fits (b : List UInt8) (i : Int) (h0 : 0 ≤ i) (h1 : i ≤ 1000) : Fits (pr b, i) := by
  have : ofN b < 4294967296 := mixN_lt _ _
  unfold Fits pr
  omega

def find : List Bl → List UInt8 → Int
  | [], _ => 0
  | q :: r, b => if q.2.2 = b then q.1 else find r b
def sel : List Bl → Int → Option Bl
  | [], _ => none
  | q :: r, i => if q.1 = i then some q else sel r i
def bump : List Bl → Int → Int → List Bl
  | [], _, _ => []
  | q :: r, i, n => if q.1 = i then (if 0 < q.2.1 + n then (q.1, q.2.1 + n, q.2.2) :: r else r) else q :: bump r i n
def gapN : Int → List Bl → Nat
  | _, [] => 0
  | k, q :: r => if q.1 = k then gapN (k + 1) r + 1 else 0
/-- How many have the ids from 1 on, none left out. -/
def gap (L : List Bl) : Nat := gapN 1 L
/-- A block is put in at a place. -/
def insAt (L : List Bl) (g : Nat) (q : Bl) : List Bl := L.take g ++ q :: L.drop g

/-- What a pool's blocks are. -/
structure Inv (most : Nat) (L : List Bl) : Prop where
  m60 : most ≤ 60
  len : L.length ≤ most
  ord : B.Ord L
  ids : ∀ q ∈ L, 1 ≤ q.1 ∧ q.1 ≤ 60 ∧ 1 ≤ q.2.1 ∧ q.2.2.length = 8 ∧ q.2.2 ≠ zer
  one : ∀ q ∈ L, ∀ r ∈ L, q.2.2 = r.2.2 → q = r
/-- None is held more often than that. -/
def Few (R : Int) (L : List Bl) : Prop := ∀ q ∈ L, q.2.1 ≤ R

theorem sel_mem : ∀ (L : List Bl) (i : Int) (q : Bl), sel L i = some q → q ∈ L ∧ q.1 = i
  | [], i, q, h => by cases h
  | r :: L, i, q, h => by
    unfold sel at h
    split at h
    · cases h; rename_i e; exact ⟨List.mem_cons_self, e⟩
    · obtain ⟨a, b⟩ := sel_mem L i q h; exact ⟨List.mem_cons_of_mem _ a, b⟩
theorem sel_none : ∀ (L : List Bl) (i : Int), sel L i = none → ∀ q ∈ L, q.1 ≠ i
  | [], i, _, q, hq => by cases hq
  | r :: L, i, h, q, hq => by
    unfold sel at h
    split at h
    · cases h
    · rcases List.mem_cons.1 hq with rfl | hq
      · assumption
      · exact sel_none L i h q hq
theorem ord_inj : ∀ (L : List Bl), B.Ord L → ∀ q ∈ L, ∀ r ∈ L, q.1 = r.1 → q = r
  | [], _, q, hq, _, _, _ => by cases hq
  | a :: L, ho, q, hq, r, hr, e => by
    rcases List.mem_cons.1 hq with h1 | h1
    · rcases List.mem_cons.1 hr with h2 | h2
      · rw [h1, h2]
      · have := ho.1 r h2; rw [h1] at e; omega
    · rcases List.mem_cons.1 hr with h2 | h2
      · have := ho.1 q h1; rw [h2] at e; omega
      · exact ord_inj L ho.2 q h1 r h2 e
theorem sel_of {L : List Bl} (ho : B.Ord L) {q : Bl} (hq : q ∈ L) : sel L q.1 = some q := by
  cases h : sel L q.1 with
  | none => exact absurd rfl (sel_none L _ h q hq)
  | some r =>
    obtain ⟨a, b⟩ := sel_mem L _ r h
    rw [ord_inj L ho r a q hq b]
theorem pos_sel : ∀ (L : List Bl) (i : Int) (q : Bl), B.Ord L → sel L i = some q → L[B.pos L i]? = some q
  | [], i, q, _, h => by cases h
  | r :: L, i, q, ho, h => by
    unfold sel at h
    unfold B.pos
    split at h
    · cases h; rename_i e; rw [if_neg (by omega)]; rfl
    · have hm := sel_mem L i q h
      have := ho.1 q hm.1
      rw [if_pos (by omega)]
      simpa using pos_sel L i q ho.2 h
theorem has_yes {L : List Bl} {i : Int} {q : Bl} (ho : B.Ord L) (h : sel L i = some q) : B.has L i = true := by
  unfold B.has
  rw [pos_sel L i q ho h]
  simpa using (sel_mem L i q h).2
theorem has_no {L : List Bl} {i : Int} (h : sel L i = none) : B.has L i = false := by
  unfold B.has
  split
  · rename_i q hq
    simpa using sel_none L i h q (List.mem_of_getElem? hq)
  · rfl

theorem find_some : ∀ (L : List Bl) (b : List UInt8), find L b ≠ 0 → ∃ q ∈ L, q.1 = find L b ∧ q.2.2 = b
  | [], b, h => absurd rfl h
  | q :: r, b, h => by
    unfold find at h ⊢
    split
    · rename_i e; exact ⟨q, List.mem_cons_self, rfl, e⟩
    · rename_i e
      rw [if_neg e] at h
      obtain ⟨a, h1, h2⟩ := find_some r b h
      exact ⟨a, List.mem_cons_of_mem _ h1, h2⟩
theorem find_none : ∀ (L : List Bl) (b : List UInt8), (∀ q ∈ L, q.1 ≠ 0) → find L b = 0 → ∀ q ∈ L, q.2.2 ≠ b
  | [], b, _, _, q, hq => by cases hq
  | a :: r, b, h0, h, q, hq => by
    unfold find at h
    split at h
    · exact absurd h (h0 a List.mem_cons_self)
    · rcases List.mem_cons.1 hq with rfl | hq
      · assumption
      · exact find_none r b (fun x hx => h0 x (List.mem_cons_of_mem _ hx)) h q hq
theorem find_of {most : Nat} {L : List Bl} (hI : Inv most L) {q : Bl} (hq : q ∈ L) : find L q.2.2 = q.1 := by
  by_cases h : find L q.2.2 = 0
  · exact absurd rfl (find_none L _ (fun x hx => by have := hI.ids x hx; omega) h q hq)
  · obtain ⟨r, h1, h2, h3⟩ := find_some L _ h
    rw [hI.one r h1 q hq h3] at h2
    exact h2.symm
theorem find_not {L : List Bl} {b : List UInt8} (h : ∀ q ∈ L, q.2.2 ≠ b) : find L b = 0 := by
  induction L with
  | nil => rfl
  | cons q r ih =>
    unfold find
    rw [if_neg (h q List.mem_cons_self)]
    exact ih fun x hx => h x (List.mem_cons_of_mem _ hx)

/-- bump, by the place. -/
theorem bump_set : ∀ (L : List Bl) (i n : Int) (q : Bl), B.Ord L → sel L i = some q → 0 < q.2.1 + n → bump L i n = L.set (B.pos L i) (q.1, q.2.1 + n, q.2.2)
  | [], i, n, q, _, h, _ => by cases h
  | r :: L, i, n, q, ho, h, hp => by
    unfold sel at h
    unfold B.pos bump
    split at h
    · cases h; rename_i e; rw [if_pos e, if_pos hp, if_neg (show ¬ r.1 < i by omega)]; rfl
    · rename_i e
      have hm := sel_mem L i q h
      have := ho.1 q hm.1
      rw [if_neg e, if_pos (by omega), bump_set L i n q ho.2 h hp]
      rfl
theorem bump_del : ∀ (L : List Bl) (i n : Int) (q : Bl), B.Ord L → sel L i = some q → ¬ 0 < q.2.1 + n → bump L i n = L.take (B.pos L i) ++ L.drop (B.pos L i + 1)
  | [], i, n, q, _, h, _ => by cases h
  | r :: L, i, n, q, ho, h, hp => by
    unfold sel at h
    unfold B.pos bump
    split at h
    · cases h; rename_i e; rw [if_pos e, if_neg hp, if_neg (show ¬ r.1 < i by omega)]; rfl
    · rename_i e
      have hm := sel_mem L i q h
      have := ho.1 q hm.1
      rw [if_neg e, if_pos (by omega), bump_del L i n q ho.2 h hp]
      rfl
/-- What is in it behind a bump. -/
theorem mem_bump : ∀ (L : List Bl) (i n : Int) (a : Bl), a ∈ bump L i n → (a ∈ L ∧ (B.Ord L → a.1 ≠ i)) ∨ ∃ q ∈ L, q.1 = i ∧ 0 < q.2.1 + n ∧ a = (q.1, q.2.1 + n, q.2.2)
  | [], i, n, a, h => by cases h
  | r :: L, i, n, a, h => by
    unfold bump at h
    split at h
    · rename_i e
      split at h
      · rename_i hp
        rcases List.mem_cons.1 h with rfl | h
        · exact .inr ⟨r, List.mem_cons_self, e, hp, rfl⟩
        · exact .inl ⟨List.mem_cons_of_mem _ h, fun ho => by have := ho.1 a h; omega⟩
      · exact .inl ⟨List.mem_cons_of_mem _ h, fun ho => by have := ho.1 a h; omega⟩
    · rename_i e
      rcases List.mem_cons.1 h with rfl | h
      · exact .inl ⟨List.mem_cons_self, fun _ => e⟩
      · rcases mem_bump L i n a h with ⟨h1, h2⟩ | ⟨q, h1, h2⟩
        · exact .inl ⟨List.mem_cons_of_mem _ h1, fun ho => h2 ho.2⟩
        · exact .inr ⟨q, List.mem_cons_of_mem _ h1, h2⟩
theorem bump_ord : ∀ (L : List Bl) (i n : Int), B.Ord L → B.Ord (bump L i n)
  | [], _, _, _ => trivial
  | r :: L, i, n, ho => by
    unfold bump
    split
    · split
      · exact ⟨ho.1, ho.2⟩
      · exact ho.2
    · refine ⟨fun a ha => ?_, bump_ord L i n ho.2⟩
      rcases mem_bump L i n a ha with ⟨h1, _⟩ | ⟨q, h1, _, _, rfl⟩
      · exact ho.1 a h1
      · exact ho.1 q h1
theorem bump_len : ∀ (L : List Bl) (i n : Int), (bump L i n).length ≤ L.length
  | [], _, _ => Nat.le_refl _
  | r :: L, i, n => by
    unfold bump
    have := bump_len L i n
    split
    · split <;> simp
    · simpa using this
theorem bump_inv {most : Nat} {L : List Bl} (h : Inv most L) (i n : Int) : Inv most (bump L i n) where
  m60 := h.m60
  len := Nat.le_trans (bump_len L i n) h.len
  ord := bump_ord L i n h.ord
  ids := fun a ha => by
    rcases mem_bump L i n a ha with ⟨h1, _⟩ | ⟨q, h1, _, hp, rfl⟩
    · exact h.ids a h1
    · have := h.ids q h1
      exact ⟨this.1, this.2.1, by simp only; omega, this.2.2.2⟩
  one := fun a ha b hb e => by
    rcases mem_bump L i n a ha with ⟨h1, n1⟩ | ⟨q, h1, i1, hp, rfl⟩
    · rcases mem_bump L i n b hb with ⟨h2, _⟩ | ⟨r, h2, i2, _, rfl⟩
      · exact h.one a h1 b h2 e
      · have := h.one a h1 r h2 e
        exact absurd (by rw [this]; exact i2) (n1 h.ord)
    · rcases mem_bump L i n b hb with ⟨h2, n2⟩ | ⟨r, h2, _, _, rfl⟩
      · have := h.one q h1 b h2 e
        exact absurd (by rw [← this]; exact i1) (n2 h.ord)
      · rw [h.one q h1 r h2 e]
theorem bump_few {L : List Bl} {R : Int} (h : Few R L) (i n : Int) (hn : n ≤ 1) : Few (R + 1) (bump L i n) := fun a ha => by
  rcases mem_bump L i n a ha with ⟨h1, _⟩ | ⟨q, h1, _, _, rfl⟩
  · have := h a h1; omega
  · have := h q h1; simp only; omega

theorem gapN_le : ∀ (L : List Bl) (k : Int), gapN k L ≤ L.length
  | [], _ => Nat.le_refl _
  | q :: r, k => by unfold gapN; have := gapN_le r (k + 1); split <;> simp; omega
theorem gap_le (L : List Bl) : gap L ≤ L.length := gapN_le L 1
theorem gapN_at : ∀ (L : List Bl) (k : Int) (j : Nat) (q : Bl), j < gapN k L → L[j]? = some q → q.1 = k + j
  | [], k, j, q, _, h => by simp at h
  | a :: r, k, j, q, hj, h => by
    unfold gapN at hj
    split at hj
    · rename_i e
      cases j with
      | zero => simp at h; subst h; simpa using e
      | succ j =>
        have := gapN_at r (k + 1) j q (by omega) (by simpa using h)
        rw [this]; omega
    · omega
theorem gapN_end : ∀ (L : List Bl) (k : Int) (q : Bl), L[gapN k L]? = some q → q.1 ≠ k + gapN k L
  | [], k, q, h => by simp at h
  | a :: r, k, q, h => by
    unfold gapN at h ⊢
    split
    · rename_i e
      rw [if_pos e] at h
      have := gapN_end r (k + 1) q (by simpa using h)
      omega
    · rename_i e
      rw [if_neg e] at h
      simp at h; subst h
      simpa using e
theorem gapN_low : ∀ (L : List Bl) (k : Int), B.Ord L → (∀ q ∈ L, k ≤ q.1) → ∀ q ∈ L.drop (gapN k L), k + gapN k L < q.1
  | [], k, _, _, q, hq => by simp at hq
  | a :: r, k, ho, hl, q, hq => by
    unfold gapN at hq ⊢
    split
    · rename_i e
      rw [if_pos e] at hq
      have := gapN_low r (k + 1) ho.2 (fun x hx => by have := ho.1 x hx; omega) q (by simpa using hq)
      omega
    · rename_i e
      rw [if_neg e] at hq
      have h0 := hl a List.mem_cons_self
      simp at hq
      rcases hq with rfl | hq
      · simp; omega
      · have := ho.1 q hq; simp; omega
theorem ord_append : ∀ (L M : List Bl), B.Ord L → B.Ord M → (∀ a ∈ L, ∀ b ∈ M, a.1 < b.1) → B.Ord (L ++ M)
  | [], M, _, hM, _ => hM
  | q :: r, M, hL, hM, h => ⟨fun a ha => by
      rcases List.mem_append.1 ha with ha | ha
      · exact hL.1 a ha
      · exact h q List.mem_cons_self a ha, ord_append r M hL.2 hM fun a ha b hb => h a (List.mem_cons_of_mem _ ha) b hb⟩
theorem ord_take : ∀ (L : List Bl) (n : Nat), B.Ord L → B.Ord (L.take n)
  | [], n, _ => by simp; trivial
  | q :: r, 0, _ => trivial
  | q :: r, n + 1, h => ⟨fun a ha => h.1 a (List.mem_of_mem_take ha), ord_take r n h.2⟩
theorem ord_drop : ∀ (L : List Bl) (n : Nat), B.Ord L → B.Ord (L.drop n)
  | [], n, _ => by simp; trivial
  | q :: r, 0, h => h
  | q :: r, n + 1, h => by simpa using ord_drop r n h.2

theorem mem_insAt {L : List Bl} {g : Nat} {q a : Bl} : a ∈ insAt L g q ↔ a = q ∨ a ∈ L := by
  unfold insAt
  have : a ∈ L ↔ a ∈ L.take g ∨ a ∈ L.drop g := by rw [← List.mem_append, List.take_append_drop]
  rw [this]
  simp only [List.mem_append, List.mem_cons]
  constructor
  · rintro (h | h | h)
    · exact .inr (.inl h)
    · exact .inl h
    · exact .inr (.inr h)
  · rintro (h | h | h)
    · exact .inr (.inl h)
    · exact .inl h
    · exact .inr (.inr h)
theorem insAt_len {L : List Bl} {g : Nat} {q : Bl} (h : g ≤ L.length) : (insAt L g q).length = L.length + 1 := by
  unfold insAt; simp; omega
theorem gap_new {most : Nat} {L : List Bl} (h : Inv most L) : ∀ q ∈ L, q.1 ≠ (gap L : Int) + 1 := fun q hq => by
  rw [← List.take_append_drop (gap L) L] at hq
  rcases List.mem_append.1 hq with hq | hq
  · obtain ⟨j, hj⟩ := List.mem_iff_getElem?.1 hq
    rw [List.getElem?_take] at hj
    split at hj
    · rename_i hlt
      have := gapN_at L 1 j q hlt hj
      omega
    · cases hj
  · have := gapN_low L 1 h.ord (fun x hx => (h.ids x hx).1) q hq
    unfold gap
    omega
theorem ins_inv {most : Nat} {L : List Bl} (h : Inv most L) (hl : L.length < most) {b : List UInt8} (h8 : b.length = 8) (hz : b ≠ zer) (hf : ∀ q ∈ L, q.2.2 ≠ b) : Inv most (insAt L (gap L) ((gap L : Int) + 1, 1, b)) where
  m60 := h.m60
  len := by rw [insAt_len (gap_le L)]; omega
  ord := by
    refine ord_append _ _ (ord_take L _ h.ord) ⟨fun a ha => ?_, ord_drop L _ h.ord⟩ fun a ha c hc => ?_
    · have := gapN_low L 1 h.ord (fun x hx => (h.ids x hx).1) a ha
      unfold gap; simp only; omega
    · obtain ⟨j, hj⟩ := List.mem_iff_getElem?.1 ha
      rw [List.getElem?_take] at hj
      split at hj
      · rename_i hlt
        have ea := gapN_at L 1 j a hlt hj
        rcases List.mem_cons.1 hc with rfl | hc
        · simp only; unfold gap at *; omega
        · have := gapN_low L 1 h.ord (fun x hx => (h.ids x hx).1) c hc
          unfold gap at *; omega
      · cases hj
  ids := fun a ha => by
    rcases mem_insAt.1 ha with rfl | ha
    · have := gap_le L
      have := h.m60
      exact ⟨by simp only; omega, by simp only; omega, by simp only; omega, h8, hz⟩
    · exact h.ids a ha
  one := fun a ha c hc e => by
    rcases mem_insAt.1 ha with rfl | ha
    · rcases mem_insAt.1 hc with rfl | hc
      · rfl
      · exact absurd e.symm (hf c hc)
    · rcases mem_insAt.1 hc with rfl | hc
      · exact absurd e (hf a ha)
      · exact h.one a ha c hc e
theorem ins_few {L : List Bl} {R : Int} {g : Nat} {i : Int} {b : List UInt8} (h : Few R L) (hR : 0 ≤ R) : Few (R + 1) (insAt L g (i, 1, b)) := fun a ha => by
  rcases mem_insAt.1 ha with rfl | ha
  · simp only; omega
  · have := h a ha; omega
end Go.Proofs.YtdmamanlclajjaaGreat
