/-
  PoolOnce's blocks: what was put so far, and the pool; what the maps say of it; blocks that are dropped one by one.
-/
import Derived.Test.YtdmamanlclajjaaFullWalk
import Derived.Maps.RangeWalk
import Derived.Maps.OwnSet
import Derived.Maps.OwnOps
import Derived.Maps.StringElems
namespace Go.Proofs.Ytdmamanlclajjaa
open Go.ChangeShapes Go.WideShapes Go.ChangeAt Go.RowKit

theorem mem_bump2 : ∀ (L : List Bl) (i n : Int) (a : Bl), B.Ord L → (a ∈ bump L i n ↔ (a ∈ L ∧ a.1 ≠ i) ∨ ∃ q ∈ L, q.1 = i ∧ 0 < q.2.1 + n ∧ a = (q.1, q.2.1 + n, q.2.2))
  | [], i, n, a, _ => by simp [bump]
  | r :: L, i, n, a, ho => by
    constructor
    · intro h
      rcases mem_bump (r :: L) i n a h with ⟨h1, h2⟩ | h
      · exact .inl ⟨h1, h2 ho⟩
      · exact .inr h
    · rintro (⟨h1, h2⟩ | ⟨q, h1, h2, h3, h4⟩)
      · unfold bump
        rcases List.mem_cons.1 h1 with rfl | h1
        · rw [if_neg h2]; exact List.mem_cons_self
        · split
          · split
            · exact List.mem_cons_of_mem _ h1
            · exact h1
          · exact List.mem_cons_of_mem _ ((mem_bump2 L i n a ho.2).2 (.inl ⟨h1, h2⟩))
      · unfold bump
        rcases List.mem_cons.1 h1 with rfl | h1
        · rw [if_pos h2, if_pos h3, h4]; exact List.mem_cons_self
        · have := ho.1 q h1
          rw [if_neg (by omega)]
          exact List.mem_cons_of_mem _ ((mem_bump2 L i n a ho.2).2 (.inr ⟨q, h1, h2, h3, h4⟩))

/-- The pool L behind the blocks S. -/
structure On (S : List (List UInt8)) (L : List Bl) : Prop where
  inv : Inv 60 L
  len : L.length ≤ S.length
  s8 : ∀ b ∈ S, b.length = 8
  refs : ∀ q ∈ L, q.2.2 ∈ S ∧ q.2.1 = (S.count q.2.2 : Nat)
  all : ∀ b ∈ S, b ≠ zer → find L b ≠ 0
theorem On.nil (h : Inv 60 []) : On [] [] := ⟨h, Nat.le_refl _, (fun b hb => by cases hb), (fun b hb => by cases hb), (fun b hb => by cases hb)⟩
theorem On.few {S : List (List UInt8)} {L : List Bl} (h : On S L) (hS : S.length ≤ 1000) : Few 1000000 L := fun q hq => by
  have := (h.refs q hq).2
  have h2 := List.count_le_length (a := q.2.2) (l := S)
  omega
theorem find_zer {L : List Bl} (h : Inv 60 L) : find L zer = 0 := find_not fun q hq => (h.ids q hq).2.2.2.2
theorem find_mem {L : List Bl} (h : Inv 60 L) {b : List UInt8} (hf : find L b ≠ 0) : ∃ q ∈ L, q.1 = find L b ∧ q.2.2 = b ∧ sel L (find L b) = some q := by
  obtain ⟨q, h1, h2, h3⟩ := find_some L b hf
  exact ⟨q, h1, h2, h3, by rw [← h2]; exact sel_of h.ord h1⟩
theorem find_inj {L : List Bl} (h : Inv 60 L) {b c : List UInt8} (hf : find L b ≠ 0) (e : find L b = find L c) : b = c := by
  obtain ⟨q, h1, h2, h3, _⟩ := find_mem h hf
  obtain ⟨r, k1, k2, k3, _⟩ := find_mem h (b := c) (by rw [← e]; exact hf)
  rw [← h3, ← k3, ord_inj L h.ord q h1 r k1 (by rw [h2, k2, e])]
theorem find_pos {L : List Bl} (h : Inv 60 L) (b : List UInt8) : 0 ≤ find L b ∧ find L b ≤ 60 := by
  by_cases hf : find L b = 0
  · omega
  · obtain ⟨q, h1, h2, _⟩ := find_mem h hf
    have := h.ids q h1
    omega
/-- By what is in it, what is found. -/
theorem find_eq {L M : List Bl} (hL : Inv 60 L) (hM : Inv 60 M) (b : List UInt8) (h : ∀ q : Bl, q.2.2 = b → (∃ n, (q.1, n, q.2.2) ∈ L) → ∃ n, (q.1, n, q.2.2) ∈ M) (h' : ∀ q : Bl, q.2.2 = b → (∃ n, (q.1, n, q.2.2) ∈ M) → ∃ n, (q.1, n, q.2.2) ∈ L) : find L b = find M b := by
  by_cases hf : find L b = 0
  · rw [hf]
    refine (find_not fun q hq e => ?_).symm
    obtain ⟨n, hn⟩ := h' q e ⟨q.2.1, hq⟩
    exact find_none L b (fun x hx => by have := hL.ids x hx; omega) hf _ hn e
  · obtain ⟨q, h1, h2, h3, _⟩ := find_mem hL hf
    obtain ⟨n, hn⟩ := h q h3 ⟨q.2.1, h1⟩
    have := find_of hM hn
    simp only [h3] at this
    rw [this, h2]

theorem On.put {S : List (List UInt8)} {L : List Bl} (h : On S L) (hS : S.length < 60) {b : List UInt8} (h8 : b.length = 8) :
    (putL 60 L b).2.2 = 0 ∧ On (S ++ [b]) (putL 60 L b).1 ∧ (putL 60 L b).2.1 = find (putL 60 L b).1 b ∧ (b ∈ S → find L b = (putL 60 L b).2.1) ∧ ((putL 60 L b).2.1 = 0 ↔ b = zer) ∧ ∀ c, c ≠ b → find (putL 60 L b).1 c = find L c := by
  have hs8 : ∀ c ∈ S ++ [b], c.length = 8 := fun c hc => by
    rcases List.mem_append.1 hc with hc | hc
    · exact h.s8 c hc
    · simp at hc; rw [hc]; exact h8
  by_cases hz : b = zer
  · subst hz
    rw [put_zeros]
    have hc : ∀ q ∈ L, (S ++ [zer]).count q.2.2 = S.count q.2.2 := fun q hq => by
      rw [List.count_append, List.count_eq_zero_of_not_mem (l := [zer]) (by simpa using (h.inv.ids q hq).2.2.2.2)]; omega
    refine ⟨rfl, ⟨h.inv, by have := h.len; simp; omega, hs8, fun q hq => ⟨List.mem_append_left _ (h.refs q hq).1, by rw [hc q hq]; exact (h.refs q hq).2⟩, fun c hc hn => ?_⟩, (find_zer h.inv).symm, fun _ => find_zer h.inv, by simp, fun c _ => rfl⟩
    rcases List.mem_append.1 hc with hc | hc
    · exact h.all c hc hn
    · simp at hc; exact absurd hc hn
  · by_cases hf : find L b = 0
    · have hno : ∀ q ∈ L, q.2.2 ≠ b := find_none L b (fun x hx => by have := h.inv.ids x hx; omega) hf
      have hnS : b ∉ S := fun e => h.all b e hz hf
      have hlen := h.len
      have e : putL 60 L b = (insAt L (gap L) ((gap L : Int) + 1, 1, b), (gap L : Int) + 1, 0) := by
        unfold putL; rw [if_neg (by omega), if_neg hz, if_neg (by simp [hf]), if_neg (by omega)]
      rw [e]
      have hI := ins_inv h.inv (by omega) h8 hz hno
      have hfb : find (insAt L (gap L) ((gap L : Int) + 1, 1, b)) b = (gap L : Int) + 1 := by
        have := find_of hI (q := ((gap L : Int) + 1, 1, b)) (mem_insAt.2 (.inl rfl))
        exact this
      have hfc : ∀ c, c ≠ b → find (insAt L (gap L) ((gap L : Int) + 1, 1, b)) c = find L c := fun c hc => by
        refine find_eq hI h.inv c (fun q hq ⟨n, hn⟩ => ?_) (fun q hq ⟨n, hn⟩ => ⟨n, mem_insAt.2 (.inr hn)⟩)
        rcases mem_insAt.1 hn with e | hn
        · exact absurd ((congrArg (fun x => x.2.2) e : q.2.2 = b)) (by rw [hq]; exact hc)
        · exact ⟨n, hn⟩
      refine ⟨rfl, ⟨hI, by rw [insAt_len (gap_le L)]; simp; omega, hs8, fun q hq => ?_, fun c hc hn => ?_⟩, hfb.symm, fun e => absurd e hnS, ?_, hfc⟩
      · rcases mem_insAt.1 hq with rfl | hq
        · refine ⟨by simp, ?_⟩
          simp only [List.count_append, List.count_eq_zero_of_not_mem hnS]
          simp
        · have := h.refs q hq
          refine ⟨List.mem_append_left _ this.1, ?_⟩
          rw [List.count_append, List.count_eq_zero_of_not_mem (l := [b]) (by simpa using hno q hq)]
          exact this.2
      · by_cases ec : c = b
        · subst ec; rw [hfb]; omega
        · rw [hfc c ec]
          rcases List.mem_append.1 hc with hc | hc
          · exact h.all c hc hn
          · simp at hc; exact absurd hc ec
      · simp only
        constructor
        · intro e; omega
        · intro e; exact absurd e hz
    · have e : putL 60 L b = (bump L (find L b) 1, find L b, 0) := by
        unfold putL; rw [if_neg (by omega), if_neg hz, if_pos hf]
      rw [e]
      obtain ⟨r, hr1, hr2, hr3, _⟩ := find_mem h.inv hf
      have hI := bump_inv h.inv (find L b) 1
      have hin : b ∈ S := by rw [← hr3]; exact (h.refs r hr1).1
      have hfc : ∀ c, find (bump L (find L b) 1) c = find L c := fun c => by
        refine find_eq hI h.inv c (fun q hq ⟨n, hn⟩ => ?_) (fun q hq ⟨n, hn⟩ => ?_)
        · rcases (mem_bump2 L _ 1 _ h.inv.ord).1 hn with ⟨h1, _⟩ | ⟨a, h1, h2, _, h4⟩
          · exact ⟨n, h1⟩
          · have e1 := congrArg Prod.fst h4
            have e2 := congrArg (fun x => x.2.2) h4
            simp only at e1 e2
            exact ⟨a.2.1, by rw [e1, e2]; exact h1⟩
        · by_cases en : q.1 = find L b
          · refine ⟨n + 1, (mem_bump2 L _ 1 _ h.inv.ord).2 (.inr ⟨_, hn, en, ?_, rfl⟩)⟩
            have := h.inv.ids _ hn
            simp only at this ⊢
            omega
          · exact ⟨n, (mem_bump2 L _ 1 _ h.inv.ord).2 (.inl ⟨hn, en⟩)⟩
      refine ⟨rfl, ⟨hI, by have := bump_len L (find L b) 1; have := h.len; simp; omega, hs8, fun q hq => ?_, fun c hc hn => ?_⟩, (hfc b).symm, fun _ => rfl, by constructor; (· exact fun e => absurd e hf); (· exact fun e => absurd e hz), fun c _ => hfc c⟩
      · rcases (mem_bump2 L _ 1 _ h.inv.ord).1 hq with ⟨h1, h2⟩ | ⟨a, h1, h2, _, rfl⟩
        · have := h.refs q h1
          refine ⟨List.mem_append_left _ this.1, ?_⟩
          have hb : q.2.2 ≠ b := fun e => h2 (by have := find_of h.inv h1; rw [e] at this; exact this.symm)
          rw [List.count_append, List.count_eq_zero_of_not_mem (l := [b]) (by simpa using hb)]
          exact this.2
        · obtain rfl := ord_inj L h.inv.ord a h1 r hr1 (by rw [h2, hr2])
          have := h.refs a h1
          refine ⟨List.mem_append_left _ this.1, ?_⟩
          simp only [List.count_append]
          rw [this.2, hr3]
          simp
      · rw [hfc c]
        rcases List.mem_append.1 hc with hc | hc
        · exact h.all c hc hn
        · simp at hc; rw [hc]; exact hf

/-! ### the maps -/
/-- A map from blocks to their ids. -/
structure Ids (D : DataW Unit) (S : List (List UInt8)) (L : List Bl) : Prop where
  im : Maps.IsMap D
  has : ∀ b, Maps.has D (.string b) = true ↔ b ∈ S
  at_ : ∀ b ∈ S, ∀ z, D.atKey (.string b) z = .lit (.int .i64 (find L b))
/-- A map from blocks to how often they were put. -/
structure Cnt (D : DataW Unit) (S : List (List UInt8)) : Prop where
  im : Maps.IsMap D
  at_ : ∀ b, D.atKey (.string b) (.lit (.int .i64 0)) = .lit (.int .i64 (S.count b : Nat))
theorem strkey (b : List UInt8) : WideAt.IsKeyLit (.string b) := by simp [WideAt.IsKeyLit]
theorem Ids.nil (L : List Bl) : Ids (.map []) [] L := ⟨Maps.isMap_empty, by simp [Maps.has], fun b hb => by cases hb⟩
theorem Cnt.nil : Cnt (.map []) [] := ⟨Maps.isMap_empty, fun b => by simp [DataW.atKey]⟩
theorem Ids.put {D : DataW Unit} {S : List (List UInt8)} {L M : List Bl} {b : List UInt8} {i : Int} (h : Ids D S L) (hi : i = find M b) (hc : ∀ c, c ≠ b → find M c = find L c) : Ids (D.put (.string b) (.lit (.int .i64 i))) (S ++ [b]) M where
  im := h.im.put _ _
  has := fun c => by
    by_cases e : c = b
    · subst e; simp [Maps.has_put_same h.im (strkey c)]
    · rw [Maps.has_put_other (fun h => e (by injection h)), h.has c]; simp [e]
  at_ := fun c hcm z => by
    by_cases e : c = b
    · subst e; rw [Maps.atKey_put_same h.im (strkey c), hi]
    · rw [Maps.atKey_put_other (fun h => e (by injection h)), hc c e]
      rcases List.mem_append.1 hcm with hcm | hcm
      · exact h.at_ c hcm z
      · simp at hcm; exact absurd hcm e
theorem Cnt.put {D : DataW Unit} {S : List (List UInt8)} {b : List UInt8} {x : Int} (h : Cnt D S) (hx : x = (S.count b : Nat) + 1) : Cnt (D.put (.string b) (.lit (.int .i64 x))) (S ++ [b]) where
  im := h.im.put _ _
  at_ := fun c => by
    by_cases e : c = b
    · subst e; rw [Maps.atKey_put_same h.im (strkey c), hx, List.count_append]; simp
    · rw [Maps.atKey_put_other (fun h => e (by injection h)), h.at_ c, List.count_append, List.count_eq_zero_of_not_mem (l := [b]) (by simpa using e)]; simp
/-- The ids that were seen: of blocks that are no longer to come. -/
structure Seen (D : DataW Unit) (L : List Bl) (left : Lit → Bool) : Prop where
  im : Maps.IsMap D
  at_ : ∀ i : Int, D.atKey (.int .i64 i) (.lit (.bool false)) = .lit (.bool true) → ∃ b, left (.string b) = false ∧ find L b = i
theorem Seen.nil (L : List Bl) (left : Lit → Bool) : Seen (.map []) L left := ⟨Maps.isMap_empty, fun i h => by simp [DataW.atKey] at h⟩
theorem Seen.less {D : DataW Unit} {L : List Bl} {left left' : Lit → Bool} (h : Seen D L left) (hl : ∀ k, left k = false → left' k = false) : Seen D L left' := ⟨h.im, fun i hi => by obtain ⟨b, h1, h2⟩ := h.at_ i hi; exact ⟨b, hl _ h1, h2⟩⟩
theorem Seen.put {D : DataW Unit} {L : List Bl} {left : Lit → Bool} (h : Seen D L left) {b : List UInt8} (hb : left (.string b) = false) : Seen (D.put (.int .i64 (find L b)) (.lit (.bool true))) L left where
  im := h.im.put _ _
  at_ := fun i hi => by
    by_cases e : i = find L b
    · exact ⟨b, hb, e.symm⟩
    · rw [Maps.atKey_put_other (fun h => e (by injection h))] at hi; exact h.at_ i hi
theorem Seen.not {D : DataW Unit} {L : List Bl} {left : Lit → Bool} (h : Seen D L left) (hI : Inv 60 L) {b : List UInt8} (hb : left (.string b) = true) (hf : find L b ≠ 0) : D.atKey (.int .i64 (find L b)) (.lit (.bool false)) ≠ .lit (.bool true) := fun e => by
  obtain ⟨c, h1, h2⟩ := h.at_ _ e
  have := find_inj hI hf h2.symm
  subst this
  rw [hb] at h1; cases h1

/-! ### dropped -/
/-- What is left of L. -/
structure Gone (L : List Bl) (left : Lit → Bool) (M : List Bl) : Prop where
  inv : Inv 60 M
  mem : ∀ q, q ∈ M ↔ q ∈ L ∧ left (.string q.2.2) = true
theorem Gone.few {S : List (List UInt8)} {L M : List Bl} {left : Lit → Bool} (h : Gone L left M) (ho : On S L) (hS : S.length ≤ 1000) : Few 1000000 M := fun q hq => ho.few hS q ((h.mem q).1 hq).1
theorem Gone.all {S : List (List UInt8)} {L : List Bl} {D : DataW Unit} (h : On S L) (hD : Ids D S L) : Gone L (Maps.has D) L := ⟨h.inv, fun q => ⟨fun hq => ⟨hq, (hD.has _).2 (h.refs q hq).1⟩, fun hq => hq.1⟩⟩
theorem Gone.none {L M : List Bl} {left : Lit → Bool} (h : Gone L left M) (hl : ∀ k, left k = false) : M = [] := List.eq_nil_iff_forall_not_mem.2 fun q hq => by
  have := ((h.mem q).1 hq).2
  rw [hl] at this; cases this
/-- One block, dropped k times out of c. -/
structure Dn (M : List Bl) (i c : Int) (b : List UInt8) (k : Nat) (N : List Bl) : Prop where
  inv : Inv 60 N
  mem : ∀ q, q ∈ N ↔ (q ∈ M ∧ q.1 ≠ i) ∨ ((k : Int) < c ∧ q = (i, c - k, b))
theorem Dn.zero {M : List Bl} (hI : Inv 60 M) {r : Bl} (hr : r ∈ M) : Dn M r.1 r.2.1 r.2.2 0 M := ⟨hI, fun q => by
  have := hI.ids r hr
  constructor
  · intro hq
    by_cases e : q.1 = r.1
    · right
      rw [ord_inj M hI.ord q hq r hr e]
      exact ⟨by omega, by simp⟩
    · exact .inl ⟨hq, e⟩
  · rintro (h | ⟨_, rfl⟩)
    · exact h.1
    · simpa using hr⟩
theorem Dn.sel {M N : List Bl} {i c : Int} {b : List UInt8} {k : Nat} (h : Dn M i c b k N) (hk : (k : Int) < c) : sel N i = some (i, c - k, b) :=
  sel_of h.inv.ord (q := (i, c - k, b)) ((h.mem _).2 (.inr ⟨hk, rfl⟩))
theorem Dn.step {M N : List Bl} {i c : Int} {b : List UInt8} {k : Nat} (h : Dn M i c b k N) (hk : (k : Int) < c) (hi : i ≠ 0) : holdL N i (-1) = (bump N i (-1), 0) ∧ Dn M i c b (k + 1) (bump N i (-1)) := by
  refine ⟨by unfold holdL; rw [if_neg hi, h.sel hk], bump_inv h.inv _ _, fun q => ?_⟩
  rw [mem_bump2 N i (-1) q h.inv.ord]
  constructor
  · rintro (⟨h1, h2⟩ | ⟨a, h1, h2, h3, rfl⟩)
    · rcases (h.mem q).1 h1 with h1 | ⟨_, rfl⟩
      · exact .inl h1
      · exact absurd rfl h2
    · rcases (h.mem a).1 h1 with h1 | ⟨_, rfl⟩
      · exact absurd h2 h1.2
      · right
        simp only at h3 ⊢
        exact ⟨by omega, by congr 2; omega⟩
  · rintro (h1 | ⟨h1, rfl⟩)
    · exact .inl ⟨(h.mem q).2 (.inl h1), h1.2⟩
    · refine .inr ⟨(i, c - k, b), (h.mem _).2 (.inr ⟨hk, rfl⟩), rfl, by simp only; omega, ?_⟩
      simp only
      congr 2; omega
theorem Dn.done {M N : List Bl} {i c : Int} {b : List UInt8} {k : Nat} (h : Dn M i c b k N) (hk : ¬ (k : Int) < c) (hi : i ≠ 0) : holdL N i (-1) = (N, 2) := by
  unfold holdL
  rw [if_neg hi]
  cases hs : Go.Proofs.Ytdmamanlclajjaa.sel N i with
  | none => rfl
  | some q =>
    obtain ⟨h1, h2⟩ := sel_mem N i q hs
    rcases (h.mem q).1 h1 with h1 | h1
    · exact absurd h2 h1.2
    · exact absurd h1.1 hk
theorem Dn.few {M N : List Bl} {i c : Int} {b : List UInt8} {k : Nat} (h : Dn M i c b k N) (hM : Few 1000000 M) (hc : c ≤ 1000000) : Few 1000000 N := fun q hq => by
  rcases (h.mem q).1 hq with h1 | ⟨_, rfl⟩
  · exact hM q h1.1
  · simp only; omega
theorem Dn.find {M N : List Bl} {r : Bl} {c : Int} {k : Nat} (hM : Inv 60 M) (hr : r ∈ M) (h : Dn M r.1 c r.2.2 k N) (hk : ¬ (k : Int) < c) : find N r.2.2 = 0 := find_not fun q hq e => by
  rcases (h.mem q).1 hq with h1 | h1
  · exact h1.2 (by rw [hM.one q h1.1 r hr e])
  · exact hk h1.1
theorem same_str {b : List UInt8} {k : Lit} : k.sameKey (.string b) = true ↔ k = .string b := ⟨WideAt.sameKey_eq, fun e => by rw [e]; exact WideAt.sameKey_self (strkey b)⟩
theorem Gone.step {L M N : List Bl} {left : Lit → Bool} {r : Bl} {c : Int} {k : Nat} (h : Gone L left M) (hL : Inv 60 L) (hr : r ∈ L) (hd : Dn M r.1 c r.2.2 k N) (hk : ¬ (k : Int) < c) : Gone L (fun z => left z && !z.sameKey (.string r.2.2)) N := ⟨hd.inv, fun q => by
  rw [hd.mem q, h.mem q]
  constructor
  · rintro (⟨⟨h1, h2⟩, h3⟩ | h1)
    · refine ⟨h1, ?_⟩
      simp only [h2, Bool.true_and, Bool.not_eq_true']
      cases e : (Lit.string q.2.2).sameKey (.string r.2.2)
      · rfl
      · have e' := same_str.1 e
        injection e' with e'
        exact absurd (by rw [hL.one q h1 r hr e']) h3
    · exact absurd h1.1 hk
  · rintro ⟨h1, h2⟩
    simp only [Bool.and_eq_true, Bool.not_eq_true'] at h2
    refine .inl ⟨⟨h1, h2.1⟩, fun e => ?_⟩
    rw [ord_inj L hL.ord q h1 r hr e, WideAt.sameKey_self (strkey _)] at h2
    cases h2.2⟩
theorem Gone.zero {L M : List Bl} {left : Lit → Bool} (h : Gone L left M) {b : List UInt8} (hb : ∀ q ∈ L, q.2.2 ≠ b) : Gone L (fun z => left z && !z.sameKey (.string b)) M := ⟨h.inv, fun q => by
  rw [h.mem q]
  constructor
  · rintro ⟨h1, h2⟩
    refine ⟨h1, ?_⟩
    simp only [h2, Bool.true_and, Bool.not_eq_true']
    cases e : (Lit.string q.2.2).sameKey (.string b)
    · rfl
    · have e' := same_str.1 e
      injection e' with e'
      exact absurd e' (hb q h1)
  · rintro ⟨h1, h2⟩
    simp only [Bool.and_eq_true] at h2
    exact ⟨h1, h2.1⟩⟩

/-! ### memory -/
/-- A pool, and blocks (maps and what walks them) that are not its own. -/
structure Kit (w : World) (b0 p : Nat) (F : Nat → Prop) (L : List Bl) (ms : List Nat) : Prop where
  pl : Pl w F p 60 L
  lo : ∀ k, F k → b0 ≤ k
  out : ∀ m ∈ ms, ¬ F m ∧ b0 ≤ m ∧ m < w.heap.size
theorem Keep.low {F : Nat → Prop} {w w' : World} {b0 : Nat} (h : Keep F w w') (hF : ∀ k, F k → b0 ≤ k) (hb : b0 ≤ w.heap.size) : Below b0 w w' :=
  ⟨h.os, h.tape, h.output, h.size, fun k hk => h.block k (by omega) (fun e => by have := hF k e; omega)⟩
theorem Kit.call {w w' : World} {b0 p : Nat} {F : Nat → Prop} {L L' : List Bl} {ms : List Nat} (h : Kit w b0 p F L ms) (hb : b0 ≤ w.heap.size) (h1 : Pl w' (Fr F w) p 60 L') (k1 : Keep F w w') : Kit w' b0 p (Fr F w) L' ms ∧ Below b0 w w' := by
  refine ⟨⟨h1, fun k hk => ?_, fun m hm => ?_⟩, k1.low h.lo hb⟩
  · rcases hk with hk | hk
    · exact h.lo k hk
    · omega
  · obtain ⟨a, b, c⟩ := h.out m hm
    refine ⟨?_, b, Nat.lt_of_lt_of_le c k1.size⟩
    rintro (e | e)
    · exact a e
    · omega
theorem Kit.below {w w' : World} {b0 p : Nat} {F : Nat → Prop} {L : List Bl} {ms : List Nat} (h : Kit w b0 p F L ms) (hk : Below w.heap.size w w') : Kit w' b0 p F L ms :=
  ⟨h.pl.below hk, h.lo, fun m hm => by obtain ⟨a, b, c⟩ := h.out m hm; exact ⟨a, b, Nat.lt_of_lt_of_le c hk.size⟩⟩
theorem Keep.grown {w w' : World} {m : Nat} (h : w.grownBy w' (some m)) : Keep (fun k => k = m) w w' := ⟨h.os, h.tape, h.output, h.size, fun k hk hn => h.block k hk (fun e => hn (by injection e))⟩
theorem Kit.upd {w w' : World} {b0 p m : Nat} {F : Nat → Prop} {L : List Bl} {ms : List Nat} (h : Kit w b0 p F L ms) (hm : m ∈ ms) (hb : b0 ≤ w.heap.size) (hg : w.grownBy w' (some m)) : Kit w' b0 p F L ms ∧ Below b0 w w' := by
  obtain ⟨a, b, c⟩ := h.out m hm
  refine ⟨⟨h.pl.keep (Keep.grown hg) (fun k _ hf e => a (by rw [← e]; exact hf)), h.lo, fun m' hm' => ?_⟩, (Keep.grown hg).low (fun k e => by rw [e]; exact b) hb⟩
  obtain ⟨a', b', c'⟩ := h.out m' hm'
  exact ⟨a', b', Nat.lt_of_lt_of_le c' hg.size⟩
theorem Kit.made {w w' : World} {b0 p : Nat} {F : Nat → Prop} {L : List Bl} {ms : List Nat} (h : Kit w b0 p F L ms) (hb : b0 ≤ w.heap.size) (hg : w.grownBy w' none) (hs : w'.heap.size = w.heap.size + 1) :
    Kit w' b0 p (fun k => F k ∧ k < w.heap.size) L (w.heap.size :: ms) := by
  have hB : Below w.heap.size w w' := ⟨hg.os, hg.tape, hg.output, hg.size, fun k hk => hg.block k hk (by simp)⟩
  refine ⟨h.pl.fit.below hB, fun k hk => h.lo k hk.1, fun m hm => ?_⟩
  rcases List.mem_cons.1 hm with rfl | hm
  · exact ⟨fun e => Nat.lt_irrefl _ e.2, hb, by omega⟩
  · obtain ⟨a, b, c⟩ := h.out m hm
    exact ⟨fun e => a e.1, b, by omega⟩
theorem own_keep {w w' : World} {F : Nat → Prop} {P : Program} {k : TypeId} {R : Value → Option (DataW Unit × List MemPlace)} {m n : Nat} {D : DataW Unit} (h : w.ownsMap P k R m n D) (hk : Keep F w w') (hn : ¬ F m) : w'.ownsMap P k R m n D := by
  have hl := h.lt
  obtain ⟨es, clock, h1, h2⟩ := h
  exact ⟨es, clock, (hk.block m hl hn).trans h1, h2⟩
theorem rng_keep {w w' : World} {F : Nat → Prop} {P : Program} {k : TypeId} {R : Value → Option (DataW Unit × List MemPlace)} {m r n cnt : Nat} {D : DataW Unit} {left : Lit → Bool} (h : w.ranges P k R m r n D left cnt) (hk : Keep F w w') (hn : ¬ F m) (hr : ¬ F r) : w'.ranges P k R m r n D left cnt := by
  have hl := h.owns.lt
  have h2 := h.lt
  obtain ⟨es, clock, since, seen, c0, hb, f, hs, hD, hr', rest⟩ := h
  exact ⟨es, clock, since, seen, c0, (hk.block m hl hn).trans hb, f, hs, hD, (hk.block r h2 hr).trans hr', rest⟩

theorem keyed9 : Maps.Keyed Try.prog 9 := Maps.string_keyed Try.underlying9
theorem keyed3 : Maps.Keyed Try.prog 3 := Maps.int_keyed Try.underlying3
theorem key_str (b : List UInt8) (hb : b.length ≤ 1000) : keyOf Try.prog 9 (.string (str b)) = some (.string b) := by
  have h : (str b).size ≤ maxLen := by rw [str_size]; unfold maxLen; omega
  simp [keyOf, Try.underlying9, mapKey, h]
  rfl
end Go.Proofs.Ytdmamanlclajjaa
