/-
  A *Shelf in memory: its box, its row of buckets, each bucket in a block of its own; what stays when one bucket is changed.
-/
import Derived.Test.YtdmamanlclajjaaGreatDel
namespace Go.Proofs.YtdmamanlclajjaaGreat
open Go.ChangeShapes Go.WideShapes Go.ChangeAt Go.RowKit

theorem lt_of_block {w : World} {b : Nat} {o : Obj} (h : w.heap[b]? = some o) : b < w.heap.size := (Array.getElem?_eq_some_iff.1 h).1

/-- The shelf at block s: its buckets are at block B, from block b on; they have the items bs. -/
structure SObj (w : World) (b s B : Nat) (vs : List Value) (bs : List (List It)) : Prop where
  box : w.heap[s]? = some (.cells #[.slice (some ⟨B, 0, none⟩) vs.length vs.length] 94 (0, 0))
  row : w.heap[B]? = some (.cells vs.toArray 99 (0, 0))
  len : bs.length = vs.length
  n1 : 1 ≤ vs.length
  n2 : vs.length ≤ 100
  low : b ≤ B
  hb : b ≤ w.heap.size
  buk : ∀ (k : Nat) v l, vs[k]? = some v → bs[k]? = some l → Buk w b v l
  apart : ∀ (j k : Nat) u v g, j ≠ k → vs[j]? = some u → vs[k]? = some v → u.ownBlock = some g → v.ownBlock ≠ some g
  ord : ∀ l ∈ bs, Ord l ∧ ∀ p ∈ l, Fits p

/-- Nothing is changed but what F names. -/
structure Keep (F : Nat → Prop) (w w' : World) : Prop where
  os : w'.os = w.os
  tape : w'.tape = w.tape
  output : w'.output = w.output
  size : w.heap.size ≤ w'.heap.size
  block : ∀ k, k < w.heap.size → ¬ F k → w'.heap[k]? = w.heap[k]?
/-- F, and all that is new. -/
def Fr (F : Nat → Prop) (w : World) (k : Nat) : Prop := F k ∨ w.heap.size ≤ k

theorem Keep.of {F : Nat → Prop} {w w' : World} (h : Below w.heap.size w w') : Keep F w w' := ⟨h.os, h.tape, h.output, h.size, fun k hk _ => h.block k hk⟩
theorem Keep.mono {F G : Nat → Prop} {w w' : World} (h : Keep F w w') (hf : ∀ k, k < w.heap.size → F k → G k) : Keep G w w' := ⟨h.os, h.tape, h.output, h.size, fun k hk hn => h.block k hk fun e => hn (hf k hk e)⟩
theorem Keep.trans {F : Nat → Prop} {x y z : World} (h : Keep F x y) (k : Keep (Fr F x) y z) : Keep F x z :=
  ⟨k.os.trans h.os, k.tape.trans h.tape, k.output.trans h.output, Nat.le_trans h.size k.size, fun i hi hc => (k.block i (Nat.lt_of_lt_of_le hi h.size) (fun e => e.elim hc (fun e => by omega))).trans (h.block i hi hc)⟩
theorem Keep.below {F : Nat → Prop} {b : Nat} {w w' : World} (h : Keep F w w') (hb : b ≤ w.heap.size) (hF : ∀ k, k < b → ¬ F k) : Below b w w' :=
  ⟨h.os, h.tape, h.output, h.size, fun k hk => h.block k (by omega) (hF k hk)⟩
/-- The blocks of a shelf that are changed. -/
def Own (B : Nat) (vs : List Value) (k : Nat) : Prop := k = B ∨ ∃ v ∈ vs, v.ownBlock = some k

theorem Buk.stay {w w' : World} {b : Nat} {v : Value} {l : List It} (h : Buk w b v l) (hs : ∀ g, v.ownBlock = some g → w'.heap[g]? = w.heap[g]?) : Buk w' b v l := by
  refine ⟨h.1, ?_⟩
  rcases h.2 with h | ⟨g, cap, cur, hv, hb, hg, hr⟩
  · exact .inl h
  · refine .inr ⟨g, cap, cur, hv, hb, ?_, hr⟩
    rw [hs g (by rw [hv]; rfl)]; exact hg
theorem Buk.at {w : World} {b : Nat} {v : Value} {l : List It} (h : Buk w b v l) {g : Nat} (hg : v.ownBlock = some g) : b ≤ g ∧ ∃ cur, w.heap[g]? = some (.cells cur 104 (0, 0)) := by
  rcases h.2 with ⟨h, _⟩ | ⟨g', cap, cur, hv, hb, hgb, _⟩
  · rw [h] at hg; cases hg
  · rw [hv] at hg; cases hg; exact ⟨hb, cur, hgb⟩

theorem SObj.below {w w' : World} {b s B : Nat} {vs : List Value} {bs : List (List It)} (h : SObj w b s B vs bs) (hk : Below w.heap.size w w') : SObj w' b s B vs bs where
  box := by rw [hk.block s (lt_of_block h.box)]; exact h.box
  row := by rw [hk.block B (lt_of_block h.row)]; exact h.row
  len := h.len
  n1 := h.n1
  n2 := h.n2
  low := h.low
  hb := Nat.le_trans h.hb hk.size
  buk := fun k v l hv hl => (h.buk k v l hv hl).stay fun g hg => by
    obtain ⟨_, cur, hc⟩ := (h.buk k v l hv hl).at hg
    exact hk.block g (lt_of_block hc)
  apart := h.apart
  ord := h.ord

theorem SObj.bucket {w : World} {b s B : Nat} {vs : List Value} {bs : List (List It)} (h : SObj w b s B vs bs) {k : Nat} (hk : k < vs.length) :
    ∃ v l, vs[k]? = some v ∧ bs[k]? = some l ∧ Buk w b v l ∧ Ord l ∧ (∀ p ∈ l, Fits p) ∧ w.cell? ⟨B, k, none⟩ = some v ∧ w.frozen? ⟨B, k, none⟩ = false := by
  have h1 : vs[k]? = some vs[k] := List.getElem?_eq_getElem hk
  have hk' : k < bs.length := by rw [h.len]; exact hk
  have h2 : bs[k]? = some bs[k] := List.getElem?_eq_getElem hk'
  obtain ⟨o1, o2⟩ := h.ord bs[k] (List.mem_of_getElem? h2)
  refine ⟨vs[k], bs[k], h1, h2, h.buk k _ _ h1 h2, o1, o2, ?_, ?_⟩
  · simp [World.cell?, h.row]
  · simp [World.frozen?, h.row]
theorem SObj.head {w : World} {b s B : Nat} {vs : List Value} {bs : List (List It)} (h : SObj w b s B vs bs) : w.cell? ⟨s, 0, none⟩ = some (.slice (some ⟨B, 0, none⟩) vs.length vs.length) := by
  simp [World.cell?, h.box]

/-- One bucket is changed. -/
theorem SObj.put {w w' : World} {b s B : Nat} {vs : List Value} {bs : List (List It)} (h : SObj w b s B vs bs) {k : Nat} {v v' : Value} {l l' : List It} (hv : vs[k]? = some v) (hl : bs[k]? = some l)
    (hp : Put1 w w' b v v' l') (ho : Ord l' ∧ ∀ p ∈ l', Fits p) : SObj (w'.setCell ⟨B, k, none⟩ v') b s B (vs.set k v') (bs.set k l') ∧ Keep (Own B vs) w (w'.setCell ⟨B, k, none⟩ v') ∧ ∀ j, Own B (vs.set k v') j → Fr (Own B vs) w j := by
  obtain ⟨hb', hg, hn⟩ := hp
  have hkv := h.buk k v l hv hl
  have hk1 : k < vs.length := (List.getElem?_eq_some_iff.1 hv).1
  have hsize : (w'.setCell ⟨B, k, none⟩ v').heap.size = w'.heap.size := by simp [World.setCell]
  have hnB : some B ≠ v.ownBlock := fun e => by
    obtain ⟨_, cur, hc⟩ := hkv.at e.symm
    rw [h.row] at hc; cases hc
  have hnS : some s ≠ v.ownBlock := fun e => by
    obtain ⟨_, cur, hc⟩ := hkv.at e.symm
    rw [h.box] at hc; cases hc
  have hsB : s ≠ B := fun e => by
    have := h.box
    rw [e, h.row] at this
    simp at this
  have hrow : w'.heap[B]? = some (.cells vs.toArray 99 (0, 0)) := by rw [hg.block B (lt_of_block h.row) hnB]; exact h.row
  have hoth : ∀ j, j ≠ B → (w'.setCell ⟨B, k, none⟩ v').heap[j]? = w'.heap[j]? := fun j hj => Below.heap_setCell w' ⟨B, k, none⟩ v' j hj
  have hv'B : ∀ g, v'.ownBlock = some g → g ≠ B := fun g hg' e => by
    obtain ⟨_, cur, hc⟩ := hb'.at hg'
    rw [e, hrow] at hc; cases hc
  refine ⟨⟨?_, ?_, by simp [h.len], by simpa using h.n1, by simpa using h.n2, h.low, by rw [hsize]; exact Nat.le_trans h.hb hg.size, ?_, ?_, ?_⟩, ⟨hg.os, hg.tape, hg.output, by rw [hsize]; exact hg.size, ?_⟩, ?_⟩
  · rw [hoth s hsB, hg.block s (lt_of_block h.box) hnS, List.length_set]; exact h.box
  · simp [World.setCell, Array.getElem?_modify, hrow, List.setIfInBounds_toArray]
  · intro j u m hu hm
    by_cases e : j = k
    · subst e
      rw [List.getElem?_set_self hk1] at hu
      rw [List.getElem?_set_self (by rw [h.len]; exact hk1)] at hm
      cases hu; cases hm
      exact hb'.stay fun g hg' => hoth g (hv'B g hg')
    · rw [List.getElem?_set_ne (Ne.symm e)] at hu hm
      have hbu := h.buk j u m hu hm
      refine hbu.stay fun g hg' => ?_
      obtain ⟨_, cur, hc⟩ := hbu.at hg'
      rw [hoth g (fun e => by rw [e, h.row] at hc; cases hc), hg.block g (lt_of_block hc) (fun e' => h.apart j k u v g e hu hv hg' e'.symm)]
  · intro i j u u' g hij hu hu' hgu hgu'
    have key : ∀ (i : Nat) u, i ≠ k → vs[i]? = some u → u.ownBlock = some g → v'.ownBlock = some g → False := by
      intro i u hik hu h1 h2
      rcases hn g h2 with h3 | h3
      · exact h.apart i k u v g hik hu hv h1 h3
      · have hil : i < bs.length := by rw [h.len]; exact (List.getElem?_eq_some_iff.1 hu).1
        obtain ⟨_, cur, hc⟩ := (h.buk i u _ hu (List.getElem?_eq_getElem hil)).at h1
        have := lt_of_block hc
        omega
    by_cases e : i = k
    · subst e
      rw [List.getElem?_set_self hk1] at hu
      rw [List.getElem?_set_ne hij] at hu'
      cases hu
      exact key j u' (Ne.symm hij) hu' hgu' hgu
    · rw [List.getElem?_set_ne (Ne.symm e)] at hu
      by_cases e' : j = k
      · subst e'
        rw [List.getElem?_set_self hk1] at hu'
        cases hu'
        exact key i u hij hu hgu hgu'
      · rw [List.getElem?_set_ne (Ne.symm e')] at hu'
        exact h.apart i j u u' g hij hu hu' hgu hgu'
  · intro m hm
    rcases List.mem_or_eq_of_mem_set hm with hm | rfl
    · exact h.ord m hm
    · exact ho
  · intro j hj hc
    rw [hoth j (fun e => hc (.inl e))]
    exact hg.block j hj fun e => hc (.inr ⟨v, List.mem_of_getElem? hv, e.symm⟩)
  · rintro j (hj | ⟨u, hu, hj⟩)
    · exact .inl (.inl hj)
    · rcases List.mem_or_eq_of_mem_set hu with hu | rfl
      · exact .inl (.inr ⟨u, hu, hj⟩)
      · rcases hn j hj with h3 | h3
        · exact .inl (.inr ⟨v, List.mem_of_getElem? hv, h3⟩)
        · exact .inr h3
end Go.Proofs.YtdmamanlclajjaaGreat
