/-
  A Set in memory, beside volumes and the Book.
-/
import Derived.Test.YtbebgogjpajghaaSetKit
import Derived.Test.YtbebgogjpajghaaApart
import Derived.Test.YtbebgogjpajghaaCopiesWalk
namespace Go.Proofs.Ytbebgogjpajghaa
open Go.ChangeShapes Go.WideShapes Go.ChangeAt Go.RowKit

/-- A Set in memory. -/
def Arr (w : World) (X : Nat) (ps : List Sp) : Prop := (∃ C : Array Value, w.heap[X]? = some (.cells C 34 (0, 0)) ∧ C.size = 64) ∧ w.rangeAt X 0 (bv (bitsOf ps))

theorem Arr.lt {w : World} {X : Nat} {ps : List Sp} (h : Arr w X ps) : X < w.heap.size := by
  obtain ⟨⟨C, hC, _⟩, _⟩ := h
  exact lt_of_block hC
theorem range_same {w w' : World} {X o : Nat} {cs : List Value} (h : w.rangeAt X o cs) (e : w'.heap[X]? = w.heap[X]?) : w'.rangeAt X o cs := fun j v hv => by
  rw [World.cell?_of_block (w := w) (a := ⟨X, o + j, none⟩) e]; exact h j v hv
theorem Arr.same {w w' : World} {X : Nat} {ps : List Sp} (h : Arr w X ps) (e : w'.heap[X]? = w.heap[X]?) : Arr w' X ps := by
  obtain ⟨⟨C, hC, hs⟩, hr⟩ := h
  exact ⟨⟨C, by rw [e]; exact hC, hs⟩, range_same hr e⟩
theorem Arr.below {w w' : World} {X : Nat} {ps : List Sp} (h : Arr w X ps) (hb : Below w.heap.size w w') : Arr w' X ps := h.same (hb.block X h.lt)
theorem Arr.but {w w' : World} {X R : Nat} {ps qs : List Sp} (h : Arr w X ps) (hr : RObj w R qs) (hb : But R w w') : Arr w' X ps := by
  refine h.same (hb.block X h.lt (fun e => ?_))
  obtain ⟨⟨C, hC, _⟩, _⟩ := h
  obtain ⟨v, hv, _⟩ := hr
  rw [e, hv] at hC; cases hC
theorem Arr.stay {w w' : World} {X : Nat} {ps : List Sp} (h : Arr w X ps) (hs : Stay TN w w') : Arr w' X ps := by
  obtain ⟨⟨C, hC, hz⟩, hr⟩ := id h
  exact h.same (by rw [hs.block X C 34 _ hC TN30, hC])
theorem Arr.there {w : World} {X : Nat} {ps : List Sp} (h : Arr w X ps) : w.there X 0 64 := by
  obtain ⟨⟨C, hC, hs⟩, _⟩ := h
  intro j hj
  rw [Nat.zero_add]
  constructor
  · simp [World.cell?, hC, hs, hj]
  · simp [World.frozen?, hC]

theorem setCells_block (b : Nat) : ∀ (vs : List Value) (o : Nat) (w : World) (C : Array Value) (t : TypeId) (fz : Nat × Nat), w.heap[b]? = some (.cells C t fz) → ∃ C', (w.setCells b o vs).heap[b]? = some (.cells C' t fz) ∧ C'.size = C.size
  | [], _, _, C, _, _, h => ⟨C, h, rfl⟩
  | v :: r, o, w, C, t, fz, h => by
    have h1 : (w.setCell ⟨b, o, none⟩ v).heap[b]? = some (.cells (C.setIfInBounds o v) t fz) := by simp [World.setCell, Array.getElem?_modify, h]
    obtain ⟨C', h2, h3⟩ := setCells_block b r (o + 1) (w.setCell ⟨b, o, none⟩ v) _ t fz h1
    exact ⟨C', h2, by rw [h3]; simp⟩
theorem setCells_far (b : Nat) : ∀ (vs : List Value) (o : Nat) (w : World) (k : Nat), k ≠ b → (w.setCells b o vs).heap[k]? = w.heap[k]?
  | [], _, _, _, _ => rfl
  | v :: r, o, w, k, h => by
    show ((w.setCell ⟨b, o, none⟩ v).setCells b (o + 1) r).heap[k]? = _
    rw [setCells_far b r (o + 1) _ k h]
    exact Below.heap_setCell w ⟨b, o, none⟩ v k h

/-- Another set takes its place. -/
theorem Arr.set {w : World} {X : Nat} {ps : List Sp} (h : Arr w X ps) (qs : List Sp) : Arr (w.setCells X 0 (bv (bitsOf qs))) X qs := by
  have ht := h.there
  obtain ⟨⟨C, hC, hs⟩, _⟩ := h
  obtain ⟨C', h1, h2⟩ := setCells_block X (bv (bitsOf qs)) 0 w C 34 (0, 0) hC
  exact ⟨⟨C', h1, by omega⟩, World.rangeAt_setCells_same _ _ _ _ (by rw [(bv_facts qs).1]; exact ht)⟩
theorem Arr.new (w : World) (qs : List Sp) (C : Array Value) (hC : C.size = 64) : Arr ((w.alloc (.cells C 34)).setCells w.heap.size 0 (bv (bitsOf qs))) w.heap.size qs := by
  obtain ⟨C', h1, h2⟩ := setCells_block w.heap.size (bv (bitsOf qs)) 0 (w.alloc (.cells C 34)) C 34 (0, 0) (by have := heap_alloc_new w (.cells C 34); simpa using this)
  exact ⟨⟨C', h1, by omega⟩, (set_facts w qs C hC).1⟩

/-- All blocks but X stay behind a store of a Set. -/
theorem set_but (w : World) (X : Nat) (vs : List Value) : But X w (w.setCells X 0 vs) := by
  have hb : Below 0 w (w.setCells X 0 vs) := below_setCells _ _ _ _ (Below.refl 0 w) (Nat.zero_le _)
  exact ⟨hb.os, hb.tape, hb.output, hb.size, fun k _ hk => setCells_far X vs 0 w k hk⟩

/-- What stays when all is kept but a Set's block. -/
theorem RObj.butArr {w w' : World} {R X : Nat} {ps qs : List Sp} (h : RObj w R ps) (ha : Arr w X qs) (hb : But X w w') : RObj w' R ps := by
  obtain ⟨⟨C, hC, _⟩, _⟩ := ha
  exact h.stay (T := fun e => e ≠ 34) (Stay.but hb hC (by simp)) (by decide) (by decide)
theorem Kept.butArr {w w' : World} {K base X : Nat} {es : List Ent} {qs : List Sp} (h : Kept w K base es) (ha : Arr w X qs) (hb : But X w w') : Kept w' K base es := by
  obtain ⟨⟨C, hC, _⟩, _⟩ := ha
  exact h.stay (Stay.but hb hC notTB30)
theorem Cells.butArr {w w' : World} {g o X : Nat} {l : List Sp} (h : Cells w g o l) (hg : g < w.heap.size) (hne : g ≠ X) (hb : But X w w') : Cells w' g o l := fun i p hp => by
  have e0 : w'.heap[g]? = w.heap[g]? := hb.block g hg hne
  rw [World.cell?_of_block (w := w) (a := ⟨g, o + i * 2, none⟩) e0, World.cell?_of_block (w := w) (a := ⟨g, o + i * 2 + 1, none⟩) e0]
  exact h i p hp
theorem Box.same {w w' : World} {H : Nat} {x y : Value} (h : Box w H x y) (e : w'.heap[H]? = w.heap[H]?) : Box w' H x y :=
  ⟨by rw [World.cell?_of_block (w := w) (a := ⟨H, 0, none⟩) e]; exact h.1, by rw [World.cell?_of_block (w := w) (a := ⟨H, 1, none⟩) e]; exact h.2.1, by rw [World.frozen?_of_block (w := w) (a := ⟨H, 0, none⟩) e]; exact h.2.2.1, by rw [World.frozen?_of_block (w := w) (a := ⟨H, 1, none⟩) e]; exact h.2.2.2⟩
theorem Box.butAt {w w' : World} {H X : Nat} {x y : Value} (h : Box w H x y) (hb : But X w w') (hne : H ≠ X) : Box w' H x y := h.same (hb.block H h.lt hne)

theorem kept_fresh {w : World} {K base : Nat} {es : List Ent} (h : Kept w K base es) : ∀ e ∈ es, ∀ b, e.1.ownBlock = some b → b < w.heap.size := by
  obtain ⟨sv, wv, cs, hs⟩ := h
  intro e he b hb
  obtain ⟨i, hi⟩ := List.getElem?_of_mem he
  exact ((hs.lists.own i e hi).lt b hb).2
theorem kept_last {w : World} {K base : Nat} {es : List Ent} {v : Value} {l : List Sp} (h : Kept w K base (es ++ [(v, l)])) : Row w v l := by
  obtain ⟨sv, wv, cs, hs⟩ := h
  exact own_row (hs.lists.own es.length (v, l) (by simp))
theorem kept_lt {w : World} {K base : Nat} {es : List Ent} (h : Kept w K base es) : K < w.heap.size := by
  obtain ⟨sv, wv, cs, hs⟩ := h
  exact lt_of_block hs.block
theorem short_more {es : List Ent} {v : Value} {l : List Sp} (h : Short es) (hl : l.length ≤ 64) : Short (es ++ [(v, l)]) := by
  intro e he
  rcases List.mem_append.1 he with h1 | h1
  · exact h e h1
  · simp at h1; subst h1; show l.length ≤ 100000; omega

theorem zs_size : (Try.prog.info? 34).map (·.size) = some (List.replicate 64 (Value.bool false)).toArray.size := by have := (bv_facts []).2.2.2; rwa [bv_nil] at this
theorem zs_one : (List.replicate 64 (Value.bool false)).toArray.all (·.oneCell') = true := by have := (bv_facts []).2.2.1; rwa [bv_nil] at this
theorem zs_list : (List.replicate 64 (Value.bool false)).toArray.toList = bv (bitsOf []) := by rw [← bv_nil]
theorem zs_arr (w : World) : let z := (w.alloc (.cells (List.replicate 64 (Value.bool false)).toArray 34)).setCells w.heap.size 0 (List.replicate 64 (Value.bool false)).toArray.toList
    Arr z w.heap.size [] ∧ Below w.heap.size w z := by
  intro z
  have h1 := Arr.new w [] (List.replicate 64 (Value.bool false)).toArray (by simp)
  have h2 := (set_facts w [] (List.replicate 64 (Value.bool false)).toArray (by simp)).2.2.2
  rw [← zs_list] at h1 h2
  exact ⟨h1, h2⟩
theorem set_bits {cur : List Sp} (hc : Canon cur) (k : Nat) (hk : k < 64) : (bitsOf cur).set k true = bitsOf (putR cur [((k : Int), 1)]) := by
  refine bits_ext (by simp [bitsOf_length]) (bitsOf_length _) fun j hj => ?_
  rw [bitsOf_get _ j hj]
  have h2 := (put_spec [((k : Int), 1)] cur hc).2 (j : Int)
  rw [In_one k hk] at h2
  by_cases e : j = k
  · subst e
    rw [List.getElem?_set_self (by rw [bitsOf_length]; exact hj), decide_eq_true (h2.2 (.inr rfl))]
  · rw [List.getElem?_set_ne (fun h => e h.symm), bitsOf_get _ j hj]
    congr 1
    exact decide_eq_decide.2 (by rw [h2]; constructor; · exact .inl
                                 · rintro (h | h); exact h; omega)
theorem Arr.put {w : World} {X : Nat} {cur : List Sp} (h : Arr w X cur) (hc : Canon cur) (k : Nat) (hk : k < 64) : Arr (w.setCell ⟨X, k, none⟩ (.bool true)) X (putR cur [((k : Int), 1)]) := by
  obtain ⟨⟨C, hC, hs⟩, hr⟩ := h
  refine ⟨⟨C.setIfInBounds k (.bool true), by simp [World.setCell, Array.getElem?_modify, hC], by simpa using hs⟩, ?_⟩
  rw [← set_bits hc k hk]
  exact range_set true hr (by rw [bitsOf_length]; exact hk)
theorem kept_row {w : World} {K base : Nat} {es : List Ent} (h : Kept w K base es) (i : Nat) {v : Value} {l : List Sp} (hi : es[i]? = some (v, l)) : Row w v l := by
  obtain ⟨sv, wv, cs, hs⟩ := h
  exact own_row (hs.lists.own i (v, l) hi)
theorem FObj.low {w w' : World} {b g n : Nat} {S : List UInt8} (h : FObj w b g S) (hb : Below n w w') (h1 : b < n) (h2 : g < n) : FObj w' b g S := h.keep (hb.block b h1) (hb.block g h2)
end Go.Proofs.Ytbebgogjpajghaa
