/-
  alive, set; Sets in memory; what the lists of SpanTells are.
-/
import Derived.Test.YtfaecglmpkcjlaaApart
import Derived.Test.YtfaecglmpkcjlaaSetLaws
import Derived.Laws.OwnMore
namespace Go.Proofs.Ytfaecglmpkcjlaa
open Go.ChangeShapes Go.WideShapes Go.ChangeAt Go.RowKit

theorem alive_any (w : World) :
    Calls Try.prog 4 #[] w fun e w' => e = .returned (.bool true) ∧ Below w.heap.size w w' := by
  go_enter Try.func4, Try.ntmps4
  go_wp2_with fail
  refine (less_11 2 6 4 2 4 6 _ (by decide) (by decide) (by decide) (by decide) (by decide) (by decide) (fun w => meet_some 2 6 4 2 4 6 w (by decide) (by decide) (by decide) (by decide) (by decide) (by decide) rfl rfl (by decide) (by decide) (by decide))).mono ?_
  rintro e w1 ⟨v, rfl, hown, hb1⟩
  obtain ⟨g, cap, rfl, hg, hlt⟩ := hown.form (by decide)
  have d0 : w1.cell? ⟨g, 0, none⟩ = some (.int .i64 2) := hown.cellAt 0 (by decide)
  have d1 : w1.cell? ⟨g, 1, none⟩ = some (.int .i64 2) := hown.cellAt 1 (by decide)
  have d2 : w1.cell? ⟨g, 2, none⟩ = some (.int .i64 6) := hown.cellAt 2 (by decide)
  have d3 : w1.cell? ⟨g, 3, none⟩ = some (.int .i64 2) := hown.cellAt 3 (by decide)
  clear hown
  go_wp2_with fail
  refine (blocks_yes 7 2 _ (by decide) (by decide) (by decide)).mono ?_
  rintro e w2 ⟨rfl, hb2⟩
  obtain ⟨hc2, _⟩ := bcell hb2
  rw [← hc2 _ _ hlt] at d0 d1 d2 d3
  have hlt2 : g < w2.heap.size := by have := hb2.size; omega
  have hB : Below w.heap.size w w2 := below_step hb1 hb2
  clear hc2 hb1 hb2
  go_wp2
  go_ret
  exact ⟨rfl, hB.alloc hB.size _⟩
theorem bv_facts (ps : List Sp) : (bv (bitsOf ps)).length = 64 ∧ (Try.prog.info? 26).map (·.size) = some (bv (bitsOf ps)).length ∧ (bv (bitsOf ps)).toArray.all (·.oneCell') = true ∧ (Try.prog.info? 26).map (·.size) = some (bv (bitsOf ps)).toArray.size := by
  have hlen : (bv (bitsOf ps)).length = 64 := by rw [bv_length, bitsOf_length]
  have hinf : (Try.prog.info? 26).map (·.size) = some (bv (bitsOf ps)).length := by rw [hlen]; exact info26
  exact ⟨hlen, hinf, all_oneCell_toArray (by intro v hv; simp only [bv, List.mem_map] at hv; obtain ⟨b, _, rfl⟩ := hv; rfl), by simpa using hinf⟩

theorem gen_world {P : Program} {code : Code} {Q : Exit → Act → World → Prop} {a : Act} (W : World) (F : World → Prop) (h : F W) (k : ∀ w4, F w4 → Code.wp P code Q a w4) : Code.wp P code Q a W := k W h
theorem set_facts (w3 : World) (ps : List Sp) (C : Array Value) (hC : C.size = 64) :
    ((w3.alloc (.cells C 26)).setCells w3.heap.size 0 (bv (bitsOf ps))).rangeAt w3.heap.size 0 (bv (bitsOf ps)) ∧ ((w3.alloc (.cells C 26)).setCells w3.heap.size 0 (bv (bitsOf ps))).there w3.heap.size 0 64 ∧ w3.heap.size < ((w3.alloc (.cells C 26)).setCells w3.heap.size 0 (bv (bitsOf ps))).heap.size ∧ Below w3.heap.size w3 ((w3.alloc (.cells C 26)).setCells w3.heap.size 0 (bv (bitsOf ps))) := by
  have ht : (w3.alloc (.cells C 26)).there w3.heap.size 0 64 := there_new (by omega)
  have hb : Below w3.heap.size w3 (w3.alloc (.cells C 26)) := (Below.refl _ _).alloc (Nat.le_refl _) _
  have hr := World.rangeAt_setCells_same (w3.alloc (.cells C 26)) w3.heap.size 0 (bv (bitsOf ps)) (by rw [(bv_facts ps).1]; exact ht)
  refine ⟨hr, World.there_setCells ht _ _ _, ?_, below_setCells _ _ _ _ hb (Nat.le_refl _)⟩
  have := hr 0 (.bool (decide (In ps 0))) (by unfold bv; rw [List.getElem?_map, bitsOf_get _ 0 (by omega)]; rfl)
  exact World.block_lt_of_cell? _ _ this

/-- A Set in memory. -/
def Arr (w : World) (X : Nat) (ps : List Sp) : Prop := (∃ C : Array Value, w.heap[X]? = some (.cells C 26 (0, 0)) ∧ C.size = 64) ∧ w.rangeAt X 0 (bv (bitsOf ps))

theorem Arr.lt {w : World} {X : Nat} {ps : List Sp} (h : Arr w X ps) : X < w.heap.size := by
  obtain ⟨⟨C, hC, _⟩, _⟩ := h
  exact lt_of_block hC
theorem range_same {w w' : World} {X o : Nat} {cs : List Value} (h : w.rangeAt X o cs) (e : w'.heap[X]? = w.heap[X]?) : w'.rangeAt X o cs := fun j v hv => by
  rw [World.cell?_of_block (w := w) (a := ⟨X, o + j, none⟩) e]; exact h j v hv
theorem Arr.same {w w' : World} {X : Nat} {ps : List Sp} (h : Arr w X ps) (e : w'.heap[X]? = w.heap[X]?) : Arr w' X ps := by
  obtain ⟨⟨C, hC, hs⟩, hr⟩ := h
  exact ⟨⟨C, by rw [e]; exact hC, hs⟩, range_same hr e⟩
theorem Arr.below {w w' : World} {X : Nat} {ps : List Sp} (h : Arr w X ps) (hb : Below w.heap.size w w') : Arr w' X ps := h.same (hb.block X h.lt)
theorem Arr.but {w w' : World} {X R : Nat} {ps qs : List Sp} (h : Arr w X ps) (hr : RObj w R qs) (hb : But R w w') : Arr w' X ps := by
  refine h.same (hb.block X h.lt (fun e => ?_))
  obtain ⟨⟨C, hC, _⟩, _⟩ := h
  obtain ⟨v, hv, _⟩ := hr
  rw [e, hv] at hC; cases hC
theorem Arr.stay {w w' : World} {X : Nat} {ps : List Sp} (h : Arr w X ps) (hs : Stay TN w w') : Arr w' X ps := by
  obtain ⟨⟨C, hC, hz⟩, hr⟩ := id h
  exact h.same (by rw [hs.block X C 26 _ hC TN30, hC])
theorem Arr.there {w : World} {X : Nat} {ps : List Sp} (h : Arr w X ps) : w.there X 0 64 := by
  obtain ⟨⟨C, hC, hs⟩, _⟩ := h
  intro j hj
  rw [Nat.zero_add]
  constructor
  · simp [World.cell?, hC, hs, hj]
  · simp [World.frozen?, hC]

theorem setCells_block (b : Nat) : ∀ (vs : List Value) (o : Nat) (w : World) (C : Array Value) (t : TypeId) (fz : Nat × Nat), w.heap[b]? = some (.cells C t fz) → ∃ C', (w.setCells b o vs).heap[b]? = some (.cells C' t fz) ∧ C'.size = C.size
  | [], _, _, C, _, _, h => ⟨C, h, rfl⟩
  | v :: r, o, w, C, t, fz, h => by
    have h1 : (w.setCell ⟨b, o, none⟩ v).heap[b]? = some (.cells (C.setIfInBounds o v) t fz) := by simp [World.setCell, Array.getElem?_modify, h]
    obtain ⟨C', h2, h3⟩ := setCells_block b r (o + 1) (w.setCell ⟨b, o, none⟩ v) _ t fz h1
    exact ⟨C', h2, by rw [h3]; simp⟩
theorem setCells_far (b : Nat) : ∀ (vs : List Value) (o : Nat) (w : World) (k : Nat), k ≠ b → (w.setCells b o vs).heap[k]? = w.heap[k]?
  | [], _, _, _, _ => rfl
  | v :: r, o, w, k, h => by
    show ((w.setCell ⟨b, o, none⟩ v).setCells b (o + 1) r).heap[k]? = _
    rw [setCells_far b r (o + 1) _ k h]
    exact Below.heap_setCell w ⟨b, o, none⟩ v k h

/-- Another set takes its place. -/
theorem Arr.set {w : World} {X : Nat} {ps : List Sp} (h : Arr w X ps) (qs : List Sp) : Arr (w.setCells X 0 (bv (bitsOf qs))) X qs := by
  have ht := h.there
  obtain ⟨⟨C, hC, hs⟩, _⟩ := h
  obtain ⟨C', h1, h2⟩ := setCells_block X (bv (bitsOf qs)) 0 w C 26 (0, 0) hC
  exact ⟨⟨C', h1, by omega⟩, World.rangeAt_setCells_same _ _ _ _ (by rw [(bv_facts qs).1]; exact ht)⟩
theorem Arr.new (w : World) (qs : List Sp) (C : Array Value) (hC : C.size = 64) : Arr ((w.alloc (.cells C 26)).setCells w.heap.size 0 (bv (bitsOf qs))) w.heap.size qs := by
  obtain ⟨C', h1, h2⟩ := setCells_block w.heap.size (bv (bitsOf qs)) 0 (w.alloc (.cells C 26)) C 26 (0, 0) (by have := heap_alloc_new w (.cells C 26); simpa using this)
  exact ⟨⟨C', h1, by omega⟩, (set_facts w qs C hC).1⟩

/-- All blocks but X stay behind a store of a Set. -/
theorem set_but (w : World) (X : Nat) (vs : List Value) : But X w (w.setCells X 0 vs) := by
  have hb : Below 0 w (w.setCells X 0 vs) := below_setCells _ _ _ _ (Below.refl 0 w) (Nat.zero_le _)
  exact ⟨hb.os, hb.tape, hb.output, hb.size, fun k _ hk => setCells_far X vs 0 w k hk⟩

theorem Cells.butArr {w w' : World} {g o X : Nat} {l : List Sp} (h : Cells w g o l) (hg : g < w.heap.size) (hne : g ≠ X) (hb : But X w w') : Cells w' g o l := fun i p hp => by
  have e0 : w'.heap[g]? = w.heap[g]? := hb.block g hg hne
  rw [World.cell?_of_block (w := w) (a := ⟨g, o + i * 2, none⟩) e0, World.cell?_of_block (w := w) (a := ⟨g, o + i * 2 + 1, none⟩) e0]
  exact h i p hp
theorem Box.same {w w' : World} {H : Nat} {x y : Value} (h : Box w H x y) (e : w'.heap[H]? = w.heap[H]?) : Box w' H x y :=
  ⟨by rw [World.cell?_of_block (w := w) (a := ⟨H, 0, none⟩) e]; exact h.1, by rw [World.cell?_of_block (w := w) (a := ⟨H, 1, none⟩) e]; exact h.2.1, by rw [World.frozen?_of_block (w := w) (a := ⟨H, 0, none⟩) e]; exact h.2.2.1, by rw [World.frozen?_of_block (w := w) (a := ⟨H, 1, none⟩) e]; exact h.2.2.2⟩
theorem Box.butAt {w w' : World} {H X : Nat} {x y : Value} (h : Box w H x y) (hb : But X w w') (hne : H ≠ X) : Box w' H x y := h.same (hb.block H h.lt hne)

theorem kept_fresh {w : World} {K base : Nat} {es : List Ent} (h : Kept w K base es) : ∀ e ∈ es, ∀ b, e.1.ownBlock = some b → b < w.heap.size := by
  obtain ⟨sv, wv, cs, hs⟩ := h
  intro e he b hb
  obtain ⟨i, hi⟩ := List.getElem?_of_mem he
  exact ((hs.lists.own i e hi).lt b hb).2
theorem kept_last {w : World} {K base : Nat} {es : List Ent} {v : Value} {l : List Sp} (h : Kept w K base (es ++ [(v, l)])) : Row w v l := by
  obtain ⟨sv, wv, cs, hs⟩ := h
  exact own_row (hs.lists.own es.length (v, l) (by simp))
theorem kept_lt {w : World} {K base : Nat} {es : List Ent} (h : Kept w K base es) : K < w.heap.size := by
  obtain ⟨sv, wv, cs, hs⟩ := h
  exact lt_of_block hs.block
theorem short_more {es : List Ent} {v : Value} {l : List Sp} (h : Short es) (hl : l.length ≤ 64) : Short (es ++ [(v, l)]) := by
  intro e he
  rcases List.mem_append.1 he with h1 | h1
  · exact h e h1
  · simp at h1; subst h1; show l.length ≤ 100000; omega
theorem gen_list {P : Program} {ops : Array Oper} {Q : Exit → Act → World → Prop} {rest : List Oper} {a : Act} (W : World) (F : World → Prop) (h : F W) (k : ∀ w4, F w4 → wpList P ops Q rest a w4) : wpList P ops Q rest a W := k W h

theorem setCells_size (b : Nat) : ∀ (vs : List Value) (o : Nat) (w : World), (w.setCells b o vs).heap.size = w.heap.size
  | [], _, _ => rfl
  | v :: r, o, w => by
    show ((w.setCell ⟨b, o, none⟩ v).setCells b (o + 1) r).heap.size = _
    rw [setCells_size b r]; simp

/-- What the loop has made of the bits, up to block k. -/
def Mid (X Y : List Sp) (k : Nat) (l : List Bool) : Prop := l.length = 64 ∧ ∀ j, j < 64 → l[j]? = some (if j < k then decide (In X (j : Int)) && decide (In Y (j : Int)) else decide (In X (j : Int)))
theorem mid_start (X Y : List Sp) : Mid X Y 0 (bitsOf X) := ⟨bitsOf_length X, fun j hj => by rw [bitsOf_get X j hj, if_neg (Nat.not_lt_zero _)]⟩
theorem mid_step {X Y : List Sp} {k : Nat} {l : List Bool} (h : Mid X Y k l) (v : Bool) (hv : v = (decide (In X (k : Int)) && decide (In Y (k : Int)))) : Mid X Y (k + 1) (l.set k v) := by
  refine ⟨by rw [List.length_set]; exact h.1, fun j hj => ?_⟩
  by_cases e : k = j
  · subst e
    rw [List.getElem?_set_self (by rw [h.1]; exact hj), if_pos (Nat.lt_succ_self _), hv]
  · rw [List.getElem?_set_ne e, h.2 j hj]
    by_cases h1 : j < k
    · rw [if_pos h1, if_pos (by omega)]
    · rw [if_neg h1, if_neg (by omega)]
theorem mid_end {X Y : List Sp} (hX : Canon X) (hY : Canon Y) {l : List Bool} (h : Mid X Y 64 l) : l = bitsOf (bothL X Y) := by
  refine bits_ext h.1 (bitsOf_length _) fun j hj => ?_
  rw [h.2 j hj, if_pos hj, bitsOf_get _ j hj]
  have := (both_spec X Y hX hY).2 (j : Int)
  rw [← Bool.decide_and]
  simp only [this]

theorem in_out {Z : List Sp} {k : Int} (h : In Z k) : 0 ≤ k ∧ k < 64 := by
  obtain ⟨p, _, hp⟩ := h
  have h1 := hp.1; have h2 := hp.2; unfold Wh at h1; omega

theorem range_but {w w' : World} {x b o : Nat} {cs : List Value} (h : But x w w') (hne : b ≠ x) (hb : b < w.heap.size) (hr : w.rangeAt b o cs) : w'.rangeAt b o cs := fun j v hv => by
  rw [World.cell?_of_block (w := w) (a := ⟨b, o + j, none⟩) (h.block b hb hne)]; exact hr j v hv

theorem of_canon (l : List Sp) : Canon (putR [] l) := (put_spec l [] trivial).1
theorem below_alc {w : World} {o : Obj} : Below w.heap.size w (w.alloc o) := (Below.refl _ _).alloc (Nat.le_refl _) _

theorem set_any (f n : Int) (w : World) :
    Calls Try.prog 5 #[.agg #[.int .i64 f, .int .i64 n]] w fun e w' => e = .returned (.agg (bv (bitsOf (putR [] [(f, n)]))).toArray) ∧ Below w.heap.size w w' := by
  obtain ⟨X, hX⟩ : ∃ X, Hid (putR [] [(f, n)] = X) := ⟨_, rfl⟩
  have HH := Hid.intro (bv_facts X)
  rw [hX.out]
  go_enter Try.func5, Try.ntmps5
  go_wp2_with fail
  refine (refZero_row (v := .slice (some ⟨w.heap.size + 1 + 1, 0, none⟩) 1 1) (l := [(f, n)]) (.inr ⟨w.heap.size + 1 + 1, 0, 1, rfl, by simp, ?_⟩) (by simp)).mono ?_
  · intro i p hp
    match i, hp with
    | 0, hp => simp at hp; subst hp; simp [go_sem]
  rintro e w1 ⟨rfl, hb⟩
  rw [hX.out]
  have hth : w1.there (w.heap.size + 1) 0 (bv (bitsOf X)).toArray.size := by
    rw [show (bv (bitsOf X)).toArray.size = 64 from by simpa using HH.out.1]
    refine there_below hb (by simp) (World.there_alloc ?_ _)
    have := there_new (w := w.alloc (.cells #[.int .i64 f, .int .i64 n] 23)) (C := (List.replicate 64 (Value.bool false)).toArray) (t := 26) (n := 64) (by simp)
    simpa using this
  have hB : Below w.heap.size w w1 := below_step (below_step (below_step below_alc below_alc) below_alc) hb
  clear hb
  go_wp2_with (refine wpList_store_mid rfl 26 _ _ rfl (w.heap.size + 1) 0 (bv (bitsOf X)).toArray rfl rfl hth HH.out.2.2.2 HH.out.2.2.1 ?_)
  refine bodyPost_ret (v := .agg (bv (bitsOf X)).toArray) (results_mid Try.results5 _ _ (w.heap.size + 1) (bv (bitsOf X)) _ rfl ?_ Try.underlying26 rfl HH.out.2.1) rfl ⟨rfl, ?_⟩
  · exact World.rangeAt_setCells_same _ _ _ _ (by simpa using hth)
  · exact below_setCells _ _ _ _ hB (by omega)
end Go.Proofs.Ytfaecglmpkcjlaa
