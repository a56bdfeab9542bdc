/-
  The Book in memory: lists that were kept, each in a block of its own, with copies; what stays when blocks of some types stay.
-/
import Derived.Test.YtbebgogjpajghaaLists
import Derived.Test.YtbebgogjpajghaaEmpty
import Derived.Deep.RegionLaw
namespace Go.Proofs.Ytbebgogjpajghaa
open Go.ChangeShapes Go.WideShapes Go.ChangeAt Go.RowKit

/-- The blocks of these types stay. -/
structure Stay (T : TypeId → Prop) (w w' : World) : Prop where
  os : w'.os = w.os
  tape : w'.tape = w.tape
  output : w'.output = w.output
  size : w.heap.size ≤ w'.heap.size
  block : ∀ (k : Nat) (cur : Array Value) (e : TypeId) (fz : Nat × Nat), w.heap[k]? = some (Obj.cells cur e fz) → T e → w'.heap[k]? = some (Obj.cells cur e fz)

theorem Stay.of {T : TypeId → Prop} {w w' : World} (h : Below w.heap.size w w') : Stay T w w' :=
  ⟨h.os, h.tape, h.output, h.size, fun k cur e fz hk _ => by rw [h.block k (lt_of_block hk)]; exact hk⟩
theorem Stay.but {T : TypeId → Prop} {w w' : World} {x : Nat} {cx : Array Value} {t : TypeId} {fx : Nat × Nat} (h : But x w w') (hx : w.heap[x]? = some (.cells cx t fx)) (ht : ¬ T t) : Stay T w w' :=
  ⟨h.os, h.tape, h.output, h.size, fun k cur e fz hk he => by
    rw [h.block k (lt_of_block hk) (fun e' => by rw [e', hx] at hk; cases hk; exact ht he)]; exact hk⟩
theorem Stay.trans {T : TypeId → Prop} {a b c : World} (h : Stay T a b) (k : Stay T b c) : Stay T a c :=
  ⟨k.os.trans h.os, k.tape.trans h.tape, k.output.trans h.output, Nat.le_trans h.size k.size, fun i cur e fz hi he => k.block i cur e fz (h.block i cur e fz hi he) he⟩
theorem Stay.mono {T U : TypeId → Prop} {w w' : World} (h : Stay T w w') (hU : ∀ e, U e → T e) : Stay U w w' :=
  ⟨h.os, h.tape, h.output, h.size, fun k cur e fz hk he => h.block k cur e fz hk (hU e he)⟩
/-- A block of a type that need not stay has grown. -/
theorem Stay.grown {T : TypeId → Prop} {w w' : World} {row : Option Nat} (h : w.grownBy w' row) (hr : ∀ b, row = some b → ∃ cur e fz, w.heap[b]? = some (.cells cur e fz) ∧ ¬ T e) : Stay T w w' :=
  ⟨h.os, h.tape, h.output, h.size, fun k cur e fz hk he => by
    rw [h.block k (lt_of_block hk) (fun e' => by obtain ⟨c2, e2, f2, h2, h3⟩ := hr k e'.symm; rw [h2] at hk; cases hk; exact h3 he)]; exact hk⟩
theorem Stay.setCell {T : TypeId → Prop} {a w : World} (h : Stay T a w) {x : Nat} {cx : Array Value} {t : TypeId} {fx : Nat × Nat} (o : Nat) (u : Value) (hx : w.heap[x]? = some (.cells cx t fx)) (ht : ¬ T t) : Stay T a (w.setCell ⟨x, o, none⟩ u) :=
  h.trans (Stay.but ((But.of (Below.refl _ w)).setCell o u) hx ht)

theorem own_stay {T : TypeId → Prop} {w w' : World} {base : Nat} {e : TypeId} {size : Nat} {v : Value} {n : Nat} {xs : List Value} (h : w.ownsRow base e size v n xs) (hs : Stay T w w') (ht : T e) : w'.ownsRow base e size v n xs := by
  refine ⟨h.1, ?_⟩
  rcases h.2 with h0 | ⟨g, cap, cur, hv, hb, hg, hr⟩
  · exact .inl h0
  · exact .inr ⟨g, cap, cur, hv, hb, hs.block g cur e _ hg ht, hr⟩
theorem own_block {w : World} {base : Nat} {e : TypeId} {size : Nat} {v : Value} {n : Nat} {xs : List Value} (h : w.ownsRow base e size v n xs) : ∀ b, v.ownBlock = some b → base ≤ b ∧ ∃ cur, w.heap[b]? = some (.cells cur e (0, 0)) := by
  intro b hb
  rcases h.2 with ⟨h0, _⟩ | ⟨g, cap, cur, hv, hbg, hg, _⟩
  · rw [h0] at hb; cases hb
  · rw [hv] at hb; cases hb; exact ⟨hbg, cur, hg⟩
theorem T49.stay {T : TypeId → Prop} {w w' : World} {v : Value} (h : T49 w v) (hs : Stay T w w') (ht : T 51) : T49 w' v := fun a n c hv => by
  obtain ⟨cur, fz, hg⟩ := h a n c hv
  exact ⟨cur, fz, hs.block _ _ _ _ hg ht⟩
theorem Row.stay {T : TypeId → Prop} {w w' : World} {v : Value} {ps : List Sp} (h : Row w v ps) (h49 : T49 w v) (hs : Stay T w w') (ht : T 51) : Row w' v ps := by
  rcases h with h | ⟨g, o, cap, hv, hg, hc⟩
  · exact .inl h
  · obtain ⟨cur, fz, hb⟩ := h49 _ _ _ hv
    have e0 : w'.heap[g]? = w.heap[g]? := by rw [hs.block _ _ _ _ hb ht]; exact hb.symm
    refine .inr ⟨g, o, cap, hv, Nat.lt_of_lt_of_le hg hs.size, fun i p hp => ?_⟩
    rw [World.cell?_of_block (w := w) (a := ⟨g, o + i * 2, none⟩) e0, World.cell?_of_block (w := w) (a := ⟨g, o + i * 2 + 1, none⟩) e0]
    exact hc i p hp
theorem RObj.stay {T : TypeId → Prop} {w w' : World} {b : Nat} {ps : List Sp} (h : RObj w b ps) (hs : Stay T w w') (h60 : T 87) (h49 : T 51) : RObj w' b ps := by
  obtain ⟨v, hv, hr, ht⟩ := h
  exact ⟨v, hs.block _ _ _ _ hv h60, hr.stay ht hs h49, ht.stay hs h49⟩

abbrev Ent := Value × List Sp
/-- Each list in a block of its own. -/
structure Own (w : World) (base : Nat) (es : List Ent) : Prop where
  own : ∀ (i : Nat) (e : Ent), es[i]? = some e → w.ownsRow base 51 2 e.1 e.2.length (spansV e.2)
  apart : ∀ (i j : Nat) (e f : Ent) (b : Nat), es[i]? = some e → es[j]? = some f → e.1.ownBlock = some b → f.1.ownBlock = some b → i = j

def bookCells (sv wv : Value) : Array Value :=
  #[.slice none 0 0, .slice none 0 0, .slice none 0 0, .slice none 0 0, sv, wv, .slice none 0 0, .slice none 0 0, .slice none 0 0, .slice none 0 0, .slice none 0 0, .slice none 0 0, .slice none 0 0, .slice none 0 0]

/-- The Book at block K: the lists es. -/
structure Shelf (w : World) (K base : Nat) (es : List Ent) (sv wv : Value) (cs : List Value) : Prop where
  block : w.heap[K]? = some (.cells (bookCells sv wv) 44 (0, 0))
  sown : w.ownsRow base 45 1 sv es.length (es.map (·.1))
  wown : w.ownsRow base 45 1 wv es.length cs
  sep : ∀ (b : Nat), sv.ownBlock = some b → wv.ownBlock ≠ some b
  copies : ∀ (i : Nat) (e : Ent) (c : Value), es[i]? = some e → cs[i]? = some c → Row w c e.2 ∧ T49 w c
  lists : Own w base es

def Kept (w : World) (K base : Nat) (es : List Ent) : Prop := ∃ sv wv cs, Shelf w K base es sv wv cs

def TB (e : TypeId) : Prop := e = 45 ∨ e = 44 ∨ e = 51
def TN (e : TypeId) : Prop := e ≠ 45 ∧ e ≠ 44
theorem TB22 : TB 45 := .inl rfl
theorem TB41 : TB 44 := .inr (.inl rfl)
theorem TB49 : TB 51 := .inr (.inr rfl)
theorem TN49 : TN 51 := by unfold TN; decide
theorem TN60 : TN 87 := by unfold TN; decide
theorem TN30 : TN 34 := by unfold TN; decide
theorem notTB60 : ¬ TB 87 := by unfold TB; decide
theorem notTB30 : ¬ TB 34 := by unfold TB; decide
theorem notTN22 : ¬ TN 45 := by unfold TN; decide
theorem notTN41 : ¬ TN 44 := by unfold TN; decide

theorem Own.stay {w w' : World} {base : Nat} {es : List Ent} (h : Own w base es) {T : TypeId → Prop} (hs : Stay T w w') (ht : T 51) : Own w' base es :=
  ⟨fun i e he => own_stay (h.own i e he) hs ht, h.apart⟩
theorem Shelf.stay {w w' : World} {K base : Nat} {es : List Ent} {sv wv : Value} {cs : List Value} (h : Shelf w K base es sv wv cs) (hs : Stay TB w w') : Shelf w' K base es sv wv cs :=
  ⟨hs.block _ _ _ _ h.block TB41, own_stay h.sown hs TB22, own_stay h.wown hs TB22, h.sep, fun i e c he hc => ⟨(h.copies i e c he hc).1.stay (h.copies i e c he hc).2 hs TB49, (h.copies i e c he hc).2.stay hs TB49⟩, h.lists.stay hs TB49⟩
theorem Kept.stay {w w' : World} {K base : Nat} {es : List Ent} (h : Kept w K base es) (hs : Stay TB w w') : Kept w' K base es := by
  obtain ⟨sv, wv, cs, h⟩ := h
  exact ⟨sv, wv, cs, h.stay hs⟩
theorem Kept.below {w w' : World} {K base : Nat} {es : List Ent} (h : Kept w K base es) (hb : Below w.heap.size w w') : Kept w' K base es := h.stay (Stay.of hb)
theorem Kept.but {w w' : World} {K base b : Nat} {es : List Ent} {ps : List Sp} (h : Kept w K base es) (hr : RObj w b ps) (hb : But b w w') : Kept w' K base es := by
  obtain ⟨u, hu, _⟩ := hr
  exact h.stay (Stay.but hb hu notTB60)

theorem kept_new (w : World) (base : Nat) : Kept (w.alloc (.cells (bookCells (.slice none 0 0) (.slice none 0 0)) 44)) w.heap.size base [] :=
  ⟨.slice none 0 0, .slice none 0 0, [], ⟨by have := heap_alloc_new w (.cells (bookCells (.slice none 0 0) (.slice none 0 0)) 44); simpa using this, World.ownsRow_nil _ _ _ _, World.ownsRow_nil _ _ _ _, fun _ h => (by cases h), fun i e c he _ => (by simp at he), ⟨fun i e he => (by simp at he), fun i j e f b he _ _ _ => (by simp at he)⟩⟩⟩

theorem book_cell {w : World} {K : Nat} {sv wv : Value} (h : w.heap[K]? = some (.cells (bookCells sv wv) 44 (0, 0))) :
    (∀ o, w.cell? ⟨K, o, none⟩ = (bookCells sv wv)[o]?) ∧ ∀ o, w.frozen? ⟨K, o, none⟩ = false := by
  refine ⟨fun o => ?_, fun o => ?_⟩
  · simp [World.cell?, h]
  · simp [World.frozen?, h]
theorem Try.info45 : (Try.prog.info? 45).map (fun i => (i.zero, i.size, i.bytes)) = some (some (.slice none 0 0), 1, 24) := by kernel_rfl
end Go.Proofs.Ytbebgogjpajghaa
