/-
  The Book in memory: lists that were kept, each in a block of its own, with copies; the blocks that it has; what stays when blocks of some types stay.
-/
import Derived.Test.YtgigpohfkppplaaBkILists
import Derived.Test.YtgigpohfkppplaaBkIEmpty
namespace Go.Proofs.Ytgigpohfkppplaa.BkI
open Go.ChangeShapes Go.WideShapes Go.ChangeAt Go.RowKit


/-- The blocks of these types stay. -/
structure Stay (T : TypeId → Prop) (w w' : World) : Prop where
  os : w'.os = w.os
  tape : w'.tape = w.tape
  output : w'.output = w.output
  size : w.heap.size ≤ w'.heap.size
  block : ∀ (k : Nat) (cur : Array Value) (e : TypeId) (fz : Nat × Nat), w.heap[k]? = some (Obj.cells cur e fz) → T e → w'.heap[k]? = some (Obj.cells cur e fz)

theorem Stay.of {T : TypeId → Prop} {w w' : World} (h : Below w.heap.size w w') : Stay T w w' :=
  ⟨h.os, h.tape, h.output, h.size, fun k cur e fz hk _ => by rw [h.block k (lt_of_block hk)]; exact hk⟩
theorem Stay.but {T : TypeId → Prop} {w w' : World} {x : Nat} {cx : Array Value} {t : TypeId} {fx : Nat × Nat} (h : But x w w') (hx : w.heap[x]? = some (.cells cx t fx)) (ht : ¬ T t) : Stay T w w' :=
  ⟨h.os, h.tape, h.output, h.size, fun k cur e fz hk he => by
    rw [h.block k (lt_of_block hk) (fun e' => by rw [e', hx] at hk; cases hk; exact ht he)]; exact hk⟩
theorem Stay.trans {T : TypeId → Prop} {a b c : World} (h : Stay T a b) (k : Stay T b c) : Stay T a c :=
  ⟨k.os.trans h.os, k.tape.trans h.tape, k.output.trans h.output, Nat.le_trans h.size k.size, fun i cur e fz hi he => k.block i cur e fz (h.block i cur e fz hi he) he⟩
theorem Stay.mono {T U : TypeId → Prop} {w w' : World} (h : Stay T w w') (hU : ∀ e, U e → T e) : Stay U w w' :=
  ⟨h.os, h.tape, h.output, h.size, fun k cur e fz hk he => h.block k cur e fz hk (hU e he)⟩
/-- A block of a type that need not stay has grown. -/
theorem Stay.grown {T : TypeId → Prop} {w w' : World} {row : Option Nat} (h : w.grownBy w' row) (hr : ∀ b, row = some b → ∃ cur e fz, w.heap[b]? = some (.cells cur e fz) ∧ ¬ T e) : Stay T w w' :=
  ⟨h.os, h.tape, h.output, h.size, fun k cur e fz hk he => by
    rw [h.block k (lt_of_block hk) (fun e' => by obtain ⟨c2, e2, f2, h2, h3⟩ := hr k e'.symm; rw [h2] at hk; cases hk; exact h3 he)]; exact hk⟩
theorem Stay.setCell {T : TypeId → Prop} {a w : World} (h : Stay T a w) {x : Nat} {cx : Array Value} {t : TypeId} {fx : Nat × Nat} (o : Nat) (u : Value) (hx : w.heap[x]? = some (.cells cx t fx)) (ht : ¬ T t) : Stay T a (w.setCell ⟨x, o, none⟩ u) :=
  h.trans (Stay.but ((But.of (Below.refl _ w)).setCell o u) hx ht)

theorem own_stay {T : TypeId → Prop} {w w' : World} {base : Nat} {e : TypeId} {size : Nat} {v : Value} {n : Nat} {xs : List Value} (h : w.ownsRow base e size v n xs) (hs : Stay T w w') (ht : T e) : w'.ownsRow base e size v n xs := by
  refine ⟨h.1, ?_⟩
  rcases h.2 with h0 | ⟨g, cap, cur, hv, hb, hg, hr⟩
  · exact .inl h0
  · exact .inr ⟨g, cap, cur, hv, hb, hs.block g cur e _ hg ht, hr⟩
theorem own_ofBlock {w w' : World} {base : Nat} {e : TypeId} {size : Nat} {v : Value} {n : Nat} {xs : List Value} (h : w.ownsRow base e size v n xs) (hb : ∀ b, v.ownBlock = some b → w'.heap[b]? = w.heap[b]?) : w'.ownsRow base e size v n xs := by
  refine ⟨h.1, ?_⟩
  rcases h.2 with h0 | ⟨g, cap, cur, hv, hbg, hg, hr⟩
  · exact .inl h0
  · exact .inr ⟨g, cap, cur, hv, hbg, by rw [hb g (by rw [hv]; rfl)]; exact hg, hr⟩
theorem own_block {w : World} {base : Nat} {e : TypeId} {size : Nat} {v : Value} {n : Nat} {xs : List Value} (h : w.ownsRow base e size v n xs) : ∀ b, v.ownBlock = some b → base ≤ b ∧ ∃ cur, w.heap[b]? = some (.cells cur e (0, 0)) := by
  intro b hb
  rcases h.2 with ⟨h0, _⟩ | ⟨g, cap, cur, hv, hbg, hg, _⟩
  · rw [h0] at hb; cases hb
  · rw [hv] at hb; cases hb; exact ⟨hbg, cur, hg⟩
theorem T49.block {w : World} {v : Value} (h : T49 w v) {b : Nat} (hb : v.ownBlock = some b) : ∃ cur fz, w.heap[b]? = some (.cells cur 3 fz) := by
  cases v <;> try cases hb
  rename_i a n c
  cases a with
  | none => cases hb
  | some a => cases hb; exact h a n c rfl
theorem T49.stay {T : TypeId → Prop} {w w' : World} {v : Value} (h : T49 w v) (hs : Stay T w w') (ht : T 3) : T49 w' v := fun a n c hv => by
  obtain ⟨cur, fz, hg⟩ := h a n c hv
  exact ⟨cur, fz, hs.block _ _ _ _ hg ht⟩
theorem Row.stay {T : TypeId → Prop} {w w' : World} {v : Value} {ps : List Sp} (h : Row w v ps) (h49 : T49 w v) (hs : Stay T w w') (ht : T 3) : Row w' v ps :=
  h.ofBlock (fun b hb => by obtain ⟨cur, fz, hg⟩ := h49.block hb; rw [hs.block _ _ _ _ hg ht]; exact hg.symm) hs.size

abbrev Ent := Value × List Sp
/-- Each list in a block of its own. -/
structure Own (w : World) (base : Nat) (es : List Ent) : Prop where
  own : ∀ (i : Nat) (e : Ent), es[i]? = some e → w.ownsRow base 3 1 e.1 e.2.length (itemsV e.2)
  apart : ∀ (i j : Nat) (e f : Ent) (b : Nat), es[i]? = some e → es[j]? = some f → e.1.ownBlock = some b → f.1.ownBlock = some b → i = j

def bookCells (sv wv : Value) : Array Value :=
  #[.slice none 0 0, .slice none 0 0, sv, wv, .slice none 0 0, .slice none 0 0, .slice none 0 0, .slice none 0 0, .slice none 0 0, .slice none 0 0, .slice none 0 0, .slice none 0 0, .slice none 0 0, .slice none 0 0]

/-- The Book at block K: the lists es. -/
structure Shelf (w : World) (K base : Nat) (es : List Ent) (sv wv : Value) (cs : List Value) : Prop where
  block : w.heap[K]? = some (.cells (bookCells sv wv) 47 (0, 0))
  sown : w.ownsRow base 33 1 sv es.length (es.map (·.1))
  wown : w.ownsRow base 33 1 wv es.length cs
  sep : ∀ (b : Nat), sv.ownBlock = some b → wv.ownBlock ≠ some b
  copies : ∀ (i : Nat) (e : Ent) (c : Value), es[i]? = some e → cs[i]? = some c → Row w c e.2 ∧ T49 w c
  lists : Own w base es
/-- Its blocks are among those that G names. -/
structure Foot (G : Nat → Prop) (K : Nat) (es : List Ent) (sv wv : Value) (cs : List Value) : Prop where
  gK : G K
  gs : ∀ b, sv.ownBlock = some b → G b
  gw : ∀ b, wv.ownBlock = some b → G b
  ge : ∀ e ∈ es, ∀ b, e.1.ownBlock = some b → G b
  gc : ∀ c ∈ cs, ∀ b, c.ownBlock = some b → G b

def Kept (w : World) (G : Nat → Prop) (K base : Nat) (es : List Ent) : Prop := ∃ sv wv cs, Shelf w K base es sv wv cs ∧ Foot G K es sv wv cs

def TB (e : TypeId) : Prop := e = 33 ∨ e = 47 ∨ e = 3
def TN (e : TypeId) : Prop := e ≠ 33 ∧ e ≠ 47
theorem TB22 : TB 33 := .inl rfl
theorem TB41 : TB 47 := .inr (.inl rfl)
theorem TB49 : TB 3 := .inr (.inr rfl)
theorem TN49 : TN 3 := by unfold TN; decide
theorem notTN22 : ¬ TN 33 := by unfold TN; decide
theorem notTN41 : ¬ TN 47 := by unfold TN; decide

theorem Own.stay {w w' : World} {base : Nat} {es : List Ent} (h : Own w base es) {T : TypeId → Prop} (hs : Stay T w w') (ht : T 3) : Own w' base es :=
  ⟨fun i e he => own_stay (h.own i e he) hs ht, h.apart⟩
theorem Shelf.ofBlock {w w' : World} {K base : Nat} {es : List Ent} {sv wv : Value} {cs : List Value} {G : Nat → Prop} (h : Shelf w K base es sv wv cs) (hf : Foot G K es sv wv cs) (hs : w.heap.size ≤ w'.heap.size) (hb : ∀ k, k < w.heap.size → G k → w'.heap[k]? = w.heap[k]?) : Shelf w' K base es sv wv cs := by
  have ho : ∀ {e : TypeId} {size : Nat} {v : Value} {n : Nat} {xs : List Value}, w.ownsRow base e size v n xs → (∀ b, v.ownBlock = some b → G b) → w'.ownsRow base e size v n xs := fun h1 h2 =>
    own_ofBlock h1 fun b hb' => hb b (by obtain ⟨_, cur, hg⟩ := own_block h1 b hb'; exact lt_of_block hg) (h2 b hb')
  refine ⟨by rw [hb K (lt_of_block h.block) hf.gK]; exact h.block, ho h.sown hf.gs, ho h.wown hf.gw, h.sep, fun i e c he hc => ?_, ⟨fun i e he => ho (h.lists.own i e he) (hf.ge e (List.mem_of_getElem? he)), h.lists.apart⟩⟩
  obtain ⟨h1, h2⟩ := h.copies i e c he hc
  have same : ∀ b, c.ownBlock = some b → w'.heap[b]? = w.heap[b]? := fun b hb' => by
    obtain ⟨cur, fz, hg⟩ := h2.block hb'
    exact hb b (lt_of_block hg) (hf.gc c (List.mem_of_getElem? hc) b hb')
  exact ⟨h1.ofBlock same hs, h2.ofBlock same⟩
theorem Kept.below {w w' : World} {G : Nat → Prop} {K base : Nat} {es : List Ent} (h : Kept w G K base es) (hb : Below w.heap.size w w') : Kept w' G K base es := by
  obtain ⟨sv, wv, cs, h, hf⟩ := h
  exact ⟨sv, wv, cs, h.ofBlock hf hb.size fun k hk _ => hb.block k hk, hf⟩
theorem Foot.mono {G H : Nat → Prop} {K : Nat} {es : List Ent} {sv wv : Value} {cs : List Value} (h : Foot G K es sv wv cs) (hg : ∀ k, G k → H k) : Foot H K es sv wv cs :=
  ⟨hg _ h.gK, fun b e => hg b (h.gs b e), fun b e => hg b (h.gw b e), fun x hx b e => hg b (h.ge x hx b e), fun x hx b e => hg b (h.gc x hx b e)⟩
theorem Kept.mono {w : World} {G H : Nat → Prop} {K base : Nat} {es : List Ent} (h : Kept w G K base es) (hg : ∀ k, G k → H k) : Kept w H K base es := by
  obtain ⟨sv, wv, cs, h, hf⟩ := h
  exact ⟨sv, wv, cs, h, hf.mono hg⟩
theorem Shelf.copy_at {w : World} {K base : Nat} {es : List Ent} {sv wv : Value} {cs : List Value} (h : Shelf w K base es sv wv cs) {c : Value} (hc : c ∈ cs) : ∃ l, Row w c l ∧ T49 w c := by
  obtain ⟨i, hi⟩ := List.mem_iff_getElem?.1 hc
  have hl : cs.length = es.length := by have := h.wown.1; simpa using this
  have hil := (List.getElem?_eq_some_iff.1 hi).1
  exact ⟨_, h.copies i _ c (List.getElem?_eq_getElem (by omega)) hi⟩
theorem Kept.fit {w : World} {G : Nat → Prop} {K base : Nat} {es : List Ent} (h : Kept w G K base es) : Kept w (fun k => G k ∧ k < w.heap.size) K base es := by
  obtain ⟨sv, wv, cs, h, hf⟩ := h
  have ho : ∀ {e : TypeId} {size : Nat} {v : Value} {n : Nat} {xs : List Value} {b : Nat}, w.ownsRow base e size v n xs → v.ownBlock = some b → b < w.heap.size := fun h1 hb => by
    obtain ⟨_, cur, hg⟩ := own_block h1 _ hb
    exact lt_of_block hg
  refine ⟨sv, wv, cs, h, ⟨⟨hf.gK, lt_of_block h.block⟩, fun b e => ⟨hf.gs b e, ho h.sown e⟩, fun b e => ⟨hf.gw b e, ho h.wown e⟩, fun x hx b e => ⟨hf.ge x hx b e, ?_⟩, fun x hx b e => ⟨hf.gc x hx b e, ?_⟩⟩⟩
  · obtain ⟨i, hi⟩ := List.mem_iff_getElem?.1 hx
    exact ho (h.lists.own i x hi) e
  · obtain ⟨l, h1, h2⟩ := h.copy_at hx
    obtain ⟨cur, fz, hg⟩ := h2.block e
    exact lt_of_block hg

theorem kept_new (w : World) (G : Nat → Prop) (base : Nat) (hG : G w.heap.size) : Kept (w.alloc (.cells (bookCells (.slice none 0 0) (.slice none 0 0)) 47)) G w.heap.size base [] :=
  ⟨.slice none 0 0, .slice none 0 0, [], ⟨by have := heap_alloc_new w (.cells (bookCells (.slice none 0 0) (.slice none 0 0)) 47); simpa using this, World.ownsRow_nil _ _ _ _, World.ownsRow_nil _ _ _ _, fun _ h => (by cases h), fun i e c he _ => (by simp at he), ⟨fun i e he => (by simp at he), fun i j e f b he _ _ _ => (by simp at he)⟩⟩,
    ⟨hG, fun _ h => (by cases h), fun _ h => (by cases h), fun _ h => (by cases h), fun _ h => (by cases h)⟩⟩

theorem book_cell {w : World} {K : Nat} {sv wv : Value} (h : w.heap[K]? = some (.cells (bookCells sv wv) 47 (0, 0))) :
    (∀ o, w.cell? ⟨K, o, none⟩ = (bookCells sv wv)[o]?) ∧ ∀ o, w.frozen? ⟨K, o, none⟩ = false := by
  refine ⟨fun o => ?_, fun o => ?_⟩
  · simp [World.cell?, h]
  · simp [World.frozen?, h]
theorem Try.infoL : (Try.prog.info? 33).map (fun i => (i.zero, i.size, i.bytes)) = some (some (.slice none 0 0), 1, 24) := by kernel_rfl
end Go.Proofs.Ytgigpohfkppplaa.BkI
