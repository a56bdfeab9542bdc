
/-
  The Book in memory: lists that were kept, each in a block of its own, with copies; the blocks that it has; what stays when blocks of some types stay.
-/
import Derived.Test.YtfikkbmilhcahaaBkSLists
import Derived.Test.YtfikkbmilhcahaaBk0
namespace Go.Proofs.Ytfikkbmilhcahaa.BkS
open Go.ChangeShapes Go.WideShapes Go.ChangeAt Go.RowKit Go.Proofs.Ytfikkbmilhcahaa.Bk0


theorem T49.block {w : World} {v : Value} (h : T49 w v) {b : Nat} (hb : v.ownBlock = some b) : ∃ cur fz, w.heap[b]? = some (.cells cur 26 fz) := by
  cases v <;> try cases hb
  rename_i a n c
  cases a with
  | none => cases hb
  | some a => cases hb; exact h a n c rfl
theorem T49.stay {T : TypeId → Prop} {w w' : World} {v : Value} (h : T49 w v) (hs : Sty T w w') (ht : T 26) : T49 w' v := fun a n c hv => by
  obtain ⟨cur, fz, hg⟩ := h a n c hv
  exact ⟨cur, fz, hs.block _ _ _ _ hg ht⟩
theorem Row.stay {T : TypeId → Prop} {w w' : World} {v : Value} {ps : List Sp} (h : Row w v ps) (h49 : T49 w v) (hs : Sty T w w') (ht : T 26) : Row w' v ps :=
  h.ofBlock (fun b hb => by obtain ⟨cur, fz, hg⟩ := h49.block hb; rw [hs.block _ _ _ _ hg ht]; exact hg.symm) hs.size

abbrev Ent := Value × List Sp
/-- Each list in a block of its own. -/
structure Own (w : World) (base : Nat) (es : List Ent) : Prop where
  own : ∀ (i : Nat) (e : Ent), es[i]? = some e → w.ownsRow base 26 2 e.1 e.2.length (itemsV e.2)
  apart : ∀ (i j : Nat) (e f : Ent) (b : Nat), es[i]? = some e → es[j]? = some f → e.1.ownBlock = some b → f.1.ownBlock = some b → i = j

def bookCells (r : Cls) (sv wv : Value) : Array Value :=
  #[r.a0, r.a1, r.a2, r.a3, sv, wv, r.a6, r.a7, r.a8, r.a9, r.a10, r.a11, r.a12, r.a13]

/-- The Book at block K: the lists es. -/
structure Shelf (r : Cls) (w : World) (K base : Nat) (es : List Ent) (sv wv : Value) (cs : List Value) : Prop where
  block : w.heap[K]? = some (.cells (bookCells r sv wv) 45 (0, 0))
  sown : w.ownsRow base 49 1 sv es.length (es.map (·.1))
  wown : w.ownsRow base 49 1 wv es.length cs
  sep : ∀ (b : Nat), sv.ownBlock = some b → wv.ownBlock ≠ some b
  copies : ∀ (i : Nat) (e : Ent) (c : Value), es[i]? = some e → cs[i]? = some c → Row w c e.2 ∧ T49 w c
  lists : Own w base es
/-- Its blocks are among those that G names. -/
structure Foot (G : Nat → Prop) (K : Nat) (es : List Ent) (sv wv : Value) (cs : List Value) : Prop where
  gK : G K
  gs : ∀ b, sv.ownBlock = some b → G b
  gw : ∀ b, wv.ownBlock = some b → G b
  ge : ∀ e ∈ es, ∀ b, e.1.ownBlock = some b → G b
  gc : ∀ c ∈ cs, ∀ b, c.ownBlock = some b → G b

def Kept (r : Cls) (w : World) (G : Nat → Prop) (K base : Nat) (es : List Ent) : Prop := ∃ sv wv cs, Shelf r w K base es sv wv cs ∧ Foot G K es sv wv cs

def TB (e : TypeId) : Prop := e = 49 ∨ e = 45 ∨ e = 26
def TN (e : TypeId) : Prop := e ≠ 49 ∧ e ≠ 45
theorem TB22 : TB 49 := .inl rfl
theorem TB41 : TB 45 := .inr (.inl rfl)
theorem TB49 : TB 26 := .inr (.inr rfl)
theorem TN49 : TN 26 := by unfold TN; decide
theorem notTN22 : ¬ TN 49 := by unfold TN; decide
theorem notTN41 : ¬ TN 45 := by unfold TN; decide

theorem Own.stay {w w' : World} {base : Nat} {es : List Ent} (h : Own w base es) {T : TypeId → Prop} (hs : Sty T w w') (ht : T 26) : Own w' base es :=
  ⟨fun i e he => ow_stay (h.own i e he) hs ht, h.apart⟩
theorem Shelf.ofBlock {r : Cls} {w w' : World} {K base : Nat} {es : List Ent} {sv wv : Value} {cs : List Value} {G : Nat → Prop} (h : Shelf r w K base es sv wv cs) (hf : Foot G K es sv wv cs) (hs : w.heap.size ≤ w'.heap.size) (hb : ∀ k, k < w.heap.size → G k → w'.heap[k]? = w.heap[k]?) : Shelf r w' K base es sv wv cs := by
  have ho : ∀ {e : TypeId} {size : Nat} {v : Value} {n : Nat} {xs : List Value}, w.ownsRow base e size v n xs → (∀ b, v.ownBlock = some b → G b) → w'.ownsRow base e size v n xs := fun h1 h2 =>
    ow_ofBlock h1 fun b hb' => hb b (by obtain ⟨_, cur, hg⟩ := ow_block h1 b hb'; exact lt_of_block hg) (h2 b hb')
  refine ⟨by rw [hb K (lt_of_block h.block) hf.gK]; exact h.block, ho h.sown hf.gs, ho h.wown hf.gw, h.sep, fun i e c he hc => ?_, ⟨fun i e he => ho (h.lists.own i e he) (hf.ge e (List.mem_of_getElem? he)), h.lists.apart⟩⟩
  obtain ⟨h1, h2⟩ := h.copies i e c he hc
  have same : ∀ b, c.ownBlock = some b → w'.heap[b]? = w.heap[b]? := fun b hb' => by
    obtain ⟨cur, fz, hg⟩ := h2.block hb'
    exact hb b (lt_of_block hg) (hf.gc c (List.mem_of_getElem? hc) b hb')
  exact ⟨h1.ofBlock same hs, h2.ofBlock same⟩
theorem Kept.below {r : Cls} {w w' : World} {G : Nat → Prop} {K base : Nat} {es : List Ent} (h : Kept r w G K base es) (hb : Below w.heap.size w w') : Kept r w' G K base es := by
  obtain ⟨sv, wv, cs, h, hf⟩ := h
  exact ⟨sv, wv, cs, h.ofBlock hf hb.size fun k hk _ => hb.block k hk, hf⟩
theorem Foot.mono {G H : Nat → Prop} {K : Nat} {es : List Ent} {sv wv : Value} {cs : List Value} (h : Foot G K es sv wv cs) (hg : ∀ k, G k → H k) : Foot H K es sv wv cs :=
  ⟨hg _ h.gK, fun b e => hg b (h.gs b e), fun b e => hg b (h.gw b e), fun x hx b e => hg b (h.ge x hx b e), fun x hx b e => hg b (h.gc x hx b e)⟩
theorem Kept.mono {r : Cls} {w : World} {G H : Nat → Prop} {K base : Nat} {es : List Ent} (h : Kept r w G K base es) (hg : ∀ k, G k → H k) : Kept r w H K base es := by
  obtain ⟨sv, wv, cs, h, hf⟩ := h
  exact ⟨sv, wv, cs, h, hf.mono hg⟩
theorem Shelf.copy_at {r : Cls} {w : World} {K base : Nat} {es : List Ent} {sv wv : Value} {cs : List Value} (h : Shelf r w K base es sv wv cs) {c : Value} (hc : c ∈ cs) : ∃ l, Row w c l ∧ T49 w c := by
  obtain ⟨i, hi⟩ := List.mem_iff_getElem?.1 hc
  have hl : cs.length = es.length := by have := h.wown.1; simpa using this
  have hil := (List.getElem?_eq_some_iff.1 hi).1
  exact ⟨_, h.copies i _ c (List.getElem?_eq_getElem (by omega)) hi⟩
theorem Kept.fit {r : Cls} {w : World} {G : Nat → Prop} {K base : Nat} {es : List Ent} (h : Kept r w G K base es) : Kept r w (fun k => G k ∧ k < w.heap.size) K base es := by
  obtain ⟨sv, wv, cs, h, hf⟩ := h
  have ho : ∀ {e : TypeId} {size : Nat} {v : Value} {n : Nat} {xs : List Value} {b : Nat}, w.ownsRow base e size v n xs → v.ownBlock = some b → b < w.heap.size := fun h1 hb => by
    obtain ⟨_, cur, hg⟩ := ow_block h1 _ hb
    exact lt_of_block hg
  refine ⟨sv, wv, cs, h, ⟨⟨hf.gK, lt_of_block h.block⟩, fun b e => ⟨hf.gs b e, ho h.sown e⟩, fun b e => ⟨hf.gw b e, ho h.wown e⟩, fun x hx b e => ⟨hf.ge x hx b e, ?_⟩, fun x hx b e => ⟨hf.gc x hx b e, ?_⟩⟩⟩
  · obtain ⟨i, hi⟩ := List.mem_iff_getElem?.1 hx
    exact ho (h.lists.own i x hi) e
  · obtain ⟨l, h1, h2⟩ := h.copy_at hx
    obtain ⟨cur, fz, hg⟩ := h2.block e
    exact lt_of_block hg

theorem shelf_new {r : Cls} {w : World} {K base : Nat} (h : w.heap[K]? = some (.cells (bookCells r (.slice none 0 0) (.slice none 0 0)) 45 (0, 0))) : Shelf r w K base [] (.slice none 0 0) (.slice none 0 0) [] :=
  ⟨h, World.ownsRow_nil _ _ _ _, World.ownsRow_nil _ _ _ _, fun _ h => (by cases h), fun i e c he _ => (by simp at he), ⟨fun i e he => (by simp at he), fun i j e f b he _ _ _ => (by simp at he)⟩⟩
/-- Another kind's call: its types stay, its cells of the Book stand. -/
theorem Shelf.typ {r r' : Cls} {w w' : World} {K base : Nat} {es : List Ent} {sv wv : Value} {cs : List Value} {T : TypeId → Prop} (h : Shelf r w K base es sv wv cs) (hs : Sty T w w') (h1 : T 49) (h2 : T 26) (hK : w'.heap[K]? = some (.cells (bookCells r' sv wv) 45 (0, 0))) : Shelf r' w' K base es sv wv cs :=
  ⟨hK, ow_stay h.sown hs h1, ow_stay h.wown hs h1, h.sep, fun i e c he hc => ⟨(h.copies i e c he hc).1.stay (h.copies i e c he hc).2 hs h2, (h.copies i e c he hc).2.stay hs h2⟩, h.lists.stay hs h2⟩

theorem book_cell {r : Cls} {w : World} {K : Nat} {sv wv : Value} (h : w.heap[K]? = some (.cells (bookCells r sv wv) 45 (0, 0))) :
    (∀ o, w.cell? ⟨K, o, none⟩ = (bookCells r sv wv)[o]?) ∧ ∀ o, w.frozen? ⟨K, o, none⟩ = false := by
  refine ⟨fun o => ?_, fun o => ?_⟩
  · simp [World.cell?, h]
  · simp [World.frozen?, h]
theorem Try.infoL : (Try.prog.info? 49).map (fun i => (i.zero, i.size, i.bytes)) = some (some (.slice none 0 0), 1, 24) := by kernel_rfl
end Go.Proofs.Ytfikkbmilhcahaa.BkS

namespace Go.Proofs.Ytfikkbmilhcahaa.BkS
open Go.ChangeShapes Go.WideShapes Go.ChangeAt Go.RowKit Go.Proofs.Ytfikkbmilhcahaa.Bk0
attribute [local go_sem ↓] Go.wp_at_zero Go.wp_at_succ


theorem set_book {r : Cls} {w : World} {K : Nat} {sv wv u : Value} (h : w.heap[K]? = some (.cells (bookCells r sv wv) 45 (0, 0))) :
    (w.setCell ⟨K, 4, none⟩ u).heap[K]? = some (.cells (bookCells r u wv) 45 (0, 0)) ∧ (w.setCell ⟨K, 5, none⟩ u).heap[K]? = some (.cells (bookCells r sv u) 45 (0, 0)) := by
  constructor <;> simp [World.setCell, Array.getElem?_modify, h, bookCells]

/-- The first half: b.spans has one more. -/
structure Half (r : Cls) (w : World) (K base : Nat) (es : List Ent) (v : Value) (sv wv : Value) (cs : List Value) (N : Nat) : Prop where
  block : w.heap[K]? = some (.cells (bookCells r sv wv) 45 (0, 0))
  sown : w.ownsRow base 49 1 sv (es.length + 1) (es.map (·.1) ++ [v])
  wown : w.ownsRow base 49 1 wv es.length cs
  sep : ∀ (b : Nat), sv.ownBlock = some b → wv.ownBlock ≠ some b
  top : ∀ (b : Nat), sv.ownBlock = some b → b < N

theorem half_of {r : Cls} {w w5 : World} {K base : Nat} {es : List Ent} {sv wv v : Value} {cs : List Value} {g cap : Nat} (h : Shelf r w K base es sv wv cs)
    (hown : w5.ownsRow base 49 1 (.slice (some ⟨g, 0, none⟩) (es.length + 1) cap) (es.length + 1) (es.map (·.1) ++ [v])) (hgrow : (w.alloc (.cells #[v] 49)).grownBy w5 sv.ownBlock) (hat : sv.ownBlock = some g ∨ g = w.heap.size + 1) :
    Half r (w5.setCell ⟨K, 4, none⟩ (.slice (some ⟨g, 0, none⟩) (es.length + 1) cap)) K base es v (.slice (some ⟨g, 0, none⟩) (es.length + 1) cap) wv cs (w5.setCell ⟨K, 4, none⟩ (.slice (some ⟨g, 0, none⟩) (es.length + 1) cap)).heap.size ∧
    Sty TN w (w5.setCell ⟨K, 4, none⟩ (.slice (some ⟨g, 0, none⟩) (es.length + 1) cap)) ∧ w5.heap[K]? = some (.cells (bookCells r sv wv) 45 (0, 0)) := by
  have hK := lt_of_block h.block
  have hba : Below w.heap.size w (w.alloc (.cells #[v] 49)) := (Below.refl _ _).alloc (Nat.le_refl _) _
  have hsb := fun b hb => ow_block h.sown b hb
  have hKne : some K ≠ sv.ownBlock := fun e => by obtain ⟨_, cur, hg⟩ := hsb K e.symm; rw [h.block] at hg; cases hg
  have hsz : (w.alloc (.cells #[v] 49)).heap.size = w.heap.size + 1 := by simp
  have hK5 : w5.heap[K]? = some (.cells (bookCells r sv wv) 45 (0, 0)) := by
    rw [hgrow.block K (by omega) hKne, hba.block K hK]; exact h.block
  have hw5 : w5.ownsRow base 49 1 wv es.length cs := by
    have h1 := (ow_stay (T := fun _ => True) h.wown (Sty.of hba) trivial)
    refine h1.kept hgrow ?_
    cases hw : wv.ownBlock with
    | none => exact .inl rfl
    | some b => exact .inr fun e => h.sep b e.symm hw
  have hK60 : (w5.setCell ⟨K, 4, none⟩ (.slice (some ⟨g, 0, none⟩) (es.length + 1) cap)).heap.size = w5.heap.size := by simp
  have hst : Sty (fun e => e ≠ 45) w5 (w5.setCell ⟨K, 4, none⟩ (.slice (some ⟨g, 0, none⟩) (es.length + 1) cap)) := (Sty.of (Below.refl _ _)).setCell 4 _ hK5 (by simp)
  refine ⟨⟨(set_book hK5).1, ow_stay hown hst (by decide), ow_stay hw5 hst (by decide), fun b hb => ?_, fun b hb => ?_⟩, ?_, hK5⟩
  · cases hb
    rcases hat with e | e
    · exact h.sep g e
    · intro hw
      obtain ⟨_, cur, hg⟩ := ow_block h.wown g hw
      have := lt_of_block hg
      omega
  · rw [hK60]; exact (hown.lt b hb).2
  · refine ((Sty.of hba).trans (Sty.grown hgrow fun b hb => ?_)).trans (hst.mono fun e he => he.2)
    obtain ⟨_, cur, hg⟩ := hsb b hb
    exact ⟨cur, 49, (0, 0), by rw [hba.block b (lt_of_block hg)]; exact hg, notTN22⟩

/-- The lists with one more. -/
theorem own_more {w : World} {base : Nat} {es : List Ent} {v : Value} {l : List Sp} (h : Own w base es) (hv : w.ownsRow base 26 2 v l.length (itemsV l)) (hfresh : ∀ e ∈ es, ∀ b, e.1.ownBlock = some b → v.ownBlock ≠ some b) : Own w base (es ++ [(v, l)]) := by
  refine ⟨fun i e he => ?_, fun i j e f b he hf hb hc => ?_⟩
  · rcases get_snoc es (v, l) i e he with h1 | ⟨_, rfl⟩
    · exact h.own i e h1
    · exact hv
  · rcases get_snoc es (v, l) i e he with h1 | ⟨e1, rfl⟩ <;> rcases get_snoc es (v, l) j f hf with h2 | ⟨e2, rfl⟩
    · exact h.apart i j e f b h1 h2 hb hc
    · exact absurd hc (hfresh e (List.mem_of_getElem? h1) b hb)
    · exact absurd hb (hfresh f (List.mem_of_getElem? h2) b hc)
    · omega

theorem second_of {r : Cls} {w w6 w7 w9 : World} {K base : Nat} {es : List Ent} {sv0 sv wv0 wv v cv : Value} {l : List Sp} {cs cs0 : List Value} {g cap : Nat} {G : Nat → Prop} (h0 : Shelf r w K base es sv0 wv0 cs) (hfoot : Foot G K es sv0 wv0 cs) (hGn : ∀ b, w.heap.size ≤ b → G b) (hGv : ∀ b, v.ownBlock = some b → G b) (hGs : ∀ b, sv.ownBlock = some b → G b) (hwv : ∀ b, wv.ownBlock = some b → G b) (hfresh : ∀ e ∈ es, ∀ b, e.1.ownBlock = some b → v.ownBlock ≠ some b)
    (hv : w.ownsRow base 26 2 v l.length (itemsV l)) (hSt : Sty TN w w6) (h : Half r w6 K base es v sv wv cs w6.heap.size) (hcs : cs0 = cs) (hb7 : Below w6.heap.size w6 w7) (hcv : w7.ownsRow w6.heap.size 26 2 cv l.length (itemsV l))
    (hown : w9.ownsRow base 49 1 (.slice (some ⟨g, 0, none⟩) (es.length + 1) cap) (es.length + 1) (cs ++ [cv])) (hgrow : (w7.alloc (.cells #[cv] 49)).grownBy w9 wv.ownBlock) (hat : wv.ownBlock = some g ∨ g = w7.heap.size + 1) (hB : Below base w w6) (hbK : base ≤ K) :
    w9.heap[K]? = some (.cells (bookCells r sv wv) 45 (0, 0)) ∧ Kept r (w9.setCell ⟨K, 5, none⟩ (.slice (some ⟨g, 0, none⟩) (es.length + 1) cap)) G K base (es ++ [(v, l)]) ∧
    Sty TN w (w9.setCell ⟨K, 5, none⟩ (.slice (some ⟨g, 0, none⟩) (es.length + 1) cap)) ∧ Below base w (w9.setCell ⟨K, 5, none⟩ (.slice (some ⟨g, 0, none⟩) (es.length + 1) cap)) := by
  subst hcs
  have hK := lt_of_block h.block
  have hba : Below w7.heap.size w7 (w7.alloc (.cells #[cv] 49)) := (Below.refl _ _).alloc (Nat.le_refl _) _
  have hb8 := blw_step hb7 hba
  have hwb := fun b hb => ow_block h.wown b hb
  have hKne : some K ≠ wv.ownBlock := fun e => by obtain ⟨_, cur, hg⟩ := hwb K e.symm; rw [h.block] at hg; cases hg
  have hK9 : w9.heap[K]? = some (.cells (bookCells r sv wv) 45 (0, 0)) := by
    rw [hgrow.block K (Nat.lt_of_lt_of_le hK hb8.size) hKne, hb8.block K hK]; exact h.block
  have hst : Sty (fun e => e ≠ 45) w9 (w9.setCell ⟨K, 5, none⟩ (.slice (some ⟨g, 0, none⟩) (es.length + 1) cap)) := (Sty.of (Below.refl _ _)).setCell 5 _ hK9 (by simp)
  have hSg : Sty TN (w7.alloc (.cells #[cv] 49)) w9 := Sty.grown hgrow fun b hb => by
    obtain ⟨_, cur, hg⟩ := hwb b hb
    exact ⟨cur, 49, (0, 0), by rw [hb8.block b (lt_of_block hg)]; exact hg, notTN22⟩
  have hS79 : Sty TN w7 (w9.setCell ⟨K, 5, none⟩ (.slice (some ⟨g, 0, none⟩) (es.length + 1) cap)) := ((Sty.of hba).trans hSg).trans (hst.mono fun e he => he.2)
  have hS69 : Sty TN w6 (w9.setCell ⟨K, 5, none⟩ (.slice (some ⟨g, 0, none⟩) (es.length + 1) cap)) := (Sty.of hb7).trans hS79
  have hS9 := hSt.trans hS69
  have hs9 : w9.ownsRow base 49 1 sv (es.length + 1) (es.map (·.1) ++ [v]) := by
    have h1 := (ow_stay (T := fun _ => True) h.sown (Sty.of hb8) trivial)
    refine h1.kept hgrow ?_
    cases hw : sv.ownBlock with
    | none => exact .inl rfl
    | some b => exact .inr fun e => h.sep b hw e.symm
  refine ⟨hK9, ⟨sv, _, cs0 ++ [cv], ⟨(set_book hK9).2, by rw [List.length_append, List.map_append]; exact ow_stay hs9 hst (by decide), by rw [List.length_append]; exact ow_stay hown hst (by decide), fun b hb => ?_, fun i e c he hc => ?_, ?_⟩, ⟨hfoot.gK, hGs, fun b hb => ?_, fun x hx b hb => ?_, fun x hx b hb => ?_⟩⟩, hS9, ?_⟩
  · intro hw
    cases hw
    rcases hat with e | e
    · exact h.sep _ hb e
    · have h1 : g < w6.heap.size := h.top _ hb
      have := hb7.size
      omega
  · have hlen : cs0.length = es.length := by have := h.wown.1; simpa using this
    rcases get_snoc es (v, l) i e he with h1 | ⟨e1, rfl⟩
    · rcases get_snoc cs0 cv i c hc with h2 | ⟨e2, _⟩
      · have hcp := h0.copies i e c h1 h2
        exact ⟨hcp.1.stay hcp.2 hS9 TN49, hcp.2.stay hS9 TN49⟩
      · have := (List.getElem?_eq_some_iff.1 h1).1; omega
    · rcases get_snoc cs0 cv i c hc with h2 | ⟨_, rfl⟩
      · have := (List.getElem?_eq_some_iff.1 h2).1; omega
      · have := ow_stay hcv hS79 TN49
        exact ⟨own_row this, own_t49 this⟩
  · exact own_more (h0.lists.stay hS9 TN49) (ow_stay hv hS9 TN49) hfresh
  · cases hb
    rcases hat with e | e
    · exact hwv _ e
    · exact hGn g (by have := hb7.size; have := hSt.size; omega)
  · rcases List.mem_append.1 hx with hx | hx
    · exact hfoot.ge x hx b hb
    · rw [List.mem_singleton.1 hx] at hb; exact hGv b hb
  · rcases List.mem_append.1 hx with hx | hx
    · exact hfoot.gc x hx b hb
    · rw [List.mem_singleton.1 hx] at hb
      have := (ow_block hcv b hb).1
      exact hGn _ (by have := hSt.size; omega)
  · exact (((hB.trans (hb7.mono (Nat.le_trans hbK (Nat.le_of_lt hK)))).trans ((hba.mono (Nat.le_trans (Nat.le_trans hbK (Nat.le_of_lt hK)) hb7.size)))).grown hgrow (by have := hb8.size; omega) (fun j hj => (hwb j hj).1)).setCell hbK _

set_option maxRecDepth 100000 in
theorem book_more {r : Cls} {w : World} {G : Nat → Prop} {K base : Nat} {es : List Ent} {v : Value} {l : List Sp} (hk : Kept r w G K base es) (hGn : ∀ b, w.heap.size ≤ b → G b) (hGv : ∀ b, v.ownBlock = some b → G b) (hv : w.ownsRow base 26 2 v l.length (itemsV l))
    (hfresh : ∀ e ∈ es, ∀ b, e.1.ownBlock = some b → v.ownBlock ≠ some b) (hn : es.length < 250) (hl : l.length ≤ 1000000) (hbase : base ≤ K) :
    Calls Try.prog 20 #[.pointer (some ⟨K, 0, none⟩), v] w fun e w' => e = .returned (.tuple #[]) ∧ Kept r w' G K base (es ++ [(v, l)]) ∧ Sty TN w w' ∧ Below base w w' := by
  obtain ⟨i0, hi0, hz0', hz1', hz2'⟩ := info_parts Try.infoL
  obtain ⟨sv, wv, cs, hs, hfoot⟩ := hk
  have hfo := Hid.intro hfoot
  have hGn' := Hid.intro hGn
  have hGv' := Hid.intro hGv
  clear hfoot hGn hGv
  obtain ⟨cK, fK⟩ := book_cell hs.block
  have c4 := cK 4
  have f4 := fK 4
  simp only [bookCells] at c4
  change w.cell? ⟨K, 4, none⟩ = some sv at c4
  obtain ⟨a1, c1, rfl⟩ := ow_form hs.sown
  obtain ⟨a2, c2, rfl⟩ := ow_form hs.wown
  obtain ⟨a3, c3, rfl⟩ := ow_form hv
  have hKl := lt_of_block hs.block
  have hs' := Hid.intro hs
  have hv' := Hid.intro hv
  have hfr := Hid.intro hfresh
  have hsown := hs.sown
  have hn' : ((es.length : Nat) : Int) < 250 := by omega
  clear hs hv hfresh cK fK
  go_enter Try.func20, Try.ntmps20
  go_wp2_with (at_builtin; refine wpList_append_lies _ rfl _ _ 39 rfl base 49 i0 (.slice none 0 0) 1 24 Try.underlying39 hi0 hz0' hz1' hz2' rfl (by decide) _ _ _ rfl (hsown.alloc _) ⟨w.heap.size, 0, none⟩ 1 1 [.slice a3 l.length c3] rfl rfl (World.news_of_block (cs := #[.slice a3 l.length c3]) (t := 49) (fr := (0, 0)) (heap_alloc_new w _)) (by simp [Value.oneCell']) (by decide) (by unfold maxLen; omega) (by omega) (by simp; omega) (w.heap.size + 1) (by simp) ?_; intro g5 cap5 w5 hown5 hgrow5 hat5 hlt5; have hh := Hid.intro (half_of hs'.out hown5 hgrow5 hat5); have hGs := Hid.intro (show ∀ b, (Value.slice (some ⟨g5, 0, none⟩) (es.length + 1) cap5).ownBlock = some b → G b from fun b hb => by cases hb; exact hat5.elim (fun e => hfo.out.gs _ e) (fun e => hGn'.out g5 (by omega))); obtain ⟨k5, kf5⟩ := book_cell hh.out.2.2; have k54 := k5 4; have f54 := kf5 4; simp only [bookCells] at k54; change w5.cell? ⟨K, 4, none⟩ = some (.slice a1 es.length c1) at k54; clear k5 kf5)
  obtain ⟨hH, hSt, _⟩ := hh.out
  have hB6 : Below base w (w5.setCell ⟨K, 4, none⟩ (.slice (some ⟨g5, 0, none⟩) (es.length + 1) cap5)) :=
    (((Below.refl base w).alloc (by omega) _).grown hgrow5 (by simp; omega) (fun j hj => (hsown.lt j hj).1)).setCell hbase _
  have hv6 := Hid.intro (ow_stay hv'.out hSt TN49)
  have hH' := Hid.intro hH
  have hSt' := Hid.intro hSt
  obtain ⟨k6, kf6⟩ := book_cell hH.block
  have q5 := k6 5
  have qf5 := kf6 5
  simp only [bookCells] at q5
  change (w5.setCell ⟨K, 4, none⟩ (.slice (some ⟨g5, 0, none⟩) (es.length + 1) cap5)).cell? ⟨K, 5, none⟩ = some (.slice a2 es.length c2) at q5
  have hK6 := lt_of_block hH.block
  clear k6 kf6 hH hSt hh hown5 hgrow5 hat5 hlt5 k54 f54 c4 f4 hsown
  generalize hsv5 : Value.slice (some ⟨g5, 0, none⟩) (es.length + 1) cap5 = sv5 at *
  generalize w5.setCell ⟨K, 4, none⟩ sv5 = w6 at *
  clear hsv5
  have hb67 : Below w6.heap.size w6 w6.drew := blw_drw
  go_region_law (first
    | (refine step_append_lies _ (by rfl) _ _ 39 (by rfl) base 49 i0 (.slice none 0 0) 1 24 Try.underlying39 hi0 hz0' hz1' hz2' rfl (by decide) (.slice a2 es.length c2) es.length cs (by rfl) (hw7.alloc _) ⟨w7.heap.size, 0, none⟩ 1 1 [.slice a7 l.length c7] (by rfl) (by rfl) (World.news_of_block (cs := #[.slice a7 l.length c7]) (t := 49) (fr := (0, 0)) (heap_alloc_new w7 _)) (by simp [Value.oneCell']) (by decide) (by unfold maxLen; omega) (by omega) (by simp; omega) (w7.heap.size + 1) (by simp) ?_; intro g9 cap9 w9 hown9 hgrow9 hat9 hlt9; have hF := Hid.intro (second_of hs'.out hfo.out hGn'.out hGv'.out hGs.out hfo.out.gw hfr.out hv'.out hSt'.out hH'.out rfl (blw_drew hb7) hcv hown9 hgrow9 hat9 hB6 hbase); obtain ⟨k9, kf9⟩ := book_cell hF.out.1; have q9 := k9 5; have qf9 := kf9 5; simp only [bookCells] at q9; change w9.cell? ⟨K, 5, none⟩ = some (.slice a2 es.length c2) at q9; clear k9 kf9)
    | (go_simp; refine (copy_rows (ps := l) ?_ hl).mono ?_; exact (own_row hv6.out).below hb67; rintro e w7 ⟨cv, rfl, hcv, hb7⟩; obtain ⟨a7, c7, rfl⟩ := ow_form hcv; have q7 : w7.cell? ⟨K, 5, none⟩ = some (.slice a2 es.length c2) := (by rw [(blw_drew hb7).cell (p := ⟨K, 5, none⟩) hK6]; exact q5); have qf7 : w7.frozen? ⟨K, 5, none⟩ = false := (by rw [(blw_drew hb7).frozen (p := ⟨K, 5, none⟩) hK6]; exact qf5); have hw7 : w7.ownsRow base 49 1 (.slice a2 es.length c2) es.length cs := ow_stay (T := fun _ => True) hH'.out.wown (Sty.of (blw_drew hb7)) trivial; have hz7 : w6.heap.size ≤ w7.heap.size := (blw_drew hb7).size; have hK7 : K < w7.heap.size := (by omega)))
  all_goals
    go_wp2
    go_end0
    exact ⟨rfl, hF.out.2.1, hF.out.2.2.1, hF.out.2.2.2⟩
end Go.Proofs.Ytfikkbmilhcahaa.BkS
