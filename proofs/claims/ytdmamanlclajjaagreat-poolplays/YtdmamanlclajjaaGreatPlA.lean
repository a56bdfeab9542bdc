/-
  What is known in the law's loop: the pool, the Book, the document's pool, and blocks besides, each apart from the others; what each call leaves of it.
-/
import Derived.Test.YtdmamanlclajjaaGreatRefD
import Derived.Test.YtdmamanlclajjaaGreatPCopy
namespace Go.Proofs.YtdmamanlclajjaaGreat
open Go.ChangeShapes Go.WideShapes Go.ChangeAt Go.RowKit

theorem SObj.typ {w w' : World} {b s B : Nat} {vs : List Value} {bs : List (List It)} (h : SObj w b s B vs bs) (hs : Bk.Stay Bk.TN w w') : SObj w' b s B vs bs where
  box := hs.block _ _ _ _ h.box (by unfold Bk.TN; decide)
  row := hs.block _ _ _ _ h.row (by unfold Bk.TN; decide)
  len := h.len
  n1 := h.n1
  n2 := h.n2
  low := h.low
  hb := Nat.le_trans h.hb hs.size
  buk := fun k v l hv hl => Bk.own_stay (h.buk k v l hv hl) hs (by unfold Bk.TN; decide)
  apart := h.apart
  ord := h.ord
theorem Pl.typ {w w' : World} {F : Nat → Prop} {p most : Nat} {L : List Bl} (h : Pl w F p most L) (hs : Bk.Stay Bk.TN w w') : Pl w' F p most L := by
  obtain ⟨Fs, s, v, bs, h⟩ := h
  obtain ⟨f, B, vs, hS, hF⟩ := h.sh
  exact ⟨Fs, s, v, bs, ⟨hs.block _ _ _ _ h.box (by unfold Bk.TN; decide), h.fp, Bk.own_stay h.row hs Bk.TN49, h.fv, ⟨f, B, vs, hS.typ hs, hF⟩, h.fs, h.np, h.nv, h.prints, h.inv⟩⟩
theorem Rf.typ {w w' : World} {v : Value} {L : List Bl} (h : Rf w v L) (hs : Bk.Stay Bk.TN w w') : Rf w' v L :=
  ⟨h.row.stay h.t49 hs Bk.TN49, h.t49.stay hs Bk.TN49, h.cap⟩
theorem Rf.block {w w' : World} {v : Value} {L : List Bl} (h : Rf w v L) (hs : w.heap.size ≤ w'.heap.size) (hb : ∀ b, b < w.heap.size → v.ownBlock = some b → w'.heap[b]? = w.heap[b]?) : Rf w' v L := by
  have same : ∀ b, v.ownBlock = some b → w'.heap[b]? = w.heap[b]? := fun b e => by
    obtain ⟨cur, fz, hg⟩ := h.t49.block e
    exact hb b (lt_of_block hg) e
  exact ⟨h.row.ofBlock same hs, h.t49.ofBlock same, h.cap⟩
theorem Rf.lt {w : World} {v : Value} {L : List Bl} (h : Rf w v L) {b : Nat} (hb : v.ownBlock = some b) : b < w.heap.size := by
  obtain ⟨cur, fz, hg⟩ := h.t49.block hb
  exact lt_of_block hg
theorem kept_keep {w w' : World} {F G : Nat → Prop} {K base : Nat} {es : List Bk.Ent} (h : Bk.Kept w G K base es) (hk : Keep F w w') (hd : ∀ k, k < w.heap.size → G k → ¬ F k) : Bk.Kept w' G K base es := by
  obtain ⟨sv, wv, cs, h, hf⟩ := h
  exact ⟨sv, wv, cs, h.ofBlock hf hk.size fun k hl hg => hk.block k hl (hd k hl hg), hf⟩
/-- A block of another type is none of the Book's. -/
theorem kept_ne {w : World} {G : Nat → Prop} {K base R : Nat} {es : List Bk.Ent} {cs : Array Value} {fz : Nat × Nat} (h : Bk.Kept w G K base es) (hR : w.heap[R]? = some (.cells cs 28 fz)) : Bk.Kept w (fun k => G k ∧ k ≠ R) K base es := by
  obtain ⟨sv, wv, cc, h, hf⟩ := h
  have ho : ∀ {e : TypeId} {size : Nat} {v : Value} {n : Nat} {xs : List Value} {b : Nat}, e ≠ 28 → w.ownsRow base e size v n xs → v.ownBlock = some b → b ≠ R := fun he h1 hb e => by
    obtain ⟨_, cur, hg⟩ := Bk.own_block h1 _ hb
    rw [e, hR] at hg; cases hg; exact he rfl
  refine ⟨sv, wv, cc, h, ⟨⟨hf.gK, fun e => ?_⟩, fun b e => ⟨hf.gs b e, ho (by decide) h.sown e⟩, fun b e => ⟨hf.gw b e, ho (by decide) h.wown e⟩, fun x hx b e => ⟨hf.ge x hx b e, ?_⟩, fun x hx b e => ⟨hf.gc x hx b e, fun e' => ?_⟩⟩⟩
  · have := h.block
    rw [e, hR] at this; cases this
  · obtain ⟨i, hi⟩ := List.mem_iff_getElem?.1 hx
    exact ho (by decide) (h.lists.own i x hi) e
  · obtain ⟨l, h1, h2⟩ := h.copy_at hx
    obtain ⟨cur, fz', hg⟩ := h2.block e
    rw [e', hR] at hg; cases hg

abbrev Ex := Nat × Array Value × TypeId
structure Sx (w0 wr : World) (F O : Nat → Prop) (K p most : Nat) (es : List Bk.Ent) (L M : List Bl) (v : Value) (ex : List Ex) : Prop where
  pl : Pl wr F p most L
  fit : ∀ k, F k → k < wr.heap.size ∧ w0.heap.size ≤ k ∧ ¬ O k
  kept : Bk.Kept wr (fun k => ¬ F k ∧ ¬ O k) K w0.heap.size es
  rf : Rf wr v M
  vout : ∀ b, v.ownBlock = some b → ¬ F b ∧ ¬ O b
  exs : ∀ x ∈ ex, wr.heap[x.1]? = some (.cells x.2.1 x.2.2 (0, 0)) ∧ ¬ F x.1 ∧ ¬ O x.1 ∧ Bk.TN x.2.2 ∧ w0.heap.size ≤ x.1
  bel : Below w0.heap.size w0 wr
  kl : w0.heap.size ≤ K

abbrev No : Nat → Prop := fun _ => False
theorem Sx.at {w0 wr : World} {F O : Nat → Prop} {K p most : Nat} {es : List Bk.Ent} {L M : List Bl} {v : Value} {ex : List Ex} (h : Sx w0 wr F O K p most es L M v ex) {k : Nat} {cs : Array Value} {t : TypeId} (hx : (k, cs, t) ∈ ex) :
    (∀ o, wr.cell? ⟨k, o, none⟩ = cs[o]?) ∧ (∀ o, wr.frozen? ⟨k, o, none⟩ = false) ∧ k < wr.heap.size := by
  have : wr.heap[k]? = some (.cells cs t (0, 0)) := (h.exs _ hx).1
  refine ⟨fun o => ?_, fun o => ?_, lt_of_block this⟩
  · simp [World.cell?, this]
  · simp [World.frozen?, this]
theorem Sx.below {w0 wr w' : World} {F O : Nat → Prop} {K p most : Nat} {es : List Bk.Ent} {L M : List Bl} {v : Value} {ex : List Ex} (h : Sx w0 wr F O K p most es L M v ex) (hb : Below wr.heap.size wr w') : Sx w0 w' F O K p most es L M v ex where
  pl := h.pl.below hb
  fit := fun k hk => ⟨Nat.lt_of_lt_of_le (h.fit k hk).1 hb.size, (h.fit k hk).2⟩
  kept := h.kept.below hb
  rf := h.rf.below hb
  vout := h.vout
  exs := fun x hx => by
    obtain ⟨h1, h2⟩ := h.exs x hx
    exact ⟨by rw [hb.block _ (lt_of_block h1)]; exact h1, h2⟩
  bel := h.bel.trans (hb.mono h.bel.size)
  kl := h.kl
theorem Sx.less {w0 wr : World} {F O : Nat → Prop} {K p most : Nat} {es : List Bk.Ent} {L M : List Bl} {v : Value} {ex ey : List Ex} (h : Sx w0 wr F O K p most es L M v ex) (hs : ∀ x ∈ ey, x ∈ ex) : Sx w0 wr F O K p most es L M v ey := { h with exs := fun x hx => h.exs x (hs x hx) }
theorem Sx.new {w0 wr : World} {F O : Nat → Prop} {K p most : Nat} {es : List Bk.Ent} {L M : List Bl} {v : Value} {ex : List Ex} (h : Sx w0 wr F O K p most es L M v ex) (cs : Array Value) (t : TypeId) (ht : Bk.TN t) (hO : ¬ O wr.heap.size) : Sx w0 (wr.alloc (.cells cs t)) F O K p most es L M v ((wr.heap.size, cs, t) :: ex) := by
  have h1 := h.below ((Below.refl _ wr).alloc (Nat.le_refl _) (.cells cs t))
  refine { h1 with exs := fun x hx => ?_ }
  rcases List.mem_cons.1 hx with rfl | hx
  · refine ⟨by have := heap_alloc_new wr (.cells cs t); simpa using this, fun e => ?_, hO, ht, h.bel.size⟩
    have := (h.fit _ e).1
    simp only at this
    omega
  · exact h1.exs x hx
/-- The document's pool has made a step. -/
theorem Sx.ref {w0 wr w' : World} {F O : Nat → Prop} {K p most : Nat} {es : List Bk.Ent} {L M M' : List Bl} {v v' : Value} {ex : List Ex} (h : Sx w0 wr F O K p most es L M v ex) (ho : RefOut wr w' v v' M') (hO : ∀ k, O k → k < wr.heap.size) : Sx w0 w' F O K p most es L M' v' ex := by
  have h1 := h.below ho.bel
  exact { h1 with
    rf := ho.rf
    vout := fun b e => by
      rcases ho.blk b e with e | e
      · exact h.vout b e
      · refine ⟨fun hf => ?_, fun hf => ?_⟩
        · have := (h.fit b hf).1; omega
        · have := hO b hf; omega }
/-- The pool has made a step. -/
theorem Sx.pool {w0 wr w' : World} {F : Nat → Prop} {K p most : Nat} {es : List Bk.Ent} {L L' M : List Bl} {v : Value} {ex : List Ex} (h : Sx w0 wr F No K p most es L M v ex) (hp : Pl w' (Fr F wr) p most L') (hk : Keep F wr w') :
    ∃ F', Sx w0 w' F' No K p most es L' M v ex := by
  have hs := hk.size
  refine ⟨fun k => Fr F wr k ∧ k < w'.heap.size, hp.fit, fun k e => ⟨e.2, ?_, id⟩, ?_, ?_, fun b e => ⟨fun hf => ?_, id⟩, fun x hx => ?_, ?_, h.kl⟩
  · rcases e.1 with e | e
    · exact (h.fit k e).2.1
    · have := h.bel.size; omega
  · refine (kept_keep h.kept.fit hk fun k _ e => e.1.1).mono fun k e => ⟨fun hf => ?_, id⟩
    rcases hf.1 with hf | hf
    · exact e.1.1 hf
    · have := e.2; omega
  · exact h.rf.block hs fun b hl e => hk.block b hl (h.vout b e).1
  · have hl := h.rf.lt e
    rcases hf.1 with hf | hf
    · exact (h.vout b e).1 hf
    · omega
  · obtain ⟨h1, h2, h3, h4⟩ := h.exs x hx
    refine ⟨by rw [hk.block _ (lt_of_block h1) h2]; exact h1, fun hf => ?_, id, h4⟩
    rcases hf.1 with hf | hf
    · exact h2 hf
    · have := lt_of_block h1; omega
  · exact h.bel.trans (hk.below h.bel.size fun k hl hf => by have := (h.fit k hf).2.1; omega)
/-- Another pool, that is left, has made a step. -/
theorem Sx.other {w0 wr w' : World} {F O : Nat → Prop} {K p most : Nat} {es : List Bk.Ent} {L M : List Bl} {v : Value} {ex : List Ex} (h : Sx w0 wr F O K p most es L M v ex) (hk : Keep O wr w') (hO : ∀ k, O k → w0.heap.size ≤ k) :
    Sx w0 w' F (Fr O wr) K p most es L M v ex := by
  have hs := hk.size
  have no : ∀ k, k < wr.heap.size → ¬ O k → ¬ Fr O wr k := fun k hl hn e => e.elim hn (fun e => by omega)
  refine ⟨h.pl.keep hk fun k _ hf => (h.fit k hf).2.2, fun k hf => ⟨Nat.lt_of_lt_of_le (h.fit k hf).1 hs, (h.fit k hf).2.1, no k (h.fit k hf).1 (h.fit k hf).2.2⟩, ?_, ?_, fun b e => ⟨(h.vout b e).1, no b (h.rf.lt e) (h.vout b e).2⟩, fun x hx => ?_, ?_, h.kl⟩
  · exact (kept_keep h.kept.fit hk fun k _ e => e.1.2).mono fun k e => ⟨e.1.1, no k e.2 e.1.2⟩
  · exact h.rf.block hs fun b hl e => hk.block b hl (h.vout b e).2
  · obtain ⟨h1, h2, h3, h4⟩ := h.exs x hx
    exact ⟨by rw [hk.block _ (lt_of_block h1) h3]; exact h1, h2, no _ (lt_of_block h1) h3, h4⟩
  · exact h.bel.trans (hk.below h.bel.size fun k hl hf => by have := hO k hf; omega)
/-- A copy takes its place; the elder one is left. -/
theorem Sx.copy {w0 wr w' : World} {F : Nat → Prop} {K p c most : Nat} {es : List Bk.Ent} {L M : List Bl} {v : Value} {ex : List Ex} (h : Sx w0 wr F No K p most es L M v ex) (hp : Pl w' (Up wr.heap.size) c most L) (hb : Below wr.heap.size wr w') :
    Sx w0 w' (fun k => Up wr.heap.size k ∧ k < w'.heap.size) F K c most es L M v ex := by
  have h1 := h.below hb
  refine ⟨hp.fit, fun k e => ⟨e.2, ?_, fun hf => ?_⟩, ?_, h1.rf, fun b e => ⟨fun hf => ?_, (h.vout b e).1⟩, fun x hx => ?_, h1.bel, h.kl⟩
  · have : wr.heap.size ≤ k := e.1
    have := h.bel.size
    omega
  · have := (h.fit k hf).1
    have : wr.heap.size ≤ k := e.1
    omega
  · exact (h.kept.fit.below hb).mono fun k e => ⟨fun hf => by have : wr.heap.size ≤ k := hf.1; have := e.2; omega, e.1.1⟩
  · have := h.rf.lt e
    have : wr.heap.size ≤ b := hf.1
    omega
  · obtain ⟨h0, h2, h3, h4⟩ := h.exs x hx
    exact ⟨(h1.exs x hx).1, fun hf => by have : wr.heap.size ≤ x.1 := hf.1; have := lt_of_block h0; omega, h2, h4⟩
theorem Sx.forget {w0 wr : World} {F O : Nat → Prop} {K p most : Nat} {es : List Bk.Ent} {L M : List Bl} {v : Value} {ex : List Ex} (h : Sx w0 wr F O K p most es L M v ex) : Sx w0 wr F No K p most es L M v ex :=
  ⟨h.pl, fun k e => ⟨(h.fit k e).1, (h.fit k e).2.1, id⟩, h.kept.mono fun _ e => ⟨e.1, id⟩, h.rf, fun b e => ⟨(h.vout b e).1, id⟩, fun x hx => ⟨(h.exs x hx).1, (h.exs x hx).2.1, id, (h.exs x hx).2.2.2⟩, h.bel, h.kl⟩
/-- The box of the document's pool is written. -/
theorem Sx.store {w0 wr : World} {F : Nat → Prop} {K p most R : Nat} {es : List Bk.Ent} {L M : List Bl} {v x y : Value} {ex : List Ex} (h : Sx w0 wr F No K p most es L M v ((R, #[x, y], 28) :: ex)) (hne : ∀ z ∈ ex, z.1 ≠ R) (a b : Value) :
    Sx w0 ((wr.setCell ⟨R, 0, none⟩ a).setCell ⟨R, 1, none⟩ b) F No K p most es L M v ((R, #[a, b], 28) :: ex) := by
  obtain ⟨h1, h2, _, h4, h5⟩ := h.exs (R, #[x, y], 28) List.mem_cons_self
  simp only at h1 h2 h4 h5
  have hoth : ∀ j, j ≠ R → ((wr.setCell ⟨R, 0, none⟩ a).setCell ⟨R, 1, none⟩ b).heap[j]? = wr.heap[j]? := fun j hj => by
    rw [Below.heap_setCell _ ⟨R, 1, none⟩ b j hj, Below.heap_setCell _ ⟨R, 0, none⟩ a j hj]
  have hsz : ((wr.setCell ⟨R, 0, none⟩ a).setCell ⟨R, 1, none⟩ b).heap.size = wr.heap.size := by simp [World.setCell]
  have hself : ((wr.setCell ⟨R, 0, none⟩ a).setCell ⟨R, 1, none⟩ b).heap[R]? = some (.cells #[a, b] 28 (0, 0)) := by
    simp [World.setCell, Array.getElem?_modify, h1]
  have hbel : Below w0.heap.size w0 ((wr.setCell ⟨R, 0, none⟩ a).setCell ⟨R, 1, none⟩ b) := (h.bel.setCell h5 _).setCell h5 _
  have hk : Keep (fun k => k = R) wr ((wr.setCell ⟨R, 0, none⟩ a).setCell ⟨R, 1, none⟩ b) := by
    have hb : Below 0 wr ((wr.setCell ⟨R, 0, none⟩ a).setCell ⟨R, 1, none⟩ b) := ((Below.refl 0 wr).setCell (Nat.zero_le _) _).setCell (Nat.zero_le _) _
    exact ⟨hb.os, hb.tape, hb.output, hb.size, fun k _ hn => hoth k hn⟩
  refine ⟨h.pl.keep hk fun k _ hf e => h2 (by rw [← e]; exact hf), fun k hf => by rw [hsz]; exact h.fit k hf, ?_, ?_, h.vout, fun z hz => ?_, hbel, h.kl⟩
  · exact (kept_keep (kept_ne h.kept h1) hk fun _ _ e => e.2).mono fun _ e => e.1
  · refine h.rf.block (by omega) fun j _ e => hoth j fun e' => ?_
    obtain ⟨cur, fz, hg⟩ := h.rf.t49.block e
    rw [e', h1] at hg; cases hg
  · rcases List.mem_cons.1 hz with rfl | hz
    · exact ⟨hself, h2, id, h4, h5⟩
    · obtain ⟨g1, g2⟩ := h.exs z (List.mem_cons_of_mem _ hz)
      exact ⟨by rw [hoth _ (hne z hz)]; exact g1, g2⟩
/-- One more list is kept. -/
theorem Sx.book {w0 wr w1 w' : World} {F : Nat → Prop} {K p most : Nat} {es : List Bk.Ent} {L M : List Bl} {v va : Value} {ex : List Ex} (h : Sx w0 wr F No K p most es L M v ex) (hb : Below wr.heap.size wr w1)
    (hk : Bk.Kept w' (fun k => ¬ F k) K w0.heap.size (es ++ [(va, L)])) (hs : Bk.Stay Bk.TN w1 w') (hB : Below w0.heap.size w1 w') : Sx w0 w' F No K p most (es ++ [(va, L)]) L M v ex := by
  have h1 := h.below hb
  refine ⟨h1.pl.typ hs, fun k hf => ⟨Nat.lt_of_lt_of_le (h1.fit k hf).1 hs.size, (h1.fit k hf).2⟩, hk.mono fun k e => ⟨e, id⟩, h1.rf.typ hs, h1.vout, fun x hx => ?_, h1.bel.trans hB, h.kl⟩
  obtain ⟨g1, g2, g3, g4, g5⟩ := h1.exs x hx
  exact ⟨hs.block _ _ _ _ g1 g4, g2, g3, g4, g5⟩
/-- All's list is fresh. -/
theorem Sx.fresh {w0 wr w1 : World} {F : Nat → Prop} {K p most : Nat} {es : List Bk.Ent} {L M : List Bl} {v va : Value} {ex : List Ex} (h : Sx w0 wr F No K p most es L M v ex) (hb : Below wr.heap.size wr w1) (ho : w1.ownsRow wr.heap.size 56 3 va L.length (B.itemsV L)) :
    Bk.Kept w1 (fun k => ¬ F k) K w0.heap.size es ∧ (∀ b, w1.heap.size ≤ b → ¬ F b) ∧ (∀ b, va.ownBlock = some b → ¬ F b) ∧ (∀ e ∈ es, ∀ b, e.1.ownBlock = some b → va.ownBlock ≠ some b) ∧ w1.ownsRow w0.heap.size 56 3 va L.length (B.itemsV L) := by
  refine ⟨(h.kept.below hb).mono fun k e => e.1, fun b hl hf => ?_, fun b e hf => ?_, fun x hx b e e' => ?_, Bk.own_mono ho h.bel.size⟩
  · have := (h.fit b hf).1; have := hb.size; omega
  · have := (h.fit b hf).1; have := (Bk.own_block ho b e).1; omega
  · obtain ⟨sv, wv, cs, hS, hF⟩ := h.kept.fit
    have := (hF.ge x hx b e).2
    have := (Bk.own_block ho b e').1
    omega
end Go.Proofs.YtdmamanlclajjaaGreat
