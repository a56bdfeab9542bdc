/-
  The Book of lists of three kinds at once: one more list of each kind; Apart.
-/
import Derived.Test.YtfikkbmilhcahaaBkIF
import Derived.Test.YtfikkbmilhcahaaBkSF
import Derived.Test.YtfikkbmilhcahaaBkEF
namespace Go.Proofs.Ytfikkbmilhcahaa.BkJ
open Go.ChangeShapes Go.WideShapes Go.ChangeAt Go.RowKit Go.Proofs.Ytfikkbmilhcahaa.Bk0
attribute [local go_sem ↓] Go.wp_at_zero Go.wp_at_succ

/-- The other cells of the Book, as one kind sees them. -/
def rI (ss ws se we : Value) : Cls := ⟨.slice none 0 0, .slice none 0 0, .slice none 0 0, .slice none 0 0, ss, ws, se, we, .slice none 0 0, .slice none 0 0, .slice none 0 0, .slice none 0 0, .slice none 0 0, .slice none 0 0⟩
def rS (si wi se we : Value) : Cls := ⟨.slice none 0 0, .slice none 0 0, si, wi, .slice none 0 0, .slice none 0 0, se, we, .slice none 0 0, .slice none 0 0, .slice none 0 0, .slice none 0 0, .slice none 0 0, .slice none 0 0⟩
def rE (si wi ss ws : Value) : Cls := ⟨.slice none 0 0, .slice none 0 0, si, wi, ss, ws, .slice none 0 0, .slice none 0 0, .slice none 0 0, .slice none 0 0, .slice none 0 0, .slice none 0 0, .slice none 0 0, .slice none 0 0⟩
structure BJ (w : World) (K base : Nat) (ei : List BkI.Ent) (es : List BkS.Ent) (ee : List BkE.Ent) (si wi ss ws se we : Value) (ci cs ce : List Value) : Prop where
  i : BkI.Shelf (rI ss ws se we) w K base ei si wi ci
  s : BkS.Shelf (rS si wi se we) w K base es ss ws cs
  e : BkE.Shelf (rE si wi ss ws) w K base ee se we ce
def B3 (w : World) (K base : Nat) (ei : List BkI.Ent) (es : List BkS.Ent) (ee : List BkE.Ent) : Prop := ∃ si wi ss ws se we ci cs ce, BJ w K base ei es ee si wi ss ws se we ci cs ce
/-- The types whose blocks no call of the Book (but Apart) changes. -/
def TA (e : TypeId) : Prop := e ≠ 51 ∧ e ≠ 49 ∧ e ≠ 22 ∧ e ≠ 45
theorem footBkI {K : Nat} {es : List BkI.Ent} {sv wv : Value} {cs : List Value} : BkI.Foot (fun _ => True) K es sv wv cs := ⟨trivial, fun _ _ => trivial, fun _ _ => trivial, fun _ _ _ _ => trivial, fun _ _ _ _ => trivial⟩
theorem footBkS {K : Nat} {es : List BkS.Ent} {sv wv : Value} {cs : List Value} : BkS.Foot (fun _ => True) K es sv wv cs := ⟨trivial, fun _ _ => trivial, fun _ _ => trivial, fun _ _ _ _ => trivial, fun _ _ _ _ => trivial⟩
theorem footBkE {K : Nat} {es : List BkE.Ent} {sv wv : Value} {cs : List Value} : BkE.Foot (fun _ => True) K es sv wv cs := ⟨trivial, fun _ _ => trivial, fun _ _ => trivial, fun _ _ _ _ => trivial, fun _ _ _ _ => trivial⟩
theorem B3.below {w w' : World} {K base : Nat} {ei : List BkI.Ent} {es : List BkS.Ent} {ee : List BkE.Ent} (h : B3 w K base ei es ee) (hb : Below w.heap.size w w') : B3 w' K base ei es ee := by
  obtain ⟨si, wi, ss, ws, se, we, ci, cs, ce, h⟩ := h
  exact ⟨si, wi, ss, ws, se, we, ci, cs, ce, h.i.ofBlock footBkI hb.size (fun k hk _ => hb.block k hk), h.s.ofBlock footBkS hb.size (fun k hk _ => hb.block k hk), h.e.ofBlock footBkE hb.size (fun k hk _ => hb.block k hk)⟩
theorem b3_new {w : World} {K base : Nat} (h : w.heap[K]? = some (.cells #[.slice none 0 0, .slice none 0 0, .slice none 0 0, .slice none 0 0, .slice none 0 0, .slice none 0 0, .slice none 0 0, .slice none 0 0, .slice none 0 0, .slice none 0 0, .slice none 0 0, .slice none 0 0, .slice none 0 0, .slice none 0 0] 45 (0, 0))) : B3 w K base [] [] [] :=
  ⟨.slice none 0 0, .slice none 0 0, .slice none 0 0, .slice none 0 0, .slice none 0 0, .slice none 0 0, [], [], [], BkI.shelf_new h, BkS.shelf_new h, BkE.shelf_new h⟩
theorem b3_addI {w : World} {K base : Nat} {ei : List BkI.Ent} {es : List BkS.Ent} {ee : List BkE.Ent} {v : Value} {l : List BkI.Sp} (hk : B3 w K base ei es ee) (hv : w.ownsRow base 3 1 v l.length (BkI.itemsV l))
    (hfresh : ∀ e ∈ ei, ∀ b, e.1.ownBlock = some b → v.ownBlock ≠ some b) (hn : ei.length < 250) (hl : l.length ≤ 1000000) (hbase : base ≤ K) :
    Calls Try.prog 21 #[.pointer (some ⟨K, 0, none⟩), v] w fun e w' => e = .returned (.tuple #[]) ∧ B3 w' K base (ei ++ [(v, l)]) es ee ∧ Sty TA w w' ∧ Below base w w' := by
  obtain ⟨si, wi, ss, ws, se, we, ci, cs, ce, h⟩ := hk
  refine (BkI.book_more (r := (rI ss ws se we)) (G := fun _ => True) ⟨si, wi, ci, h.i, footBkI⟩ (fun _ _ => trivial) (fun _ _ => trivial) hv hfresh hn hl hbase).mono ?_
  rintro e w2 ⟨rfl, ⟨s', w'x, c', h', _⟩, hs, hb⟩
  have h1 : Sty TA w w2 := hs.mono (fun e he => ⟨he.1, he.2.2.2⟩)
  refine ⟨rfl, ⟨s', w'x, ss, ws, se, we, c', cs, ce, ⟨h', h.s.typ (r' := (rS s' w'x se we)) hs (by unfold BkI.TN; decide) (by unfold BkI.TN; decide) h'.block, h.e.typ (r' := (rE s' w'x ss ws)) hs (by unfold BkI.TN; decide) (by unfold BkI.TN; decide) h'.block⟩⟩, h1, hb⟩
theorem b3_addS {w : World} {K base : Nat} {ei : List BkI.Ent} {es : List BkS.Ent} {ee : List BkE.Ent} {v : Value} {l : List BkS.Sp} (hk : B3 w K base ei es ee) (hv : w.ownsRow base 26 2 v l.length (BkS.itemsV l))
    (hfresh : ∀ e ∈ es, ∀ b, e.1.ownBlock = some b → v.ownBlock ≠ some b) (hn : es.length < 250) (hl : l.length ≤ 1000000) (hbase : base ≤ K) :
    Calls Try.prog 20 #[.pointer (some ⟨K, 0, none⟩), v] w fun e w' => e = .returned (.tuple #[]) ∧ B3 w' K base ei (es ++ [(v, l)]) ee ∧ Sty TA w w' ∧ Below base w w' := by
  obtain ⟨si, wi, ss, ws, se, we, ci, cs, ce, h⟩ := hk
  refine (BkS.book_more (r := (rS si wi se we)) (G := fun _ => True) ⟨ss, ws, cs, h.s, footBkS⟩ (fun _ _ => trivial) (fun _ _ => trivial) hv hfresh hn hl hbase).mono ?_
  rintro e w2 ⟨rfl, ⟨s', w'x, c', h', _⟩, hs, hb⟩
  have h1 : Sty TA w w2 := hs.mono (fun e he => ⟨he.2.1, he.2.2.2⟩)
  refine ⟨rfl, ⟨si, wi, s', w'x, se, we, ci, c', ce, ⟨h.i.typ (r' := (rI s' w'x se we)) hs (by unfold BkS.TN; decide) (by unfold BkS.TN; decide) h'.block, h', h.e.typ (r' := (rE si wi s' w'x)) hs (by unfold BkS.TN; decide) (by unfold BkS.TN; decide) h'.block⟩⟩, h1, hb⟩
theorem b3_addE {w : World} {K base : Nat} {ei : List BkI.Ent} {es : List BkS.Ent} {ee : List BkE.Ent} {v : Value} {l : List BkE.Sp} (hk : B3 w K base ei es ee) (hv : w.ownsRow base 24 3 v l.length (BkE.itemsV l))
    (hfresh : ∀ e ∈ ee, ∀ b, e.1.ownBlock = some b → v.ownBlock ≠ some b) (hn : ee.length < 250) (hl : l.length ≤ 1000000) (hbase : base ≤ K) :
    Calls Try.prog 19 #[.pointer (some ⟨K, 0, none⟩), v] w fun e w' => e = .returned (.tuple #[]) ∧ B3 w' K base ei es (ee ++ [(v, l)]) ∧ Sty TA w w' ∧ Below base w w' := by
  obtain ⟨si, wi, ss, ws, se, we, ci, cs, ce, h⟩ := hk
  refine (BkE.book_more (r := (rE si wi ss ws)) (G := fun _ => True) ⟨se, we, ce, h.e, footBkE⟩ (fun _ _ => trivial) (fun _ _ => trivial) hv hfresh hn hl hbase).mono ?_
  rintro e w2 ⟨rfl, ⟨s', w'x, c', h', _⟩, hs, hb⟩
  have h1 : Sty TA w w2 := hs.mono (fun e he => ⟨he.2.2.1, he.2.2.2⟩)
  refine ⟨rfl, ⟨si, wi, ss, ws, s', w'x, ci, cs, c', ⟨h.i.typ (r' := (rI ss ws s' w'x)) hs (by unfold BkE.TN; decide) (by unfold BkE.TN; decide) h'.block, h.s.typ (r' := (rS si wi s' w'x)) hs (by unfold BkE.TN; decide) (by unfold BkE.TN; decide) h'.block, h'⟩⟩, h1, hb⟩
theorem pad_keepI {r : Cls} {w w' : World} {K base : Nat} {es : List BkI.Ent} {sv wv : Value} {T : TypeId → Prop} (h : BkI.Pad r w K base es sv wv) (hs : Sty T w w') (t0 : T 45) (t1 : T 51) (t2 : T 3) : BkI.Pad r w' K base es sv wv :=
  ⟨hs.block _ _ _ _ h.block t0, ow_stay h.sown hs t1, h.lists.stay hs t2⟩
theorem grows_keepI {r : Cls} {w w' : World} {K base H0 i : Nat} {es : List BkI.Ent} {sv wv out : Value} {gvs : List Value} {T : TypeId → Prop} (h : BkI.Grows r w K base es sv wv H0 out gvs i) (hs : Sty T w w') (t0 : T 45) (t1 : T 51) (t2 : T 3) : BkI.Grows r w' K base es sv wv H0 out gvs i := by
  refine ⟨hs.block _ _ _ _ h.block t0, ow_stay h.sown hs t1, ow_stay h.outown hs t1, fun j e hj => ?_, fun j e hj hij => ow_stay (h.owns j e hj hij) hs t2, fun j x hj => ?_, Nat.le_trans h.le hs.size, fun j e hj b hb => ?_⟩
  · exact (h.rows j e hj).ofBlock (fun b hb => by obtain ⟨cur, fz, hg⟩ := h.typ j e hj b hb; rw [hs.block _ _ _ _ hg t2]; exact hg.symm) hs.size
  · obtain ⟨⟨k, hk, hr⟩, hbk⟩ := h.grown j x hj
    refine ⟨⟨k, hk, hr.ofBlock (fun b hb => by obtain ⟨⟨cur, fz, hg⟩, _⟩ := hbk b hb; rw [hs.block _ _ _ _ hg t2]; exact hg.symm) hs.size⟩, fun b hb => ?_⟩
    obtain ⟨⟨cur, fz, hg⟩, ho⟩ := hbk b hb
    exact ⟨⟨cur, fz, hs.block _ _ _ _ hg t2⟩, ho⟩
  · obtain ⟨cur, fz, hg⟩ := h.typ j e hj b hb
    exact ⟨cur, fz, hs.block _ _ _ _ hg t2⟩
theorem marked_rowsI {r : Cls} {w : World} {K base H0 i : Nat} {es : List BkI.Ent} {sv wv out : Value} {gvs : List Value} (h : BkI.Grows r w K base es sv wv H0 out gvs i) (hm : BkI.Marked es es.length) (hl : BkI.Short es) :
    ∀ (j : Nat) x, (es.map (·.1))[j]? = some x → ∃ k, k ≤ 1000000 ∧ BkI.Row w x (BkI.marks j 0 k) := fun j x hj => by
  rw [List.getElem?_map] at hj
  obtain ⟨e, he, rfl⟩ := Option.map_eq_some_iff.1 hj
  have hmk := hm j e he (List.getElem?_eq_some_iff.1 he).1
  refine ⟨e.2.length, by have := hl e (List.mem_of_getElem? he); omega, ?_⟩
  rw [← hmk]
  exact h.rows j e he
theorem pad_keepS {r : Cls} {w w' : World} {K base : Nat} {es : List BkS.Ent} {sv wv : Value} {T : TypeId → Prop} (h : BkS.Pad r w K base es sv wv) (hs : Sty T w w') (t0 : T 45) (t1 : T 49) (t2 : T 26) : BkS.Pad r w' K base es sv wv :=
  ⟨hs.block _ _ _ _ h.block t0, ow_stay h.sown hs t1, h.lists.stay hs t2⟩
theorem grows_keepS {r : Cls} {w w' : World} {K base H0 i : Nat} {es : List BkS.Ent} {sv wv out : Value} {gvs : List Value} {T : TypeId → Prop} (h : BkS.Grows r w K base es sv wv H0 out gvs i) (hs : Sty T w w') (t0 : T 45) (t1 : T 49) (t2 : T 26) : BkS.Grows r w' K base es sv wv H0 out gvs i := by
  refine ⟨hs.block _ _ _ _ h.block t0, ow_stay h.sown hs t1, ow_stay h.outown hs t1, fun j e hj => ?_, fun j e hj hij => ow_stay (h.owns j e hj hij) hs t2, fun j x hj => ?_, Nat.le_trans h.le hs.size, fun j e hj b hb => ?_⟩
  · exact (h.rows j e hj).ofBlock (fun b hb => by obtain ⟨cur, fz, hg⟩ := h.typ j e hj b hb; rw [hs.block _ _ _ _ hg t2]; exact hg.symm) hs.size
  · obtain ⟨⟨k, hk, hr⟩, hbk⟩ := h.grown j x hj
    refine ⟨⟨k, hk, hr.ofBlock (fun b hb => by obtain ⟨⟨cur, fz, hg⟩, _⟩ := hbk b hb; rw [hs.block _ _ _ _ hg t2]; exact hg.symm) hs.size⟩, fun b hb => ?_⟩
    obtain ⟨⟨cur, fz, hg⟩, ho⟩ := hbk b hb
    exact ⟨⟨cur, fz, hs.block _ _ _ _ hg t2⟩, ho⟩
  · obtain ⟨cur, fz, hg⟩ := h.typ j e hj b hb
    exact ⟨cur, fz, hs.block _ _ _ _ hg t2⟩
theorem marked_rowsS {r : Cls} {w : World} {K base H0 i : Nat} {es : List BkS.Ent} {sv wv out : Value} {gvs : List Value} (h : BkS.Grows r w K base es sv wv H0 out gvs i) (hm : BkS.Marked es es.length) (hl : BkS.Short es) :
    ∀ (j : Nat) x, (es.map (·.1))[j]? = some x → ∃ k, k ≤ 1000000 ∧ BkS.Row w x (BkS.marks j 0 k) := fun j x hj => by
  rw [List.getElem?_map] at hj
  obtain ⟨e, he, rfl⟩ := Option.map_eq_some_iff.1 hj
  have hmk := hm j e he (List.getElem?_eq_some_iff.1 he).1
  refine ⟨e.2.length, by have := hl e (List.mem_of_getElem? he); omega, ?_⟩
  rw [← hmk]
  exact h.rows j e he
theorem pad_keepE {r : Cls} {w w' : World} {K base : Nat} {es : List BkE.Ent} {sv wv : Value} {T : TypeId → Prop} (h : BkE.Pad r w K base es sv wv) (hs : Sty T w w') (t0 : T 45) (t1 : T 22) (t2 : T 24) : BkE.Pad r w' K base es sv wv :=
  ⟨hs.block _ _ _ _ h.block t0, ow_stay h.sown hs t1, h.lists.stay hs t2⟩
theorem grows_keepE {r : Cls} {w w' : World} {K base H0 i : Nat} {es : List BkE.Ent} {sv wv out : Value} {gvs : List Value} {T : TypeId → Prop} (h : BkE.Grows r w K base es sv wv H0 out gvs i) (hs : Sty T w w') (t0 : T 45) (t1 : T 22) (t2 : T 24) : BkE.Grows r w' K base es sv wv H0 out gvs i := by
  refine ⟨hs.block _ _ _ _ h.block t0, ow_stay h.sown hs t1, ow_stay h.outown hs t1, fun j e hj => ?_, fun j e hj hij => ow_stay (h.owns j e hj hij) hs t2, fun j x hj => ?_, Nat.le_trans h.le hs.size, fun j e hj b hb => ?_⟩
  · exact (h.rows j e hj).ofBlock (fun b hb => by obtain ⟨cur, fz, hg⟩ := h.typ j e hj b hb; rw [hs.block _ _ _ _ hg t2]; exact hg.symm) hs.size
  · obtain ⟨⟨k, hk, hr⟩, hbk⟩ := h.grown j x hj
    refine ⟨⟨k, hk, hr.ofBlock (fun b hb => by obtain ⟨⟨cur, fz, hg⟩, _⟩ := hbk b hb; rw [hs.block _ _ _ _ hg t2]; exact hg.symm) hs.size⟩, fun b hb => ?_⟩
    obtain ⟨⟨cur, fz, hg⟩, ho⟩ := hbk b hb
    exact ⟨⟨cur, fz, hs.block _ _ _ _ hg t2⟩, ho⟩
  · obtain ⟨cur, fz, hg⟩ := h.typ j e hj b hb
    exact ⟨cur, fz, hs.block _ _ _ _ hg t2⟩
theorem marked_rowsE {r : Cls} {w : World} {K base H0 i : Nat} {es : List BkE.Ent} {sv wv out : Value} {gvs : List Value} (h : BkE.Grows r w K base es sv wv H0 out gvs i) (hm : BkE.Marked es es.length) (hl : BkE.Short es) :
    ∀ (j : Nat) x, (es.map (·.1))[j]? = some x → ∃ k, k ≤ 1000000 ∧ BkE.Row w x (BkE.marks j 0 k) := fun j x hj => by
  rw [List.getElem?_map] at hj
  obtain ⟨e, he, rfl⟩ := Option.map_eq_some_iff.1 hj
  have hmk := hm j e he (List.getElem?_eq_some_iff.1 he).1
  refine ⟨e.2.length, by have := hl e (List.mem_of_getElem? he); omega, ?_⟩
  rw [← hmk]
  exact h.rows j e he

set_option maxRecDepth 100000 in
set_option maxHeartbeats 8000000 in
theorem b3_apart {w : World} {K base : Nat} {ei : List BkI.Ent} {es : List BkS.Ent} {ee : List BkE.Ent} (hk : B3 w K base ei es ee) (hni : ei.length ≤ 250) (hli : BkI.Short ei) (hns : es.length ≤ 250) (hls : BkS.Short es) (hne : ee.length ≤ 250) (hle : BkE.Short ee) (hbK : base ≤ K) :
    Calls Try.prog 31 #[.pointer (some ⟨K, 0, none⟩)] w fun e w' => e = .returned (.bool true) ∧ Below base w w' := by
  obtain ⟨si, wi, ss, ws, se, we, ci, cs, ce, hJ0⟩ := hk
  have hKl := lt_of_block hJ0.i.block
  have hbase : base ≤ w.heap.size := by omega
  have cK : Hid (∀ o, w.cell? ⟨K, o, none⟩ = (#[.slice none 0 0, .slice none 0 0, si, wi, ss, ws, se, we, .slice none 0 0, .slice none 0 0, .slice none 0 0, .slice none 0 0, .slice none 0 0, .slice none 0 0] : Array Value)[o]?) := Hid.intro (BkI.book_cell hJ0.i.block).1
  have hJ := Hid.intro hJ0
  have hB : Hid (Below base w w) := Hid.intro (Below.refl _ _)
  clear hJ0 hKl
  go_enter Try.func31, Try.ntmps31
  go_wp2_with fail
  refine (still_texts K w (by rw [cK.out]; rfl)).mono ?_; rintro e y1 ⟨rfl, hy1⟩; obtain rfl : w = y1 := hy1.symm
  go_wp2_with fail
  refine (BkI.still_own (r := (rI ss ws se we)) (G := fun _ => True) ⟨si, wi, ci, hJ.out.i, footBkI⟩ hni (fun e he => by have := hli e he; omega)).mono ?_; rintro e v2 ⟨rfl, hb⟩
  have hJ2 : Hid (BJ v2 K base ei es ee si wi ss ws se we ci cs ce) := Hid.intro ⟨hJ.out.i.ofBlock footBkI hb.size (fun k hk _ => hb.block k hk), hJ.out.s.ofBlock footBkS hb.size (fun k hk _ => hb.block k hk), hJ.out.e.ofBlock footBkE hb.size (fun k hk _ => hb.block k hk)⟩
  have cK2 : Hid (∀ o, v2.cell? ⟨K, o, none⟩ = (#[.slice none 0 0, .slice none 0 0, si, wi, ss, ws, se, we, .slice none 0 0, .slice none 0 0, .slice none 0 0, .slice none 0 0, .slice none 0 0, .slice none 0 0] : Array Value)[o]?) := Hid.intro (BkI.book_cell hJ2.out.i.block).1
  have hB2 : Hid (Below base w v2) := Hid.intro (hB.out.trans (hb.mono (Nat.le_trans hbase hB.out.size)))
  clear hJ cK hB hb
  have hJ := hJ2
  have cK := cK2
  have hB := hB2
  clear hJ2 cK2 hB2
  go_wp2_with fail
  refine (BkS.still_own (r := (rS si wi se we)) (G := fun _ => True) ⟨ss, ws, cs, hJ.out.s, footBkS⟩ hns (fun e he => by have := hls e he; omega)).mono ?_; rintro e v3 ⟨rfl, hb⟩
  have hJ2 : Hid (BJ v3 K base ei es ee si wi ss ws se we ci cs ce) := Hid.intro ⟨hJ.out.i.ofBlock footBkI hb.size (fun k hk _ => hb.block k hk), hJ.out.s.ofBlock footBkS hb.size (fun k hk _ => hb.block k hk), hJ.out.e.ofBlock footBkE hb.size (fun k hk _ => hb.block k hk)⟩
  have cK2 : Hid (∀ o, v3.cell? ⟨K, o, none⟩ = (#[.slice none 0 0, .slice none 0 0, si, wi, ss, ws, se, we, .slice none 0 0, .slice none 0 0, .slice none 0 0, .slice none 0 0, .slice none 0 0, .slice none 0 0] : Array Value)[o]?) := Hid.intro (BkI.book_cell hJ2.out.i.block).1
  have hB2 : Hid (Below base w v3) := Hid.intro (hB.out.trans (hb.mono (Nat.le_trans hbase hB.out.size)))
  clear hJ cK hB hb
  have hJ := hJ2
  have cK := cK2
  have hB := hB2
  clear hJ2 cK2 hB2
  go_wp2_with fail
  refine (BkE.still_own (r := (rE si wi ss ws)) (G := fun _ => True) ⟨se, we, ce, hJ.out.e, footBkE⟩ hne (fun e he => by have := hle e he; omega)).mono ?_; rintro e v4 ⟨rfl, hb⟩
  have hJ2 : Hid (BJ v4 K base ei es ee si wi ss ws se we ci cs ce) := Hid.intro ⟨hJ.out.i.ofBlock footBkI hb.size (fun k hk _ => hb.block k hk), hJ.out.s.ofBlock footBkS hb.size (fun k hk _ => hb.block k hk), hJ.out.e.ofBlock footBkE hb.size (fun k hk _ => hb.block k hk)⟩
  have cK2 : Hid (∀ o, v4.cell? ⟨K, o, none⟩ = (#[.slice none 0 0, .slice none 0 0, si, wi, ss, ws, se, we, .slice none 0 0, .slice none 0 0, .slice none 0 0, .slice none 0 0, .slice none 0 0, .slice none 0 0] : Array Value)[o]?) := Hid.intro (BkI.book_cell hJ2.out.i.block).1
  have hB2 : Hid (Below base w v4) := Hid.intro (hB.out.trans (hb.mono (Nat.le_trans hbase hB.out.size)))
  clear hJ cK hB hb
  have hJ := hJ2
  have cK := cK2
  have hB := hB2
  clear hJ2 cK2 hB2
  go_wp2_with fail
  refine (still_shelves K v4 (by rw [cK.out]; rfl)).mono ?_; rintro e y5 ⟨rfl, hy5⟩; obtain rfl : v4 = y5 := hy5.symm
  go_wp2_with fail
  refine (still_pairs K v4 (by rw [cK.out]; rfl)).mono ?_; rintro e y6 ⟨rfl, hy6⟩; obtain rfl : v4 = y6 := hy6.symm
  go_wp2_with fail
  refine (still_points K v4 (by rw [cK.out]; rfl)).mono ?_; rintro e y7 ⟨rfl, hy7⟩; obtain rfl : v4 = y7 := hy7.symm
  have hPi : Hid (BkI.Pad (rI ss ws se we) v4 K base ei si wi) := Hid.intro ⟨hJ.out.i.block, hJ.out.i.sown, hJ.out.i.lists⟩
  have hPs : Hid (BkS.Pad (rS si wi se we) v4 K base es ss ws) := Hid.intro ⟨hJ.out.s.block, hJ.out.s.sown, hJ.out.s.lists⟩
  have hPe : Hid (BkE.Pad (rE si wi ss ws) v4 K base ee se we) := Hid.intro ⟨hJ.out.e.block, hJ.out.e.sown, hJ.out.e.lists⟩
  clear hJ
  go_wp2_with fail
  refine (put_points K v4 (by rw [cK.out]; rfl)).mono ?_; rintro e y8 ⟨rfl, hy8⟩; obtain rfl : v4 = y8 := hy8.symm
  go_wp2_with fail
  refine (put_texts K v4 (by rw [cK.out]; rfl)).mono ?_; rintro e y9 ⟨rfl, hy9⟩; obtain rfl : v4 = y9 := hy9.symm
  go_wp2_with fail
  refine (BkI.put_own hPi.out hni hli).mono ?_; rintro e v10 ⟨rfl, mi, hp3, hlen3, hm3, hsh3, hb3, hs3⟩
  have hPni := Hid.intro hp3
  have hPns := Hid.intro (pad_keepS hPs.out hs3 (by decide) (by decide) (by decide))
  have hPne := Hid.intro (pad_keepE hPe.out hs3 (by decide) (by decide) (by decide))
  have hMi : Hid (BkI.Marked mi mi.length) := Hid.intro (by rw [hlen3]; exact hm3)
  have hSi := Hid.intro hsh3
  have hNi : mi.length ≤ 250 := by omega
  have cK2 : Hid (∀ o, v10.cell? ⟨K, o, none⟩ = (#[.slice none 0 0, .slice none 0 0, si, wi, ss, ws, se, we, .slice none 0 0, .slice none 0 0, .slice none 0 0, .slice none 0 0, .slice none 0 0, .slice none 0 0] : Array Value)[o]?) := Hid.intro (BkI.book_cell hPni.out.block).1
  have hB2 := Hid.intro (hB.out.trans hb3)
  clear hPi hPs hPe cK hB hp3 hlen3 hm3 hsh3 hb3 hs3
  have hPi := hPni
  have hPs := hPns
  have hPe := hPne
  have cK := cK2
  have hB := hB2
  clear hPni hPns hPne cK2 hB2
  go_wp2_with fail
  refine (BkS.put_own hPs.out hns hls).mono ?_; rintro e v11 ⟨rfl, ms, hp3, hlen3, hm3, hsh3, hb3, hs3⟩
  have hPni := Hid.intro (pad_keepI hPi.out hs3 (by decide) (by decide) (by decide))
  have hPns := Hid.intro hp3
  have hPne := Hid.intro (pad_keepE hPe.out hs3 (by decide) (by decide) (by decide))
  have hMs : Hid (BkS.Marked ms ms.length) := Hid.intro (by rw [hlen3]; exact hm3)
  have hSs := Hid.intro hsh3
  have hNs : ms.length ≤ 250 := by omega
  have cK2 : Hid (∀ o, v11.cell? ⟨K, o, none⟩ = (#[.slice none 0 0, .slice none 0 0, si, wi, ss, ws, se, we, .slice none 0 0, .slice none 0 0, .slice none 0 0, .slice none 0 0, .slice none 0 0, .slice none 0 0] : Array Value)[o]?) := Hid.intro (BkI.book_cell hPni.out.block).1
  have hB2 := Hid.intro (hB.out.trans hb3)
  clear hPi hPs hPe cK hB hp3 hlen3 hm3 hsh3 hb3 hs3
  have hPi := hPni
  have hPs := hPns
  have hPe := hPne
  have cK := cK2
  have hB := hB2
  clear hPni hPns hPne cK2 hB2
  go_wp2_with fail
  refine (BkE.put_own hPe.out hne hle).mono ?_; rintro e v12 ⟨rfl, me, hp3, hlen3, hm3, hsh3, hb3, hs3⟩
  have hPni := Hid.intro (pad_keepI hPi.out hs3 (by decide) (by decide) (by decide))
  have hPns := Hid.intro (pad_keepS hPs.out hs3 (by decide) (by decide) (by decide))
  have hPne := Hid.intro hp3
  have hMe : Hid (BkE.Marked me me.length) := Hid.intro (by rw [hlen3]; exact hm3)
  have hSe := Hid.intro hsh3
  have hNe : me.length ≤ 250 := by omega
  have cK2 : Hid (∀ o, v12.cell? ⟨K, o, none⟩ = (#[.slice none 0 0, .slice none 0 0, si, wi, ss, ws, se, we, .slice none 0 0, .slice none 0 0, .slice none 0 0, .slice none 0 0, .slice none 0 0, .slice none 0 0] : Array Value)[o]?) := Hid.intro (BkI.book_cell hPni.out.block).1
  have hB2 := Hid.intro (hB.out.trans hb3)
  clear hPi hPs hPe cK hB hp3 hlen3 hm3 hsh3 hb3 hs3
  have hPi := hPni
  have hPs := hPns
  have hPe := hPne
  have cK := cK2
  have hB := hB2
  clear hPni hPns hPne cK2 hB2
  go_wp2_with fail
  refine (put_shelves K v12 (by rw [cK.out]; rfl)).mono ?_; rintro e y13 ⟨rfl, hy13⟩; obtain rfl : v12 = y13 := hy13.symm
  go_wp2_with fail
  refine (put_pairs K v12 (by rw [cK.out]; rfl)).mono ?_; rintro e y14 ⟨rfl, hy14⟩; obtain rfl : v12 = y14 := hy14.symm
  go_wp2_with fail
  refine (grow_texts K v12 (by rw [cK.out]; rfl)).mono ?_; rintro e y15 ⟨rfl, hy15⟩; obtain rfl : v12 = y15 := hy15.symm
  go_wp2_with fail
  refine (BkI.grow_own hPi.out hMi.out hNi hSi.out hbK).mono ?_; rintro e v16 ⟨gi, rfl, gvi, hg3, hb3, hs3⟩
  have hGi := Hid.intro hg3
  have hPns := Hid.intro (pad_keepS hPs.out hs3 (by decide) (by decide) (by decide))
  clear hPs
  have hPs := hPns
  clear hPns
  have hPne := Hid.intro (pad_keepE hPe.out hs3 (by decide) (by decide) (by decide))
  clear hPe
  have hPe := hPne
  clear hPne
  have cK2 : Hid (∀ o, v16.cell? ⟨K, o, none⟩ = (#[.slice none 0 0, .slice none 0 0, si, wi, ss, ws, se, we, .slice none 0 0, .slice none 0 0, .slice none 0 0, .slice none 0 0, .slice none 0 0, .slice none 0 0] : Array Value)[o]?) := Hid.intro (BkI.book_cell hGi.out.block).1
  have hB2 := Hid.intro (hB.out.trans hb3)
  clear hPi cK hB hg3 hb3 hs3
  have cK := cK2
  have hB := hB2
  clear cK2 hB2
  go_wp2_with fail
  refine (BkS.grow_own hPs.out hMs.out hNs hSs.out hbK).mono ?_; rintro e v17 ⟨gs, rfl, gvs, hg3, hb3, hs3⟩
  have hGni := Hid.intro (grows_keepI hGi.out hs3 (by decide) (by decide) (by decide))
  clear hGi
  have hGi := hGni
  clear hGni
  have hGs := Hid.intro hg3
  have hPne := Hid.intro (pad_keepE hPe.out hs3 (by decide) (by decide) (by decide))
  clear hPe
  have hPe := hPne
  clear hPne
  have cK2 : Hid (∀ o, v17.cell? ⟨K, o, none⟩ = (#[.slice none 0 0, .slice none 0 0, si, wi, ss, ws, se, we, .slice none 0 0, .slice none 0 0, .slice none 0 0, .slice none 0 0, .slice none 0 0, .slice none 0 0] : Array Value)[o]?) := Hid.intro (BkI.book_cell hGi.out.block).1
  have hB2 := Hid.intro (hB.out.trans hb3)
  clear hPs cK hB hg3 hb3 hs3
  have cK := cK2
  have hB := hB2
  clear cK2 hB2
  go_wp2_with fail
  refine (BkE.grow_own hPe.out hMe.out hNe hSe.out hbK).mono ?_; rintro e v18 ⟨ge, rfl, gve, hg3, hb3, hs3⟩
  have hGni := Hid.intro (grows_keepI hGi.out hs3 (by decide) (by decide) (by decide))
  clear hGi
  have hGi := hGni
  clear hGni
  have hGns := Hid.intro (grows_keepS hGs.out hs3 (by decide) (by decide) (by decide))
  clear hGs
  have hGs := hGns
  clear hGns
  have hGe := Hid.intro hg3
  have cK2 : Hid (∀ o, v18.cell? ⟨K, o, none⟩ = (#[.slice none 0 0, .slice none 0 0, si, wi, ss, ws, se, we, .slice none 0 0, .slice none 0 0, .slice none 0 0, .slice none 0 0, .slice none 0 0, .slice none 0 0] : Array Value)[o]?) := Hid.intro (BkI.book_cell hGi.out.block).1
  have hB2 := Hid.intro (hB.out.trans hb3)
  clear hPe cK hB hg3 hb3 hs3
  have cK := cK2
  have hB := hB2
  clear cK2 hB2
  go_wp2_with fail
  refine (grow_shelves K v18 (by rw [cK.out]; rfl)).mono ?_; rintro e y19 ⟨rfl, hy19⟩; obtain rfl : v18 = y19 := hy19.symm
  go_wp2_with fail
  refine (grow_pairs K v18 (by rw [cK.out]; rfl)).mono ?_; rintro e y20 ⟨rfl, hy20⟩; obtain rfl : v18 = y20 := hy20.symm
  go_wp2_with fail
  refine (grow_points K v18 (by rw [cK.out]; rfl)).mono ?_; rintro e y21 ⟨rfl, hy21⟩; obtain rfl : v18 = y21 := hy21.symm
  go_wp2_with fail
  refine (marked_texts v18).mono ?_; rintro e y22 ⟨rfl, hy22⟩; obtain rfl : v18 = y22 := hy22.symm
  have k0 : v18.cell? ⟨K, 0, none⟩ = some (.slice none 0 0) := by rw [cK.out]; rfl
  go_wp2_with fail
  refine (marked_texts v18).mono ?_; rintro e y23 ⟨rfl, hy23⟩; obtain rfl : v18 = y23 := hy23.symm
  clear k0
  go_wp2_with fail
  refine (BkI.marked_any hGi.out.outown (fun j x hj => (hGi.out.grown j x hj).1) hNi).mono ?_; rintro e v24 ⟨rfl, hb⟩
  have hGni := Hid.intro (grows_keepI hGi.out (Sty.of (T := fun _ => True) hb) trivial trivial trivial)
  have hGns := Hid.intro (grows_keepS hGs.out (Sty.of (T := fun _ => True) hb) trivial trivial trivial)
  have hGne := Hid.intro (grows_keepE hGe.out (Sty.of (T := fun _ => True) hb) trivial trivial trivial)
  have cK2 : Hid (∀ o, v24.cell? ⟨K, o, none⟩ = (#[.slice none 0 0, .slice none 0 0, si, wi, ss, ws, se, we, .slice none 0 0, .slice none 0 0, .slice none 0 0, .slice none 0 0, .slice none 0 0, .slice none 0 0] : Array Value)[o]?) := Hid.intro (BkI.book_cell hGni.out.block).1
  have hB2 := Hid.intro (hB.out.trans (hb.mono (Nat.le_trans hbase hB.out.size)))
  clear hGi hGs hGe cK hB hb
  have hGi := hGni
  have hGs := hGns
  have hGe := hGne
  have cK := cK2
  have hB := hB2
  clear hGni hGns hGne cK2 hB2
  have k2 : v24.cell? ⟨K, 2, none⟩ = some si := by rw [cK.out]; rfl
  go_wp2_with fail
  refine (BkI.marked_any hGi.out.sown (marked_rowsI hGi.out hMi.out hSi.out) hNi).mono ?_; rintro e v25 ⟨rfl, hb⟩
  have hGni := Hid.intro (grows_keepI hGi.out (Sty.of (T := fun _ => True) hb) trivial trivial trivial)
  have hGns := Hid.intro (grows_keepS hGs.out (Sty.of (T := fun _ => True) hb) trivial trivial trivial)
  have hGne := Hid.intro (grows_keepE hGe.out (Sty.of (T := fun _ => True) hb) trivial trivial trivial)
  have cK2 : Hid (∀ o, v25.cell? ⟨K, o, none⟩ = (#[.slice none 0 0, .slice none 0 0, si, wi, ss, ws, se, we, .slice none 0 0, .slice none 0 0, .slice none 0 0, .slice none 0 0, .slice none 0 0, .slice none 0 0] : Array Value)[o]?) := Hid.intro (BkI.book_cell hGni.out.block).1
  have hB2 := Hid.intro (hB.out.trans (hb.mono (Nat.le_trans hbase hB.out.size)))
  clear hGi hGs hGe cK hB hb k2
  have hGi := hGni
  have hGs := hGns
  have hGe := hGne
  have cK := cK2
  have hB := hB2
  clear hGni hGns hGne cK2 hB2
  go_wp2_with fail
  refine (BkS.marked_any hGs.out.outown (fun j x hj => (hGs.out.grown j x hj).1) hNs).mono ?_; rintro e v26 ⟨rfl, hb⟩
  have hGni := Hid.intro (grows_keepI hGi.out (Sty.of (T := fun _ => True) hb) trivial trivial trivial)
  have hGns := Hid.intro (grows_keepS hGs.out (Sty.of (T := fun _ => True) hb) trivial trivial trivial)
  have hGne := Hid.intro (grows_keepE hGe.out (Sty.of (T := fun _ => True) hb) trivial trivial trivial)
  have cK2 : Hid (∀ o, v26.cell? ⟨K, o, none⟩ = (#[.slice none 0 0, .slice none 0 0, si, wi, ss, ws, se, we, .slice none 0 0, .slice none 0 0, .slice none 0 0, .slice none 0 0, .slice none 0 0, .slice none 0 0] : Array Value)[o]?) := Hid.intro (BkI.book_cell hGni.out.block).1
  have hB2 := Hid.intro (hB.out.trans (hb.mono (Nat.le_trans hbase hB.out.size)))
  clear hGi hGs hGe cK hB hb
  have hGi := hGni
  have hGs := hGns
  have hGe := hGne
  have cK := cK2
  have hB := hB2
  clear hGni hGns hGne cK2 hB2
  have k4 : v26.cell? ⟨K, 4, none⟩ = some ss := by rw [cK.out]; rfl
  go_wp2_with fail
  refine (BkS.marked_any hGs.out.sown (marked_rowsS hGs.out hMs.out hSs.out) hNs).mono ?_; rintro e v27 ⟨rfl, hb⟩
  have hGni := Hid.intro (grows_keepI hGi.out (Sty.of (T := fun _ => True) hb) trivial trivial trivial)
  have hGns := Hid.intro (grows_keepS hGs.out (Sty.of (T := fun _ => True) hb) trivial trivial trivial)
  have hGne := Hid.intro (grows_keepE hGe.out (Sty.of (T := fun _ => True) hb) trivial trivial trivial)
  have cK2 : Hid (∀ o, v27.cell? ⟨K, o, none⟩ = (#[.slice none 0 0, .slice none 0 0, si, wi, ss, ws, se, we, .slice none 0 0, .slice none 0 0, .slice none 0 0, .slice none 0 0, .slice none 0 0, .slice none 0 0] : Array Value)[o]?) := Hid.intro (BkI.book_cell hGni.out.block).1
  have hB2 := Hid.intro (hB.out.trans (hb.mono (Nat.le_trans hbase hB.out.size)))
  clear hGi hGs hGe cK hB hb k4
  have hGi := hGni
  have hGs := hGns
  have hGe := hGne
  have cK := cK2
  have hB := hB2
  clear hGni hGns hGne cK2 hB2
  go_wp2_with fail
  refine (BkE.marked_any hGe.out.outown (fun j x hj => (hGe.out.grown j x hj).1) hNe).mono ?_; rintro e v28 ⟨rfl, hb⟩
  have hGni := Hid.intro (grows_keepI hGi.out (Sty.of (T := fun _ => True) hb) trivial trivial trivial)
  have hGns := Hid.intro (grows_keepS hGs.out (Sty.of (T := fun _ => True) hb) trivial trivial trivial)
  have hGne := Hid.intro (grows_keepE hGe.out (Sty.of (T := fun _ => True) hb) trivial trivial trivial)
  have cK2 : Hid (∀ o, v28.cell? ⟨K, o, none⟩ = (#[.slice none 0 0, .slice none 0 0, si, wi, ss, ws, se, we, .slice none 0 0, .slice none 0 0, .slice none 0 0, .slice none 0 0, .slice none 0 0, .slice none 0 0] : Array Value)[o]?) := Hid.intro (BkI.book_cell hGni.out.block).1
  have hB2 := Hid.intro (hB.out.trans (hb.mono (Nat.le_trans hbase hB.out.size)))
  clear hGi hGs hGe cK hB hb
  have hGi := hGni
  have hGs := hGns
  have hGe := hGne
  have cK := cK2
  have hB := hB2
  clear hGni hGns hGne cK2 hB2
  have k6 : v28.cell? ⟨K, 6, none⟩ = some se := by rw [cK.out]; rfl
  go_wp2_with fail
  refine (BkE.marked_any hGe.out.sown (marked_rowsE hGe.out hMe.out hSe.out) hNe).mono ?_; rintro e v29 ⟨rfl, hb⟩
  have hGni := Hid.intro (grows_keepI hGi.out (Sty.of (T := fun _ => True) hb) trivial trivial trivial)
  have hGns := Hid.intro (grows_keepS hGs.out (Sty.of (T := fun _ => True) hb) trivial trivial trivial)
  have hGne := Hid.intro (grows_keepE hGe.out (Sty.of (T := fun _ => True) hb) trivial trivial trivial)
  have cK2 : Hid (∀ o, v29.cell? ⟨K, o, none⟩ = (#[.slice none 0 0, .slice none 0 0, si, wi, ss, ws, se, we, .slice none 0 0, .slice none 0 0, .slice none 0 0, .slice none 0 0, .slice none 0 0, .slice none 0 0] : Array Value)[o]?) := Hid.intro (BkI.book_cell hGni.out.block).1
  have hB2 := Hid.intro (hB.out.trans (hb.mono (Nat.le_trans hbase hB.out.size)))
  clear hGi hGs hGe cK hB hb k6
  have hGi := hGni
  have hGs := hGns
  have hGe := hGne
  have cK := cK2
  have hB := hB2
  clear hGni hGns hGne cK2 hB2
  go_wp2_with fail
  refine (marked_shelves v29).mono ?_; rintro e y30 ⟨rfl, hy30⟩; obtain rfl : v29 = y30 := hy30.symm
  have k8 : v29.cell? ⟨K, 8, none⟩ = some (.slice none 0 0) := by rw [cK.out]; rfl
  go_wp2_with fail
  refine (marked_shelves v29).mono ?_; rintro e y31 ⟨rfl, hy31⟩; obtain rfl : v29 = y31 := hy31.symm
  clear k8
  go_wp2_with fail
  refine (marked_pairs v29).mono ?_; rintro e y32 ⟨rfl, hy32⟩; obtain rfl : v29 = y32 := hy32.symm
  have k10 : v29.cell? ⟨K, 10, none⟩ = some (.slice none 0 0) := by rw [cK.out]; rfl
  go_wp2_with fail
  refine (marked_pairs v29).mono ?_; rintro e y33 ⟨rfl, hy33⟩; obtain rfl : v29 = y33 := hy33.symm
  clear k10
  go_wp2_with fail
  refine (marked_points v29).mono ?_; rintro e y34 ⟨rfl, hy34⟩; obtain rfl : v29 = y34 := hy34.symm
  have k12 : v29.cell? ⟨K, 12, none⟩ = some (.slice none 0 0) := by rw [cK.out]; rfl
  go_wp2_with fail
  refine (marked_points v29).mono ?_; rintro e y35 ⟨rfl, hy35⟩; obtain rfl : v29 = y35 := hy35.symm
  clear k12
  go_wp2
  go_ret
  exact ⟨rfl, hB.out⟩
end Go.Proofs.Ytfikkbmilhcahaa.BkJ
