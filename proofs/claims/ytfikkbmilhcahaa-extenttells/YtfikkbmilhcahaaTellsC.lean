/-
  ExtentTells: what its walk carries: two boxes, three maps, two lists that were lent.
-/
import Derived.Test.YtfikkbmilhcahaaBkJ
import Derived.Test.YtfikkbmilhcahaaELent
import Derived.Test.YtfikkbmilhcahaaEAlive
import Derived.Test.YtfikkbmilhcahaaEOver
import Derived.Test.YtfikkbmilhcahaaESpans
import Derived.Test.YtfikkbmilhcahaaEIds
import Derived.Test.YtfikkbmilhcahaaRefC
namespace Go.Proofs.Ytfikkbmilhcahaa
open Go.ChangeShapes Go.WideShapes Go.ChangeAt Go.RowKit
attribute [local go_sem ↓] Go.wp_at_zero Go.wp_at_succ
open Go.Proofs.Ytfikkbmilhcahaa.Bk0 (Sty)
open Go.Proofs.Ytfikkbmilhcahaa.BkJ (TA B3)

theorem MO.ofBlock {w w' : World} {b : Nat} {m : List Int} (h : MO w b m) (hb : w'.heap[b]? = w.heap[b]?) : MO w' b m :=
  ⟨fun j v hv => by rw [World.cell?_of_block (w := w) (a := ⟨b, 0 + j, none⟩) hb]; exact h.r j v hv, fun j hj => by
    rw [World.cell?_of_block (w := w) (a := ⟨b, 0 + j, none⟩) hb, World.frozen?_of_block (w := w) (a := ⟨b, 0 + j, none⟩) hb]; exact h.t j hj⟩
theorem Bx.ofBlock {w w' : World} {H : Nat} {x : Ex} (h : Bx w H x) (hb : w'.heap[H]? = w.heap[H]?) : Bx w' H x := by
  obtain ⟨a, b, c, d, e, f⟩ := h
  exact ⟨by rw [World.cell?_of_block (w := w) (a := ⟨H, 0, none⟩) hb]; exact a, by rw [World.cell?_of_block (w := w) (a := ⟨H, 1, none⟩) hb]; exact b, by rw [World.cell?_of_block (w := w) (a := ⟨H, 2, none⟩) hb]; exact c, by rw [World.frozen?_of_block (w := w) (a := ⟨H, 0, none⟩) hb]; exact d, by rw [World.frozen?_of_block (w := w) (a := ⟨H, 1, none⟩) hb]; exact e, by rw [World.frozen?_of_block (w := w) (a := ⟨H, 2, none⟩) hb]; exact f⟩
theorem Box.ofBlock {w w' : World} {H : Nat} {x y : Value} (h : Box w H x y) (hb : w'.heap[H]? = w.heap[H]?) : Box w' H x y := by
  obtain ⟨a, b, c, d⟩ := h
  exact ⟨by rw [World.cell?_of_block (w := w) (a := ⟨H, 0, none⟩) hb]; exact a, by rw [World.cell?_of_block (w := w) (a := ⟨H, 1, none⟩) hb]; exact b, by rw [World.frozen?_of_block (w := w) (a := ⟨H, 0, none⟩) hb]; exact c, by rw [World.frozen?_of_block (w := w) (a := ⟨H, 1, none⟩) hb]; exact d⟩
/-- A block of a type that the Book's calls leave. -/
def Tyd (w : World) (b : Nat) : Prop := ∃ t cur fz, w.heap[b]? = some (Obj.cells cur t fz) ∧ TA t
theorem Tyd.new (w : World) (cs : Array Value) (t : TypeId) (h : TA t) : Tyd (w.alloc (.cells cs t)) w.heap.size := ⟨t, cs, (0, 0), by have := heap_alloc_new w (.cells cs t); simpa using this, h⟩
theorem Tyd.sty {w w' : World} {b : Nat} (h : Tyd w b) (hs : Sty TA w w') : w'.heap[b]? = w.heap[b]? ∧ Tyd w' b := by
  obtain ⟨t, cur, fz, h1, h2⟩ := h
  have := hs.block _ _ _ _ h1 h2
  exact ⟨by rw [this, h1], t, cur, fz, this, h2⟩
theorem Tyd.lt {w : World} {b : Nat} (h : Tyd w b) : b < w.heap.size := by
  obtain ⟨t, cur, fz, h1, _⟩ := h
  exact lt_of_block h1
theorem Tyd.eq {w w' : World} {b : Nat} (h : Tyd w b) (hb : w'.heap[b]? = w.heap[b]?) : Tyd w' b := by
  obtain ⟨t, cur, fz, h1, h2⟩ := h
  exact ⟨t, cur, fz, by rw [hb]; exact h1, h2⟩
theorem Lent.sty {w w' : World} {base g cap : Nat} {l : List Ex} (h : Lent w base g cap l) (hs : Sty TA w w') : Lent w' base g cap l := Bk0.ow_stay h hs (by unfold TA; decide)
theorem Lent.mono {w : World} {base base' g cap : Nat} {l : List Ex} (h : Lent w base g cap l) (hb : base' ≤ base) : Lent w base' g cap l := BkE.own_mono h hb
theorem Lent.ne {w : World} {base g cap : Nat} {l : List Ex} (h : Lent w base g cap l) : base ≤ g ∧ g < w.heap.size := h.lt g rfl

/-- What the walk carries. -/
structure TS (w0 : World) (H7 H8 A B C gm cm gn cn : Nat) (x : Ex) (s : Sp) (mA mB mC : List Int) (LA LB : List Ex) (w : World) : Prop where
  bx : Bx w H7 x
  tx : Tyd w H7
  bs : Box w H8 (.int .i64 s.1) (.int .i64 s.2)
  ts : Tyd w H8
  a : MO w A mA
  ta : Tyd w A
  b : MO w B mB
  tb : Tyd w B
  c : MO w C mC
  tc : Tyd w C
  m : Lent w w0.heap.size gm cm LA
  n : Lent w w0.heap.size gn cn LB
  bel : Below w0.heap.size w0 w
theorem TS.sty {w0 w w' : World} {H7 H8 A B C gm cm gn cn : Nat} {x : Ex} {s : Sp} {mA mB mC : List Int} {LA LB : List Ex} (h : TS w0 H7 H8 A B C gm cm gn cn x s mA mB mC LA LB w) (hs : Sty TA w w') (hb : Below w0.heap.size w0 w') : TS w0 H7 H8 A B C gm cm gn cn x s mA mB mC LA LB w' :=
  ⟨h.bx.ofBlock (h.tx.sty hs).1, (h.tx.sty hs).2, h.bs.ofBlock (h.ts.sty hs).1, (h.ts.sty hs).2, h.a.ofBlock (h.ta.sty hs).1, (h.ta.sty hs).2, h.b.ofBlock (h.tb.sty hs).1, (h.tb.sty hs).2, h.c.ofBlock (h.tc.sty hs).1, (h.tc.sty hs).2, h.m.sty hs, h.n.sty hs, hb⟩
theorem TS.below {w0 w w' : World} {H7 H8 A B C gm cm gn cn : Nat} {x : Ex} {s : Sp} {mA mB mC : List Int} {LA LB : List Ex} (h : TS w0 H7 H8 A B C gm cm gn cn x s mA mB mC LA LB w) (hb : Below w.heap.size w w') : TS w0 H7 H8 A B C gm cm gn cn x s mA mB mC LA LB w' :=
  h.sty (Sty.of hb) (h.bel.trans (hb.mono h.bel.size))
/-- One cell of a block that is none of these. -/
theorem TS.far {w0 w : World} {H7 H8 A B C gm cm gn cn : Nat} {x : Ex} {s : Sp} {mA mB mC : List Int} {LA LB : List Ex} (h : TS w0 H7 H8 A B C gm cm gn cn x s mA mB mC LA LB w) {D j : Nat} {u : Value} (hD : ∀ b, (b = H7 ∨ b = H8 ∨ b = A ∨ b = B ∨ b = C ∨ b = gm ∨ b = gn) → b ≠ D) (h0 : w0.heap.size ≤ D) : TS w0 H7 H8 A B C gm cm gn cn x s mA mB mC LA LB (w.setCell ⟨D, j, none⟩ u) := by
  have hb : ∀ b, b ≠ D → (w.setCell ⟨D, j, none⟩ u).heap[b]? = w.heap[b]? := fun b hb => Below.heap_setCell w ⟨D, j, none⟩ u b hb
  have e7 := hb H7 (hD H7 (by simp))
  have e8 := hb H8 (hD H8 (by simp))
  have eA := hb A (hD A (by simp))
  have eB := hb B (hD B (by simp))
  have eC := hb C (hD C (by simp))
  exact ⟨h.bx.ofBlock e7, h.tx.eq e7, h.bs.ofBlock e8, h.ts.eq e8, h.a.ofBlock eA, h.ta.eq eA, h.b.ofBlock eB, h.tb.eq eB, h.c.ofBlock eC, h.tc.eq eC,
    Bk0.ow_ofBlock h.m (fun b hb' => hb b (by cases hb'; exact hD gm (by simp))), Bk0.ow_ofBlock h.n (fun b hb' => hb b (by cases hb'; exact hD gn (by simp))), h.bel.setCell h0 _⟩
/-- The blocks of s cut out of a map. -/
def cTo (m : List Int) (f : Nat) : Nat → List Int
  | 0 => m
  | k + 1 => (cTo m f k).set (f + k) (-1)
theorem cTo_length (m : List Int) (f : Nat) : ∀ k, (cTo m f k).length = m.length
  | 0 => rfl
  | k + 1 => by simp [cTo, cTo_length m f k]
theorem cTo_mv (m : List Int) (f : Nat) : ∀ n, f + n ≤ m.length → ∀ k : Int, mv (cTo m f n) k = if (f : Int) ≤ k ∧ k < (f : Int) + (n : Int) then -1 else mv m k
  | 0, _, k => by rw [if_neg (by omega)]; rfl
  | n + 1, h, k => by
    unfold cTo
    rw [set_mv _ _ _ (by rw [cTo_length]; omega), cTo_mv m f n (by omega) k]
    by_cases e : k = ((f + n : Nat) : Int)
    · have hc : (f : Int) ≤ k ∧ k < (f : Int) + ((n + 1 : Nat) : Int) := by omega
      rw [if_pos e, if_pos hc]
    · rw [if_neg e]
      by_cases h2 : (f : Int) ≤ k ∧ k < (f : Int) + (n : Int)
      · have hc : (f : Int) ≤ k ∧ k < (f : Int) + ((n + 1 : Nat) : Int) := by omega
        rw [if_pos h2, if_pos hc]
      · have hc : ¬ ((f : Int) ≤ k ∧ k < (f : Int) + ((n + 1 : Nat) : Int)) := by omega
        rw [if_neg h2, if_neg hc]
def mCut (m : List Int) (s : Sp) : List Int := if Wh s then cTo m s.1.toNat s.2.toNat else m
theorem mCut_length (m : List Int) (s : Sp) : (mCut m s).length = m.length := by unfold mCut; split; exact cTo_length _ _ _; rfl
theorem mCut_mv {m : List Int} (h : m.length = 64) (s : Sp) (k : Int) : mv (mCut m s) k = cutF (mv m) s k := by
  unfold mCut cutF
  by_cases hs : Wh s
  · have ws := hs; unfold Wh at ws
    rw [if_pos hs, cTo_mv _ _ _ (by omega)]
    have e1 : ((s.1.toNat : Nat) : Int) = s.1 := by omega
    have e2 : ((s.2.toNat : Nat) : Int) = s.2 := by omega
    rw [e1, e2]
    by_cases hk : s.1 ≤ k ∧ k < s.1 + s.2
    · rw [if_pos hk, if_pos ⟨hs, hk⟩]
    · rw [if_neg hk, if_neg fun g => hk g.2]
  · rw [if_neg hs, if_neg fun g => hs g.1]
theorem mCut_sane {m : List Int} (h : Sane m) (s : Sp) : Sane (mCut m s) :=
  ⟨by rw [mCut_length]; exact h.1, fun k => by rw [mCut_mv h.1]; unfold cutF; split; exact .inl rfl; exact h.2 k⟩
theorem mOver_sane {m t : List Int} (hm : Sane m) (ht : Sane t) : Sane (mOver m t) :=
  ⟨by unfold mOver; rw [oTo_length]; exact hm.1, fun k => by
    rw [mOver_mv hm.1 ht.1]; unfold overF
    split
    · exact ht.2 k
    · exact hm.2 k⟩
theorem spansV_items (l : List Sp) : BkS.itemsV l = spansV l := by
  induction l with
  | nil => rfl
  | cons p r ih => obtain ⟨a, b⟩ := p; simp only [BkS.itemsV, ih]; rfl
end Go.Proofs.Ytfikkbmilhcahaa

namespace Go.Proofs.Ytfikkbmilhcahaa
open Go.ChangeShapes Go.WideShapes Go.ChangeAt Go.RowKit
attribute [local go_sem ↓] Go.wp_at_zero Go.wp_at_succ
open Go.Proofs.Ytfikkbmilhcahaa.Bk0 (Sty)
open Go.Proofs.Ytfikkbmilhcahaa.BkJ (TA B3)

theorem tyd_setCell {w : World} {b : Nat} (h : Tyd w b) (c o : Nat) (u : Value) : Tyd (w.setCell ⟨c, o, none⟩ u) b := by
  by_cases e : b = c
  · subst e
    obtain ⟨t, C, fz, hC, ht⟩ := h
    exact ⟨t, C.setIfInBounds o u, fz, by simp [World.setCell, Array.getElem?_modify, hC], ht⟩
  · exact h.eq (Below.heap_setCell w ⟨c, o, none⟩ u b e)
theorem tyd_setCells {b c : Nat} : ∀ (vs : List Value) (o : Nat) {w : World}, Tyd w b → Tyd (w.setCells c o vs) b
  | [], _, _, h => h
  | v :: vs, o, _, h => tyd_setCells vs (o + 1) (tyd_setCell h c o v)

structure T0 (w0 : World) (H7 H8 : Nat) (x : Ex) (s : Sp) (w : World) : Prop where
  bx : Bx w H7 x
  tx : Tyd w H7
  bs : Box w H8 (.int .i64 s.1) (.int .i64 s.2)
  ts : Tyd w H8
  bel : Below w0.heap.size w0 w
  l7 : w0.heap.size ≤ H7
  l8 : w0.heap.size ≤ H8
theorem T0.ofBlock {w0 w w' : World} {H7 H8 : Nat} {x : Ex} {s : Sp} (h : T0 w0 H7 H8 x s w) (h7 : w'.heap[H7]? = w.heap[H7]?) (h8 : w'.heap[H8]? = w.heap[H8]?) (hb : Below w0.heap.size w0 w') : T0 w0 H7 H8 x s w' :=
  ⟨h.bx.ofBlock h7, h.tx.eq h7, h.bs.ofBlock h8, h.ts.eq h8, hb, h.l7, h.l8⟩
theorem T0.below {w0 w w' : World} {H7 H8 : Nat} {x : Ex} {s : Sp} (h : T0 w0 H7 H8 x s w) (hb : Below w.heap.size w w') : T0 w0 H7 H8 x s w' :=
  h.ofBlock (hb.block H7 h.tx.lt) (hb.block H8 h.ts.lt) (h.bel.trans (hb.mono h.bel.size))
theorem alc_below {W : World} (o : Obj) : Below W.heap.size W (W.alloc o) := (Below.refl _ _).alloc (Nat.le_refl _) _
theorem t0_new (w : World) (x : Ex) (s : Sp) : T0 w w.heap.size (w.heap.size + 1) x s ((w.alloc (.cells #[.int .i64 x.1, .int .i64 x.2.1, .int .i64 x.2.2] 24)).alloc (.cells #[.int .i64 s.1, .int .i64 s.2] 26)) := by
  have a := Bx.new w x 24
  have a2 := Tyd.new w #[.int .i64 x.1, .int .i64 x.2.1, .int .i64 x.2.2] 24 (by unfold TA; decide)
  have b := Box.new (w.alloc (.cells #[.int .i64 x.1, .int .i64 x.2.1, .int .i64 x.2.2] 24)) (.int .i64 s.1) (.int .i64 s.2) 26
  have b2 := Tyd.new (w.alloc (.cells #[.int .i64 x.1, .int .i64 x.2.1, .int .i64 x.2.2] 24)) #[.int .i64 s.1, .int .i64 s.2] 26 (by unfold TA; decide)
  have e1 : (w.alloc (.cells #[.int .i64 x.1, .int .i64 x.2.1, .int .i64 x.2.2] 24)).heap.size = w.heap.size + 1 := by simp
  rw [e1] at b b2
  have hk := (alc_below (W := w.alloc (.cells #[.int .i64 x.1, .int .i64 x.2.1, .int .i64 x.2.2] 24)) (.cells #[.int .i64 s.1, .int .i64 s.2] 26)).block w.heap.size (by simp)
  exact ⟨a.ofBlock hk, a2.eq hk, b, b2, (alc_below _).alloc (by simp) _, Nat.le_refl _, by omega⟩

structure T1 (w0 : World) (H7 H8 A B : Nat) (x : Ex) (s : Sp) (mA mB : List Int) (w : World) : Prop where
  z : T0 w0 H7 H8 x s w
  a : MO w A mA
  ta : Tyd w A
  b : MO w B mB
  tb : Tyd w B
  lA : w0.heap.size ≤ A
  lB : w0.heap.size ≤ B
theorem T1.ofBlock {w0 w w' : World} {H7 H8 A B : Nat} {x : Ex} {s : Sp} {mA mB : List Int} (h : T1 w0 H7 H8 A B x s mA mB w) (hb : ∀ k, k < w.heap.size → w'.heap[k]? = w.heap[k]?) (hl : Below w0.heap.size w0 w') : T1 w0 H7 H8 A B x s mA mB w' :=
  ⟨h.z.ofBlock (hb _ h.z.tx.lt) (hb _ h.z.ts.lt) hl, h.a.ofBlock (hb _ h.ta.lt), h.ta.eq (hb _ h.ta.lt), h.b.ofBlock (hb _ h.tb.lt), h.tb.eq (hb _ h.tb.lt), h.lA, h.lB⟩
theorem T1.below {w0 w w' : World} {H7 H8 A B : Nat} {x : Ex} {s : Sp} {mA mB : List Int} (h : T1 w0 H7 H8 A B x s mA mB w) (hb : Below w.heap.size w w') : T1 w0 H7 H8 A B x s mA mB w' :=
  h.ofBlock (fun k hk => hb.block k hk) (h.z.bel.trans (hb.mono h.z.bel.size))
theorem t1_new {w0 w : World} {H7 H8 : Nat} {x : Ex} {s : Sp} {mA mB : List Int} (h : T0 w0 H7 H8 x s w) (hA : mA.length = 64) (hB : mB.length = 64) :
    (((w.alloc (.cells (iv (nTo 0)).toArray 29)).alloc (.cells (iv (nTo 0)).toArray 29)).there w.heap.size 0 64) ∧
    ((((w.alloc (.cells (iv (nTo 0)).toArray 29)).alloc (.cells (iv (nTo 0)).toArray 29)).setCells w.heap.size 0 (iv mA)).there (w.heap.size + 1) 0 64) ∧
    T1 w0 H7 H8 w.heap.size (w.heap.size + 1) x s mA mB ((((w.alloc (.cells (iv (nTo 0)).toArray 29)).alloc (.cells (iv (nTo 0)).toArray 29)).setCells w.heap.size 0 (iv mA)).setCells (w.heap.size + 1) 0 (iv mB)) := by
  have n0 := MO.new w (nTo 0) (nTo_length (by omega))
  have y0 := Tyd.new w (iv (nTo 0)).toArray 29 (by unfold TA; decide)
  have e1 : (w.alloc (.cells (iv (nTo 0)).toArray 29)).heap.size = w.heap.size + 1 := by simp
  have n1 := MO.new (w.alloc (.cells (iv (nTo 0)).toArray 29)) (nTo 0) (nTo_length (by omega))
  have y1 := Tyd.new (w.alloc (.cells (iv (nTo 0)).toArray 29)) (iv (nTo 0)).toArray 29 (by unfold TA; decide)
  rw [e1] at n1 y1
  have b1 := alc_below (W := w) (.cells (iv (nTo 0)).toArray 29)
  have b2 := alc_below (W := w.alloc (.cells (iv (nTo 0)).toArray 29)) (.cells (iv (nTo 0)).toArray 29)
  have b3 : Below w.heap.size w ((w.alloc (.cells (iv (nTo 0)).toArray 29)).alloc (.cells (iv (nTo 0)).toArray 29)) := b1.trans (b2.mono b1.size)
  have hk := b2.block w.heap.size (by simp)
  have n0' := n0.ofBlock hk
  have y0' := y0.eq hk
  generalize (w.alloc (.cells (iv (nTo 0)).toArray 29)).alloc (.cells (iv (nTo 0)).toArray 29) = v at *
  have s1 := n0'.store mA hA
  have s2 := n1.other (vs := iv mA) (c := w.heap.size) (by omega)
  refine ⟨n0'.t, s2.t, ?_⟩
  have q1 := s1.other (vs := iv mB) (c := w.heap.size + 1) (by omega)
  have q2 := s2.store mB hB
  have t1 := tyd_setCells (c := w.heap.size + 1) (iv mB) 0 (tyd_setCells (c := w.heap.size) (iv mA) 0 y0')
  have t2 := tyd_setCells (c := w.heap.size + 1) (iv mB) 0 (tyd_setCells (c := w.heap.size) (iv mA) 0 y1)
  have z := h.below b3
  have hx := h.tx.lt
  have hs := h.ts.lt
  refine ⟨z.ofBlock ?_ ?_ ?_, q1, t1, q2, t2, h.bel.size, by have := h.bel.size; omega⟩
  · rw [heap_setCells _ _ _ _ _ (by omega), heap_setCells _ _ _ _ _ (by omega)]
  · rw [heap_setCells _ _ _ _ _ (by omega), heap_setCells _ _ _ _ _ (by omega)]
  · exact below_setCells _ _ _ _ (below_setCells _ _ _ _ z.bel h.bel.size) (by have := h.bel.size; omega)
theorem ts_c {w0 w : World} {H7 H8 A B C gm cm gn cn : Nat} {x : Ex} {s : Sp} {mA mB mC : List Int} {LA LB : List Ex} (h : TS w0 H7 H8 A B C gm cm gn cn x s mA mB mC LA LB w) (hl : mA.length = 64) :
    ((w.alloc (.cells (iv (nTo 0)).toArray 29)).there w.heap.size 0 64) ∧ TS w0 H7 H8 A B w.heap.size gm cm gn cn x s mA mB mA LA LB ((w.alloc (.cells (iv (nTo 0)).toArray 29)).setCells w.heap.size 0 (iv mA)) := by
  have n0 := MO.new w (nTo 0) (nTo_length (by omega))
  have y0 := Tyd.new w (iv (nTo 0)).toArray 29 (by unfold TA; decide)
  have b1 := alc_below (W := w) (.cells (iv (nTo 0)).toArray 29)
  have z := h.below b1
  generalize w.alloc (.cells (iv (nTo 0)).toArray 29) = v at *
  have hk : ∀ b, b < w.heap.size → (v.setCells w.heap.size 0 (iv mA)).heap[b]? = v.heap[b]? := fun b hb => heap_setCells _ _ _ _ _ (by omega)
  have e7 := hk _ h.tx.lt
  have e8 := hk _ h.ts.lt
  have eA := hk _ h.ta.lt
  have eB := hk _ h.tb.lt
  refine ⟨n0.t, z.bx.ofBlock e7, z.tx.eq e7, z.bs.ofBlock e8, z.ts.eq e8, z.a.ofBlock eA, z.ta.eq eA, z.b.ofBlock eB, z.tb.eq eB, n0.store mA hl, tyd_setCells _ _ y0,
    Bk0.ow_ofBlock z.m (fun b hb' => hk b (by cases hb'; exact h.m.ne.2)), Bk0.ow_ofBlock z.n (fun b hb' => hk b (by cases hb'; exact h.n.ne.2)), below_setCells _ _ _ _ z.bel h.bel.size⟩
theorem TS.cut {w0 w : World} {H7 H8 A B C gm cm gn cn : Nat} {x : Ex} {s : Sp} {mA mB mC : List Int} {LA LB : List Ex} (h : TS w0 H7 H8 A B C gm cm gn cn x s mA mB mC LA LB w) (hC : Hid (H7 < C ∧ H8 < C ∧ A < C ∧ B < C ∧ gm < C ∧ gn < C ∧ w0.heap.size ≤ C)) (hl : mC.length = 64) (j : Nat) (hj : j < 64) (v : Int) :
    TS w0 H7 H8 A B C gm cm gn cn x s mA mB (mC.set j v) LA LB (w.setCell ⟨C, j, none⟩ (.int .i64 v)) := by
  obtain ⟨c1, c2, c3, c4, c5, c6, c7⟩ := hC.out
  have hb : ∀ b, b < C → (w.setCell ⟨C, j, none⟩ (.int .i64 v)).heap[b]? = w.heap[b]? := fun b hb => Below.heap_setCell w ⟨C, j, none⟩ _ b (by show b ≠ C; omega)
  have e7 := hb _ c1
  have e8 := hb _ c2
  have eA := hb _ c3
  have eB := hb _ c4
  exact ⟨h.bx.ofBlock e7, h.tx.eq e7, h.bs.ofBlock e8, h.ts.eq e8, h.a.ofBlock eA, h.ta.eq eA, h.b.ofBlock eB, h.tb.eq eB, h.c.set hl j hj v, tyd_setCell h.tc _ _ _,
    Bk0.ow_ofBlock h.m (fun b hb' => hb b (by cases hb'; exact c5)), Bk0.ow_ofBlock h.n (fun b hb' => hb b (by cases hb'; exact c6)), h.bel.setCell c7 _⟩
theorem TS.cs {w0 w : World} {H7 H8 A B C gm cm gn cn : Nat} {x : Ex} {s : Sp} {mA mB mC : List Int} {LA LB : List Ex} (h : TS w0 H7 H8 A B C gm cm gn cn x s mA mB mC LA LB w) (hm : w0.heap.size ≤ H7 ∧ w0.heap.size ≤ H8) : Hid (H7 < w.heap.size ∧ H8 < w.heap.size ∧ A < w.heap.size ∧ B < w.heap.size ∧ gm < w.heap.size ∧ gn < w.heap.size ∧ w0.heap.size ≤ w.heap.size) :=
  Hid.intro ⟨h.tx.lt, h.ts.lt, h.ta.lt, h.tb.lt, h.m.ne.2, h.n.ne.2, by have := h.tx.lt; omega⟩
end Go.Proofs.Ytfikkbmilhcahaa

namespace Go.Proofs.Ytfikkbmilhcahaa
open Go.ChangeShapes Go.WideShapes Go.ChangeAt Go.RowKit
open Go.Proofs.Ytfikkbmilhcahaa.Bk0 (Sty)
open Go.Proofs.Ytfikkbmilhcahaa.BkJ (TA B3)

structure Five (w : World) (base : Nat) (vu vv vw vy vz : Value) (U V W : List Ex) (ps : List Sp) (Z : List Int) : Prop where
  u : w.ownsRow base 24 3 vu U.length (BkE.itemsV U)
  v : w.ownsRow base 24 3 vv V.length (BkE.itemsV V)
  ww : w.ownsRow base 24 3 vw W.length (BkE.itemsV W)
  y : w.ownsRow base 26 2 vy ps.length (BkS.itemsV ps)
  z : w.ownsRow base 3 1 vz Z.length (BkI.itemsV Z)
theorem Five.sty {w w' : World} {base : Nat} {vu vv vw vy vz : Value} {U V W : List Ex} {ps : List Sp} {Z : List Int} (h : Five w base vu vv vw vy vz U V W ps Z) (hs : Sty TA w w') : Five w' base vu vv vw vy vz U V W ps Z :=
  ⟨Bk0.ow_stay h.u hs (by unfold TA; decide), Bk0.ow_stay h.v hs (by unfold TA; decide), Bk0.ow_stay h.ww hs (by unfold TA; decide), Bk0.ow_stay h.y hs (by unfold TA; decide), Bk0.ow_stay h.z hs (by unfold TA; decide)⟩
theorem Five.below {w w' : World} {base : Nat} {vu vv vw vy vz : Value} {U V W : List Ex} {ps : List Sp} {Z : List Int} (h : Five w base vu vv vw vy vz U V W ps Z) (hb : Below w.heap.size w w') : Five w' base vu vv vw vy vz U V W ps Z := h.sty (Sty.of hb)
/-- The blocks of these lists are older than N. -/
def Old {α : Type} (N : Nat) (l : List (Value × α)) : Prop := ∀ e ∈ l, ∀ b, e.1.ownBlock = some b → b < N
theorem Old.nil {α : Type} (N : Nat) : Old N ([] : List (Value × α)) := fun e he => by simp at he
theorem Old.mono {α : Type} {N M : Nat} {l : List (Value × α)} (h : Old N l) (hm : N ≤ M) : Old M l := fun e he b hb => Nat.lt_of_lt_of_le (h e he b hb) hm
theorem Old.app {α : Type} {N M : Nat} {l : List (Value × α)} (h : Old N l) (hm : N ≤ M) {v : Value} {x : α} (hv : ∀ b, v.ownBlock = some b → b < M) : Old M (l ++ [(v, x)]) := fun e he b hb => by
  rcases List.mem_append.1 he with h1 | h1
  · exact (h.mono hm) e h1 b hb
  · simp only [List.mem_singleton] at h1; subst h1; exact hv b hb
theorem Old.fresh {α : Type} {N : Nat} {l : List (Value × α)} (h : Old N l) {v : Value} (hv : ∀ b, v.ownBlock = some b → N ≤ b) : ∀ e ∈ l, ∀ b, e.1.ownBlock = some b → v.ownBlock ≠ some b := fun e he b hb e2 => by
  have h1 := h e he b hb
  have h2 := hv b e2
  omega
/-- The five lists, each made behind the one before it. -/
structure Made (N M1 M2 M3 M4 M5 : Nat) (vu vv vw vy vz : Value) : Prop where
  u : ∀ b, vu.ownBlock = some b → N ≤ b ∧ b < M1
  v : ∀ b, vv.ownBlock = some b → M1 ≤ b ∧ b < M2
  w : ∀ b, vw.ownBlock = some b → M2 ≤ b ∧ b < M3
  y : ∀ b, vy.ownBlock = some b → M3 ≤ b ∧ b < M4
  z : ∀ b, vz.ownBlock = some b → M4 ≤ b ∧ b < M5
  le : N ≤ M1 ∧ M1 ≤ M2 ∧ M2 ≤ M3 ∧ M3 ≤ M4 ∧ M4 ≤ M5
theorem five_made {w0 y1 y2 y3 y4 y5 : World} {base : Nat} {vu vv vw vy vz : Value} {U V W : List Ex} {ps : List Sp} {Z : List Int}
    (hbase : base ≤ w0.heap.size) (b1 : Below w0.heap.size w0 y1) (b2 : Below y1.heap.size y1 y2) (b3 : Below y2.heap.size y2 y3) (b4 : Below y3.heap.size y3 y4) (b5 : Below y4.heap.size y4 y5)
    (hu : y1.ownsRow w0.heap.size 24 3 vu U.length (BkE.itemsV U)) (hv : y2.ownsRow y1.heap.size 24 3 vv V.length (BkE.itemsV V)) (hw : y3.ownsRow y2.heap.size 24 3 vw W.length (BkE.itemsV W))
    (hy : y4.ownsRow y3.heap.size 26 2 vy ps.length (spansV ps)) (hz : y5.ownsRow y4.heap.size 3 1 vz Z.length (BkI.itemsV Z)) :
    Five y5 base vu vv vw vy vz U V W ps Z ∧ Made w0.heap.size y1.heap.size y2.heap.size y3.heap.size y4.heap.size y5.heap.size vu vv vw vy vz := by
  have z1 := b1.size
  have z2 := b2.size
  have z3 := b3.size
  have z4 := b4.size
  have z5 := b5.size
  have hy' : y4.ownsRow y3.heap.size 26 2 vy ps.length (BkS.itemsV ps) := by rw [spansV_items]; exact hy
  refine ⟨⟨?_, ?_, ?_, ?_, ?_⟩, ⟨hu.lt, hv.lt, hw.lt, hy.lt, hz.lt, z1, z2, z3, z4, z5⟩⟩
  · exact BkE.own_mono (BkE.own_below (BkE.own_below (BkE.own_below (BkE.own_below hu b2) b3) b4) b5) hbase
  · exact BkE.own_mono (BkE.own_below (BkE.own_below (BkE.own_below hv b3) b4) b5) (by omega)
  · exact BkE.own_mono (BkE.own_below (BkE.own_below hw b4) b5) (by omega)
  · exact BkS.own_mono (BkS.own_below hy' b5) (by omega)
  · exact BkI.own_mono hz (by omega)
theorem ext_set {L LA : List Ex} {mA : List Int} {x : Ex} (hA : Sane mA) (tA : Ti LA) (vA : ∀ k, val LA k = mv mA k) (tL : Ti L) (vL : ∀ k, val L k = mv (mSet mA x) k) : L = setL LA x := by
  obtain ⟨a, b, _⟩ := setL_spec (x := x) tA
  exact ti_ext tL a fun k => by rw [vL, mSet_mv hA.1, b]; unfold setF; rw [vA]
theorem ext_cut {L LA : List Ex} {mA : List Int} {s : Sp} (hA : Sane mA) (tA : Ti LA) (vA : ∀ k, val LA k = mv mA k) (tL : Ti L) (vL : ∀ k, val L k = mv (mCut mA s) k) : L = cutL LA s := by
  obtain ⟨a, b⟩ := cutL_spec s LA e0 tA
  exact ti_ext tL a fun k => by rw [vL, mCut_mv hA.1, b]; unfold cutF; rw [vA]
theorem ext_over {L LA LB : List Ex} {mA mB : List Int} (hA : Sane mA) (hB : Sane mB) (tA : Ti LA) (vA : ∀ k, val LA k = mv mA k) (tB : Ti LB) (vB : ∀ k, val LB k = mv mB k) (tL : Ti L) (vL : ∀ k, val L k = mv (mOver mA mB) k) : L = overL LA LB := by
  obtain ⟨a, b⟩ := overL_spec tA tB
  exact ti_ext tL a fun k => by rw [vL, mOver_mv hA.1 hB.1, b]; unfold overF; rw [vA, vB]
theorem ext_self {L LA : List Ex} {mA : List Int} (tA : Ti LA) (vA : ∀ k, val LA k = mv mA k) (tL : Ti L) (vL : ∀ k, val L k = mv mA k) : L = LA :=
  ti_ext tL tA fun k => by rw [vL, vA]
theorem ids_both {LA : List Ex} {mA : List Int} (hA : Sane mA) (tA : Ti LA) (vA : ∀ k, val LA k = mv mA k) : idsL LA = idsM mA 64 := by
  rw [ids_map tA hA.1 vA]
  unfold idsM
  rw [List.take_of_length_le (by rw [hA.1]; omega)]
theorem bits_said {LA : List Ex} {mA : List Int} {ps : List Sp} (vA : ∀ k, val LA k = mv mA k) (h : ∀ k, In ps k ↔ 0 ≤ val LA k) : sTo mA 64 = bitsOf ps := sTo_bits fun k => by rw [h, vA]
/-- The load of a long array by an operation that stands under a guard. -/
theorem wpList_load_mid_g {P : Program} {ops : Array Oper} {rest : List Oper} {op : Oper} {a : Act} {w : World} {Q : Exit → Act → World → Prop} (hw : Region.wanted op (yielded ops a.tmps) = true) (ty : TypeId) (x : Operand) (ho : op.op = .load ty x)
    (b o : Nat) (hx : a.eval x = .pointer (some ⟨b, o, none⟩)) (cs : List Value) (d : TypeDesc) (hc : w.rangeAt b o cs)
    (hu : P.underlying ty = some d) (hd : d.isRow = true) (hi : (P.info? ty).map (·.size) = some cs.length)
    (h : wpList P ops Q rest (a.put op.dst (.agg cs.toArray)) w) : wpList P ops Q (op :: rest) a w :=
  wpList_step fun K hK => by
    rw [hw, if_pos rfl]
    exact wp_load_mid ty x ho b o hx cs d hc hu hd hi (hK _ _ h)
theorem short_app {N : Nat} {α : Type} {l : List (Value × List α)} {v : Value} {x : List α} (h : ∀ e ∈ l, e.2.length ≤ N) (hx : x.length ≤ N) : ∀ e ∈ l ++ [(v, x)], e.2.length ≤ N := fun e he => by
  rcases List.mem_append.1 he with h1 | h1
  · exact h e h1
  · simp only [List.mem_singleton] at h1; subst h1; exact hx
end Go.Proofs.Ytfikkbmilhcahaa
