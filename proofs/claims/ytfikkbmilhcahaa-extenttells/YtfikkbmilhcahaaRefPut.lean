/-
  The contract of emulsionref1's Set.Put: the set with the blocks of every whole span of the list put in or taken out, one span behind the other; nothing that was there is written.
-/
import Derived.Test.YtfikkbmilhcahaaSmall
import Derived.Test.YtfikkbmilhcahaaRowz
import Derived.Deep.MidRow
namespace Go.Proofs.Ytfikkbmilhcahaa
open Go.ChangeShapes Go.WideShapes Go.ChangeAt Go.RowKit
attribute [local go_sem ↓] Go.wp_at_zero Go.wp_at_succ

/-- A set's cells. -/
def bv (l : List Bool) : List Value := l.map Value.bool
/-- The first k blocks from f on put in, or taken out. -/
def putTo (l : List Bool) (f : Nat) (on : Bool) : Nat → List Bool
  | 0 => l
  | k + 1 => (putTo l f on k).set (f + k) on
def whB (f n : Int) : Bool := decide (0 ≤ f ∧ 1 ≤ n ∧ n ≤ 64 - f)
/-- A span put in, or taken out, if it is whole. -/
def putSpan (on : Bool) (l : List Bool) (p : Int × Int) : List Bool := if whB p.1 p.2 = true then putTo l p.1.toNat on p.2.toNat else l
def putL (on : Bool) (l : List Bool) (ps : List (Int × Int)) : List Bool := ps.foldl (putSpan on) l

theorem putTo_length (l : List Bool) (f : Nat) (on : Bool) : ∀ k, (putTo l f on k).length = l.length
  | 0 => rfl
  | k + 1 => by simp [putTo, putTo_length l f on k]
theorem putSpan_length (on : Bool) (l : List Bool) (p : Int × Int) : (putSpan on l p).length = l.length := by
  unfold putSpan; split
  · exact putTo_length _ _ _ _
  · rfl
theorem putL_length (on : Bool) : ∀ (ps : List (Int × Int)) (l : List Bool), (putL on l ps).length = l.length
  | [], _ => rfl
  | p :: ps, l => by
    have := putL_length on ps (putSpan on l p)
    simpa [putL, putSpan_length] using this
theorem bv_length (l : List Bool) : (bv l).length = l.length := by simp [bv]

theorem range_set {w : World} {b j : Nat} {l : List Bool} (v : Bool) (h : w.rangeAt b 0 (bv l)) (hj : j < l.length) : (w.setCell ⟨b, j, none⟩ (.bool v)).rangeAt b 0 (bv (l.set j v)) := by
  intro i x hx
  have hold : w.cell? ⟨b, j, none⟩ = some (.bool (l[j]'hj)) := by
    have := h j (.bool (l[j]'hj)) (by simp [bv, hj])
    simpa using this
  have hx' : (l.set j v)[i]?.map Value.bool = some x := by rw [← hx, bv, List.getElem?_map]
  by_cases e : i = j
  · subst e
    rw [List.getElem?_set_self hj] at hx'
    simp at hx'
    subst hx'
    simpa using World.cell?_setCell_same w ⟨b, i, none⟩ (.bool v) hold
  · rw [List.getElem?_set_ne (Ne.symm e)] at hx'
    have := h i x (by rw [← hx', bv, List.getElem?_map])
    rw [World.cell?_setCell_other]
    · exact this
    · intro ee
      have h1 : j = 0 + i := congrArg Addr.off ee
      omega

theorem there_set {w : World} {b o n : Nat} (h : w.there b o n) (p : Addr) (v : Value) : (w.setCell p v).there b o n := by
  intro j hj
  obtain ⟨h1, h2⟩ := h j hj
  refine ⟨?_, by rw [World.frozen?_setCell]; exact h2⟩
  obtain ⟨u, hu⟩ := Option.isSome_iff_exists.1 h1
  by_cases e : p = ⟨b, o + j, none⟩
  · subst e; rw [World.cell?_setCell_same _ _ _ hu]; rfl
  · rw [World.cell?_setCell_other _ _ _ _ e, hu]; rfl

/-- Ranges and room behind whatever is only new. -/
theorem range_below {w w' : World} {b o B : Nat} {cs : List Value} (hb : Below B w w') (hz : b < B) (h : w.rangeAt b o cs) : w'.rangeAt b o cs := fun j v hv => by
  rw [hb.cell (p := ⟨b, o + j, none⟩) hz]; exact h j v hv
theorem there_below {w w' : World} {b o n B : Nat} (hb : Below B w w') (hz : b < B) (h : w.there b o n) : w'.there b o n := fun j hj => by
  rw [hb.cell (p := ⟨b, o + j, none⟩) hz, hb.frozen (p := ⟨b, o + j, none⟩) hz]; exact h j hj

theorem range_new {w : World} {C : Array Value} {t : TypeId} : (w.alloc (.cells C t)).rangeAt w.heap.size 0 C.toList := by
  have := World.rangeAt_of_block (heap_alloc_new w (.cells C t)) 0 C.size
  simpa using this
theorem there_new {w : World} {C : Array Value} {t : TypeId} {n : Nat} (hn : n ≤ C.size) : (w.alloc (.cells C t)).there w.heap.size 0 n := by
  intro j hj
  refine ⟨?_, ?_⟩
  · rw [Nat.zero_add, World.cell?_alloc_new]; simp; omega
  · simp [go_sem]

/-- The two blocks that Put lays first. -/
theorem put_start {w : World} {C Z : Array Value} {t u : TypeId} (hC : C.size = 64) (hZ : Z.size = 64) :
    ((w.alloc (.cells C t)).alloc (.cells Z u)).rangeAt w.heap.size 0 C.toList ∧ ((w.alloc (.cells C t)).alloc (.cells Z u)).there w.heap.size 0 64 ∧
    ((w.alloc (.cells C t)).alloc (.cells Z u)).there (w.heap.size + 1) 0 64 ∧ Below w.heap.size w ((w.alloc (.cells C t)).alloc (.cells Z u)) ∧ w.heap.size + 1 < ((w.alloc (.cells C t)).alloc (.cells Z u)).heap.size := by
  refine ⟨World.rangeAt_alloc range_new _, World.there_alloc (there_new (by omega)) _, ?_, ((Below.refl _ _).alloc (Nat.le_refl _) _).alloc (by simp) _, by simp⟩
  have := there_new (w := w.alloc (.cells C t)) (C := Z) (t := u) (n := 64) (by omega)
  simpa using this

theorem below_setCells {B : Nat} {w : World} (b : Nat) : ∀ (vs : List Value) (o : Nat) (w' : World), Below B w w' → B ≤ b → Below B w (w'.setCells b o vs)
  | [], _, _, h, _ => h
  | v :: r, o, _, h, hb => below_setCells b r (o + 1) _ (h.setCell (p := ⟨b, o, none⟩) hb v) hb

theorem results_mid {fn : Func} {P : Program} {p : Tmp} {ty : TypeId} (h : fn.results = #[.cell p ty]) (tmps : Array Value) (w : World) (b : Nat) (cs : List Value) (d : TypeDesc) (ha : tmps.getD p undef = .pointer (some ⟨b, 0, none⟩)) (hc : w.rangeAt b 0 cs)
    (hu : P.underlying ty = some d) (hd : d.isRow = true) (hi : (P.info? ty).map (·.size) = some cs.length) : (results fn tmps).run P w = .ok (.agg cs.toArray) w := by
  simp only [results, h]
  have hl := run_loadVar_mid (P := P) w b 0 ty cs d hc hu hd hi
  have ha' : tmps[p]?.getD undef = .pointer (some ⟨b, 0, none⟩) := by simpa using ha
  simp [ha', asAddr, hl]

theorem info30 : (Try.prog.info? 61).map (·.size) = some 64 := by kernel_rfl

theorem put_step {w wz : World} {l : List Bool} {f : Int} {k : Nat} {on : Bool} (hl : l.length = 64) (hf : 0 ≤ f) (hfk : f + (k : Int) < 64)
    (h : wz.rangeAt w.heap.size 0 (bv (putTo l f.toNat on k)) ∧ wz.there w.heap.size 0 64 ∧ wz.there (w.heap.size + 1) 0 64 ∧ Below w.heap.size w wz ∧ w.heap.size + 1 < wz.heap.size) :
    (wz.setCell ⟨w.heap.size, (f + (k : Int)).toNat, none⟩ (.bool on)).rangeAt w.heap.size 0 (bv (putTo l f.toNat on (k + 1))) ∧ (wz.setCell ⟨w.heap.size, (f + (k : Int)).toNat, none⟩ (.bool on)).there w.heap.size 0 64 ∧
    (wz.setCell ⟨w.heap.size, (f + (k : Int)).toNat, none⟩ (.bool on)).there (w.heap.size + 1) 0 64 ∧ Below w.heap.size w (wz.setCell ⟨w.heap.size, (f + (k : Int)).toNat, none⟩ (.bool on)) ∧ w.heap.size + 1 < (wz.setCell ⟨w.heap.size, (f + (k : Int)).toNat, none⟩ (.bool on)).heap.size := by
  obtain ⟨h1, h2, h3, h4, h5⟩ := h
  refine ⟨?_, there_set h2 _ _, there_set h3 _ _, h4.setCell (Nat.le_refl _) _, ?_⟩
  · have e : (f + (k : Int)).toNat = f.toNat + k := by omega
    rw [e]
    exact range_set on h1 (by rw [putTo_length]; omega)
  · simpa using h5

end Go.Proofs.Ytfikkbmilhcahaa
