/-
  Lists of one kind in memory: what a slice reads as, its own block.
-/
import Derived.Test.YtgigpohfkppplaaLNeed
import Derived.Deep.QuietTactic
import Derived.BigQuiet
import Derived.Maps.AppendAt
import Derived.Deep.AppendLies
import Derived.Deep.RegionLaw
import Derived.OneCell
import Derived.ArgAppend
import Derived.Deep.DrawnRows
namespace Go.Proofs.Ytgigpohfkppplaa.BkI
open Go.ChangeShapes Go.WideShapes Go.ChangeAt Go.RowKit


abbrev Sp := Int
theorem below_app0 {w w' : World} (hg : w.grownBy w' none) : Below w.heap.size w w' := (Below.refl _ _).grown hg (Nat.le_refl _) nofun
theorem below_drw {w : World} : Below w.heap.size w w.drew := (Below.refl _ _).drew
theorem below_step {a b c : World} (h1 : Below a.heap.size a b) (h2 : Below b.heap.size b c) : Below a.heap.size a c := h1.trans (h2.mono h1.size)
theorem below_drew {a b : World} (h : Below a.drew.heap.size a.drew b) : Below a.heap.size a b := ((Below.refl _ a).drew).trans h
theorem app_below {W : Nat} {w w2 w5 : World} {obj : Obj} {row : Option Nat} (hB : Below W w w2) (hW : W ≤ w2.heap.size) (hg : (w2.alloc obj).grownBy w5 row) (hr : ∀ j, row = some j → W ≤ j) : Below W w w5 :=
  (hB.alloc hW obj).grown hg (by simp; omega) hr
def itemsV : List Sp → List Value
  | [] => []
  | p :: r => .int .i64 p :: itemsV r
theorem itemsV_length (l : List Sp) : (itemsV l).length = l.length * 1 := by
  induction l with
  | nil => rfl
  | cons p r ih => simp [itemsV, ih]
theorem itemsV_append (l m : List Sp) : itemsV (l ++ m) = itemsV l ++ itemsV m := by
  induction l with
  | nil => rfl
  | cons p r ih => simp [itemsV, ih]
theorem itemsV_get : ∀ (l : List Sp) (i : Nat) (p : Sp), l[i]? = some p → (itemsV l)[i]? = some (.int .i64 p)
  | [], i, p, h => by simp at h
  | q :: r, 0, p, h => by simp at h; subst h; exact rfl
  | q :: r, i + 1, p, h => by
    have ih := itemsV_get r i p (by simpa using h)
    rw [show (i + 1) = i + 1 by omega]
    exact ih
theorem itemsV_one (l : List Sp) : ∀ u ∈ itemsV l, u.oneCell' = true := by
  induction l with
  | nil => intro u h; cases h
  | cons p r ih =>
    intro u h
    simp only [itemsV, List.mem_cons] at h
    rcases h with rfl | h
    · rfl
    · exact ih u h
/-- The cells from o on of block g are the list ps. -/
def Cells (w : World) (g o : Nat) (ps : List Sp) : Prop :=
  ∀ i p, ps[i]? = some p → w.cell? ⟨g, o + i, none⟩ = some (.int .i64 p)
/-- The slice value v reads as the list ps. -/
def Row (w : World) (v : Value) (ps : List Sp) : Prop :=
  ((∃ a c, v = .slice a 0 c) ∧ ps = []) ∨ ∃ g o cap, v = .slice (some ⟨g, o, none⟩) ps.length cap ∧ g < w.heap.size ∧ Cells w g o ps
theorem Cells.block {w w' : World} {g o : Nat} {ps : List Sp} (h : Cells w g o ps) (hb : w'.heap[g]? = w.heap[g]?) : Cells w' g o ps := fun i p hp => by
  rw [World.cell?_of_block (w := w) (a := ⟨g, o + i, none⟩) hb]
  exact h i p hp
theorem Cells.below {w w' : World} {g o B : Nat} {ps : List Sp} (h : Cells w g o ps) (hb : Below B w w') (hg : g < B) : Cells w' g o ps := h.block (hb.block g hg)
theorem Row.ofBlock {w w' : World} {v : Value} {l : List Sp} (h : Row w v l) (hb : ∀ b, v.ownBlock = some b → w'.heap[b]? = w.heap[b]?) (hs : w.heap.size ≤ w'.heap.size) : Row w' v l := by
  rcases h with h | ⟨g, o, cap, hv, hg, hc⟩
  · exact .inl h
  · exact .inr ⟨g, o, cap, hv, Nat.lt_of_lt_of_le hg hs, hc.block (hb g (by rw [hv]; rfl))⟩
theorem Row.below {w w' : World} {v : Value} {ps : List Sp} (h : Row w v ps) (hb : Below w.heap.size w w') : Row w' v ps := by
  rcases h with h | ⟨g, o, cap, hv, hg, hc⟩
  · exact .inl h
  · exact .inr ⟨g, o, cap, hv, Nat.lt_of_lt_of_le hg hb.size, hc.below hb hg⟩
theorem row_cells {w : World} {base g cap : Nat} {ps : List Sp} (h : w.ownsRow base 3 1 (.slice (some ⟨g, 0, none⟩) ps.length cap) ps.length (itemsV ps)) : Cells w g 0 ps := fun i p hp => by
  have hi : i < ps.length := (List.getElem?_eq_some_iff.1 hp).1
  have hx := itemsV_get ps i p hp
  simp only [Nat.zero_add]
  exact (h.cellAt (i) (by omega)).trans hx
theorem own_row {w : World} {base : Nat} {v : Value} {ps : List Sp} (h : w.ownsRow base 3 1 v ps.length (itemsV ps)) : Row w v ps := by
  rcases h.2 with ⟨hv, h0⟩ | ⟨g, cap, cur, hv, hb, hc, _⟩
  · exact .inl ⟨⟨_, _, hv⟩, List.length_eq_zero_iff.1 h0⟩
  · subst hv
    exact .inr ⟨g, 0, cap, rfl, lt_of_block hc, row_cells h⟩
theorem Row.nil {w : World} {v : Value} (h : Row w v []) : ∃ a c, v = .slice a 0 c := by
  rcases h with ⟨⟨a, c, rfl⟩, _⟩ | ⟨g, o, cap, rfl, _⟩
  · exact ⟨_, _, rfl⟩
  · exact ⟨_, _, rfl⟩
theorem Row.slice {w : World} {v : Value} {ps : List Sp} (h : Row w v ps) : ∃ a c, v = .slice a ps.length c := by
  rcases h with ⟨⟨a, c, rfl⟩, rfl⟩ | ⟨g, o, cap, rfl, _⟩
  · exact ⟨_, _, rfl⟩
  · exact ⟨_, _, rfl⟩
theorem row_news {w : World} {g o : Nat} {ps : List Sp} (h : Cells w g o ps) :
    ∀ j u, (itemsV ps)[j]? = some u → w.cell? ((⟨g, o, none⟩ : Addr).add j) = some u := by
  intro j u hu
  rw [Addr.add_mid]
  have hj : j < ps.length * 1 := by rw [← itemsV_length]; exact (List.getElem?_eq_some_iff.1 hu).1
  have hq : j / 1 < ps.length := by omega
  have hp : ps[j / 1]? = some ps[j / 1] := List.getElem?_eq_getElem hq
  have hx := itemsV_get ps (j / 1) _ hp
  have hy := h (j / 1) _ hp
  have hm : j = j / 1 := by omega
  have ej := hm
  · rw [ej] at hu ⊢
    rw [hx] at hu
    rw [← hu]
    exact hy
theorem own_below {w w' : World} {base : Nat} {v : Value} {n : Nat} {xs : List Value} (h : w.ownsRow base 3 1 v n xs) (hb : Below w.heap.size w w') : w'.ownsRow base 3 1 v n xs := by
  refine ⟨h.1, ?_⟩
  rcases h.2 with h0 | ⟨g, cap, cur, hv, hbg, hg, hr⟩
  · exact .inl h0
  · exact .inr ⟨g, cap, cur, hv, hbg, by rw [hb.block g (lt_of_block hg)]; exact hg, hr⟩
theorem own_mono {w : World} {base base' : Nat} {v : Value} {n : Nat} {xs : List Value} (h : w.ownsRow base 3 1 v n xs) (hb : base' ≤ base) : w.ownsRow base' 3 1 v n xs := by
  refine ⟨h.1, ?_⟩
  rcases h.2 with h0 | ⟨g, cap, cur, hv, hbg, hg, hr⟩
  · exact .inl h0
  · exact .inr ⟨g, cap, cur, hv, Nat.le_trans hb hbg, hg, hr⟩
/-- The slice's block is one of this kind. -/
def T49 (w : World) (v : Value) : Prop := ∀ a n c, v = .slice (some a) n c → ∃ cur fz, w.heap[a.block]? = some (.cells cur 3 fz)
theorem T49.below {w w' : World} {v : Value} (h : T49 w v) (hb : Below w.heap.size w w') : T49 w' v := fun a n c hv => by
  obtain ⟨cur, fz, hg⟩ := h a n c hv
  exact ⟨cur, fz, by rw [hb.block a.block (lt_of_block hg)]; exact hg⟩
theorem T49.ofBlock {w w' : World} {v : Value} (h : T49 w v) (hb : ∀ b, v.ownBlock = some b → w'.heap[b]? = w.heap[b]?) : T49 w' v := fun a n c hv => by
  obtain ⟨cur, fz, hg⟩ := h a n c hv
  exact ⟨cur, fz, by rw [hb a.block (by rw [hv]; rfl)]; exact hg⟩
theorem own_t49 {w : World} {base n : Nat} {v : Value} {xs : List Value} (h : w.ownsRow base 3 1 v n xs) : T49 w v := fun a m c hv => by
  rcases h.2 with ⟨h, _⟩ | ⟨g, cap, cur, h, _, hg, _⟩
  · rw [h] at hv; cases hv
  · rw [h] at hv; cases hv; exact ⟨cur, _, hg⟩
theorem Try.infoE : (Try.prog.info? 3).map (fun i => (i.zero, i.size, i.bytes)) = some (some (.int .i64 0), 1, 8) := by kernel_rfl
/-- All is kept that there was, but block x. -/
structure But (x : Nat) (w w' : World) : Prop where
  os : w'.os = w.os
  tape : w'.tape = w.tape
  output : w'.output = w.output
  size : w.heap.size ≤ w'.heap.size
  block : ∀ k, k < w.heap.size → k ≠ x → w'.heap[k]? = w.heap[k]?
theorem But.of {x : Nat} {w w' : World} (h : Below w.heap.size w w') : But x w w' := ⟨h.os, h.tape, h.output, h.size, fun k hk _ => h.block k hk⟩
theorem But.trans {x : Nat} {a b c : World} (h : But x a b) (k : But x b c) : But x a c :=
  ⟨k.os.trans h.os, k.tape.trans h.tape, k.output.trans h.output, Nat.le_trans h.size k.size, fun i hi hx => (k.block i (Nat.lt_of_lt_of_le hi h.size) hx).trans (h.block i hi hx)⟩
theorem But.setCell {x : Nat} {a w : World} (h : But x a w) (o : Nat) (u : Value) : But x a (w.setCell ⟨x, o, none⟩ u) := by
  have hb : Below 0 w (w.setCell ⟨x, o, none⟩ u) := (Below.refl 0 w).setCell (Nat.zero_le _) u
  refine h.trans ⟨hb.os, hb.tape, hb.output, hb.size, fun k _ hx => Below.heap_setCell w ⟨x, o, none⟩ u k hx⟩
end Go.Proofs.Ytgigpohfkppplaa.BkI
