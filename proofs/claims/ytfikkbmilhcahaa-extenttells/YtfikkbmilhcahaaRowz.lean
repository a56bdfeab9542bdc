/-
  Lists of spans and Runs in memory: what a slice value reads as, what a *Runs reads as, what stays when all is kept but one block.
-/
import Derived.Test.YtfikkbmilhcahaaLess
import Derived.Test.YtfikkbmilhcahaaMath
import Derived.Deep.QuietTactic
import Derived.BigQuiet
import Derived.Maps.AppendAt
import Derived.Deep.AppendLies
namespace Go.Proofs.Ytfikkbmilhcahaa
open Go.ChangeShapes Go.WideShapes Go.ChangeAt Go.RowKit

def spansV (ps : List (Int × Int)) : List Value := ps.flatMap fun p => [.int .i64 p.1, .int .i64 p.2]
theorem spansV_get : ∀ (ps : List (Int × Int)) (i : Nat) (p : Int × Int), ps[i]? = some p → (spansV ps)[i * 2]? = some (.int .i64 p.1) ∧ (spansV ps)[i * 2 + 1]? = some (.int .i64 p.2)
  | [], i, p, h => by simp at h
  | q :: ps, 0, p, h => by simp at h; subst h; exact ⟨rfl, rfl⟩
  | q :: ps, i + 1, p, h => by
    have ih := spansV_get ps i p (by simpa using h)
    have e1 : (i + 1) * 2 = i * 2 + 1 + 1 := by omega
    rw [e1]
    exact ih
theorem spansV_length (ps : List (Int × Int)) : (spansV ps).length = ps.length * 2 := by
  induction ps with
  | nil => rfl
  | cons p ps ih => simp [spansV] at ih ⊢; omega
theorem spansV_one (ps : List (Int × Int)) : ∀ u ∈ spansV ps, u.oneCell' = true := by
  intro u hu
  simp only [spansV, List.mem_flatMap] at hu
  obtain ⟨p, _, hp⟩ := hu
  simp at hp
  rcases hp with rfl | rfl <;> rfl
theorem spansV_append (ps qs : List (Int × Int)) : spansV (ps ++ qs) = spansV ps ++ spansV qs := by simp [spansV]
theorem row_cells {w : World} {base g cap : Nat} {ps : List (Int × Int)} (h : w.ownsRow base 26 2 (.slice (some ⟨g, 0, none⟩) ps.length cap) ps.length (spansV ps)) (i : Nat) (p : Int × Int) (hp : ps[i]? = some p) :
    w.cell? ⟨g, i * 2, none⟩ = some (.int .i64 p.1) ∧ w.cell? ⟨g, i * 2 + 1, none⟩ = some (.int .i64 p.2) := by
  have hi : i < ps.length := (List.getElem?_eq_some_iff.1 hp).1
  obtain ⟨h0, h1⟩ := spansV_get ps i p hp
  exact ⟨(h.cellAt (i * 2) (by omega)).trans h0, (h.cellAt (i * 2 + 1) (by omega)).trans h1⟩
theorem below_app0 {w w' : World} (hg : w.grownBy w' none) : Below w.heap.size w w' := (Below.refl _ _).grown hg (Nat.le_refl _) nofun
theorem below_drw {w : World} : Below w.heap.size w w.drew := (Below.refl _ _).drew

/-- The cells from o on of block g are the spans ps. -/
def Cells (w : World) (g o : Nat) (ps : List (Int × Int)) : Prop :=
  ∀ i p, ps[i]? = some p → w.cell? ⟨g, o + i * 2, none⟩ = some (.int .i64 p.1) ∧ w.cell? ⟨g, o + i * 2 + 1, none⟩ = some (.int .i64 p.2)

/-- The slice value v reads as the spans ps. -/
def Row (w : World) (v : Value) (ps : List (Int × Int)) : Prop :=
  ((∃ a c, v = .slice a 0 c) ∧ ps = []) ∨ ∃ g o cap, v = .slice (some ⟨g, o, none⟩) ps.length cap ∧ g < w.heap.size ∧ Cells w g o ps

theorem Cells.below {w w' : World} {g o B : Nat} {ps : List (Int × Int)} (h : Cells w g o ps) (hb : Below B w w') (hg : g < B) : Cells w' g o ps := fun i p hp => by
  rw [hb.cell (p := ⟨g, o + i * 2, none⟩) hg, hb.cell (p := ⟨g, o + i * 2 + 1, none⟩) hg]
  exact h i p hp

theorem Row.below {w w' : World} {v : Value} {ps : List (Int × Int)} (h : Row w v ps) (hb : Below w.heap.size w w') : Row w' v ps := by
  rcases h with h | ⟨g, o, cap, hv, hg, hc⟩
  · exact .inl h
  · exact .inr ⟨g, o, cap, hv, Nat.lt_of_lt_of_le hg hb.size, hc.below hb hg⟩

theorem own_row {w : World} {base : Nat} {v : Value} {ps : List (Int × Int)} (h : w.ownsRow base 26 2 v ps.length (spansV ps)) : Row w v ps := by
  rcases h.2 with ⟨hv, h0⟩ | ⟨g, cap, cur, hv, hb, hc, _⟩
  · exact .inl ⟨⟨_, _, hv⟩, List.length_eq_zero_iff.1 h0⟩
  · subst hv
    refine .inr ⟨g, 0, cap, rfl, ?_, fun i p hp => ?_⟩
    · rcases Nat.lt_or_ge g w.heap.size with hl | hl
      · exact hl
      · rw [Array.getElem?_eq_none hl] at hc; cases hc
    · have := row_cells h i p hp
      simpa using this

theorem Row.nil {w : World} {v : Value} (h : Row w v []) : ∃ a c, v = .slice a 0 c := by
  rcases h with ⟨⟨a, c, rfl⟩, _⟩ | ⟨g, o, cap, rfl, _⟩
  · exact ⟨_, _, rfl⟩
  · exact ⟨_, _, rfl⟩

theorem row_news {w : World} {g o : Nat} {ps : List (Int × Int)} (h : Cells w g o ps) :
    ∀ j u, (spansV ps)[j]? = some u → w.cell? ((⟨g, o, none⟩ : Addr).add j) = some u := by
  intro j u hu
  rw [Addr.add_mid]
  have hj : j < ps.length * 2 := by rw [← spansV_length]; exact (List.getElem?_eq_some_iff.1 hu).1
  have hq : j / 2 < ps.length := by omega
  have hp : ps[j / 2]? = some ps[j / 2] := List.getElem?_eq_getElem hq
  obtain ⟨g0, g1⟩ := spansV_get ps (j / 2) _ hp
  obtain ⟨c0, c1⟩ := h (j / 2) _ hp
  rcases Nat.mod_two_eq_zero_or_one j with e | e
  · have ej : j = j / 2 * 2 := by omega
    rw [ej] at hu ⊢
    rw [g0] at hu
    rw [← hu]
    exact c0
  · have ej : j = j / 2 * 2 + 1 := by omega
    rw [ej] at hu ⊢
    rw [g1] at hu
    rw [← hu, ← Nat.add_assoc]
    exact c1

/-- All is kept that there was, but block x. -/
structure But (x : Nat) (w w' : World) : Prop where
  os : w'.os = w.os
  tape : w'.tape = w.tape
  output : w'.output = w.output
  size : w.heap.size ≤ w'.heap.size
  block : ∀ k, k < w.heap.size → k ≠ x → w'.heap[k]? = w.heap[k]?

theorem But.of {x : Nat} {w w' : World} (h : Below w.heap.size w w') : But x w w' := ⟨h.os, h.tape, h.output, h.size, fun k hk _ => h.block k hk⟩
theorem But.trans {x : Nat} {a b c : World} (h : But x a b) (k : But x b c) : But x a c :=
  ⟨k.os.trans h.os, k.tape.trans h.tape, k.output.trans h.output, Nat.le_trans h.size k.size, fun i hi hx => (k.block i (Nat.lt_of_lt_of_le hi h.size) hx).trans (h.block i hi hx)⟩
theorem But.below {x : Nat} {w w' : World} (h : But x w w') (hx : w.heap.size ≤ x) : Below w.heap.size w w' := ⟨h.os, h.tape, h.output, h.size, fun k hk => h.block k hk (by omega)⟩
theorem But.setCell {x : Nat} {a w : World} (h : But x a w) (o : Nat) (u : Value) : But x a (w.setCell ⟨x, o, none⟩ u) := by
  have hb : Below 0 w (w.setCell ⟨x, o, none⟩ u) := (Below.refl 0 w).setCell (Nat.zero_le _) u
  refine h.trans ⟨hb.os, hb.tape, hb.output, hb.size, fun k _ hx => Below.heap_setCell w ⟨x, o, none⟩ u k hx⟩
theorem But.from {x : Nat} {B : Nat} {a b c : World} (h : Below B a b) (hB : B = a.heap.size) (k : But x b c) : But x a c := by subst hB; exact (But.of h).trans k

theorem lt_of_block {w : World} {b : Nat} {o : Obj} (h : w.heap[b]? = some o) : b < w.heap.size := by
  rcases Nat.lt_or_ge b w.heap.size with hl | hl
  · exact hl
  · rw [Array.getElem?_eq_none hl] at h; cases h

/-- The slice's block is one of spans. -/
def T49 (w : World) (v : Value) : Prop := ∀ a n c, v = .slice (some a) n c → ∃ cur fz, w.heap[a.block]? = some (.cells cur 26 fz)
theorem T49.below {w w' : World} {v : Value} (h : T49 w v) (hb : Below w.heap.size w w') : T49 w' v := fun a n c hv => by
  obtain ⟨cur, fz, hg⟩ := h a n c hv
  exact ⟨cur, fz, by rw [hb.block a.block (lt_of_block hg)]; exact hg⟩
theorem T49.nil (w : World) (n c : Nat) : T49 w (.slice none n c) := fun _ _ _ h => by cases h
theorem own_t49 {w : World} {base n : Nat} {v : Value} {xs : List Value} (h : w.ownsRow base 26 2 v n xs) : T49 w v := fun a m c hv => by
  rcases h.2 with ⟨h, _⟩ | ⟨g, cap, cur, h, _, hg, _⟩
  · rw [h] at hv; cases hv
  · rw [h] at hv; cases hv; exact ⟨cur, _, hg⟩

end Go.Proofs.Ytfikkbmilhcahaa
