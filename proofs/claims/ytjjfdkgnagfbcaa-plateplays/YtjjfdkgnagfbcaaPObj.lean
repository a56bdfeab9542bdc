/-
  A *Plate in memory: its box, its two rows of pages; what stays, and what each store makes of it.
-/
import Derived.Test.YtjjfdkgnagfbcaaPMath
import Derived.Lib.MinMax
namespace Go.Proofs.Ytjjfdkgnagfbcaa
open Go.ChangeShapes Go.WideShapes Go.ChangeAt Go.RowKit

/-- Nothing is changed but what F names. -/
structure Keep (F : Nat → Prop) (w w' : World) : Prop where
  os : w'.os = w.os
  tape : w'.tape = w.tape
  output : w'.output = w.output
  size : w.heap.size ≤ w'.heap.size
  block : ∀ k, k < w.heap.size → ¬ F k → w'.heap[k]? = w.heap[k]?
/-- F, and all that is new. -/
def Fr (F : Nat → Prop) (w : World) (k : Nat) : Prop := F k ∨ w.heap.size ≤ k
theorem Keep.of {F : Nat → Prop} {w w' : World} (h : Below w.heap.size w w') : Keep F w w' := ⟨h.os, h.tape, h.output, h.size, fun k hk _ => h.block k hk⟩
theorem Keep.refl {F : Nat → Prop} (w : World) : Keep F w w := Keep.of (Below.refl _ _)
theorem Keep.mono {F G : Nat → Prop} {w w' : World} (h : Keep F w w') (hf : ∀ k, k < w.heap.size → F k → G k) : Keep G w w' := ⟨h.os, h.tape, h.output, h.size, fun k hk hn => h.block k hk fun e => hn (hf k hk e)⟩
theorem Keep.trans {F : Nat → Prop} {x y z : World} (h : Keep F x y) (k : Keep (Fr F x) y z) : Keep F x z :=
  ⟨k.os.trans h.os, k.tape.trans h.tape, k.output.trans h.output, Nat.le_trans h.size k.size, fun i hi hc => (k.block i (Nat.lt_of_lt_of_le hi h.size) (fun e => e.elim hc (fun e => by omega))).trans (h.block i hi hc)⟩
theorem Keep.then {F : Nat → Prop} {x y z : World} (h : Keep F x y) (k : Keep F y z) : Keep F x z := h.trans (k.mono fun _ _ h => .inl h)
theorem Keep.below {F : Nat → Prop} {b : Nat} {w w' : World} (h : Keep F w w') (hb : b ≤ w.heap.size) (hF : ∀ k, k < b → ¬ F k) : Below b w w' :=
  ⟨h.os, h.tape, h.output, h.size, fun k hk => h.block k (by omega) (hF k hk)⟩
theorem Keep.set {F : Nat → Prop} {w : World} {g o : Nat} {u : Value} (hF : F g) : Keep F w (w.setCell ⟨g, o, none⟩ u) :=
  ⟨rfl, rfl, rfl, by simp [World.setCell], fun k _ hn => Below.heap_setCell _ _ _ _ (fun e => hn (by rw [e]; exact hF))⟩
theorem setCells_other (g : Nat) : ∀ (vs : List Value) (o : Nat) (w : World) (k : Nat), k ≠ g → (w.setCells g o vs).heap[k]? = w.heap[k]?
  | [], _, _, _, _ => rfl
  | v :: r, o, w, k, h => by rw [World.setCells, setCells_other g r (o + 1) _ k h, Below.heap_setCell _ _ _ _ h]
theorem setCells_facts (g : Nat) : ∀ (vs : List Value) (o : Nat) (w : World), (w.setCells g o vs).os = w.os ∧ (w.setCells g o vs).tape = w.tape ∧ (w.setCells g o vs).output = w.output ∧ (w.setCells g o vs).heap.size = w.heap.size
  | [], _, _ => ⟨rfl, rfl, rfl, rfl⟩
  | v :: r, o, w => by
    obtain ⟨a, b, c, d⟩ := setCells_facts g r (o + 1) (w.setCell ⟨g, o, none⟩ v)
    rw [World.setCells]
    exact ⟨a, b, c, by rw [d]; simp [World.setCell]⟩
theorem Keep.sets {F : Nat → Prop} {w : World} {g o : Nat} {vs : List Value} (hF : F g) : Keep F w (w.setCells g o vs) := by
  obtain ⟨a, b, c, d⟩ := setCells_facts g vs o w
  exact ⟨a, b, c, by rw [d]; exact Nat.le_refl _, fun k _ hn => setCells_other g vs o w k (fun e => hn (by rw [e]; exact hF))⟩
theorem Keep.row {F : Nat → Prop} {w : World} {g : Nat} {cs : Array Value} (hF : F g) : Keep F w (w.setRow g cs) :=
  ⟨rfl, rfl, rfl, by simp, fun k _ hn => setRow_other _ _ _ _ (fun e => hn (by rw [e]; exact hF))⟩

/-- The cells behind a store of many. -/
def setAll : List Value → Nat → List Value → List Value
  | C, _, [] => C
  | C, o, v :: r => setAll (C.set o v) (o + 1) r
theorem setAll_length : ∀ (vs : List Value) (C : List Value) (o : Nat), (setAll C o vs).length = C.length
  | [], _, _ => rfl
  | v :: r, C, o => by rw [setAll, setAll_length r]; simp
theorem setAll_get : ∀ (vs : List Value) (C : List Value) (o i : Nat), o + vs.length ≤ C.length → (setAll C o vs)[i]? = if o ≤ i ∧ i < o + vs.length then vs[i - o]? else C[i]?
  | [], C, o, i, _ => by
    rw [setAll, if_neg (by simp only [List.length_nil]; omega)]
  | v :: r, C, o, i, h => by
    simp only [List.length_cons] at h
    rw [setAll, setAll_get r _ _ i (by simp; omega)]
    by_cases e : i = o
    · subst e
      rw [if_neg (by omega), if_pos (by simp), List.getElem?_set_self (by omega)]
      simp
    · by_cases e2 : o + 1 ≤ i ∧ i < o + 1 + r.length
      · rw [if_pos e2, if_pos (by simp; omega)]
        obtain ⟨m, rfl⟩ : ∃ m, i = o + 1 + m := ⟨i - (o + 1), by omega⟩
        rw [show o + 1 + m - (o + 1) = m by omega, show o + 1 + m - o = m + 1 by omega]
        simp
      · rw [if_neg e2, if_neg (by simp; omega), List.getElem?_set_ne (by omega)]
theorem setCells_block (g : Nat) (t : TypeId) (fr : Nat × Nat) : ∀ (vs : List Value) (o : Nat) (C : List Value) (w : World), w.heap[g]? = some (.cells C.toArray t fr) → (w.setCells g o vs).heap[g]? = some (.cells (setAll C o vs).toArray t fr)
  | [], _, _, _, h => h
  | v :: r, o, C, w, h => by
    rw [World.setCells, setAll]
    refine setCells_block g t fr r (o + 1) (C.set o v) _ ?_
    simp [World.setCell, Array.getElem?_modify, h]

/-! ### Pages -/
def pg (L : List (List UInt8)) : List Value := L.flatMap fun P => P.map bV
theorem pg_length : ∀ (L : List (List UInt8)), (∀ P ∈ L, P.length = 32) → (pg L).length = L.length * 32
  | [], _ => rfl
  | P :: L, h => by
    have := pg_length L (fun Q hQ => h Q (by simp [hQ]))
    unfold pg at this ⊢
    rw [List.flatMap_cons, List.length_append, this, List.length_map, h P (by simp), List.length_cons]
    omega
theorem pg_get : ∀ (L : List (List UInt8)) (k j : Nat), (∀ P ∈ L, P.length = 32) → j < 32 → (pg L)[k * 32 + j]? = ((L[k]?).bind fun P => (P.map bV)[j]?)
  | [], k, j, _, _ => by simp [pg]
  | P :: L, 0, j, h, hj => by
    have hP := h P (by simp)
    unfold pg
    rw [List.flatMap_cons, List.getElem?_append_left (by simp; omega)]
    simp
  | P :: L, k + 1, j, h, hj => by
    have hP := h P (by simp)
    have := pg_get L k j (fun Q hQ => h Q (by simp [hQ])) hj
    unfold pg at this ⊢
    rw [List.flatMap_cons, List.getElem?_append_right (by simp; omega), List.length_map, hP, show (k + 1) * 32 + j - 32 = k * 32 + j by omega, this]
    simp
theorem bV_all (B : List UInt8) : ∀ u ∈ B.map bV, u.oneCell' = true := by
  intro u hu
  obtain ⟨x, _, rfl⟩ := List.mem_map.1 hu
  rfl
theorem pg_all (L : List (List UInt8)) : ∀ u ∈ pg L, u.oneCell' = true := by
  intro u hu
  obtain ⟨P, _, hP⟩ := List.mem_flatMap.1 hu
  exact bV_all P u hP
/-- A page anew, in a row of pages with room behind it. -/
theorem pg_set {L : List (List UInt8)} {r : List Value} {k : Nat} {S : List UInt8} (h : ∀ P ∈ L, P.length = 32) (hk : k < L.length) (hS : S.length = 32) : setAll (pg L ++ r) (k * 32) (S.map bV) = pg (L.set k S) ++ r := by
  have hl := pg_length L h
  have hs := set_len (k := k) h hS
  have hl2 := pg_length (L.set k S) hs
  rw [List.length_set] at hl2
  apply List.ext_getElem?
  intro i
  rw [setAll_get _ _ _ _ (by rw [List.length_append, hl, List.length_map, hS]; omega), List.length_map, hS]
  by_cases hi : i < L.length * 32
  · rw [List.getElem?_append_left (by omega), List.getElem?_append_left (by omega)]
    obtain ⟨a, b, hb, rfl⟩ : ∃ a b, b < 32 ∧ i = a * 32 + b := ⟨i / 32, i % 32, Nat.mod_lt _ (by decide), by omega⟩
    rw [pg_get _ _ _ h hb, pg_get _ _ _ hs hb]
    by_cases e : k = a
    · subst e
      rw [if_pos (by omega), List.getElem?_set_self hk, show k * 32 + b - k * 32 = b by omega]
      rfl
    · rw [if_neg (by omega), List.getElem?_set_ne e]
  · rw [if_neg (by omega), List.getElem?_append_right (by omega), List.getElem?_append_right (by omega), hl, hl2]

/-- A row of pages at block g. -/
structure RW (w : World) (g : Nat) (v : Value) (L : List (List UInt8)) : Prop where
  len : ∀ P ∈ L, P.length = 32
  blk : ∃ cap r, v = .slice (some ⟨g, 0, none⟩) L.length cap ∧ L.length ≤ cap ∧ w.heap[g]? = some (.cells (pg L ++ r).toArray 67 (0, 0))
theorem RW.lt {w : World} {g : Nat} {v : Value} {L : List (List UInt8)} (h : RW w g v L) : g < w.heap.size := by
  obtain ⟨_, _, _, _, hg⟩ := h.blk; exact lt_of_block hg
theorem RW.keep {w w' : World} {g : Nat} {v : Value} {L : List (List UInt8)} (h : RW w g v L) (e : w'.heap[g]? = w.heap[g]?) : RW w' g v L := by
  obtain ⟨cap, r, hv, hc, hg⟩ := h.blk; exact ⟨h.len, cap, r, hv, hc, by rw [e]; exact hg⟩
theorem RW.form {w : World} {g : Nat} {v : Value} {L : List (List UInt8)} (h : RW w g v L) : ∃ cap, v = .slice (some ⟨g, 0, none⟩) L.length cap ∧ L.length ≤ cap := by
  obtain ⟨cap, r, hv, hc, hg⟩ := h.blk; exact ⟨cap, hv, hc⟩
theorem RW.range {w : World} {g : Nat} {v : Value} {L : List (List UInt8)} {k : Nat} {P : List UInt8} (h : RW w g v L) (hk : L[k]? = some P) : w.rangeAt g (k * 32) (P.map bV) ∧ w.there g (k * 32) 32 := by
  obtain ⟨cap, r, hv, hc, hg⟩ := h.blk
  have hkl := (List.getElem?_eq_some_iff.1 hk).1
  have hP : P.length = 32 := h.len P (List.mem_of_getElem? hk)
  have hl := pg_length L h.len
  have key : ∀ j, j < 32 → w.cell? ⟨g, k * 32 + j, none⟩ = (P.map bV)[j]? := fun j hj => by
    unfold World.cell?
    rw [hg]
    simp only [List.getElem?_toArray]
    rw [List.getElem?_append_left (by omega), pg_get _ _ _ h.len hj, hk]
    rfl
  refine ⟨fun j v hj => ?_, fun j hj => ⟨?_, ?_⟩⟩
  · have hj' : j < 32 := by have := (List.getElem?_eq_some_iff.1 hj).1; simpa [hP] using this
    rw [key j hj', hj]
  · rw [key j hj, List.getElem?_eq_getElem (by simp [hP]; exact hj)]; rfl
  · unfold World.frozen?; simp [hg]
theorem RW.store {w w' : World} {g : Nat} {v : Value} {L : List (List UInt8)} {k : Nat} {S : List UInt8} (h : RW w g v L) (hk : k < L.length) (hS : S.length = 32) (e : w'.heap[g]? = (w.setCells g (k * 32) (S.map bV)).heap[g]?) : RW w' g v (L.set k S) := by
  obtain ⟨cap, r, hv, hc, hg⟩ := h.blk
  refine ⟨set_len h.len hS, cap, r, by rw [List.length_set]; exact hv, by rw [List.length_set]; exact hc, ?_⟩
  rw [e, setCells_block g 67 (0, 0) _ _ _ _ hg, pg_set h.len hk hS]

/-- The cells of a Plate. -/
def boxC (on : Bool) (vl vf : Value) (W : Nat) (left : Int) (K : Nat) : List Value :=
  [.bool true, .bool on, vl, vf, .int .u64 (W : Int), .int .u64 0, .int .u64 0, .int .u64 0, .int .i64 left, .int .u64 (K : Int), .int .u64 0, .int .u64 0, .int .u64 0]
/-- A *Plate at block p, its rows at blocks gl and gf. -/
structure PO (w : World) (p gl gf : Nat) (M : MS) : Prop where
  mem : ∃ vl vf, w.heap[p]? = some (.cells (boxC M.on vl vf M.W M.left M.K).toArray 59 (0, 0)) ∧ RW w gl vl M.L ∧ RW w gf vf M.X
  ne : gl ≠ gf
  ok : Ok M
/-- The blocks of a plate. -/
def Fp (p gl gf : Nat) (k : Nat) : Prop := k = p ∨ k = gl ∨ k = gf
theorem PO.apart {w : World} {p gl gf : Nat} {M : MS} (h : PO w p gl gf M) : p ≠ gl ∧ p ≠ gf := by
  obtain ⟨vl, vf, h1, h2, h3⟩ := h.mem
  obtain ⟨_, _, _, _, g2⟩ := h2.blk
  obtain ⟨_, _, _, _, g3⟩ := h3.blk
  exact ⟨fun e => by rw [e, g2] at h1; simp at h1, fun e => by rw [e, g3] at h1; simp at h1⟩
theorem PO.lt {w : World} {p gl gf : Nat} {M : MS} (h : PO w p gl gf M) : p < w.heap.size ∧ gl < w.heap.size ∧ gf < w.heap.size := by
  obtain ⟨vl, vf, h1, h2, h3⟩ := h.mem
  exact ⟨lt_of_block h1, h2.lt, h3.lt⟩
theorem PO.stay {w w' : World} {p gl gf : Nat} {M : MS} (h : PO w p gl gf M) (e : ∀ k, Fp p gl gf k → w'.heap[k]? = w.heap[k]?) : PO w' p gl gf M := by
  obtain ⟨vl, vf, h1, h2, h3⟩ := h.mem
  exact ⟨⟨vl, vf, by rw [e p (.inl rfl)]; exact h1, h2.keep (e gl (.inr (.inl rfl))), h3.keep (e gf (.inr (.inr rfl)))⟩, h.ne, h.ok⟩
theorem PO.inside {w : World} {p gl gf : Nat} {M : MS} (h : PO w p gl gf M) {k : Nat} (hk : Fp p gl gf k) : k < w.heap.size := by
  obtain ⟨a, b, c⟩ := h.lt
  rcases hk with rfl | rfl | rfl <;> assumption
theorem PO.below {w w' : World} {p gl gf : Nat} {M : MS} (h : PO w p gl gf M) (hb : Below w.heap.size w w') : PO w' p gl gf M :=
  h.stay fun k hk => hb.block k (h.inside hk)
/-- What is changed elsewhere leaves it. -/
theorem PO.keep {w w' : World} {p gl gf : Nat} {M : MS} {F : Nat → Prop} (h : PO w p gl gf M) (hb : Keep F w w') (hF : ∀ k, Fp p gl gf k → ¬ F k) : PO w' p gl gf M :=
  h.stay fun k hk => hb.block k (h.inside hk) (hF k hk)

/-- The cells, as a walk reads them. -/
structure Cells (w : World) (p : Nat) (on : Bool) (vl vf : Value) (W : Nat) (left : Int) (K : Nat) : Prop where
  c0 : w.cell? ⟨p, 0, none⟩ = some (.bool true)
  c1 : w.cell? ⟨p, 1, none⟩ = some (.bool on)
  c2 : w.cell? ⟨p, 2, none⟩ = some vl
  c3 : w.cell? ⟨p, 3, none⟩ = some vf
  c4 : w.cell? ⟨p, 4, none⟩ = some (.int .u64 (W : Int))
  c8 : w.cell? ⟨p, 8, none⟩ = some (.int .i64 left)
  c9 : w.cell? ⟨p, 9, none⟩ = some (.int .u64 (K : Int))
  fz : ∀ o, w.frozen? ⟨p, o, none⟩ = false
theorem cells_of {w : World} {p : Nat} {on : Bool} {vl vf : Value} {W : Nat} {left : Int} {K : Nat} (h : w.heap[p]? = some (.cells (boxC on vl vf W left K).toArray 59 (0, 0))) : Cells w p on vl vf W left K := by
  refine ⟨?_, ?_, ?_, ?_, ?_, ?_, ?_, fun o => ?_⟩
  · simp [World.cell?, h, boxC]
  · simp [World.cell?, h, boxC]
  · simp [World.cell?, h, boxC]
  · simp [World.cell?, h, boxC]
  · simp [World.cell?, h, boxC]
  · simp [World.cell?, h, boxC]
  · simp [World.cell?, h, boxC]
  · simp [World.frozen?, h]
/-- The four cells of a word's set. -/
def wv (W : Nat) : List Value := [.int .u64 (W : Int), .int .u64 0, .int .u64 0, .int .u64 0]
theorem wv_all (W : Nat) : ∀ u ∈ wv W, u.oneCell' = true := by
  intro u hu
  simp [wv] at hu
  rcases hu with rfl | rfl <;> rfl
theorem box_range {w : World} {p : Nat} {on : Bool} {vl vf : Value} {W : Nat} {left : Int} {K : Nat} (h : w.heap[p]? = some (.cells (boxC on vl vf W left K).toArray 59 (0, 0))) : w.rangeAt p 4 (wv W) ∧ w.rangeAt p 9 (wv K) ∧ w.there p 4 4 ∧ w.there p 9 4 := by
  have e1 := World.rangeAt_of_block h 4 4
  have e2 := World.rangeAt_of_block h 9 4
  refine ⟨by simpa [boxC, wv] using e1, by simpa [boxC, wv] using e2, fun j hj => ⟨?_, by simp [World.frozen?, h]⟩, fun j hj => ⟨?_, by simp [World.frozen?, h]⟩⟩
  · simp [World.cell?, h, boxC]; omega
  · simp [World.cell?, h, boxC]; omega
theorem box_on {w : World} {p : Nat} {on : Bool} {vl vf : Value} {W : Nat} {left : Int} {K : Nat} (h : w.heap[p]? = some (.cells (boxC on vl vf W left K).toArray 59 (0, 0))) (b : Bool) : (w.setCell ⟨p, 1, none⟩ (.bool b)).heap[p]? = some (.cells (boxC b vl vf W left K).toArray 59 (0, 0)) := by
  simp [World.setCell, Array.getElem?_modify, h, boxC]
theorem box_W {w : World} {p : Nat} {on : Bool} {vl vf : Value} {W : Nat} {left : Int} {K : Nat} (h : w.heap[p]? = some (.cells (boxC on vl vf W left K).toArray 59 (0, 0))) (V : Nat) : (w.setCell ⟨p, 4, none⟩ (.int .u64 (V : Int))).heap[p]? = some (.cells (boxC on vl vf V left K).toArray 59 (0, 0)) := by
  simp [World.setCell, Array.getElem?_modify, h, boxC]
theorem box_left {w : World} {p : Nat} {on : Bool} {vl vf : Value} {W : Nat} {left : Int} {K : Nat} (h : w.heap[p]? = some (.cells (boxC on vl vf W left K).toArray 59 (0, 0))) (n : Int) : (w.setCell ⟨p, 8, none⟩ (.int .i64 n)).heap[p]? = some (.cells (boxC on vl vf W n K).toArray 59 (0, 0)) := by
  simp [World.setCell, Array.getElem?_modify, h, boxC]
theorem box_W4 {w : World} {p : Nat} {on : Bool} {vl vf : Value} {W : Nat} {left : Int} {K : Nat} (h : w.heap[p]? = some (.cells (boxC on vl vf W left K).toArray 59 (0, 0))) (V : Nat) : (w.setCells p 4 (wv V)).heap[p]? = some (.cells (boxC on vl vf V left K).toArray 59 (0, 0)) := by
  rw [setCells_block p 59 (0, 0) (wv V) 4 _ w h]
  rfl
theorem box_K4 {w : World} {p : Nat} {on : Bool} {vl vf : Value} {W : Nat} {left : Int} {K : Nat} (h : w.heap[p]? = some (.cells (boxC on vl vf W left K).toArray 59 (0, 0))) (V : Nat) : (w.setCells p 9 (wv V)).heap[p]? = some (.cells (boxC on vl vf W left V).toArray 59 (0, 0)) := by
  rw [setCells_block p 59 (0, 0) (wv V) 9 _ w h]
  rfl
end Go.Proofs.Ytjjfdkgnagfbcaa
