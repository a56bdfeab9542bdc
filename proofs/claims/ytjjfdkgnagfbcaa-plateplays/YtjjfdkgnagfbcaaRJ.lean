/-
  The contract of the law's Do: the same is done to a disk and to the document's; they answer alike.
-/
import Derived.Test.YtjjfdkgnagfbcaaRI
namespace Go.Proofs.Ytjjfdkgnagfbcaa
open Go.ChangeShapes Go.WideShapes Go.ChangeAt Go.RowKit
attribute [local go_sem ↓] Go.wp_at_zero Go.wp_at_succ
attribute [local go_sem] str_size str_extract str_append str_toList

/-- The cells of what is done. -/
def oC (k n : Int) (s : List UInt8) (kv : Value) : List Value := [.int .i64 k, .int .i64 n, .string (str s), kv]
structure OB (w : World) (q : Nat) (k n : Int) (s : List UInt8) (kv : Value) : Prop where
  box : w.heap[q]? = some (.cells (oC k n s kv).toArray 32 (0, 0))
theorem OB.cells {w : World} {q : Nat} {k n : Int} {s : List UInt8} {kv : Value} (h : OB w q k n s kv) : w.cell? ⟨q, 0, none⟩ = some (.int .i64 k) ∧ w.cell? ⟨q, 1, none⟩ = some (.int .i64 n) ∧ w.cell? ⟨q, 2, none⟩ = some (.string (str s)) ∧ w.cell? ⟨q, 3, none⟩ = some kv := by
  have := h.box
  refine ⟨?_, ?_, ?_, ?_⟩ <;> simp [World.cell?, this, oC]
theorem OB.kept {G : Nat → Prop} {w w' : World} {q : Nat} {k n : Int} {s : List UInt8} {kv : Value} (h : OB w q k n s kv) (hG : G q) (hk : Keep (fun k => ¬ G k) w w') : OB w' q k n s kv :=
  ⟨by rw [hk.block q (lt_of_block h.box) (fun hn => hn hG)]; exact h.box⟩
theorem OB.below {w w' : World} {q : Nat} {k n : Int} {s : List UInt8} {kv : Value} (h : OB w q k n s kv) (hb : Below w.heap.size w w') : OB w' q k n s kv :=
  ⟨by rw [hb.block q (lt_of_block h.box)]; exact h.box⟩
theorem off_length {M : MS} (h : Ok M) (l : List Bool) : (mOff M l).1.length ≤ 1000000 := by
  have h1 := lost_len M (kw l)
  have h2 := h.n60
  unfold mOff
  split
  · show (lostL M (kw l)).length ≤ _; omega
  · simp
theorem t_off2 {G : Nat → Prop} {w : World} {p gl gf r : Nat} {M N : MS} {v : Value} {l : List Bool} (h : Two G w p gl gf r M N) (hv : BoolsAt w v l) (hl : l.length ≤ 60) :
    Calls Try.prog 16 #[.pointer (some ⟨p, 0, none⟩), v] w fun e w' => ∃ u, e = .returned u ∧ ∃ (G2 : Nat → Prop) (b : Nat), (∀ k, G k → G2 k) ∧ (∀ k, b ≤ k → k < w'.heap.size → G2 k) ∧ Two G2 w' p gl gf r (mOff M l).2 N ∧ w'.ownsRow b 3 1 u (mOff M l).1.length (intsV (mOff M l).1) ∧ Keep (fun k => ¬ G k) w w' :=
  (t_off h hv hl).mono fun _ w' ⟨u, h1, h2, h3, h4⟩ => ⟨u, h1, Gn G w w', w.heap.size, fun _ h => .inl h, fun _ h h' => .inr ⟨h, h'⟩, h2, h3, h4⟩
theorem own_cap {w : World} {base : Nat} {e : TypeId} {sz n g cap : Nat} {xs : List Value} (h : w.ownsRow base e sz (.slice (some ⟨g, 0, none⟩) n cap) n xs) : n ≤ cap := by
  rcases h.2 with ⟨h1, _⟩ | ⟨g', cap', cur, hv, _, _, hc, _⟩
  · cases h1
  · cases hv; exact hc
theorem one_news {w : World} {B : Nat} {v : Value} (h : w.cell? ⟨B, 0, none⟩ = some v) : ∀ j u, [v][j]? = some u → w.cell? ((⟨B, 0, none⟩ : Addr).add j) = some u := fun j u hu => by
  match j, hu with
  | 0, hu => cases hu; exact h
/-- A row of bools in a block of its own, whatever they are. -/
def FB (w : World) (g n : Nat) : Prop := (∃ cur, w.heap[g]? = some (.cells cur 4 (0, 0))) ∧ ∀ i, i < n → ∃ b, w.cell? ⟨g, i, none⟩ = some (.bool b)
theorem FB.fro {w : World} {g n : Nat} (h : FB w g n) (i : Nat) : w.frozen? ⟨g, i, none⟩ = false := by
  obtain ⟨⟨cur, hc⟩, _⟩ := h
  simp [World.frozen?, hc]
theorem FB.kept {G : Nat → Prop} {w w' : World} {g n : Nat} (h : FB w g n) (hg : G g) (hk : Keep (fun k => ¬ G k) w w') : FB w' g n := by
  obtain ⟨⟨cur, hc⟩, h2⟩ := h
  have e := hk.block g (lt_of_block hc) (fun hn => hn hg)
  exact ⟨⟨cur, by rw [e]; exact hc⟩, fun i hi => by rw [World.cell?_of_block (w := w) (a := ⟨g, i, none⟩) e]; exact h2 i hi⟩
theorem FB.set {w : World} {g n : Nat} (h : FB w g n) (i : Nat) (b : Bool) : FB (w.setCell ⟨g, i, none⟩ (.bool b)) g n := by
  obtain ⟨⟨cur, hc⟩, h2⟩ := h
  refine ⟨⟨cur.setIfInBounds i (.bool b), by simp [World.setCell, Array.getElem?_modify, hc]⟩, fun j hj => ?_⟩
  by_cases e : i = j
  · subst e
    obtain ⟨b', hb'⟩ := h2 i hj
    refine ⟨b, ?_⟩
    have hb2 : cur[i]? = some (.bool b') := by simpa [World.cell?, hc] using hb'
    have hil : i < cur.size := (Array.getElem?_eq_some_iff.1 hb2).1
    simp [World.cell?, World.setCell, Array.getElem?_modify, hc, hil]
  · obtain ⟨b', hb'⟩ := h2 j hj
    refine ⟨b', ?_⟩
    simp [World.cell?, World.setCell, Array.getElem?_modify, hc, e] at hb' ⊢
    exact hb'
theorem own_FB {w : World} {g cap : Nat} {l : List Bool} (h : w.ownsRow 0 4 1 (.slice (some ⟨g, 0, none⟩) (l.length + 1) cap) (l.length + 1) (l.map Value.bool ++ [.bool true])) : FB w g l.length := by
  refine ⟨own_blk h rfl, fun i hi => ⟨l.getD i false, ?_⟩⟩
  rw [World.ownsRow.cellAt h i (by omega), List.getElem?_append_left (by simpa using hi)]
  simp [List.getD, hi]
theorem own_bools {w : World} {g cap : Nat} {l : List Bool} (h : w.ownsRow 0 4 1 (.slice (some ⟨g, 0, none⟩) (l.length + 1) cap) (l.length + 1) (l.map Value.bool ++ [.bool true])) (hg : g < w.heap.size) : BoolsAt w (.slice (some ⟨g, 0, none⟩) l.length cap) l := by
  refine .inr ⟨g, 0, cap, rfl, hg, Nat.le_trans (Nat.le_succ _) (own_cap h), fun i b hi => ?_⟩
  have hil := (List.getElem?_eq_some_iff.1 hi).1
  rw [Nat.zero_add, World.ownsRow.cellAt h i (by omega), List.getElem?_append_left (by simpa using hil)]
  simp [hi]
/-- What Do does to a disk. -/
def mDo (M : MS) (k n : Int) (s : List UInt8) (l : List Bool) : MS :=
  if k = 1 then (mLay M n (pgS s)).2 else if k = 2 then (mFix M).2 else if k = 3 then (mOff M l).2 else if k = 4 then mPower M else if k = 5 then mSnag M n l else if k = 6 then mRot M n (pgS s) else if k = 7 then (mLay M n s).2 else M
set_option maxHeartbeats 4000000 in
set_option maxRecDepth 100000 in
theorem do_fix {G : Nat → Prop} {w : World} {p gl gf r : Nat} {M : MS} {kv : Value} {l : List Bool} (h : Two G w p gl gf r M M) (n : Int) (hn0 : -9223372036854775808 ≤ n) (hn : n ≤ 9223372036854775807) (s : List UInt8) (hv : BoolsAt w kv l) (hg : BG G kv l) (hl : l.length ≤ 60) :
    Calls Try.prog 17 #[.pointer (some ⟨p, 0, none⟩), .pointer (some ⟨r, 0, none⟩), .agg #[.int .i64 2, .int .i64 n, .string (str s), kv]] w fun e w' => e = .returned (.bool true) ∧ Two G w' p gl gf r ((mFix M).2) ((mFix M).2) ∧ Keep (fun k => ¬ G k) w w' := by
  have hok := Hid.intro h.1.ok
  have _hu := And.intro hn0 (And.intro hn hl)
  clear _hu
  have hw1 : Below w.heap.size w (w.alloc (.cells (oC 2 n s kv).toArray 32)) := (Below.refl _ _).alloc (Nat.le_refl _) _
  have hT := Hid.intro (h.more hw1)
  have hQ := Hid.intro (show OB (w.alloc (.cells (oC 2 n s kv).toArray 32)) w.heap.size 2 n s kv from ⟨heap_alloc_new w _⟩)
  have hGq := Hid.intro (show Gn G w (w.alloc (.cells (oC 2 n s kv).toArray 32)) w.heap.size from .inr ⟨Nat.le_refl _, by simp⟩)
  have hK := Hid.intro (Keep.of (F := fun k => ¬ G k) hw1)
  have hV := Hid.intro (hv.below hw1)
  have hVG := Hid.intro (show BG (Gn G w (w.alloc (.cells (oC 2 n s kv).toArray 32))) kv l from fun h0 g hg' => .inl (hg h0 g hg'))
  have hGs := Hid.intro h.2.2.1
  have hGG := Hid.intro (show ∀ k, G k → Gn G w (w.alloc (.cells (oC 2 n s kv).toArray 32)) k from fun _ h => .inl h)
  obtain ⟨c0, c1, c2, c3⟩ := hQ.out.cells
  have hqs := lt_of_block hQ.out.box
  clear hw1 hg hv h
  generalize Gn G w (w.alloc (.cells (oC 2 n s kv).toArray 32)) = G1 at *
  have hKG := Hid.intro (fun (x y : World) (hk : Keep (fun k => ¬ G1 k) x y) => (hk.mono (G := fun k => ¬ G k) fun k _ hn hg => hn (hGG.out k hg)))
  go_enter Try.func17, Try.ntmps17
  go_wp2_with fail
  refine (t_fix hT.out).mono ?_; rintro e w2 ⟨rfl, a2, k2⟩
  have A2 := Hid.intro a2
  have K2 := Hid.intro (hK.out.then (hKG.out _ _ k2))
  clear a2 k2
  go_wp2_with fail
  refine (t_rfix A2.out hok.out).mono ?_; rintro e w3 ⟨rfl, a3, k3⟩
  have A3 := Hid.intro (a3.less hGG.out)
  have K3 := Hid.intro (K2.out.then (hKG.out _ _ k3))
  clear a3 k3
  go_wp2
  go_ret
  refine ⟨?_, A3.out, K3.out⟩
  simp
set_option maxHeartbeats 4000000 in
set_option maxRecDepth 100000 in
theorem do_power {G : Nat → Prop} {w : World} {p gl gf r : Nat} {M : MS} {kv : Value} {l : List Bool} (h : Two G w p gl gf r M M) (n : Int) (hn0 : -9223372036854775808 ≤ n) (hn : n ≤ 9223372036854775807) (s : List UInt8) (hv : BoolsAt w kv l) (hg : BG G kv l) (hl : l.length ≤ 60) :
    Calls Try.prog 17 #[.pointer (some ⟨p, 0, none⟩), .pointer (some ⟨r, 0, none⟩), .agg #[.int .i64 4, .int .i64 n, .string (str s), kv]] w fun e w' => e = .returned (.bool true) ∧ Two G w' p gl gf r (mPower M) (mPower M) ∧ Keep (fun k => ¬ G k) w w' := by
  have hok := Hid.intro h.1.ok
  have _hu := And.intro hn0 (And.intro hn hl)
  clear _hu
  have hw1 : Below w.heap.size w (w.alloc (.cells (oC 4 n s kv).toArray 32)) := (Below.refl _ _).alloc (Nat.le_refl _) _
  have hT := Hid.intro (h.more hw1)
  have hQ := Hid.intro (show OB (w.alloc (.cells (oC 4 n s kv).toArray 32)) w.heap.size 4 n s kv from ⟨heap_alloc_new w _⟩)
  have hGq := Hid.intro (show Gn G w (w.alloc (.cells (oC 4 n s kv).toArray 32)) w.heap.size from .inr ⟨Nat.le_refl _, by simp⟩)
  have hK := Hid.intro (Keep.of (F := fun k => ¬ G k) hw1)
  have hV := Hid.intro (hv.below hw1)
  have hVG := Hid.intro (show BG (Gn G w (w.alloc (.cells (oC 4 n s kv).toArray 32))) kv l from fun h0 g hg' => .inl (hg h0 g hg'))
  have hGs := Hid.intro h.2.2.1
  have hGG := Hid.intro (show ∀ k, G k → Gn G w (w.alloc (.cells (oC 4 n s kv).toArray 32)) k from fun _ h => .inl h)
  obtain ⟨c0, c1, c2, c3⟩ := hQ.out.cells
  have hqs := lt_of_block hQ.out.box
  clear hw1 hg hv h
  generalize Gn G w (w.alloc (.cells (oC 4 n s kv).toArray 32)) = G1 at *
  have hKG := Hid.intro (fun (x y : World) (hk : Keep (fun k => ¬ G1 k) x y) => (hk.mono (G := fun k => ¬ G k) fun k _ hn hg => hn (hGG.out k hg)))
  go_enter Try.func17, Try.ntmps17
  go_wp2_with fail
  refine (t_power hT.out).mono ?_; rintro e w2 ⟨rfl, a2, k2⟩
  have A2 := Hid.intro a2
  have K2 := Hid.intro (hK.out.then (hKG.out _ _ k2))
  clear a2 k2
  go_wp2_with fail
  refine (t_rpower A2.out).mono ?_; rintro e w3 ⟨rfl, a3, k3⟩
  have A3 := Hid.intro (a3.less hGG.out)
  have K3 := Hid.intro (K2.out.then (hKG.out _ _ k3))
  clear a3 k3
  go_wp2
  go_ret
  refine ⟨?_, A3.out, K3.out⟩
  simp
set_option maxHeartbeats 4000000 in
set_option maxRecDepth 100000 in
theorem do_lay {G : Nat → Prop} {w : World} {p gl gf r : Nat} {M : MS} {kv : Value} {l : List Bool} (h : Two G w p gl gf r M M) (n : Int) (hn0 : -9223372036854775808 ≤ n) (hn : n ≤ 9223372036854775807) (s : List UInt8) (hv : BoolsAt w kv l) (hg : BG G kv l) (hl : l.length ≤ 60) :
    Calls Try.prog 17 #[.pointer (some ⟨p, 0, none⟩), .pointer (some ⟨r, 0, none⟩), .agg #[.int .i64 1, .int .i64 n, .string (str s), kv]] w fun e w' => e = .returned (.bool true) ∧ Two G w' p gl gf r ((mLay M n (pgS s)).2) ((mLay M n (pgS s)).2) ∧ Keep (fun k => ¬ G k) w w' := by
  have hok := Hid.intro h.1.ok
  have _hu := And.intro hn0 (And.intro hn hl)
  clear _hu
  have hw1 : Below w.heap.size w (w.alloc (.cells (oC 1 n s kv).toArray 32)) := (Below.refl _ _).alloc (Nat.le_refl _) _
  have hT := Hid.intro (h.more hw1)
  have hQ := Hid.intro (show OB (w.alloc (.cells (oC 1 n s kv).toArray 32)) w.heap.size 1 n s kv from ⟨heap_alloc_new w _⟩)
  have hGq := Hid.intro (show Gn G w (w.alloc (.cells (oC 1 n s kv).toArray 32)) w.heap.size from .inr ⟨Nat.le_refl _, by simp⟩)
  have hK := Hid.intro (Keep.of (F := fun k => ¬ G k) hw1)
  have hV := Hid.intro (hv.below hw1)
  have hVG := Hid.intro (show BG (Gn G w (w.alloc (.cells (oC 1 n s kv).toArray 32))) kv l from fun h0 g hg' => .inl (hg h0 g hg'))
  have hGs := Hid.intro h.2.2.1
  have hGG := Hid.intro (show ∀ k, G k → Gn G w (w.alloc (.cells (oC 1 n s kv).toArray 32)) k from fun _ h => .inl h)
  obtain ⟨c0, c1, c2, c3⟩ := hQ.out.cells
  have hqs := lt_of_block hQ.out.box
  clear hw1 hg hv h
  generalize Gn G w (w.alloc (.cells (oC 1 n s kv).toArray 32)) = G1 at *
  have hKG := Hid.intro (fun (x y : World) (hk : Keep (fun k => ¬ G1 k) x y) => (hk.mono (G := fun k => ¬ G k) fun k _ hn hg => hn (hGG.out k hg)))
  go_enter Try.func17, Try.ntmps17
  go_wp2_with fail
  go_region_held3 (fun w' => w'.cell? ⟨w.heap.size, 1, none⟩ = some (.int .i64 n) ∧ w'.cell? ⟨w.heap.size, 2, none⟩ = some (.string (str s)))
    (first
      | exact ⟨c1, c2⟩
      | exact ⟨Q5.out.cells.2.1, Q5.out.cells.2.2.1⟩
      | exact ⟨Q4.out.cells.2.1, Q4.out.cells.2.2.1⟩
      | exact ⟨Q3.out.cells.2.1, Q3.out.cells.2.2.1⟩
      | exact ⟨Q2.out.cells.2.1, Q2.out.cells.2.2.1⟩)
    (first
      | (go_at_call 36; refine (t_rlay A4.out hok.out n (pgS s)).mono ?_; rintro e w5 ⟨rfl, a5, k5⟩; have A5 := Hid.intro (a5.less hGG.out); have K5 := Hid.intro (K4.out.then (hKG.out _ _ k5)); have Q5 := Hid.intro (Q4.out.kept hGq.out k5); clear a5 k5)
      | (go_at_call 14; refine (page_any s _).mono ?_; rintro e w4 ⟨rfl, b4⟩; have A4 := Hid.intro (A3.out.below b4); have K4 := Hid.intro (K3.out.then (Keep.of b4)); have Q4 := Hid.intro (Q3.out.below b4); clear b4)
      | (go_at_call 13; refine (t_lay A2.out n (pgS s)).mono ?_; rintro e w3 ⟨rfl, a3, k3⟩; have A3 := Hid.intro a3; have K3 := Hid.intro (K2.out.then (hKG.out _ _ k3)); have Q3 := Hid.intro (Q2.out.kept hGq.out k3); clear a3 k3)
      | (go_at_call 14; refine (page_any s _).mono ?_; rintro e w2 ⟨rfl, b2⟩; have A2 := Hid.intro ((hT.out.below below_drw).below b2); have K2 := Hid.intro (hK.out.drew.then (Keep.of b2)); have Q2 := Hid.intro ((hQ.out.below below_drw).below b2); clear b2))
  all_goals
    go_wp2
    go_ret
    refine ⟨?_, A5.out, K5.out⟩
    simp
set_option maxHeartbeats 4000000 in
set_option maxRecDepth 100000 in
theorem do_rot {G : Nat → Prop} {w : World} {p gl gf r : Nat} {M : MS} {kv : Value} {l : List Bool} (h : Two G w p gl gf r M M) (n : Int) (hn0 : -9223372036854775808 ≤ n) (hn : n ≤ 9223372036854775807) (s : List UInt8) (hv : BoolsAt w kv l) (hg : BG G kv l) (hl : l.length ≤ 60) :
    Calls Try.prog 17 #[.pointer (some ⟨p, 0, none⟩), .pointer (some ⟨r, 0, none⟩), .agg #[.int .i64 6, .int .i64 n, .string (str s), kv]] w fun e w' => e = .returned (.bool true) ∧ Two G w' p gl gf r (mRot M n (pgS s)) (mRot M n (pgS s)) ∧ Keep (fun k => ¬ G k) w w' := by
  have hok := Hid.intro h.1.ok
  have _hu := And.intro hn0 (And.intro hn hl)
  clear _hu
  have hw1 : Below w.heap.size w (w.alloc (.cells (oC 6 n s kv).toArray 32)) := (Below.refl _ _).alloc (Nat.le_refl _) _
  have hT := Hid.intro (h.more hw1)
  have hQ := Hid.intro (show OB (w.alloc (.cells (oC 6 n s kv).toArray 32)) w.heap.size 6 n s kv from ⟨heap_alloc_new w _⟩)
  have hGq := Hid.intro (show Gn G w (w.alloc (.cells (oC 6 n s kv).toArray 32)) w.heap.size from .inr ⟨Nat.le_refl _, by simp⟩)
  have hK := Hid.intro (Keep.of (F := fun k => ¬ G k) hw1)
  have hV := Hid.intro (hv.below hw1)
  have hVG := Hid.intro (show BG (Gn G w (w.alloc (.cells (oC 6 n s kv).toArray 32))) kv l from fun h0 g hg' => .inl (hg h0 g hg'))
  have hGs := Hid.intro h.2.2.1
  have hGG := Hid.intro (show ∀ k, G k → Gn G w (w.alloc (.cells (oC 6 n s kv).toArray 32)) k from fun _ h => .inl h)
  obtain ⟨c0, c1, c2, c3⟩ := hQ.out.cells
  have hqs := lt_of_block hQ.out.box
  clear hw1 hg hv h
  generalize Gn G w (w.alloc (.cells (oC 6 n s kv).toArray 32)) = G1 at *
  have hKG := Hid.intro (fun (x y : World) (hk : Keep (fun k => ¬ G1 k) x y) => (hk.mono (G := fun k => ¬ G k) fun k _ hn hg => hn (hGG.out k hg)))
  go_enter Try.func17, Try.ntmps17
  go_wp2_with fail
  go_region_held3 (fun w' => w'.cell? ⟨w.heap.size, 1, none⟩ = some (.int .i64 n) ∧ w'.cell? ⟨w.heap.size, 2, none⟩ = some (.string (str s)))
    (first
      | exact ⟨c1, c2⟩
      | exact ⟨Q5.out.cells.2.1, Q5.out.cells.2.2.1⟩
      | exact ⟨Q4.out.cells.2.1, Q4.out.cells.2.2.1⟩
      | exact ⟨Q3.out.cells.2.1, Q3.out.cells.2.2.1⟩
      | exact ⟨Q2.out.cells.2.1, Q2.out.cells.2.2.1⟩)
    (first
      | (go_at_call 41; refine (t_rrot A4.out hok.out n (pgS s)).mono ?_; rintro e w5 ⟨rfl, a5, k5⟩; have A5 := Hid.intro (a5.less hGG.out); have K5 := Hid.intro (K4.out.then (hKG.out _ _ k5)); have Q5 := Hid.intro (Q4.out.kept hGq.out k5); clear a5 k5)
      | (go_at_call 14; refine (page_any s _).mono ?_; rintro e w4 ⟨rfl, b4⟩; have A4 := Hid.intro (A3.out.below b4); have K4 := Hid.intro (K3.out.then (Keep.of b4)); have Q4 := Hid.intro (Q3.out.below b4); clear b4)
      | (go_at_call 23; refine (t_rot A2.out n (pgS s)).mono ?_; rintro e w3 ⟨rfl, a3, k3⟩; have A3 := Hid.intro a3; have K3 := Hid.intro (K2.out.then (hKG.out _ _ k3)); have Q3 := Hid.intro (Q2.out.kept hGq.out k3); clear a3 k3)
      | (go_at_call 14; refine (page_any s _).mono ?_; rintro e w2 ⟨rfl, b2⟩; have A2 := Hid.intro ((hT.out.below below_drw).below b2); have K2 := Hid.intro (hK.out.drew.then (Keep.of b2)); have Q2 := Hid.intro ((hQ.out.below below_drw).below b2); clear b2))
  all_goals
    go_wp2
    go_ret
    refine ⟨?_, A5.out, K5.out⟩
    simp
set_option maxHeartbeats 4000000 in
set_option maxRecDepth 100000 in
theorem do_raw {G : Nat → Prop} {w : World} {p gl gf r : Nat} {M : MS} {kv : Value} {l : List Bool} (h : Two G w p gl gf r M M) (n : Int) (hn0 : -9223372036854775808 ≤ n) (hn : n ≤ 9223372036854775807) (s : List UInt8) (hv : BoolsAt w kv l) (hg : BG G kv l) (hl : l.length ≤ 60) :
    Calls Try.prog 17 #[.pointer (some ⟨p, 0, none⟩), .pointer (some ⟨r, 0, none⟩), .agg #[.int .i64 7, .int .i64 n, .string (str s), kv]] w fun e w' => e = .returned (.bool true) ∧ Two G w' p gl gf r ((mLay M n s).2) ((mLay M n s).2) ∧ Keep (fun k => ¬ G k) w w' := by
  have hok := Hid.intro h.1.ok
  have _hu := And.intro hn0 (And.intro hn hl)
  clear _hu
  have hw1 : Below w.heap.size w (w.alloc (.cells (oC 7 n s kv).toArray 32)) := (Below.refl _ _).alloc (Nat.le_refl _) _
  have hT := Hid.intro (h.more hw1)
  have hQ := Hid.intro (show OB (w.alloc (.cells (oC 7 n s kv).toArray 32)) w.heap.size 7 n s kv from ⟨heap_alloc_new w _⟩)
  have hGq := Hid.intro (show Gn G w (w.alloc (.cells (oC 7 n s kv).toArray 32)) w.heap.size from .inr ⟨Nat.le_refl _, by simp⟩)
  have hK := Hid.intro (Keep.of (F := fun k => ¬ G k) hw1)
  have hV := Hid.intro (hv.below hw1)
  have hVG := Hid.intro (show BG (Gn G w (w.alloc (.cells (oC 7 n s kv).toArray 32))) kv l from fun h0 g hg' => .inl (hg h0 g hg'))
  have hGs := Hid.intro h.2.2.1
  have hGG := Hid.intro (show ∀ k, G k → Gn G w (w.alloc (.cells (oC 7 n s kv).toArray 32)) k from fun _ h => .inl h)
  obtain ⟨c0, c1, c2, c3⟩ := hQ.out.cells
  have hqs := lt_of_block hQ.out.box
  clear hw1 hg hv h
  generalize Gn G w (w.alloc (.cells (oC 7 n s kv).toArray 32)) = G1 at *
  have hKG := Hid.intro (fun (x y : World) (hk : Keep (fun k => ¬ G1 k) x y) => (hk.mono (G := fun k => ¬ G k) fun k _ hn hg => hn (hGG.out k hg)))
  go_enter Try.func17, Try.ntmps17
  go_wp2_with fail
  go_region_held3 (fun w' => w'.cell? ⟨w.heap.size, 1, none⟩ = some (.int .i64 n) ∧ w'.cell? ⟨w.heap.size, 2, none⟩ = some (.string (str s)))
    (first
      | exact ⟨c1, c2⟩
      | exact ⟨Q5.out.cells.2.1, Q5.out.cells.2.2.1⟩
      | exact ⟨Q3.out.cells.2.1, Q3.out.cells.2.2.1⟩)
    (first
      | (go_at_call 36; refine (t_rlay A3.out hok.out n s).mono ?_; rintro e w5 ⟨rfl, a5, k5⟩; have A5 := Hid.intro (a5.less hGG.out); have K5 := Hid.intro (K3.out.then (hKG.out _ _ k5)); have Q5 := Hid.intro (Q3.out.kept hGq.out k5); clear a5 k5)
      | (go_at_call 13; refine (t_lay (hT.out.below below_drw) n s).mono ?_; rintro e w3 ⟨rfl, a3, k3⟩; have A3 := Hid.intro a3; have K3 := Hid.intro (hK.out.drew.then (hKG.out _ _ k3)); have Q3 := Hid.intro ((hQ.out.below below_drw).kept hGq.out k3); clear a3 k3))
  all_goals
    go_wp2
    go_ret
    refine ⟨?_, A5.out, K5.out⟩
    simp
set_option maxHeartbeats 4000000 in
set_option maxRecDepth 100000 in
theorem do_fall {G : Nat → Prop} {w : World} {p gl gf r : Nat} {M : MS} {kv : Value} {l : List Bool} (h : Two G w p gl gf r M M) (n : Int) (hn0 : -9223372036854775808 ≤ n) (hn : n ≤ 9223372036854775807) (s : List UInt8) (hv : BoolsAt w kv l) (hg : BG G kv l) (hl : l.length ≤ 60) :
    Calls Try.prog 17 #[.pointer (some ⟨p, 0, none⟩), .pointer (some ⟨r, 0, none⟩), .agg #[.int .i64 3, .int .i64 n, .string (str s), kv]] w fun e w' => e = .returned (.bool true) ∧ Two G w' p gl gf r ((mOff M l).2) ((mOff M l).2) ∧ Keep (fun k => ¬ G k) w w' := by
  have hok := Hid.intro h.1.ok
  have _hu := And.intro hn0 (And.intro hn hl)
  clear _hu
  have hw1 : Below w.heap.size w (w.alloc (.cells (oC 3 n s kv).toArray 32)) := (Below.refl _ _).alloc (Nat.le_refl _) _
  have hT := Hid.intro (h.more hw1)
  have hQ := Hid.intro (show OB (w.alloc (.cells (oC 3 n s kv).toArray 32)) w.heap.size 3 n s kv from ⟨heap_alloc_new w _⟩)
  have hGq := Hid.intro (show Gn G w (w.alloc (.cells (oC 3 n s kv).toArray 32)) w.heap.size from .inr ⟨Nat.le_refl _, by simp⟩)
  have hK := Hid.intro (Keep.of (F := fun k => ¬ G k) hw1)
  have hV := Hid.intro (hv.below hw1)
  have hVG := Hid.intro (show BG (Gn G w (w.alloc (.cells (oC 3 n s kv).toArray 32))) kv l from fun h0 g hg' => .inl (hg h0 g hg'))
  have hGs := Hid.intro h.2.2.1
  have hGG := Hid.intro (show ∀ k, G k → Gn G w (w.alloc (.cells (oC 3 n s kv).toArray 32)) k from fun _ h => .inl h)
  obtain ⟨c0, c1, c2, c3⟩ := hQ.out.cells
  have hqs := lt_of_block hQ.out.box
  clear hw1 hg hv h
  generalize Gn G w (w.alloc (.cells (oC 3 n s kv).toArray 32)) = G1 at *
  have hKG := Hid.intro (fun (x y : World) (hk : Keep (fun k => ¬ G1 k) x y) => (hk.mono (G := fun k => ¬ G k) fun k _ hn hg => hn (hGG.out k hg)))
  go_enter Try.func17, Try.ntmps17
  go_wp2_with fail
  have hkv := hV.out.form
  have hll := Hid.intro (off_length hok.out l)
  go_region_held3 (fun w' => w'.cell? ⟨w.heap.size, 3, none⟩ = some kv)
    (first
      | exact c3
      | exact Q6.out.cells.2.2.2
      | exact Q5.out.cells.2.2.2
      | exact Q3.out.cells.2.2.2)
    (first
      | (go_at_call 26; refine (sameInts_any O3.out O5.out hll.out).mono ?_; rintro e w6 ⟨rfl, b6⟩; have A6 := Hid.intro (A5.out.below b6); have K6 := Hid.intro (K5.out.then (Keep.of b6)); have Q6 := Hid.intro (Q5.out.below b6); clear b6)
      | (go_at_call 38; refine (t_rfall A3.out hok.out V3.out VG3.out hl).mono ?_; rintro e w5 ⟨u5, rfl, a5, o5, k5⟩; have A5 := Hid.intro ((a5.less Z3.out).less hGG.out); have K5 := Hid.intro (K3.out.then (hKG.out _ _ (k5.mono fun k _ hn hg => hn (Z3.out k hg)))); have Q5 := Hid.intro (Q3.out.kept (Z3.out _ hGq.out) k5); have O5 := Hid.intro o5; have O3 := Hid.intro (own_keep O2.out fun g hg hb => k5.block g (own_lt O2.out hg) (fun hn => hn (Y3.out g hb (own_lt O2.out hg)))); clear a5 k5 o5)
      | (go_at_call 16; refine (t_off2 (hT.out.below below_drw) (hV.out.below below_drw) hl).mono ?_; rintro e w3 ⟨u3, rfl, G2, b2, z3, y3, a3, o3, k3⟩; have A3 := Hid.intro a3; have O2 := Hid.intro o3; have K3 := Hid.intro (hK.out.drew.then (hKG.out _ _ k3)); have Q3 := Hid.intro ((hQ.out.below below_drw).kept hGq.out k3); have V3 := Hid.intro ((hV.out.below below_drw).kept hVG.out k3); have Z3 := Hid.intro z3; have Y3 := Hid.intro y3; have VG3 := Hid.intro (show BG G2 kv l from fun h0 g hg => z3 g (hVG.out h0 g hg)); clear a3 k3 o3 z3 y3))
  all_goals
    go_wp2
    go_ret
    exact ⟨rfl, A6.out, K6.out⟩
end Go.Proofs.Ytjjfdkgnagfbcaa
