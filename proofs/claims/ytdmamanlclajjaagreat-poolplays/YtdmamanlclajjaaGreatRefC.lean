/-
  The document's Zero and Zeros; its pool: Hold, Get.
-/
import Derived.Test.YtdmamanlclajjaaGreatRefB
import Derived.Laws.BytesArg
import Derived.Laws.MakeOwn
namespace Go.Proofs.YtdmamanlclajjaaGreat
open Go.ChangeShapes Go.WideShapes Go.ChangeAt Go.RowKit

def allZ (T : List UInt8) : Bool := T.all (· == 0)
theorem allZ_no {T : List UInt8} {i : Nat} {x : UInt8} (h : T[i]? = some x) (e : x ≠ 0) : allZ T = false := by
  cases hq : allZ T with
  | false => rfl
  | true =>
    have := List.all_eq_true.1 hq x (List.mem_of_getElem? h)
    simp at this
    exact absurd this e
theorem allZ_zer {b : List UInt8} (h8 : b.length = 8) : allZ b = decide (b = zer) := by
  by_cases e : b = zer
  · subst e; rfl
  · rw [decide_eq_false e]
    match b, h8 with
    | [a0, a1, a2, a3, a4, a5, a6, a7], _ =>
      cases hq : allZ [a0, a1, a2, a3, a4, a5, a6, a7] with
      | false => rfl
      | true =>
        simp [allZ] at hq
        obtain ⟨rfl, rfl, rfl, rfl, rfl, rfl, rfl, rfl⟩ := hq
        exact absurd rfl e
theorem str_at0 (T : List UInt8) (i : Nat) (x : UInt8) (h : T[i]? = some x) (w : World) : (Instr.index 9 (.string (str T)) (.int .i64 (i : Int))).run Tryz.prog w = .ok (.int .u8 (x.toNat : Int)) w := by
  obtain ⟨h1, h2⟩ := List.getElem?_eq_some_iff.1 h
  rw [run_index_string w 9 (str T) .i64 (i : Int) Tryz.underlying9, dif_pos (by rw [str_size]; omega)]
  subst h2
  rfl
attribute [local go_sem] str_size
set_option maxRecDepth 100000 in
theorem refZero_any (T : List UInt8) (w : World) (hT : T.length ≤ 1000000) :
    Calls Tryz.prog 25 #[.string (str T)] w fun e w' => e = .returned (.bool (allZ T)) ∧ w' = w := by
  go_enter Tryz.func25, Tryz.ntmps25
  go_wp2_with fail
  go_loopw [3] (fun iv wr => ∃ i : Nat, i ≤ T.length ∧ iv = .int .i64 i ∧ allZ (T.take i) = true ∧ wr = w) (fun iv _ => T.length - (intOf iv).toNat)
  case atStart => exact ⟨0, Nat.zero_le _, rfl, rfl, rfl⟩
  case round =>
    obtain ⟨i, hi, rfl, hz, rfl⟩ := hrel
    have i0 : (0 : Int) ≤ (i : Int) := Int.natCast_nonneg _
    have hz' := Hid.intro hz
    clear hz
    by_cases hl : i < T.length
    · have i1 : (i : Int) < (T.length : Int) := by omega
      obtain ⟨x, hx⟩ : ∃ x, T[i]? = some x := ⟨T[i], by simp [hl]⟩
      have hat := str_at0 T i x hx wr
      have hx' := Hid.intro hx
      clear hx
      by_cases e : x = 0
      · subst e
        change _ = Result.ok (Value.int .u8 0) wr at hat
        go_wp2
        go_roundw
        case rel => exact ⟨i + 1, by omega, by go_num, by rw [List.take_add_one, hx'.out, allZ, List.all_append]; simpa [allZ] using hz'.out, trivial⟩
        case measure => simp [intOf]; omega
      · have hf : allZ T = false := allZ_no hx'.out e
        have hf' := Hid.intro hf
        clear hf
        have m0 : ¬ (x.toNat : Int) = 0 := fun h => e (UInt8.toNat_inj.1 (by simpa using h))
        generalize x.toNat = m at *
        go_wp2
        go_ret
        exact ⟨by rw [hf'.out]; rfl, rfl⟩
    · have hii : i = T.length := by omega
      subst hii
      have hq : allZ T = true := by have := hz'.out; rwa [List.take_length] at this
      have hq' := Hid.intro hq
      clear hq
      go_wp2
      go_ret
      exact ⟨by rw [hq'.out]; rfl, rfl⟩

theorem Tryz.info5b : (Tryz.prog.info? 5).map (fun i => (i.zero, i.size, i.bytes)) = some (some (.int .u8 0), 1, 1) := by kernel_rfl
theorem made_cell (w : World) (n j : Nat) (hj : j < n) : (w.alloc (.cells (madeCells (Value.int .u8 0).cells n) 5)).cell? ⟨w.heap.size, j, none⟩ = some (.int .u8 0) := by
  have h := heap_alloc_new w (.cells (madeCells (Value.int .u8 0).cells n) 5)
  unfold World.cell?
  rw [h]
  simp [madeCells, Value.cells, hj]
  rw [Nat.mod_one]
  rfl
theorem make_bytes (w : World) (n : Nat) (hn : n ≤ 1000) : ∃ w1, (Instr.makeSlice 98 (.int .i64 (n : Int)) (.int .i64 (n : Int))).run Tryz.prog w = .ok (.slice (some ⟨w.heap.size, 0, none⟩) n n) w1 ∧ w1 = w.alloc (.cells (madeCells (Value.int .u8 0).cells n) 5) := by
  obtain ⟨i0, hi, hz0, hz1, hz2⟩ := info_parts Tryz.info5b
  have hr := run_make (P := Tryz.prog) w 98 5 i0 (.int .u8 0) Tryz.underlying98 hi hz0 .i64 .i64 (n : Int) (n : Int) (by omega) (by omega) (by rw [hz2]; omega) (by omega)
  simp only [Int.toNat_natCast, hz1, Nat.mul_one] at hr
  exact ⟨_, hr, rfl⟩
theorem zeros_any (w : World) :
    Calls Tryz.prog 34 #[.int .i64 8] w fun e w' => e = .returned (.string (str zer)) ∧ Below w.heap.size w w' := by
  obtain ⟨w1, hmk, hw1⟩ := make_bytes w 8 (by omega)
  have hB : Hid (Below w.heap.size w w1) := Hid.intro (by rw [hw1]; exact (Below.refl _ _).alloc (Nat.le_refl _) _)
  have k1 := run_convert_bytes_arg (P := Tryz.prog) w1 98 5 Tryz.underlying98 Tryz.underlying5 w.heap.size 0 8 8 [0, 0, 0, 0, 0, 0, 0, 0] rfl (fun j hj => by
    rw [hw1, Nat.zero_add, made_cell w 8 j hj]
    match j, hj with
    | 0, _ | 1, _ | 2, _ | 3, _ | 4, _ | 5, _ | 6, _ | 7, _ => rfl) 9 Tryz.underlying9
  have e : strOfNums [0, 0, 0, 0, 0, 0, 0, 0] = str zer := rfl
  rw [e] at k1
  change (Instr.makeSlice 98 (.int .i64 8) (.int .i64 8)).run Tryz.prog w = _ at hmk
  clear hw1 e
  go_enter Tryz.func34, Tryz.ntmps34
  go_wp2
  go_ret
  exact ⟨rfl, hB.out⟩

/-- The document's pool: its list, in memory. -/
structure Rf (w : World) (v : Value) (L : List Bl) : Prop where
  row : Bk.Row w v L
  t49 : Bk.T49 w v
  cap : ∀ a n c, v = .slice a n c → n ≤ c
/-- What the document's pool is behind a call: its list, in memory that it had or that is new. -/
structure RefOut (w w' : World) (v v' : Value) (L' : List Bl) : Prop where
  rf : Rf w' v' L'
  blk : ∀ b, v'.ownBlock = some b → v.ownBlock = some b ∨ w.heap.size ≤ b
  bel : Below w.heap.size w w'
theorem Rf.below {w w' : World} {v : Value} {L : List Bl} (h : Rf w v L) (hb : Below w.heap.size w w') : Rf w' v L := ⟨h.row.below hb, h.t49.below hb, h.cap⟩
theorem Rf.of {w : World} {base : Nat} {v : Value} {L : List Bl} (h : w.ownsRow base 56 3 v L.length (B.itemsV L)) : Rf w v L := by
  refine ⟨Bk.own_row h, Bk.own_t49 h, fun a n c hv => ?_⟩
  rcases h.2 with ⟨h, _⟩ | ⟨g, cap, cur, hv', _, _, hn, _⟩
  · rw [h] at hv; cases hv; exact Nat.le_refl _
  · rw [hv'] at hv; cases hv; exact hn
theorem RefOut.same {w w' : World} {v : Value} {L : List Bl} (h : Rf w v L) (hb : Below w.heap.size w w') : RefOut w w' v v L :=
  ⟨h.below hb, fun _ e => .inl e, hb⟩
theorem RefOut.new {w w' : World} {v v' : Value} {L : List Bl} (h : w'.ownsRow w.heap.size 56 3 v' L.length (B.itemsV L)) (hb : Below w.heap.size w w') : RefOut w w' v v' L :=
  ⟨Rf.of h, fun b e => .inr (Bk.own_block h b e).1, hb⟩

/-- The boxes of the pool and of the result. -/
theorem boxes {w : World} {u v : Value} : ∃ W, W = ((w.alloc (.cells #[u, v] 28)).alloc (.cells #[.int .i64 0, .slice none 0 0] 28)) ∧ Below w.heap.size w W ∧ W.heap.size = w.heap.size + 2 ∧
    W.heap[w.heap.size]? = some (.cells #[u, v] 28 (0, 0)) ∧ W.heap[w.heap.size + 1]? = some (.cells #[.int .i64 0, .slice none 0 0] 28 (0, 0)) := by
  refine ⟨_, rfl, ((Below.refl _ _).alloc (Nat.le_refl _) _).alloc (by simp) _, by simp, ?_, ?_⟩
  · have := heap_alloc_new w (.cells #[u, v] 28)
    have h2 := ((Below.refl (w.heap.size + 1) (w.alloc (.cells #[u, v] 28))).alloc (by simp) (.cells #[.int .i64 0, .slice none 0 0] 28)).block w.heap.size (by omega)
    exact h2.trans this
  · have := heap_alloc_new (w.alloc (.cells #[u, v] 28)) (.cells #[.int .i64 0, .slice none 0 0] 28)
    rw [show (w.alloc (.cells #[u, v] 28)).heap.size = w.heap.size + 1 by simp] at this
    exact this
theorem box_at {w : World} {g : Nat} {u v : Value} (h : w.heap[g]? = some (.cells #[u, v] 28 (0, 0))) : w.cell? ⟨g, 0, none⟩ = some u ∧ w.cell? ⟨g, 1, none⟩ = some v ∧ w.frozen? ⟨g, 0, none⟩ = false ∧ w.frozen? ⟨g, 1, none⟩ = false := by
  unfold World.cell? World.frozen?
  simp only [h]
  exact ⟨rfl, rfl, rfl, rfl⟩
/-- The result's box is written: nothing else is. -/
theorem own_boxed {w : World} {base g n : Nat} {v x y : Value} {xs : List Value} (h : w.ownsRow base 56 3 v n xs) (hg : g < base) : ((w.setCell ⟨g, 0, none⟩ x).setCell ⟨g, 1, none⟩ y).ownsRow base 56 3 v n xs := by
  have hne : v.ownBlock ≠ some g := fun e => by have := (h.lt _ e).1; omega
  exact ownsRow_setCell_other (a := ⟨g, 1, none⟩) (ownsRow_setCell_other (a := ⟨g, 0, none⟩) h hne _) hne _
theorem bel_boxed {w W : World} {g : Nat} {x y : Value} (h : Below w.heap.size w W) (hg : w.heap.size ≤ g) : Below w.heap.size w ((W.setCell ⟨g, 0, none⟩ x).setCell ⟨g, 1, none⟩ y) :=
  (h.setCell hg _).setCell hg _

/-- Behind a call with the boxes laid: they stand, and so does the list. -/
theorem after_boxes {w w1 : World} {u v : Value} (hb : Below ((w.alloc (.cells #[u, v] 28)).alloc (.cells #[.int .i64 0, .slice none 0 0] 28)).heap.size ((w.alloc (.cells #[u, v] 28)).alloc (.cells #[.int .i64 0, .slice none 0 0] 28)) w1) :
    Below w.heap.size w w1 ∧ w.heap.size + 2 ≤ w1.heap.size ∧ w1.heap[w.heap.size]? = some (.cells #[u, v] 28 (0, 0)) ∧ w1.heap[w.heap.size + 1]? = some (.cells #[.int .i64 0, .slice none 0 0] 28 (0, 0)) := by
  obtain ⟨W, hW, hB, hs, hp, hr⟩ := boxes (w := w) (u := u) (v := v)
  rw [← hW] at hb
  refine ⟨hB.trans (hb.mono (by omega)), by have := hb.size; omega, ?_, ?_⟩
  · rw [hb.block _ (by omega)]; exact hp
  · rw [hb.block _ (by omega)]; exact hr
theorem row_boxes {w : World} {u v x : Value} {L : List Bl} (h : Bk.Row w x L) : Bk.Row ((w.alloc (.cells #[u, v] 28)).alloc (.cells #[.int .i64 0, .slice none 0 0] 28)) x L :=
  h.below (((Below.refl _ _).alloc (Nat.le_refl _) _).alloc (by simp) _)
theorem bel_boxes {w : World} {o1 o2 : Obj} : Below w.heap.size w ((w.alloc o1).alloc o2) := ((Below.refl _ _).alloc (Nat.le_refl _) _).alloc (by simp) _

set_option maxHeartbeats 1000000 in
set_option maxRecDepth 100000 in
theorem rHold_any {w : World} {v : Value} {L : List Bl} (most : Int) (h : Rf w v L) (x n : Int) (hl : L.length ≤ 1000) (hR : ∀ q ∈ L, 0 < q.2.1 ∧ q.2.1 ≤ 1000000) (ho : B.Ord L) (hn : -1 ≤ n) (hn2 : n ≤ 1) :
    Calls Tryz.prog 8 #[.agg #[.int .i64 most, v], .int .i64 x, .int .i64 n] w fun e w' => ∃ v', e = .returned (.tuple #[.agg #[.int .i64 most, v'], .int .i64 (holdL L x n).2]) ∧ RefOut w w' v v' (holdL L x n).1 := by
  obtain ⟨a, c, rfl⟩ := rw_slice h.row
  have h' := Hid.intro h.row
  have hf' := Hid.intro h
  have hR' := Hid.intro hR
  have ho' := Hid.intro ho
  clear h hR ho
  by_cases hx : x = 0
  · subst hx
    have hH : Hid (holdL L 0 n = (L, 0)) := Hid.intro (by unfold holdL; simp)
    go_enter Tryz.func8, Tryz.ntmps8
    go_wp2
    refine bodyPost_ret (v := .tuple #[.agg #[.int .i64 most, .slice a L.length c], .int .i64 0]) (by simp [results, Tryz.results8, go_sem]) rfl ⟨_, by rw [hH.out], ?_⟩
    rw [hH.out]
    exact RefOut.same hf'.out bel_boxes
  · have hat := Hid.intro (rAt_any most (row_boxes (u := .int .i64 most) (v := .slice a L.length c) h'.out) x hl)
    go_enter Tryz.func8, Tryz.ntmps8
    go_wp2_with fail
    refine hat.out.mono ?_; rintro e w1 ⟨k, rfl, hk, hb⟩
    obtain ⟨hB, hz, hp, hr⟩ := after_boxes hb
    obtain ⟨p0, p1, _, _⟩ := box_at hp
    obtain ⟨r0, r1, z0, z1⟩ := box_at hr
    have hB' := Hid.intro hB
    have hb' := Hid.intro hb
    clear hat hB hb
    rcases hk with ⟨rfl, hsel⟩ | ⟨j, q, rfl, hj, _, hsel⟩
    · have hH : Hid (holdL L x n = (L, 2)) := Hid.intro (by unfold holdL; rw [if_neg hx, hsel])
      clear hsel hp hr
      go_wp2
      refine bodyPost_ret (v := .tuple #[.agg #[.int .i64 most, .slice a L.length c], .int .i64 2]) (by simp [results, Tryz.results8, go_sem, r0, r1]) rfl ⟨_, by rw [hH.out], ?_⟩
      rw [hH.out]
      exact RefOut.same hf'.out (bel_boxed hB'.out (by omega))
    · have hH : Hid (holdL L x n = (rfL L x n, 0)) := Hid.intro (by unfold holdL; rw [if_neg hx, hsel, rfL_bump L x n ho'.out fun q hq => (hR'.out q hq).1])
      have j0 : (0 : Int) ≤ (j : Int) := Int.natCast_nonneg _
      have hrf := Hid.intro (rRefs_any most (h'.out.below hB'.out) x n hl hR'.out hn hn2)
      have hp' := Hid.intro hp
      have hr' := Hid.intro hr
      clear hsel hp hr
      go_wp2_with fail
      refine hrf.out.mono ?_; rintro e w2 ⟨v2, rfl, ho2, hb2⟩
      have hr2 : w2.heap[w.heap.size + 1]? = some (.cells #[.int .i64 0, .slice none 0 0] 28 (0, 0)) := by rw [hb2.block _ (by omega)]; exact hr'.out
      obtain ⟨s0, s1, y0, y1⟩ := box_at hr2
      obtain ⟨a2, c2, rfl⟩ := Bk.own_form ho2
      have ho2' := Hid.intro ho2
      have hb2' := Hid.intro hb2
      clear hr2 ho2 hb2 r0 r1 z0 z1 p0 p1
      go_wp2
      refine bodyPost_ret (v := .tuple #[.agg #[.int .i64 most, .slice a2 (rfL L x n).length c2], .int .i64 0]) (by simp [results, Tryz.results8, go_sem, s0, s1]) rfl ⟨_, by rw [hH.out], ?_⟩
      rw [hH.out]
      exact RefOut.new (Bk.own_mono (own_boxed ho2'.out (by omega)) (by omega)) (bel_boxed (hB'.out.trans (hb2'.out.mono (by omega))) (by omega))
set_option maxHeartbeats 1000000 in
set_option maxRecDepth 100000 in
theorem rGet_any {w : World} {v : Value} {L : List Bl} (most : Int) (h : Bk.Row w v L) (x : Int) (hl : L.length ≤ 1000) :
    Calls Tryz.prog 15 #[.agg #[.int .i64 most, v], .int .i64 x] w fun e w' => e = .returned (.tuple #[.string (str (getL L x).1), .int .i64 (getL L x).2]) ∧ Below w.heap.size w w' := by
  obtain ⟨a, c, rfl⟩ := rw_slice h
  have h' := Hid.intro h
  clear h
  have hb0 : Hid (Below w.heap.size w (w.alloc (.cells #[.int .i64 most, .slice a L.length c] 28))) := Hid.intro ((Below.refl _ _).alloc (Nat.le_refl _) _)
  have hn0 : Hid ((w.alloc (.cells #[.int .i64 most, .slice a L.length c] 28)).heap[w.heap.size]? = some (.cells #[.int .i64 most, .slice a L.length c] 28 (0, 0))) := Hid.intro (heap_alloc_new w _)
  by_cases hx : x = 0
  · subst hx
    have hH : Hid (getL L 0 = (zer, 0)) := Hid.intro (by unfold getL; simp)
    go_enter Tryz.func15, Tryz.ntmps15
    go_wp2_with fail
    refine (zeros_any _).mono ?_; rintro e w1 ⟨rfl, hb1⟩
    have hb1' := Hid.intro (hb0.out.trans (hb1.mono hb0.out.size))
    clear hb1
    go_wp2
    go_ret2
    rw [hH.out]
    exact ⟨rfl, hb1'.out⟩
  · have hat := Hid.intro (rAt_any most (h'.out.below hb0.out) x hl)
    go_enter Tryz.func15, Tryz.ntmps15
    go_wp2_with fail
    refine hat.out.mono ?_; rintro e w1 ⟨k, rfl, hk, hb⟩
    have hB1 : Below w.heap.size w w1 := hb0.out.trans (hb.mono hb0.out.size)
    have hp : w1.heap[w.heap.size]? = some (.cells #[.int .i64 most, .slice a L.length c] 28 (0, 0)) := by rw [hb.block _ (by simp)]; exact hn0.out
    obtain ⟨p0, p1, _, _⟩ := box_at hp
    have hB' := Hid.intro hB1
    clear hat hb hB1 hp
    rcases hk with ⟨rfl, hsel⟩ | ⟨j, q, rfl, hj, hq, hsel⟩
    · have hH : Hid (getL L x = ([], 2)) := Hid.intro (by unfold getL; rw [if_neg hx, hsel])
      clear hsel
      go_wp2
      go_ret2
      rw [hH.out]
      exact ⟨rfl, hB'.out⟩
    · have hH : Hid (getL L x = (q.2.2, 0)) := Hid.intro (by unfold getL; rw [if_neg hx, hsel])
      have j0 : (0 : Int) ≤ (j : Int) := Int.natCast_nonneg _
      have j1 : (j : Int) < (L.length : Int) := by omega
      obtain ⟨g, o, q', rfl, hg, hq', c0, c1, c2⟩ := rw_at h'.out hB'.out hj
      rw [hq] at hq'
      cases hq'
      clear hsel hq
      go_wp2
      go_ret2
      rw [hH.out]
      exact ⟨rfl, hB'.out⟩
end Go.Proofs.YtdmamanlclajjaaGreat
