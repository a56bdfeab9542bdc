/-
  SpanTells, its walk.
-/
import Derived.Test.YtfaecglmpkcjlaaTellsI
import Derived.Test.YtfaecglmpkcjlaaTellsD
import Derived.Deep.CutRange
import Derived.Deep.CutBlock
namespace Go.Proofs.Ytfaecglmpkcjlaa
open Go.ChangeShapes Go.WideShapes Go.ChangeAt Go.RowKit
attribute [local go_sem ↓] Go.wp_at_zero Go.wp_at_succ


/-- A row of bits in memory. -/
def Abl (w : World) (X : Nat) (l : List Bool) : Prop := (∃ C : Array Value, w.heap[X]? = some (.cells C 26 (0, 0)) ∧ C.size = 64) ∧ w.rangeAt X 0 (bv l)
theorem Arr.abl {w : World} {X : Nat} {ps : List Sp} (h : Arr w X ps) : Abl w X (bitsOf ps) := h
theorem Abl.lt {w : World} {X : Nat} {l : List Bool} (h : Abl w X l) : X < w.heap.size := by
  obtain ⟨⟨C, hC, _⟩, _⟩ := h
  exact lt_of_block hC
theorem Abl.set {w : World} {X k : Nat} {l : List Bool} (h : Abl w X l) (hl : l.length = 64) (hk : k < 64) (b : Bool) : Abl (w.setCell ⟨X, k, none⟩ (.bool b)) X (l.set k b) := by
  obtain ⟨⟨C, hC, hs⟩, hr⟩ := h
  exact ⟨⟨C.setIfInBounds k (.bool b), by simp [World.setCell, Array.getElem?_modify, hC], by simpa using hs⟩, range_set b hr (by omega)⟩
theorem Abl.far {w : World} {X Z k : Nat} {l : List Bool} (h : Abl w X l) (hne : X ≠ Z) (u : Value) : Abl (w.setCell ⟨Z, k, none⟩ u) X l := by
  obtain ⟨⟨C, hC, hs⟩, hr⟩ := h
  exact ⟨⟨C, by rw [Below.heap_setCell w ⟨Z, k, none⟩ u X hne]; exact hC, hs⟩, range_far hne hr⟩
theorem Abl.cellAt {w : World} {X k : Nat} {l : List Bool} (h : Abl w X l) (hk : k < 64) : (∃ c, w.cell? ⟨X, k, none⟩ = some c) ∧ w.frozen? ⟨X, k, none⟩ = false := by
  obtain ⟨⟨C, hC, hs⟩, _⟩ := h
  constructor
  · refine ⟨C[k]'(by omega), ?_⟩
    simp [World.cell?, hC, hs, hk]
  · simp [World.frozen?, hC]
theorem Box.far {w : World} {H Z k : Nat} {x y : Value} (h : Box w H x y) (hne : H ≠ Z) (u : Value) : Box (w.setCell ⟨Z, k, none⟩ u) H x y :=
  h.same (Below.heap_setCell w ⟨Z, k, none⟩ u H hne)

theorem s4 {wc w : World} {A Bb : Nat} {f n g m : Value} (ba : Hid (Box wc A f n)) (bb : Hid (Box wc Bb g m)) (hb : Below wc.heap.size wc w) :
    w.cell? ⟨A, 0, none⟩ = some f ∧ w.cell? ⟨A, 1, none⟩ = some n ∧ w.cell? ⟨Bb, 0, none⟩ = some g ∧ w.cell? ⟨Bb, 1, none⟩ = some m :=
  ⟨(ba.out.here hb).1, (ba.out.here hb).2.1, (bb.out.here hb).1, (bb.out.here hb).2.1⟩
theorem kept_two (z : World) (x y : Int) : Box ((z.alloc (.cells #[.int .i64 x, .int .i64 y] 23)).alloc (.cells (bookCells (.slice none 0 0) (.slice none 0 0)) 40)) z.heap.size (.int .i64 x) (.int .i64 y) ∧ Kept ((z.alloc (.cells #[.int .i64 x, .int .i64 y] 23)).alloc (.cells (bookCells (.slice none 0 0) (.slice none 0 0)) 40)) (z.heap.size + 1) (z.heap.size + 1) [] ∧ Below z.heap.size z ((z.alloc (.cells #[.int .i64 x, .int .i64 y] 23)).alloc (.cells (bookCells (.slice none 0 0) (.slice none 0 0)) 40)) := by
  refine ⟨(Box.new z _ _ 23).here below_alc, ?_, below_step below_alc below_alc⟩
  have := kept_new (z.alloc (.cells #[.int .i64 x, .int .i64 y] 23)) (z.heap.size + 1)
  simpa using this
theorem mid_endS' {a b : Sp} {X Y : List Sp} {l : List Bool} (hX : putR [] [a] = X) (hY : putR [] [b] = Y) (h : Mid X Y 64 l) : l = bitsOf (bothS a b) := by subst hX hY; exact mid_endS h
theorem midL_end' {a b : Sp} {X Y : List Sp} {l : List Bool} (hX : putR [] [a] = X) (hY : putR [] [b] = Y) (h : MidL X Y 64 l) : l = bitsOf (lessL a b) := by subst hX hY; exact midL_end h
set_option maxRecDepth 100000 in
set_option maxHeartbeats 16000000 in
theorem tells_walk (f n g m bl kk : Int) (w : World) (hf : f ≤ 9223372036854775807) (hg : g ≤ 9223372036854775807) :
    Calls Try.prog 3 #[.agg #[.int .i64 f, .int .i64 n], .agg #[.int .i64 g, .int .i64 m], .int .i64 bl, .int .i64 kk] w fun e w' => e = .returned (.bool true) ∧ Below w.heap.size w w' := by
  obtain ⟨X, hX⟩ : ∃ X, Hid (putR [] [(f, n)] = X) := ⟨_, rfl⟩
  obtain ⟨Y, hY⟩ : ∃ Y, Hid (putR [] [(g, m)] = Y) := ⟨_, rfl⟩
  obtain ⟨ok, mf, mn, MC0, hM0⟩ := meet_sym f n g m hf hg
  obtain ⟨jf, jn, JC0, hJ0⟩ := join_sym f n g m hf hg
  have MC := Hid.intro MC0
  have JC := Hid.intro JC0
  have hM := Hid.intro hM0
  have hJ := Hid.intro hJ0
  have LC := Hid.intro (fun w => less_sym f n g m w hf hg)
  have cL := Hid.intro (lessL_canon (f, n) (g, m))
  have l2 := lessL_len (f, n) (g, m)
  clear MC0 JC0 hM0 hJ0
  go_enter Try.func3, Try.ntmps3
  go_wp2_with fail
  refine (alive_any _).mono ?_; rintro e w1 ⟨rfl, hb1⟩
  have A1 := Hid.intro (((Box.new w (.int .i64 f) (.int .i64 n) 23).here below_alc).here hb1)
  have B1 := Hid.intro ((show Box ((w.alloc (.cells #[.int .i64 f, .int .i64 n] 23)).alloc (.cells #[.int .i64 g, .int .i64 m] 23)) (w.heap.size + 1) (.int .i64 g) (.int .i64 m) by have := Box.new (w.alloc (.cells #[.int .i64 f, .int .i64 n] 23)) (.int .i64 g) (.int .i64 m) 23; simpa using this).here hb1)
  have W1 : Below w.heap.size w w1 := below_step (below_step below_alc below_alc) hb1
  have zw1 : w.heap.size + 1 < w1.heap.size := B1.out.lt
  clear hb1
  go_upto_region 3 with fail
  refine reg3_walk hX hY A1 B1 (fun _ a D v z h => by cases D <;> exact h) ?_
  intro d27 d28 d29 d30 p q z1 hp hq hpq A2 B2 P2 Q2 h2
  have A2' := Hid.intro A2
  have B2' := Hid.intro B2
  have P2' := Hid.intro P2
  have Q2' := Hid.intro Q2
  have W2 := below_step W1 h2
  have zP := P2.lt
  have zQ := Q2.lt
  have zz := h2.size
  clear A1 B1 W1 h2 A2 B2 P2 Q2
  go_upto_region 4 with fail
  refine reg4_walk A2' B2' P2' Q2' (fun _ a D v z h => by cases D <;> exact h) ?_
  intro d31 d32 u v z2 hu hv huv A3 B3 P3 Q3 U3 V3 h3
  have S3 := Hid.intro (And.intro A3 (And.intro B3 (And.intro P3 (And.intro Q3 (And.intro U3 (And.intro V3 (below_step W2 h3)))))))
  have hpu : p ≠ u := by omega
  have hpv : p ≠ v := by omega
  have hqu : q ≠ u := by omega
  have hqv : q ≠ v := by omega
  clear A2' B2' P2' Q2' W2 h3 A3 B3 P3 Q3 U3 V3
  go_wp2_with fail
  go_loopw [13] (fun kv wr => ∃ (k : Nat) (lu lw : List Bool), k ≤ 64 ∧ kv = .int .i64 k ∧ Box wr w.heap.size (.int .i64 f) (.int .i64 n) ∧ Box wr (w.heap.size + 1) (.int .i64 g) (.int .i64 m) ∧ Arr wr p X ∧ Arr wr q Y ∧ Abl wr u lu ∧ Abl wr v lw ∧ Mid X Y k lu ∧ MidL X Y k lw ∧ Below w.heap.size w wr) (fun kv _ => 64 - (intOf kv).toNat)
  case atStart => exact ⟨0, bitsOf X, bitsOf X, by omega, rfl, S3.out.1, S3.out.2.1, S3.out.2.2.1, S3.out.2.2.2.1, S3.out.2.2.2.2.1, S3.out.2.2.2.2.2.1, mid_start X Y, midL_start X Y, S3.out.2.2.2.2.2.2⟩
  case round =>
    clear S3
    obtain ⟨k, lu, lw, hk, rfl, S0⟩ := hrel
    have S := Hid.intro S0
    clear S0
    have k0 : (0 : Int) ≤ (k : Int) := Int.natCast_nonneg _
    by_cases hlt : k < 64
    · have k1 : (k : Int) < 64 := by omega
      have dA := bit_cell S.out.2.2.1.2 k hlt
      have dB := bit_cell S.out.2.2.2.1.2 k hlt
      obtain ⟨⟨cu, cu1⟩, cu2⟩ := S.out.2.2.2.2.1.cellAt hlt
      obtain ⟨⟨cv, cv1⟩, cv2⟩ := S.out.2.2.2.2.2.1.cellAt hlt
      by_cases hinX : In X (k : Int)
      · rw [decide_eq_true hinX] at dA
        by_cases hinY : In Y (k : Int)
        · rw [decide_eq_true hinY] at dB
          have s1 : Hid (true = (decide (In X (k : Int)) && decide (In Y (k : Int)))) := Hid.intro (by simp [hinX, hinY])
          have s2 : Hid (false = (decide (In X (k : Int)) && !decide (In Y (k : Int)))) := Hid.intro (by simp [hinX, hinY])
          clear hinX hinY
          go_wp2
          go_roundw
          case rel =>
            exact ⟨k + 1, lu.set k true, lw.set k false, by omega, by go_num, ((S.out.1.far (by omega) _).far (by omega) _), ((S.out.2.1.far (by omega) _).far (by omega) _), ((S.out.2.2.1.abl.far hpu _).far hpv _), ((S.out.2.2.2.1.abl.far hqu _).far hqv _), ((S.out.2.2.2.2.1.set S.out.2.2.2.2.2.2.1.1 hlt _).far huv _), ((S.out.2.2.2.2.2.1.far (fun h => huv h.symm) _).set S.out.2.2.2.2.2.2.2.1.1 hlt _), mid_step S.out.2.2.2.2.2.2.1 _ s1.out, midL_step S.out.2.2.2.2.2.2.2.1 _ s2.out, (S.out.2.2.2.2.2.2.2.2.setCell (by show w.heap.size ≤ u; omega) _).setCell (by show w.heap.size ≤ v; omega) _⟩
          case measure => simp [intOf]; omega
        · rw [decide_eq_false hinY] at dB
          have s1 : Hid (false = (decide (In X (k : Int)) && decide (In Y (k : Int)))) := Hid.intro (by simp [hinX, hinY])
          have s2 : Hid (true = (decide (In X (k : Int)) && !decide (In Y (k : Int)))) := Hid.intro (by simp [hinX, hinY])
          clear hinX hinY
          go_wp2
          go_roundw
          case rel =>
            exact ⟨k + 1, lu.set k false, lw.set k true, by omega, by go_num, ((S.out.1.far (by omega) _).far (by omega) _), ((S.out.2.1.far (by omega) _).far (by omega) _), ((S.out.2.2.1.abl.far hpu _).far hpv _), ((S.out.2.2.2.1.abl.far hqu _).far hqv _), ((S.out.2.2.2.2.1.set S.out.2.2.2.2.2.2.1.1 hlt _).far huv _), ((S.out.2.2.2.2.2.1.far (fun h => huv h.symm) _).set S.out.2.2.2.2.2.2.2.1.1 hlt _), mid_step S.out.2.2.2.2.2.2.1 _ s1.out, midL_step S.out.2.2.2.2.2.2.2.1 _ s2.out, (S.out.2.2.2.2.2.2.2.2.setCell (by show w.heap.size ≤ u; omega) _).setCell (by show w.heap.size ≤ v; omega) _⟩
          case measure => simp [intOf]; omega
      · rw [decide_eq_false hinX] at dA
        by_cases hinY : In Y (k : Int)
        · rw [decide_eq_true hinY] at dB
          have s1 : Hid (false = (decide (In X (k : Int)) && decide (In Y (k : Int)))) := Hid.intro (by simp [hinX, hinY])
          have s2 : Hid (false = (decide (In X (k : Int)) && !decide (In Y (k : Int)))) := Hid.intro (by simp [hinX, hinY])
          clear hinX hinY
          go_wp2
          go_roundw
          case rel =>
            exact ⟨k + 1, lu.set k false, lw.set k false, by omega, by go_num, ((S.out.1.far (by omega) _).far (by omega) _), ((S.out.2.1.far (by omega) _).far (by omega) _), ((S.out.2.2.1.abl.far hpu _).far hpv _), ((S.out.2.2.2.1.abl.far hqu _).far hqv _), ((S.out.2.2.2.2.1.set S.out.2.2.2.2.2.2.1.1 hlt _).far huv _), ((S.out.2.2.2.2.2.1.far (fun h => huv h.symm) _).set S.out.2.2.2.2.2.2.2.1.1 hlt _), mid_step S.out.2.2.2.2.2.2.1 _ s1.out, midL_step S.out.2.2.2.2.2.2.2.1 _ s2.out, (S.out.2.2.2.2.2.2.2.2.setCell (by show w.heap.size ≤ u; omega) _).setCell (by show w.heap.size ≤ v; omega) _⟩
          case measure => simp [intOf]; omega
        · rw [decide_eq_false hinY] at dB
          have s1 : Hid (false = (decide (In X (k : Int)) && decide (In Y (k : Int)))) := Hid.intro (by simp [hinX, hinY])
          have s2 : Hid (false = (decide (In X (k : Int)) && !decide (In Y (k : Int)))) := Hid.intro (by simp [hinX, hinY])
          clear hinX hinY
          go_wp2
          go_roundw
          case rel =>
            exact ⟨k + 1, lu.set k false, lw.set k false, by omega, by go_num, ((S.out.1.far (by omega) _).far (by omega) _), ((S.out.2.1.far (by omega) _).far (by omega) _), ((S.out.2.2.1.abl.far hpu _).far hpv _), ((S.out.2.2.2.1.abl.far hqu _).far hqv _), ((S.out.2.2.2.2.1.set S.out.2.2.2.2.2.2.1.1 hlt _).far huv _), ((S.out.2.2.2.2.2.1.far (fun h => huv h.symm) _).set S.out.2.2.2.2.2.2.2.1.1 hlt _), mid_step S.out.2.2.2.2.2.2.1 _ s1.out, midL_step S.out.2.2.2.2.2.2.2.1 _ s2.out, (S.out.2.2.2.2.2.2.2.2.setCell (by show w.heap.size ≤ u; omega) _).setCell (by show w.heap.size ≤ v; omega) _⟩
          case measure => simp [intOf]; omega
    · have hk64 : k = 64 := by omega
      have k1 : ¬ (k : Int) < 64 := by omega
      subst hk64
      have hEu := mid_endS' hX.out hY.out S.out.2.2.2.2.2.2.1
      have hEv := midL_end' hX.out hY.out S.out.2.2.2.2.2.2.2.1
      have aA := Hid.intro S.out.1
      have aB := Hid.intro S.out.2.1
      have aP := Hid.intro S.out.2.2.1
      have aU : Hid (Arr wr u (bothS (f, n) (g, m))) := Hid.intro (by have := S.out.2.2.2.2.1; rw [hEu] at this; exact this)
      have aV : Hid (Arr wr v (lessL (f, n) (g, m))) := Hid.intro (by have := S.out.2.2.2.2.2.1; rw [hEv] at this; exact this)
      have bW := S.out.2.2.2.2.2.2.2.2
      clear S hEu hEv
      go_upto_region 10 with fail
      refine wp_region_held_drew (S := fun w' => w'.cell? ⟨w.heap.size, 0, none⟩ = some (.int .i64 f) ∧ w'.cell? ⟨w.heap.size, 1, none⟩ = some (.int .i64 n) ∧ w'.cell? ⟨w.heap.size + 1, 0, none⟩ = some (.int .i64 g) ∧ w'.cell? ⟨w.heap.size + 1, 1, none⟩ = some (.int .i64 m)) (by kernel_rfl) (s4 aA aB below_drw) (fun hHeld => ?_)
      refine wpAnyH_take (i := 0) (v := .agg #[.int .i64 f, .int .i64 n]) rfl (by kernel_rfl) (by kernel_rfl) (by kernel_rfl) (fun _ _ _ h => h) (Or.inl ⟨by rfl, fun w' hSw => by obtain ⟨s0, s1, s2, s3⟩ := hSw; go_simp⟩) hHeld ?_
      change wpAnyH _ _ _ _ _ _ _ (Act.put _ (some 58) _) _
      simp only [Act.put, List.setIfInBounds_toArray, List.set_cons_zero, List.set_cons_succ]
      refine wpAnyH_take (i := 2) (v := .agg #[.int .i64 g, .int .i64 m]) rfl (by kernel_rfl) (by kernel_rfl) (by kernel_rfl) (fun _ _ _ h => h) (Or.inl ⟨by rfl, fun w' hSw => by obtain ⟨s0, s1, s2, s3⟩ := hSw; go_simp⟩) hHeld ?_
      change wpAnyH _ _ _ _ _ _ _ (Act.put _ (some 60) _) _
      simp only [Act.put, List.setIfInBounds_toArray, List.set_cons_zero, List.set_cons_succ]
      refine wpAnyH_ready (rs := [1]) (by kernel_rfl) (by simp) ?_
      refine AllReadyH.cons rfl (fun K hK => ?_) AllReadyH.nil
      go_simp
      refine (whole_sym f n _).mono ?_; rintro e z1 ⟨rfl, h1⟩
      replace h1 := below_drew h1
      refine hK.out _ _ (s4 aA aB h1) (fun hHeld => ?_); clear hK K
      refine wpAnyH_ready (rs := [3]) (by kernel_rfl) (by simp) ?_
      refine AllReadyH.cons rfl (fun K hK => ?_) AllReadyH.nil
      go_simp
      refine (whole_sym g m _).mono ?_; rintro e z2 ⟨rfl, h2⟩
      replace h2 := below_step h1 h2
      refine hK.out _ _ (s4 aA aB h2) (fun hHeld => ?_); clear hK K
      refine wpAnyH_take (i := 4) (v := .bool (decide (Wh (f, n)))) rfl (by kernel_rfl) (by kernel_rfl) (by kernel_rfl) (fun _ _ _ h => h) (Or.inl ⟨by rfl, fun w' hSw => by obtain ⟨s0, s1, s2, s3⟩ := hSw; go_simp⟩) hHeld ?_
      change wpAnyH _ _ _ _ _ _ _ (Act.put _ (some 14) _) _
      simp only [Act.put, List.setIfInBounds_toArray, List.set_cons_zero, List.set_cons_succ]
      refine wpAnyH_take (i := 5) (v := .bool (decide (Wh (g, m)))) rfl (by kernel_rfl) (by kernel_rfl) (by kernel_rfl) (fun _ _ _ h => h) (Or.inl ⟨by rfl, fun w' hSw => by obtain ⟨s0, s1, s2, s3⟩ := hSw; go_simp⟩) hHeld ?_
      change wpAnyH _ _ _ _ _ _ _ (Act.put _ (some 15) _) _
      simp only [Act.put, List.setIfInBounds_toArray, List.set_cons_zero, List.set_cons_succ]
      refine wpAnyH_done (by kernel_rfl) ?_ _
      have A2 := Hid.intro (aA.out.here h2)
      have B2 := Hid.intro (aB.out.here h2)
      have P2 := Hid.intro (aP.out.below h2)
      have U2 := Hid.intro (aU.out.below h2)
      have V2 := Hid.intro (aV.out.below h2)
      have W2 := below_step bW h2
      clear aA aB aP aU aV bW h1 h2 hHeld
      obtain ⟨x0, x1, _, _⟩ := A2.out
      obtain ⟨y0, y1, _, _⟩ := B2.out
      go_wp2_with fail
      refine (MC.out _).mono ?_; rintro e z3 ⟨rfl, h3⟩
      clear x0 x1 y0 y1
      have A3 := Hid.intro (A2.out.here h3)
      have B3 := Hid.intro (B2.out.here h3)
      have P3 := Hid.intro (P2.out.below h3)
      have U3 := Hid.intro (U2.out.below h3)
      have V3 := Hid.intro (V2.out.below h3)
      have W3 := below_step W2 h3
      clear A2 B2 P2 U2 V2 W2 h3
      go_upto_region 12 with fail
      have hb4 : Hid (Below z3.heap.size z3 (z3.alloc (.cells #[.int .i64 mf, .int .i64 mn] 23))) := Hid.intro below_alc
      refine gen_world _ (fun z4 => Box z4 z3.heap.size (.int .i64 mf) (.int .i64 mn) ∧ Below z3.heap.size z3 z4) ⟨Box.new z3 _ _ 23, hb4.out⟩ ?_
      clear hb4
      rintro z4 ⟨M4, h4⟩
      have M4' := Hid.intro M4
      have A4 := Hid.intro (A3.out.here h4)
      have B4 := Hid.intro (B3.out.here h4)
      have P4 := Hid.intro (P3.out.below h4)
      have U4 := Hid.intro (U3.out.below h4)
      have V4 := Hid.intro (V3.out.below h4)
      have W4 := below_step W3 h4
      clear A3 B3 P3 U3 V3 W3 h4 M4
      generalize z3.heap.size = M at *
      refine reg12_walk A4 B4 ?_
      intro d68 d69 d70 d71 d72 d73 d74 d75 d76 d77 d78 d79 d80 d81 d82 d83 d84 d85 d86 d87 d88 d89 d90 d91
      obtain ⟨x0, x1, _, _⟩ := A4.out
      obtain ⟨y0, y1, _, _⟩ := B4.out
      go_wp2_with fail
      refine (JC.out _).mono ?_; rintro e z5 ⟨rfl, h5⟩
      clear x0 x1 y0 y1
      have A5 := Hid.intro (A4.out.here h5)
      have B5 := Hid.intro (B4.out.here h5)
      have M5 := Hid.intro (M4'.out.here h5)
      have P5 := Hid.intro (P4.out.below h5)
      have U5 := Hid.intro (U4.out.below h5)
      have V5 := Hid.intro (V4.out.below h5)
      have W5 := below_step W4 h5
      clear A4 B4 M4' P4 U4 V4 W4 h5
      go_upto_region 15 with fail
      have hKn := Hid.intro (kept_two z5 jf jn)
      refine gen_world _ (fun z6 => Box z6 z5.heap.size (.int .i64 jf) (.int .i64 jn) ∧ Kept z6 (z5.heap.size + 1) (z5.heap.size + 1) [] ∧ Below z5.heap.size z5 z6) hKn.out ?_
      clear hKn
      rintro z6 ⟨J6, K6, h6⟩
      have J6' := Hid.intro J6
      have K6' := Hid.intro K6
      have A6 := Hid.intro (A5.out.here h6)
      have B6 := Hid.intro (B5.out.here h6)
      have M6 := Hid.intro (M5.out.here h6)
      have P6 := Hid.intro (P5.out.below h6)
      have U6 := Hid.intro (U5.out.below h6)
      have V6 := Hid.intro (V5.out.below h6)
      have W6 := below_step W5 h6
      have hKw : w.heap.size ≤ z5.heap.size + 1 := by have := W5.size; omega
      have zK : z5.heap.size + 1 < z6.heap.size := kept_lt K6
      have hKA : w.heap.size + 1 < z5.heap.size + 1 := by have := B5.out.lt; omega
      have hKM : M < z5.heap.size + 1 := by have := M5.out.lt; omega
      have hKJ : z5.heap.size < z5.heap.size + 1 := Nat.lt_succ_self _
      clear A5 B5 M5 P5 U5 V5 W5 h6 J6 K6
      generalize hKe : z5.heap.size + 1 = Kb at *
      clear hKe
      generalize z5.heap.size = J at *
      refine wp_region_held_drew (S := fun w' => w'.cell? ⟨w.heap.size, 0, none⟩ = some (.int .i64 f) ∧ w'.cell? ⟨w.heap.size, 1, none⟩ = some (.int .i64 n) ∧ w'.cell? ⟨w.heap.size + 1, 0, none⟩ = some (.int .i64 g) ∧ w'.cell? ⟨w.heap.size + 1, 1, none⟩ = some (.int .i64 m)) (by kernel_rfl) (s4 A6 B6 below_drw) (fun hHeld => ?_)
      refine wpAnyH_take (i := 0) (v := .agg #[.int .i64 f, .int .i64 n]) rfl (by kernel_rfl) (by kernel_rfl) (by kernel_rfl) (fun _ _ _ h => h) (Or.inl ⟨by rfl, fun w' hSw => by obtain ⟨s0, s1, s2, s3⟩ := hSw; go_simp⟩) hHeld ?_
      change wpAnyH _ _ _ _ _ _ _ (Act.put _ (some 100) _) _
      simp only [Act.put, List.setIfInBounds_toArray, List.set_cons_zero, List.set_cons_succ]
      refine wpAnyH_take (i := 1) (v := .agg #[.int .i64 g, .int .i64 m]) rfl (by kernel_rfl) (by kernel_rfl) (by kernel_rfl) (fun _ _ _ h => h) (Or.inl ⟨by rfl, fun w' hSw => by obtain ⟨s0, s1, s2, s3⟩ := hSw; go_simp⟩) hHeld ?_
      change wpAnyH _ _ _ _ _ _ _ (Act.put _ (some 101) _) _
      simp only [Act.put, List.setIfInBounds_toArray, List.set_cons_zero, List.set_cons_succ]
      refine wpAnyH_take (i := 3) (v := .agg #[.int .i64 f, .int .i64 n]) rfl (by kernel_rfl) (by kernel_rfl) (by kernel_rfl) (fun _ _ _ h => h) (Or.inl ⟨by rfl, fun w' hSw => by obtain ⟨s0, s1, s2, s3⟩ := hSw; go_simp⟩) hHeld ?_
      change wpAnyH _ _ _ _ _ _ _ (Act.put _ (some 103) _) _
      simp only [Act.put, List.setIfInBounds_toArray, List.set_cons_zero, List.set_cons_succ]
      refine wpAnyH_take (i := 4) (v := .agg #[.int .i64 g, .int .i64 m]) rfl (by kernel_rfl) (by kernel_rfl) (by kernel_rfl) (fun _ _ _ h => h) (Or.inl ⟨by rfl, fun w' hSw => by obtain ⟨s0, s1, s2, s3⟩ := hSw; go_simp⟩) hHeld ?_
      change wpAnyH _ _ _ _ _ _ _ (Act.put _ (some 104) _) _
      simp only [Act.put, List.setIfInBounds_toArray, List.set_cons_zero, List.set_cons_succ]
      refine wpAnyH_ready (rs := [2]) (by kernel_rfl) (by simp) ?_
      refine AllReadyH.cons rfl (fun K hK => ?_) AllReadyH.nil
      go_simp
      refine (LC.out _).mono ?_; rintro e z7 ⟨l7, rfl, o7, h7⟩
      replace h7 := below_drew h7
      have o7' : Hid (z7.ownsRow z6.heap.size 23 2 l7 (lessL (f, n) (g, m)).length (spansV (lessL (f, n) (g, m)))) := Hid.intro o7
      clear o7
      refine hK.out _ _ (s4 A6 B6 h7) (fun hHeld => ?_); clear hK K
      refine wpAnyH_ready (rs := [5]) (by kernel_rfl) (by simp) ?_
      refine AllReadyH.cons rfl (fun K hK => ?_) AllReadyH.nil
      go_simp
      refine (LC.out _).mono ?_; rintro e z8 ⟨l8, rfl, o8, h8⟩
      have o8' := Hid.intro o8
      have o7'' := Hid.intro (own_below o7'.out h8)
      have fr78 : Hid (∀ b, l7.ownBlock = some b → l8.ownBlock ≠ some b) := Hid.intro (fun b hb hc => by have h1 := (o7'.out.lt b hb).2; have h2 := (o8'.out.lt b hc).1; omega)
      have z67 := h7.size
      clear o7' o8
      replace h8 := below_step h7 h8
      refine hK.out _ _ (s4 A6 B6 h8) (fun hHeld => ?_); clear hK K
      refine wpAnyH_take (i := 6) (v := l7) rfl (by kernel_rfl) (by kernel_rfl) (by kernel_rfl) (fun _ _ _ h => h) (Or.inl ⟨by rfl, fun w' hSw => by obtain ⟨s0, s1, s2, s3⟩ := hSw; go_simp⟩) hHeld ?_
      change wpAnyH _ _ _ _ _ _ _ (Act.put _ (some 22) _) _
      simp only [Act.put, List.setIfInBounds_toArray, List.set_cons_zero, List.set_cons_succ]
      refine wpAnyH_take (i := 7) (v := l8) rfl (by kernel_rfl) (by kernel_rfl) (by kernel_rfl) (fun _ _ _ h => h) (Or.inl ⟨by rfl, fun w' hSw => by obtain ⟨s0, s1, s2, s3⟩ := hSw; go_simp⟩) hHeld ?_
      change wpAnyH _ _ _ _ _ _ _ (Act.put _ (some 23) _) _
      simp only [Act.put, List.setIfInBounds_toArray, List.set_cons_zero, List.set_cons_succ]
      refine wpAnyH_done (by kernel_rfl) ?_ _
      have A8 := Hid.intro (A6.out.here h8)
      have B8 := Hid.intro (B6.out.here h8)
      have M8 := Hid.intro (M6.out.here h8)
      have J8 := Hid.intro (J6'.out.here h8)
      have P8 := Hid.intro (P6.out.below h8)
      have U8 := Hid.intro (U6.out.below h8)
      have V8 := Hid.intro (V6.out.below h8)
      have K8 := Hid.intro (K6'.out.below h8)
      have W8 := below_step W6 h8
      have q7 := Hid.intro (own_mono o7''.out (Nat.le_of_lt zK))
      have q8 := Hid.intro (own_mono o8'.out (show Kb ≤ z7.heap.size by omega))
      have zK8 := kept_lt K8.out
      clear A6 B6 M6 J6' P6 U6 V6 K6' W6 h7 h8 hHeld zK z67 o7'' o8'
      go_wp2_with fail
      refine (book_spans K8.out q7.out (fun e he => by simp at he) (by simp) (by have := l2; omega) (Nat.le_refl _)).mono ?_; rintro e z9 ⟨rfl, k9, st9, b9⟩
      have k9' := Hid.intro k9
      have q9 := Hid.intro (own_stay q8.out st9 TN49)
      have A9 := Hid.intro (A8.out.below b9 (by omega))
      have B9 := Hid.intro (B8.out.below b9 (by omega))
      have M9 := Hid.intro (M8.out.below b9 (by omega))
      have J9 := Hid.intro (J8.out.below b9 (by omega))
      have P9 := Hid.intro (P8.out.stay st9)
      have U9 := Hid.intro (U8.out.stay st9)
      have V9 := Hid.intro (V8.out.stay st9)
      have W9 := W8.trans (b9.mono hKw)
      clear A8 B8 M8 J8 P8 U8 V8 K8 W8 q7 q8 k9 st9 b9
      go_wp2_with fail
      refine (book_spans k9'.out q9.out (fun e he b hb => by simp at he; subst he; exact fr78.out b hb) (by simp) (by have := l2; omega) (Nat.le_refl _)).mono ?_; rintro e z10 ⟨rfl, k10, st10, b10⟩
      have k10' := Hid.intro k10
      have A10 := Hid.intro (A9.out.below b10 (by omega))
      have B10 := Hid.intro (B9.out.below b10 (by omega))
      have M10 := Hid.intro (M9.out.below b10 (by omega))
      have J10 := Hid.intro (J9.out.below b10 (by omega))
      have P10 := Hid.intro (P9.out.stay st10)
      have U10 := Hid.intro (U9.out.stay st10)
      have V10 := Hid.intro (V9.out.stay st10)
      have W10 := W9.trans (b10.mono hKw)
      clear A9 B9 M9 J9 P9 U9 V9 W9 q9 k9' k10 st10 b10 fr78
      go_upto_if 112 with fail
      refine if19_walk A10 ?_
      intro d113 d114 d115 d116 d117
      go_upto_region 21 with fail
      refine reg21_walk hf hg hM hJ A10 B10 M10 J10 U10 (fun _ a D v z h => by cases D <;> exact h) ?_
      intro d118 d119 d120 d121 d122 d123 d124 d125 d126 d127 d128 d129 d130 d131 d132 d133 d134 d135 d136 d137 d138 d139 d140 d141 d142 d143 d144 d145 d146 d147 d148 d149 d150 d151 d152 d153 d154 d155 d156 d157 d158 d159 d160 d161 d162 d163 d164 d165 d166 d167 d168 d169 d170 d171 d172 d173 d174 d175 d176 d177 d178 d179 d180 z11 h11
      have A11 := Hid.intro (A10.out.here h11)
      have B11 := Hid.intro (B10.out.here h11)
      have J11 := Hid.intro (J10.out.here h11)
      have P11 := Hid.intro (P10.out.below h11)
      have V11 := Hid.intro (V10.out.below h11)
      have K11 := Hid.intro (k10'.out.below h11)
      have W11 := below_step W10 h11
      clear A10 B10 M10 J10 P10 U10 V10 k10' W10 h11
      go_upto_region 23 with fail
      refine reg23_walk A11 B11 J11 hJ ?_
      intro d182 d183 d184 d185 d186 d187 d188 d189 d190 d191 d192 d193 d194 d195 d196 d197 d198 d199 d200 d201 d202 d203 d204 d205 d206 d207 d208
      go_upto_region 25 with fail
      refine reg25_walk hf hX cL l2 A11 P11 V11 K11 (Nat.le_refl _) (Nat.le_of_lt (kept_lt K11.out)) ?_
      intro d210 d211 d212 d213 d214 d215 d216 d217 d218 d219 d220 d221 d222 d223 d224 d225 d226 d227 d228 d229 d230 d231 d232 d233 d234 z12 h12
      go_wp2
      go_ret
      exact ⟨rfl, W11.trans (h12.mono hKw)⟩
end Go.Proofs.Ytfaecglmpkcjlaa
