/-
  ExtentTells' walk.
-/
import Derived.Test.YtfikkbmilhcahaaTellsC
import Derived.Deep.DeepCutAuto
import Derived.Deep.CutBlock
import Derived.Deep.RegionHeld3
namespace Go.Proofs.Ytfikkbmilhcahaa
open Go.ChangeShapes Go.WideShapes Go.ChangeAt Go.RowKit
attribute [local go_sem ↓] Go.wp_at_zero Go.wp_at_succ
open Go.Proofs.Ytfikkbmilhcahaa.Bk0 (Sty)
open Go.Proofs.Ytfikkbmilhcahaa.BkJ (TA B3)

set_option maxRecDepth 100000 in
theorem tells_big {w : World} {a b : Option Addr} {n m y z : Nat} (x1 x2 x3 s1 s2 k : Int) (h : ¬ (n ≤ 80 ∧ m ≤ 80)) :
    Calls Try.prog 3 #[.slice a n y, .slice b m z, .agg #[.int .i64 x1, .int .i64 x2, .int .i64 x3], .agg #[.int .i64 s1, .int .i64 s2], .int .i64 k] w fun e w' => e = .returned (.bool true) ∧ Below w.heap.size w w' := by
  have hB0 := (t0_new w (x1, x2, x3) (s1, s2)).bel
  simp only at hB0
  by_cases h1 : n ≤ 80
  · have h1' : ¬ (80 : Int) < (n : Int) := by omega
    have h2' : (80 : Int) < (m : Int) := by omega
    clear h h1
    go_enter Try.func3, Try.ntmps3
    go_wp2_with fail
    generalize (w.alloc (.cells #[.int .i64 x1, .int .i64 x2, .int .i64 x3] 24)).alloc (.cells #[.int .i64 s1, .int .i64 s2] 26) = w1 at *
    refine (alive_any _).mono ?_; rintro e w3 ⟨rfl, hb3⟩
    go_wp2
    go_ret
    exact ⟨rfl, hB0.trans (hb3.mono hB0.size)⟩
  · have h1' : (80 : Int) < (n : Int) := by omega
    clear h h1
    go_enter Try.func3, Try.ntmps3
    go_wp2_with fail
    generalize (w.alloc (.cells #[.int .i64 x1, .int .i64 x2, .int .i64 x3] 24)).alloc (.cells #[.int .i64 s1, .int .i64 s2] 26) = w1 at *
    refine (alive_any _).mono ?_; rintro e w3 ⟨rfl, hb3⟩
    go_wp2
    go_ret
    exact ⟨rfl, hB0.trans (hb3.mono hB0.size)⟩

set_option maxRecDepth 100000 in
set_option maxHeartbeats 8000000 in
theorem tells_small {w : World} {v0 v1 : Value} {l0 l1 : List Ex} (h0 : BkE.Row w v0 l0) (h1 : BkE.Row w v1 l1) (hl : l0.length ≤ 80 ∧ l1.length ≤ 80) (x1 x2 x3 s1 s2 k : Int) (hfx : x1 ≤ 9223372036854775807) (hfs : s1 ≤ 9223372036854775807) :
    Calls Try.prog 3 #[v0, v1, .agg #[.int .i64 x1, .int .i64 x2, .int .i64 x3], .agg #[.int .i64 s1, .int .i64 s2], .int .i64 k] w fun e w' => e = .returned (.bool true) ∧ Below w.heap.size w w' := by
  obtain ⟨a0, c0, rfl⟩ := h0.slice
  obtain ⟨a1, c1, rfl⟩ := h1.slice
  have r0 := Hid.intro h0
  have r1 := Hid.intro h1
  obtain ⟨hl0, hl1⟩ := hl
  have l0' : ¬ (80 : Int) < (l0.length : Int) := by omega
  have l1' : ¬ (80 : Int) < (l1.length : Int) := by omega
  have hT := Hid.intro (t0_new w (x1, x2, x3) (s1, s2))
  clear h0 h1
  simp only at hT
  go_enter Try.func3, Try.ntmps3
  go_wp2_with fail
  generalize (w.alloc (.cells #[.int .i64 x1, .int .i64 x2, .int .i64 x3] 24)).alloc (.cells #[.int .i64 s1, .int .i64 s2] 26) = w1 at *
  refine (alive_any _).mono ?_; rintro e w2 ⟨rfl, hb⟩
  have hT2 := Hid.intro (hT.out.below hb)
  clear hb hT
  go_wp2_with fail
  refine (refOf_any (r0.out.below hT2.out.bel) (by omega)).mono ?_; rintro e w3 ⟨rfl, hb⟩
  have hT3 := Hid.intro (hT2.out.below hb)
  clear hb hT2
  go_wp2_with fail
  refine (refOf_any (r1.out.below hT3.out.bel) (by omega)).mono ?_; rintro e w4 ⟨rfl, hb⟩
  have hT4 := Hid.intro (hT3.out.below hb)
  clear hb hT3 r0 r1
  obtain ⟨mA, hmA⟩ : ∃ m, mOf l0 = m := ⟨_, rfl⟩
  obtain ⟨mB, hmB⟩ : ∃ m, mOf l1 = m := ⟨_, rfl⟩
  have sA := Hid.intro (hmA ▸ mOf_sane l0)
  have sB := Hid.intro (hmB ▸ mOf_sane l1)
  rw [hmA, hmB]
  clear hmA hmB
  obtain ⟨q1, q2, q3⟩ := t1_new (mA := mA) (mB := mB) hT4.out sA.out.1 sB.out.1
  obtain ⟨f1, f2, f3, f4, f5⟩ := iv_facts sA.out.1
  obtain ⟨g1, g2, g3, g4, g5⟩ := iv_facts sB.out.1
  rw [← f5] at q1
  rw [← g5] at q2
  have hS := Hid.intro (And.intro q1 (And.intro f4 (And.intro f3 f2)))
  have gS := Hid.intro (And.intro q2 (And.intro g4 (And.intro g3 g2)))
  have hU := Hid.intro q3
  clear q1 q2 q3 f1 f2 f3 f4 f5 g1 g2 g3 g4 g5 hT4
  go_wp2_with (first
    | (refine wpList_store_mid rfl 29 _ _ rfl w4.heap.size 0 (iv mA).toArray rfl rfl hS.out.1 hS.out.2.1 hS.out.2.2.1 ?_)
    | (refine wpList_store_mid rfl 29 _ _ rfl (w4.heap.size + 1) 0 (iv mB).toArray rfl rfl gS.out.1 gS.out.2.1 gS.out.2.2.1 ?_)
    | (refine wpList_load_mid rfl 29 _ rfl w4.heap.size 0 rfl (iv mA) _ hU.out.a.r Try.underlying29 rfl hS.out.2.2.2 ?_))
  change Calls _ _ _ ((((w4.alloc (.cells (iv (nTo 0)).toArray 29)).alloc (.cells (iv (nTo 0)).toArray 29)).setCells w4.heap.size 0 (iv mA)).setCells (w4.heap.size + 1) 0 (iv mB)) _
  generalize ((((w4.alloc (.cells (iv (nTo 0)).toArray 29)).alloc (.cells (iv (nTo 0)).toArray 29)).setCells w4.heap.size 0 (iv mA)).setCells (w4.heap.size + 1) 0 (iv mB)) = w5 at *
  refine (refExt_any mA sA.out w5).mono ?_; rintro e w6 ⟨v6, LA, rfl, o6, tA, vA, hb⟩
  have hU6 := Hid.intro (hU.out.below hb)
  have r6 := Hid.intro (BkE.own_row o6)
  have tA' := Hid.intro tA
  have vA' := Hid.intro vA
  have nA := ti_len tA
  clear hU hb o6 tA vA
  go_wp2_with fail
  refine (lent_any r6.out (by omega)).mono ?_; rintro e w7 ⟨gm, cm, rfl, hm, hb⟩
  have hU7 := Hid.intro (hU6.out.below hb)
  have hm7 := Hid.intro (hm.mono (base' := w.heap.size) hU6.out.z.bel.size)
  have gm0 := hm.ne.1
  clear hU6 hb hm r6
  go_wp2_with (refine wpList_load_mid rfl 29 _ rfl (w4.heap.size + 1) 0 rfl (iv mB) _ hU7.out.b.r Try.underlying29 rfl gS.out.2.2.2 ?_)
  refine (refExt_any mB sB.out w7).mono ?_; rintro e w8 ⟨v8, LB, rfl, o8, tB, vB, hb⟩
  have hU8 := Hid.intro (hU7.out.below hb)
  have hm8 := Hid.intro (hm7.out.below hb)
  have r8 := Hid.intro (BkE.own_row o8)
  have tB' := Hid.intro tB
  have vB' := Hid.intro vB
  have nB := ti_len tB
  have hz7 := hb.size
  clear hU7 hm7 hb o8 tB vB
  go_wp2_with fail
  refine (lent_any r8.out (by omega)).mono ?_; rintro e w9 ⟨gn, cn, rfl, hn, hb⟩
  have hU9 := Hid.intro (hU8.out.below hb)
  have hm9 := Hid.intro (hm8.out.below hb)
  have hn9 := Hid.intro (hn.mono (base' := w.heap.size) hU8.out.z.bel.size)
  have hgm := hm8.out.ne
  have hgn := hn.ne
  have gmn : gm ≠ gn := by omega
  clear hU8 hm8 hb hn r8
  have dA := Hid.intro (And.intro hU9.out.ta.lt (And.intro hU9.out.tb.lt (And.intro hU9.out.z.tx.lt hU9.out.z.ts.lt)))
  go_wp2_with fail
  refine (find_any hm9.out.row tA'.out (by omega) k).mono ?_; rintro e w10 ⟨rfl, hb⟩
  have hTS := Hid.intro (show TS w w.heap.size (w.heap.size + 1) w4.heap.size (w4.heap.size + 1) w4.heap.size gm cm gn cn (x1, x2, x3) (s1, s2) mA mB mA LA LB w10 from
    let u := hU9.out.below hb
    ⟨u.z.bx, u.z.tx, u.z.bs, u.z.ts, u.a, u.ta, u.b, u.tb, u.a, u.ta, hm9.out.below hb, hn9.out.below hb, u.z.bel⟩)
  clear hU9 hm9 hn9 hb
  go_upto_region 7 with fail
  go_cut [17, 18] (fun s17 s18 wx => s17 = .int .i64 0 ∧ s18 = .bool (decide (0 ≤ val LA k)) ∧ TS w w.heap.size (w.heap.size + 1) w4.heap.size (w4.heap.size + 1) w4.heap.size gm cm gn cn (x1, x2, x3) (s1, s2) mA mB mA LA LB wx)
  case first =>
    by_cases hk0 : 0 ≤ k
    · by_cases hk1 : k < 64
      · have c0 := imv_cell hTS.out.a.r k.toNat (by rw [sA.out.1]; omega)
        have ek : ((k.toNat : Nat) : Int) = k := by omega
        have hkn : k.toNat < 64 := by omega
        rw [ek, ← vA'.out k] at c0
        clear ek
        obtain ⟨b, hb⟩ : ∃ b, Hid (val LA k = b) := ⟨_, rfl⟩
        rw [hb.out] at c0
        by_cases hb0 : 0 ≤ b
        · have e : Hid (Value.bool true = .bool (decide (0 ≤ val LA k))) := Hid.intro (by rw [hb.out, decide_eq_true hb0])
          go_quiet (fail)
          go_wp2_with fail
          go_meet
          exact ⟨rfl, e.out, hTS.out.below (below_drwN _ _)⟩
        · have e : Hid (Value.bool false = .bool (decide (0 ≤ val LA k))) := Hid.intro (by rw [hb.out, decide_eq_false hb0])
          go_quiet (fail)
          go_wp2_with fail
          go_meet
          exact ⟨rfl, e.out, hTS.out.below (below_drwN _ _)⟩
      · have e : Hid (Value.bool false = .bool (decide (0 ≤ val LA k))) := Hid.intro (by rw [vA'.out k, mv_out sA.out.1 (by omega)]; rfl)
        go_quiet (fail)
        go_wp2_with fail
        go_meet
        exact ⟨rfl, e.out, hTS.out.below (below_drwN _ _)⟩
    · have e : Hid (Value.bool false = .bool (decide (0 ≤ val LA k))) := Hid.intro (by rw [vA'.out k, mv_out sA.out.1 (by omega)]; rfl)
      go_quiet (fail)
      go_wp2_with fail
      go_meet
      exact ⟨rfl, e.out, hTS.out.below (below_drwN _ _)⟩
  case rest =>
  obtain ⟨rfl, rfl, hTS2⟩ := hcut
  have hTS3 := Hid.intro hTS2
  clear hTS hTS2
  go_upto_if 69 with fail
  go_cut [16, 17, 18] (fun s16 s17 s18 wx => s16 = .bool (decide (0 ≤ val LA k)) ∧ s17 = .int .i64 (findV LA k) ∧ s18 = .bool (decide (0 ≤ val LA k)) ∧ TS w w.heap.size (w.heap.size + 1) w4.heap.size (w4.heap.size + 1) w4.heap.size gm cm gn cn (x1, x2, x3) (s1, s2) mA mB mA LA LB wx)
  case first =>
    by_cases hk0 : 0 ≤ val LA k
    · have hk1 : 0 ≤ k ∧ k < 64 := by
        rcases Int.lt_or_le k 0 with h | h
        · rw [vA'.out k, mv_out sA.out.1 (by omega)] at hk0; omega
        · rcases Int.lt_or_le k 64 with h2 | h2
          · exact ⟨h, h2⟩
          · rw [vA'.out k, mv_out sA.out.1 (by omega)] at hk0; omega
      obtain ⟨k1, k2⟩ := hk1
      have c0 := imv_cell hTS3.out.a.r k.toNat (by rw [sA.out.1]; omega)
      have ek : ((k.toNat : Nat) : Int) = k := by omega
      have hkn : k.toNat < 64 := by omega
      rw [ek, ← vA'.out k] at c0
      have e : Hid (Value.int .i64 (val LA k) = .int .i64 (findV LA k)) := Hid.intro (by unfold findV; rw [if_pos hk0])
      have eb : Hid (Value.bool true = .bool (decide (0 ≤ val LA k))) := Hid.intro (by rw [decide_eq_true hk0])
      rw [decide_eq_true hk0]
      clear ek hk0
      go_wp2_with fail
      go_meet
      exact ⟨eb.out, e.out, eb.out, hTS3.out⟩
    · have e : Hid (Value.int .i64 0 = .int .i64 (findV LA k)) := Hid.intro (by unfold findV; rw [if_neg hk0])
      have eb : Hid (Value.bool false = .bool (decide (0 ≤ val LA k))) := Hid.intro (by rw [decide_eq_false hk0])
      rw [decide_eq_false hk0]
      clear hk0
      go_wp2_with fail
      go_meet
      exact ⟨eb.out, e.out, eb.out, hTS3.out⟩
  case rest =>
  obtain ⟨rfl, rfl, rfl, hTS2⟩ := hcut
  have hTS := Hid.intro hTS2
  clear hTS3 hTS2
  obtain ⟨q1, q2⟩ := ts_c hTS.out sA.out.1
  have hCC := hTS.out.cs ⟨Nat.le_refl _, by omega⟩
  have f1 := (iv_facts sA.out.1).2.2.2.2
  rw [← f1] at q1
  have hS2 := Hid.intro (And.intro q1 hS.out.2)
  have hTC := Hid.intro q2
  clear q1 q2 f1
  go_upto_block 0 with (first
    | (refine wpList_load_mid rfl 29 _ rfl w4.heap.size 0 rfl (iv mA) _ hTS.out.a.r Try.underlying29 rfl hS.out.2.2.2 ?_)
    | (refine wpList_store_mid rfl 29 _ _ rfl wc.heap.size 0 (iv mA).toArray rfl rfl hS2.out.1 hS.out.2.1 hS.out.2.2.1 ?_))
  generalize wc.heap.size = C at *
  go_cut [20] (fun _ wx => TS w w.heap.size (w.heap.size + 1) w4.heap.size (w4.heap.size + 1) C gm cm gn cn (x1, x2, x3) (s1, s2) mA mB  (mCut mA (s1, s2)) LA LB wx)
  case first =>
    by_cases hs : Wh (s1, s2)
    · have hmc : Hid (mCut mA (s1, s2) = cTo mA s1.toNat s2.toNat) := Hid.intro (by unfold mCut; rw [if_pos hs])
      have ws := hs
      unfold Wh at ws
      simp only at ws
      obtain ⟨p1, p2, p3⟩ : 0 ≤ s1 ∧ 1 ≤ s2 ∧ s2 ≤ 64 - s1 := by omega
      clear ws hs hTS
      go_wp2_with fail
      go_loopw [20] (fun jv wr => ∃ j : Nat, j ≤ s2.toNat ∧ jv = .int .i64 j ∧ TS w w.heap.size (w.heap.size + 1) w4.heap.size (w4.heap.size + 1) C gm cm gn cn (x1, x2, x3) (s1, s2) mA mB  (cTo mA s1.toNat j) LA LB wr) (fun jv _ => s2.toNat - (intOf jv).toNat)
      case atStart => exact ⟨0, Nat.zero_le _, rfl, hTC.out⟩
      case round =>
        clear hTC
        obtain ⟨j, hj, rfl, hT0⟩ := hrel
        have hTj := Hid.intro hT0
        clear hT0
        have j0 : (0 : Int) ≤ (j : Int) := Int.natCast_nonneg _
        have j64 : (j : Int) ≤ 64 := by omega
        obtain ⟨b0, b1, _⟩ := hTj.out.bs
        by_cases hlt : (j : Int) < s2
        · go_wp2_with fail
          refine (refWhole_yes s1 s2 _ ⟨p1, p2, p3⟩).mono ?_; rintro e w11 ⟨rfl, hb⟩
          have hTk := Hid.intro (hTj.out.below hb)
          clear hTj hb b0 b1
          obtain ⟨b0, b1, _⟩ := hTk.out.bs
          simp only at b0 b1
          have hix : (s1 + (j : Int)).toNat = s1.toNat + j := by omega
          have hi1 : s1 + (j : Int) < 64 := by omega
          have hi0 : 0 ≤ s1 + (j : Int) := by omega
          have hjn : s1.toNat + j < 64 := by omega
          obtain ⟨vq, hvq, hfz⟩ := there_at hTk.out.c.t hjn
          go_wp2
          go_roundw
          case rel => exact ⟨j + 1, by omega, by go_num, hTk.out.cut hCC (by rw [cTo_length]; exact sA.out.1) (s1.toNat + j) hjn (-1)⟩
          case measure => simp [intOf]; omega
        · go_wp2_with fail
          refine (refWhole_yes s1 s2 _ ⟨p1, p2, p3⟩).mono ?_; rintro e w11 ⟨rfl, hb⟩
          have hTk := Hid.intro (hTj.out.below hb)
          clear hTj hb b0 b1
          obtain ⟨b0, b1, _⟩ := hTk.out.bs
          simp only at b0 b1
          have hje : Hid (cTo mA s1.toNat j = mCut mA (s1, s2)) := Hid.intro (by rw [hmc.out, show j = s2.toNat by omega])
          go_wp2_with fail
          go_meet
          exact hje.out ▸ hTk.out
    · have hmc : Hid (mCut mA (s1, s2) = mA) := Hid.intro (by unfold mCut; rw [if_neg hs])
      have hno : Hid (¬ (0 ≤ s1 ∧ 1 ≤ s2 ∧ s2 ≤ 64 - s1)) := Hid.intro (fun h => hs (by unfold Wh; simp only; omega))
      clear hs hTS
      go_wp2_with fail
      go_loopw [20] (fun jv wr => jv = .int .i64 0 ∧ TS w w.heap.size (w.heap.size + 1) w4.heap.size (w4.heap.size + 1) C gm cm gn cn (x1, x2, x3) (s1, s2) mA mB  mA LA LB wr) (fun _ _ => 0)
      case atStart => exact ⟨rfl, hTC.out⟩
      case round =>
        clear hTC
        obtain ⟨rfl, hT0⟩ := hrel
        have hTj := Hid.intro hT0
        clear hT0
        obtain ⟨b0, b1, _⟩ := hTj.out.bs
        simp only at b0 b1
        go_wp2_with fail
        refine (refWhole_no s1 s2 _ hno.out).mono ?_; rintro e w11 ⟨rfl, hb⟩
        have hTk := Hid.intro (hTj.out.below hb)
        clear hTj hb b0 b1
        go_wp2_with fail
        go_meet
        rw [hmc.out]; exact hTk.out
  case rest =>
  have hTD := Hid.intro hcut
  clear hcut hTC hTS
  have hmC := Hid.intro (mCut_sane sA.out (s1, s2))
  generalize hmc : mCut mA (s1, s2) = mC at *
  have hmcE := Hid.intro hmc
  clear hmc hS2
  have hmF := Hid.intro (iv_facts hmC.out.1).2.1
  have hT0 := Hid.intro (hTD.out.below (alc_below (.cells #[.slice none 0 0, .slice none 0 0, .slice none 0 0, .slice none 0 0, .slice none 0 0, .slice none 0 0, .slice none 0 0, .slice none 0 0, .slice none 0 0, .slice none 0 0, .slice none 0 0, .slice none 0 0, .slice none 0 0, .slice none 0 0] 45)))
  have hB0 := Hid.intro (BkJ.b3_new (K := wc.heap.size) (base := w.heap.size) (heap_alloc_new wc (.cells #[.slice none 0 0, .slice none 0 0, .slice none 0 0, .slice none 0 0, .slice none 0 0, .slice none 0 0, .slice none 0 0, .slice none 0 0, .slice none 0 0, .slice none 0 0, .slice none 0 0, .slice none 0 0, .slice none 0 0, .slice none 0 0] 45)))
  have hbK := hTD.out.bel.size
  clear hTD
  go_upto_block 2 with fail
  go_wp2_with fail
  generalize wc.heap.size = K at *
  go_loopw [22] (fun jv wr => ∃ (i : Nat) (ei : List BkI.Ent) (es : List BkS.Ent) (ee : List BkE.Ent), i ≤ 2 ∧ jv = .int .i64 i ∧ TS w w.heap.size (w.heap.size + 1) w4.heap.size (w4.heap.size + 1) C gm cm gn cn (x1, x2, x3) (s1, s2) mA mB mC LA LB wr ∧ B3 wr K w.heap.size ei es ee ∧ (Old wr.heap.size ei ∧ Old wr.heap.size es ∧ Old wr.heap.size ee) ∧ (BkI.Short ei ∧ BkS.Short es ∧ BkE.Short ee) ∧ ei.length ≤ i ∧ es.length ≤ i ∧ ee.length ≤ 3 * i) (fun jv _ => 2 - (intOf jv).toNat)
  case atStart => exact ⟨0, [], [], [], Nat.zero_le _, rfl, hT0.out, hB0.out, ⟨Old.nil _, Old.nil _, Old.nil _⟩, ⟨fun e he => by simp at he, fun e he => by simp at he, fun e he => by simp at he⟩, Nat.zero_le _, Nat.zero_le _, Nat.zero_le _⟩
  case round =>
    clear hT0 hB0
    obtain ⟨i, ei, es, ee, hi, rfl, hT0, hB0, hO0, hS0, ni, ns, ne⟩ := hrel
    have hT := Hid.intro hT0
    have hB := Hid.intro hB0
    have hO := Hid.intro hO0
    have hSh := Hid.intro hS0
    clear hT0 hB0 hO0 hS0
    have i0 : (0 : Int) ≤ (i : Int) := Int.natCast_nonneg _
    by_cases hlt : i < 2
    · have i1 : (i : Int) < 2 := by omega
      obtain ⟨a0, a1, a2, _⟩ := hT.out.bx
      obtain ⟨b0, b1, _⟩ := hT.out.bs
      simp only at a0 a1 a2 b0 b1
      have hcs := Hid.intro (And.intro a0 (And.intro a1 (And.intro a2 (And.intro b0 b1))))
      have hRm := Hid.intro (fun W (hb : Below wr.heap.size wr W) => (hT.out.below hb).m.row)
      have hRn := Hid.intro (fun W (hb : Below wr.heap.size wr W) => (hT.out.below hb).n.row)
      have hzl := hT.out.tx.lt
      have hH2 := hT.out.ts.lt
      clear a0 a1 a2 b0 b1
      go_upto_region 19 with fail
      go_region_held3 (fun w' => w'.cell? ⟨w.heap.size, 0, none⟩ = some (.int .i64 x1) ∧ w'.cell? ⟨w.heap.size, 1, none⟩ = some (.int .i64 x2) ∧ w'.cell? ⟨w.heap.size, 2, none⟩ = some (.int .i64 x3) ∧ w'.cell? ⟨w.heap.size + 1, 0, none⟩ = some (.int .i64 s1) ∧ w'.cell? ⟨w.heap.size + 1, 1, none⟩ = some (.int .i64 s2) ∧ Below wr.heap.size wr w')
        (first
          | exact keep32 hzl hH2 hcs.out (below_step (below_step (below_step (below_step (below_drew hb1) hb2) hb3) hb4) hb5)
          | exact keep32 hzl hH2 hcs.out (below_step (below_step (below_step (below_drew hb1) hb2) hb3) hb4)
          | exact keep32 hzl hH2 hcs.out (below_step (below_step (below_drew hb1) hb2) hb3)
          | exact keep32 hzl hH2 hcs.out (below_step (below_drew hb1) hb2)
          | exact keep32 hzl hH2 hcs.out (below_drew hb1)
          | exact keep32 hzl hH2 hcs.out below_drw)
        (first
          | (go_at_call 14; refine (set_any (hRm.out _ below_drw) tA'.out (x1, x2, x3) hfx).mono ?_; rintro e y1 ⟨vu, rfl, hu, hb1⟩)
          | (go_at_call 15; refine (cut_row (hRm.out _ (below_drew hb1)) tA'.out (by omega) (s1, s2) hfs).mono ?_; rintro e y2 ⟨vv, rfl, hv, hb2⟩)
          | (go_at_call 16; refine (over_tidy (hRm.out _ (below_step (below_drew hb1) hb2)) (hRn.out _ (below_step (below_drew hb1) hb2)) tA'.out tB'.out).mono ?_; rintro e y3 ⟨vw, rfl, hw, hb3⟩)
          | (go_at_call 17; refine (spans_row (hRm.out _ (below_step (below_step (below_drew hb1) hb2) hb3)) tA'.out).mono ?_; rintro e y4 ⟨vy, ps, rfl, hy, hcan0, hin0, hb4⟩; have hcan := Hid.intro hcan0; have hin := Hid.intro hin0; clear hcan0 hin0)
          | (go_at_call 18; refine (ids_row (hRm.out _ (below_step (below_step (below_step (below_drew hb1) hb2) hb3) hb4)) tA'.out).mono ?_; rintro e y5 ⟨vz, rfl, hz, hb5⟩))
      all_goals
        obtain ⟨hF0, hM0⟩ := five_made (base := w.heap.size) hT.out.bel.size (below_drew hb1) hb2 hb3 hb4 hb5 hu hv hw hy hz
        have hbb : Below wr.heap.size wr y5 := below_step (below_step (below_step (below_step (below_drew hb1) hb2) hb3) hb4) hb5
        have hT2 := Hid.intro (hT.out.below hbb)
        have hB2 := Hid.intro (hB.out.below hbb)
        have hF := Hid.intro hF0
        have hM := Hid.intro hM0
        have lU := ti_len (setL_spec (x := (x1, x2, x3)) tA'.out).1
        have lV := ti_len (cutL_spec (s1, s2) LA e0 tA'.out).1
        have lW := ti_len (overL_spec tA'.out tB'.out).1
        have lP := canon_64 hcan.out
        have hid := Hid.intro (ids_both sA.out tA'.out vA'.out)
        have lZ : (idsL LA).length ≤ 64 := by rw [hid.out]; exact idsM_len _ _
        have hsb := Hid.intro (bits_said (mA := mA) vA'.out hin.out)
        clear hF0 hM0 hbb hb1 hb2 hb3 hb4 hb5 hu hv hw hy hz hT hB hRm hRn hcs hin hzl hH2
        obtain ⟨U, hU⟩ : ∃ U, setL LA (x1, x2, x3) = U := ⟨_, rfl⟩
        obtain ⟨V, hV⟩ : ∃ V, cutL LA (s1, s2) = V := ⟨_, rfl⟩
        obtain ⟨W, hW⟩ : ∃ W, overL LA LB = W := ⟨_, rfl⟩
        obtain ⟨Z, hZ⟩ : ∃ Z, idsL LA = Z := ⟨_, rfl⟩
        rw [hU, hV, hW, hZ] at hF
        rw [hU] at lU
        rw [hV] at lV
        rw [hW] at lW
        rw [hZ] at lZ hid
        have hU' := Hid.intro hU
        have hV' := Hid.intro hV
        have hW' := Hid.intro hW
        clear hU hV hW hZ
        go_wp2_with fail
        refine (BkJ.b3_addE hB2.out hF.out.u (Old.fresh hO.out.2.2 (fun b hb => (hM.out.u b hb).1)) (by first | omega | (simp; omega)) (by omega) hbK).mono ?_; rintro e z1 ⟨rfl, hb1, hs1, hw1⟩
        have hB3 := Hid.intro hb1
        have hT3 := Hid.intro (hT2.out.sty hs1 (hT2.out.bel.trans hw1))
        have hF3 := Hid.intro (hF.out.sty hs1)
        have hz1 := hs1.size
        have oe1 := Hid.intro (Old.app (x := U) hO.out.2.2 hM.out.le.1 (fun b hb => (hM.out.u b hb).2))
        clear hb1 hs1 hw1 hT2 hB2 hF
        go_wp2_with fail
        refine (BkJ.b3_addE hB3.out hF3.out.v (Old.fresh oe1.out (fun b hb => (hM.out.v b hb).1)) (by first | omega | (simp; omega)) (by omega) hbK).mono ?_; rintro e z2 ⟨rfl, hb1, hs1, hw1⟩
        have hB4 := Hid.intro hb1
        have hT4 := Hid.intro (hT3.out.sty hs1 (hT3.out.bel.trans hw1))
        have hF4 := Hid.intro (hF3.out.sty hs1)
        have hz2 := hs1.size
        have oe2 := Hid.intro (Old.app (x := V) oe1.out hM.out.le.2.1 (fun b hb => (hM.out.v b hb).2))
        clear hb1 hs1 hw1 hT3 hB3 hF3
        go_wp2_with fail
        refine (BkJ.b3_addE hB4.out hF4.out.ww (Old.fresh oe2.out (fun b hb => (hM.out.w b hb).1)) (by first | omega | (simp; omega)) (by omega) hbK).mono ?_; rintro e z3 ⟨rfl, hb1, hs1, hw1⟩
        have hB5 := Hid.intro hb1
        have hT5 := Hid.intro (hT4.out.sty hs1 (hT4.out.bel.trans hw1))
        have hF5 := Hid.intro (hF4.out.sty hs1)
        have hz3 := hs1.size
        have oe3 := Hid.intro (Old.app (x := W) oe2.out hM.out.le.2.2.1 (fun b hb => (hM.out.w b hb).2))
        clear hb1 hs1 hw1 hT4 hB4 hF4
        go_wp2_with fail
        refine (BkJ.b3_addS hB5.out hF5.out.y (Old.fresh hO.out.2.1 (fun b hb => (by have := (hM.out.y b hb).1; have := hM.out.le; omega))) (by omega) (by omega) hbK).mono ?_; rintro e z4 ⟨rfl, hb1, hs1, hw1⟩
        have hB6 := Hid.intro hb1
        have hT6 := Hid.intro (hT5.out.sty hs1 (hT5.out.bel.trans hw1))
        have hF6 := Hid.intro (hF5.out.sty hs1)
        have hz4 := hs1.size
        clear hb1 hs1 hw1 hT5 hB5 hF5
        go_wp2_with fail
        refine (BkJ.b3_addI hB6.out hF6.out.z (Old.fresh hO.out.1 (fun b hb => (by have := (hM.out.z b hb).1; have := hM.out.le; omega))) (by omega) (by omega) hbK).mono ?_; rintro e z5 ⟨rfl, hb1, hs1, hw1⟩
        have hB7 := Hid.intro hb1
        have hT7 := Hid.intro (hT6.out.sty hs1 (hT6.out.bel.trans hw1))
        have hF7 := Hid.intro (hF6.out.sty hs1)
        have hz5 := hs1.size
        clear hb1 hs1 hw1 hT6 hB6 hF6
        obtain ⟨a0, a1, a2, _⟩ := hT7.out.bx
        simp only at a0 a1 a2
        go_wp2_with (first | (refine wpList_load_mid_g (by rfl) 29 _ rfl w4.heap.size 0 rfl (iv mA) _ hT7.out.a.r Try.underlying29 rfl hS.out.2.2.2 ?_))
        refine (refMSet_any mA sA.out.1 (x1, x2, x3) _).mono ?_; rintro e p1 ⟨rfl, hb⟩
        clear a0 a1 a2
        have hT8 := Hid.intro (hT7.out.below hb)
        have hF8 := Hid.intro (hF7.out.below hb)
        have hB8 := Hid.intro (hB7.out.below hb)
        have hz8 := hb.size
        clear hT7 hF7 hB7 hb
        go_wp2_with fail
        refine (refExt_any (mSet mA (x1, x2, x3)) (mSet_sane sA.out (x1, x2, x3)) _).mono ?_; rintro e p2 ⟨vl, L, rfl, ol, tl, vl', hb⟩
        have hLU : L = U := (ext_set sA.out tA'.out vA'.out tl vl').trans hU'.out
        clear vl' tl
        rw [hLU] at ol
        have rl := Hid.intro (BkE.own_row ol)
        clear ol hLU
        have hT9 := Hid.intro (hT8.out.below hb)
        have hF9 := Hid.intro (hF8.out.below hb)
        have hB9 := Hid.intro (hB8.out.below hb)
        have hz9 := hb.size
        clear hT8 hF8 hB8 hb
        go_wp2_with fail
        refine (BkE.same_rows (BkE.own_row hF9.out.u) rl.out (by omega)).mono ?_; rintro e p3 ⟨rfl, hb⟩
        clear rl
        have hT10 := Hid.intro (hT9.out.below hb)
        have hF10 := Hid.intro (hF9.out.below hb)
        have hB10 := Hid.intro (hB9.out.below hb)
        have hz10 := hb.size
        clear hT9 hF9 hB9 hb
        go_wp2_with (first | (refine wpList_load_mid_g (by rfl) 29 _ rfl C 0 rfl (iv mC) _ hT10.out.c.r Try.underlying29 rfl hmF.out ?_))
        refine (refExt_any mC hmC.out _).mono ?_; rintro e p4 ⟨vl, L, rfl, ol, tl, vl', hb⟩
        have hLU : L = V := (ext_cut sA.out tA'.out vA'.out tl (fun k => by rw [hmcE.out]; exact vl' k)).trans hV'.out
        clear vl' tl
        rw [hLU] at ol
        have rl := Hid.intro (BkE.own_row ol)
        clear ol hLU
        have hT11 := Hid.intro (hT10.out.below hb)
        have hF11 := Hid.intro (hF10.out.below hb)
        have hB11 := Hid.intro (hB10.out.below hb)
        have hz11 := hb.size
        clear hT10 hF10 hB10 hb
        go_wp2_with fail
        refine (BkE.same_rows (BkE.own_row hF11.out.v) rl.out (by omega)).mono ?_; rintro e p5 ⟨rfl, hb⟩
        clear rl
        have hT12 := Hid.intro (hT11.out.below hb)
        have hF12 := Hid.intro (hF11.out.below hb)
        have hB12 := Hid.intro (hB11.out.below hb)
        have hz12 := hb.size
        clear hT11 hF11 hB11 hb
        go_wp2_with (first | (first | (refine wpList_load_mid_g (by rfl) 29 _ rfl w4.heap.size 0 rfl (iv mA) _ hT12.out.a.r Try.underlying29 rfl hS.out.2.2.2 ?_)) | (first | (refine wpList_load_mid_g (by rfl) 29 _ rfl (w4.heap.size + 1) 0 rfl (iv mB) _ hT12.out.b.r Try.underlying29 rfl gS.out.2.2.2 ?_)))
        refine (refOver_any mA mB sA.out.1 sB.out.1 _).mono ?_; rintro e p6 ⟨rfl, hb⟩
        have hT13 := Hid.intro (hT12.out.below hb)
        have hF13 := Hid.intro (hF12.out.below hb)
        have hB13 := Hid.intro (hB12.out.below hb)
        have hz13 := hb.size
        clear hT12 hF12 hB12 hb
        go_wp2_with fail
        refine (refExt_any (mOver mA mB) (mOver_sane sA.out sB.out) _).mono ?_; rintro e p7 ⟨vl, L, rfl, ol, tl, vl', hb⟩
        have hLU : L = W := (ext_over sA.out sB.out tA'.out vA'.out tB'.out vB'.out tl vl').trans hW'.out
        clear vl' tl
        rw [hLU] at ol
        have rl := Hid.intro (BkE.own_row ol)
        clear ol hLU
        have hT14 := Hid.intro (hT13.out.below hb)
        have hF14 := Hid.intro (hF13.out.below hb)
        have hB14 := Hid.intro (hB13.out.below hb)
        have hz14 := hb.size
        clear hT13 hF13 hB13 hb
        go_wp2_with fail
        refine (BkE.same_rows (BkE.own_row hF14.out.ww) rl.out (by omega)).mono ?_; rintro e p8 ⟨rfl, hb⟩
        clear rl
        have hT15 := Hid.intro (hT14.out.below hb)
        have hF15 := Hid.intro (hF14.out.below hb)
        have hB15 := Hid.intro (hB14.out.below hb)
        have hz15 := hb.size
        clear hT14 hF14 hB14 hb
        go_wp2_with (first | (refine wpList_load_mid_g (by rfl) 29 _ rfl w4.heap.size 0 rfl (iv mA) _ hT15.out.a.r Try.underlying29 rfl hS.out.2.2.2 ?_))
        refine (refSaid_any mA sA.out.1 _).mono ?_; rintro e p9 ⟨rfl, hb⟩
        have hT16 := Hid.intro (hT15.out.below hb)
        have hF16 := Hid.intro (hF15.out.below hb)
        have hB16 := Hid.intro (hB15.out.below hb)
        have hz16 := hb.size
        clear hT15 hF15 hB15 hb
        rw [hsb.out]
        go_wp2_with fail
        refine (refSpans_any ps _ hcan).mono ?_; rintro e p10 ⟨vl, rfl, ol, hb⟩
        rw [← spansV_items] at ol
        have rl := Hid.intro (BkS.own_row ol)
        clear ol
        have hT17 := Hid.intro (hT16.out.below hb)
        have hF17 := Hid.intro (hF16.out.below hb)
        have hB17 := Hid.intro (hB16.out.below hb)
        have hz17 := hb.size
        clear hT16 hF16 hB16 hb
        go_wp2_with fail
        refine (BkS.same_rows (BkS.own_row hF17.out.y) rl.out (by omega)).mono ?_; rintro e p11 ⟨rfl, hb⟩
        clear rl
        have hT18 := Hid.intro (hT17.out.below hb)
        have hF18 := Hid.intro (hF17.out.below hb)
        have hB18 := Hid.intro (hB17.out.below hb)
        have hz18 := hb.size
        clear hT17 hF17 hB17 hb
        go_wp2_with (first | (refine wpList_load_mid_g (by rfl) 29 _ rfl w4.heap.size 0 rfl (iv mA) _ hT18.out.a.r Try.underlying29 rfl hS.out.2.2.2 ?_))
        refine (refIds_any mA sA.out.1 _).mono ?_; rintro e p12 ⟨vl, rfl, ol, hb⟩
        rw [← hid.out] at ol
        have rl := Hid.intro (BkI.own_row ol)
        clear ol
        have hT19 := Hid.intro (hT18.out.below hb)
        have hF19 := Hid.intro (hF18.out.below hb)
        have hB19 := Hid.intro (hB18.out.below hb)
        have hz19 := hb.size
        clear hT18 hF18 hB18 hb
        go_wp2_with fail
        refine (BkI.same_rows (BkI.own_row hF19.out.z) rl.out (by omega)).mono ?_; rintro e p13 ⟨rfl, hb⟩
        clear rl
        have hT20 := Hid.intro (hT19.out.below hb)
        have hF20 := Hid.intro (hF19.out.below hb)
        have hB20 := Hid.intro (hB19.out.below hb)
        have hz20 := hb.size
        clear hT19 hF19 hB19 hb
        have hsz : y5.heap.size ≤ p13.heap.size := by omega
        have hle := hM.out.le
        have hoe := Hid.intro (oe3.out.mono (N := _) (M := p13.heap.size) (by omega))
        have hos := Hid.intro (Old.app (M := p13.heap.size) (x := ps) hO.out.2.1 (by omega) (fun b hb => by have := (hM.out.y b hb).2; omega))
        have hoi := Hid.intro (Old.app (M := p13.heap.size) (x := Z) hO.out.1 (by omega) (fun b hb => by have := (hM.out.z b hb).2; omega))
        have hse : Hid (BkE.Short (((ee ++ [(vu, U)]) ++ [(vv, V)]) ++ [(vw, W)])) := Hid.intro (short_app (short_app (short_app hSh.out.2.2 (by omega)) (by omega)) (by omega))
        have hss : Hid (BkS.Short (es ++ [(vy, ps)])) := Hid.intro (short_app hSh.out.2.1 (by omega))
        have hsi : Hid (BkI.Short (ei ++ [(vz, Z)])) := Hid.intro (short_app hSh.out.1 (by omega))
        go_wp2
        go_roundw
        case rel => exact ⟨i + 1, _, _, _, by omega, by go_num, hT20.out, hB20.out, ⟨hoi.out, hos.out, hoe.out⟩, ⟨hsi.out, hss.out, hse.out⟩, by simp; omega, by simp; omega, by simp; omega⟩
        case measure => simp [intOf]; omega
    · have hi2 : i = 2 := by omega
      subst hi2
      go_wp2_with (first | (refine wpList_load_mid_g (by rfl) 29 _ rfl w4.heap.size 0 rfl (iv mA) _ hT.out.a.r Try.underlying29 rfl hS.out.2.2.2 ?_))
      refine (refExt_any mA sA.out _).mono ?_; rintro e q1 ⟨vl, L, rfl, ol, tl, vl', hb⟩
      have hLU : L = LA := ext_self tA'.out vA'.out tl vl'
      clear vl' tl
      rw [hLU] at ol
      have rl := Hid.intro (BkE.own_row ol)
      clear ol hLU
      have hT1 := Hid.intro (hT.out.below hb)
      have hB1 := Hid.intro (hB.out.below hb)
      clear hT hB hb
      go_wp2_with fail
      refine (stays_any hT1.out.m rl.out (by omega)).mono ?_; rintro e q2 ⟨rfl, hb⟩
      have hT2 := Hid.intro (hT1.out.below hb)
      have hB2 := Hid.intro (hB1.out.below hb)
      clear hT1 hB1 hb rl
      go_wp2_with (first | (refine wpList_load_mid_g (by rfl) 29 _ rfl (w4.heap.size + 1) 0 rfl (iv mB) _ hT2.out.b.r Try.underlying29 rfl gS.out.2.2.2 ?_))
      refine (refExt_any mB sB.out _).mono ?_; rintro e q3 ⟨vl, L, rfl, ol, tl, vl', hb⟩
      have hLU : L = LB := ext_self tB'.out vB'.out tl vl'
      clear vl' tl
      rw [hLU] at ol
      have rl := Hid.intro (BkE.own_row ol)
      clear ol hLU
      have hT3 := Hid.intro (hT2.out.below hb)
      have hB3 := Hid.intro (hB2.out.below hb)
      clear hT2 hB2 hb
      go_wp2_with fail
      refine (stays_any hT3.out.n rl.out (by omega)).mono ?_; rintro e q4 ⟨rfl, hb⟩
      have hT4 := Hid.intro (hT3.out.below hb)
      have hB4 := Hid.intro (hB3.out.below hb)
      clear hT3 hB3 hb rl
      go_wp2_with fail
      refine (BkJ.b3_apart hB4.out (by omega) hSh.out.1 (by omega) hSh.out.2.1 (by omega) hSh.out.2.2 hbK).mono ?_; rintro e q5 ⟨rfl, hb⟩
      have hEnd := Hid.intro (hT4.out.bel.trans hb)
      clear hT4 hB4 hb
      go_wp2
      go_ret
      exact ⟨rfl, hEnd.out⟩

theorem tells_any {w : World} {v0 v1 : Value} {l0 l1 : List Ex} (h0 : BkE.Row w v0 l0) (h1 : BkE.Row w v1 l1) (x : Ex) (hx : x.1 ≤ 9223372036854775807) (s : Sp) (hs : s.1 ≤ 9223372036854775807) (k : Int) :
    Calls Try.prog 3 #[v0, v1, .agg #[.int .i64 x.1, .int .i64 x.2.1, .int .i64 x.2.2], .agg #[.int .i64 s.1, .int .i64 s.2], .int .i64 k] w fun e w' => e = .returned (.bool true) ∧ Below w.heap.size w w' := by
  by_cases hl : l0.length ≤ 80 ∧ l1.length ≤ 80
  · exact tells_small h0 h1 hl x.1 x.2.1 x.2.2 s.1 s.2 k hx hs
  · obtain ⟨a0, c0, rfl⟩ := h0.slice
    obtain ⟨a1, c1, rfl⟩ := h1.slice
    exact tells_big _ _ _ _ _ _ hl

end Go.Proofs.Ytfikkbmilhcahaa
