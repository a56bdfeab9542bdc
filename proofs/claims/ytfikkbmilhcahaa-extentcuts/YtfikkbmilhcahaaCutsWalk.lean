/-
  ExtentCuts' walk: what is cut out and laid on again is as it was.
-/
import Derived.Test.YtfikkbmilhcahaaSetsWalk
import Derived.Test.YtfikkbmilhcahaaEOver
import Derived.Test.YtfikkbmilhcahaaBkELists
import Derived.Lib.MinMax
namespace Go.Proofs.Ytfikkbmilhcahaa
open Go.ChangeShapes Go.WideShapes Go.ChangeAt Go.RowKit
attribute [local go_sem ↓] Go.wp_at_zero Go.wp_at_succ

/-- What of L lies within a span: cut from both sides. -/
def part1 (L : List Ex) (f : Int) : List Ex := if 0 < f then cutL L (0, f) else L
def partL (L : List Ex) (f n : Int) : List Ex := if f + n < 64 then cutL (part1 L f) (f + n, 64 - f - n) else part1 L f
theorem part1_ti {L : List Ex} (h : Ti L) (f : Int) : Ti (part1 L f) := by unfold part1; split; exact cut_ti h _; exact h
theorem part_spec {L : List Ex} (h : Ti L) {f n : Int} (h1 : 0 ≤ f) (h2 : 1 ≤ n) (h3 : n ≤ 64 - f) : Ti (partL L f n) ∧ ∀ k, val (partL L f n) k = if f ≤ k ∧ k < f + n then val L k else -1 := by
  have hp1 := part1_ti h f
  have hv1 : ∀ k, val (part1 L f) k = if f ≤ k then val L k else -1 := fun k => by
    unfold part1
    by_cases hf : 0 < f
    · rw [if_pos hf, cut_val h]
      unfold cutF
      by_cases hk : f ≤ k
      · rw [if_pos hk, if_neg fun g => by have := g.2.2; simp only at this; omega]
      · rw [if_neg hk]
        by_cases h0 : 0 ≤ k
        · rw [if_pos ⟨⟨Int.le_refl _, by simp only; omega, by simp only; omega⟩, h0, by simp only; omega⟩]
        · have : val L k = -1 := by
            rcases tp_val h k with g | g
            · exact g
            · have := tp_64 h k (by omega); omega
          rw [this]; split <;> rfl
    · rw [if_neg hf]
      by_cases hk : f ≤ k
      · rw [if_pos hk]
      · rw [if_neg hk]
        rcases tp_val h k with g | g
        · exact g
        · have := tp_64 h k (by omega); omega
  unfold partL
  by_cases he : f + n < 64
  · rw [if_pos he]
    refine ⟨cut_ti hp1 _, fun k => ?_⟩
    rw [cut_val hp1]
    unfold cutF
    by_cases hk : f ≤ k ∧ k < f + n
    · rw [if_pos hk, if_neg fun g => by have := g.2.1; simp only at this; omega, hv1, if_pos hk.1]
    · rw [if_neg hk]
      by_cases hk2 : f + n ≤ k ∧ k < 64
      · rw [if_pos ⟨⟨by simp only; omega, by simp only; omega, by simp only; omega⟩, hk2.1, by simp only; omega⟩]
      · rw [if_neg fun g => hk2 ⟨g.2.1, by have := g.2.2; simp only at this; omega⟩, hv1]
        by_cases hk3 : f ≤ k
        · rw [if_pos hk3]
          rcases tp_val h k with g | g
          · exact g
          · have := tp_64 h k (by omega); omega
        · rw [if_neg hk3]
  · rw [if_neg he]
    refine ⟨hp1, fun k => ?_⟩
    rw [hv1]
    by_cases hk : f ≤ k ∧ k < f + n
    · rw [if_pos hk, if_pos hk.1]
    · rw [if_neg hk]
      by_cases hk3 : f ≤ k
      · rw [if_pos hk3]
        rcases tp_val h k with g | g
        · exact g
        · have := tp_64 h k (by omega); omega
      · rw [if_neg hk3]
theorem cuts_val {L : List Ex} (h : Ti L) {f n : Int} (h1 : 0 ≤ f) (h2 : 1 ≤ n) (h3 : n ≤ 64 - f) (k : Int) : val (cutL L (f, n)) k = if f ≤ k ∧ k < f + n then -1 else val L k := by
  rw [cut_val h]
  unfold cutF
  by_cases hk : f ≤ k ∧ k < f + n
  · rw [if_pos hk, if_pos ⟨⟨h1, h2, h3⟩, hk⟩]
  · rw [if_neg hk, if_neg fun g => hk g.2]
theorem part_over1 {L : List Ex} (h : Ti L) {f n : Int} (h1 : 0 ≤ f) (h2 : 1 ≤ n) (h3 : n ≤ 64 - f) : overL (cutL L (f, n)) (partL L f n) = L := by
  obtain ⟨a, b⟩ := part_spec h h1 h2 h3
  refine ti_ext (overL_spec (cut_ti h _) a).1 h fun k => ?_
  rw [(overL_spec (cut_ti h _) a).2]
  unfold overF
  rw [b, cuts_val h h1 h2 h3]
  by_cases hk : f ≤ k ∧ k < f + n
  · rw [if_pos hk, if_pos hk]
    rcases tp_val h k with g | g
    · rw [g]; rfl
    · rw [if_pos g.1]
  · rw [if_neg hk, if_neg hk]; rfl
theorem part_over2 {L : List Ex} (h : Ti L) {f n : Int} (h1 : 0 ≤ f) (h2 : 1 ≤ n) (h3 : n ≤ 64 - f) : overL (partL L f n) (cutL L (f, n)) = L := by
  obtain ⟨a, b⟩ := part_spec h h1 h2 h3
  refine ti_ext (overL_spec a (cut_ti h _)).1 h fun k => ?_
  rw [(overL_spec a (cut_ti h _)).2]
  unfold overF
  rw [b, cuts_val h h1 h2 h3]
  by_cases hk : f ≤ k ∧ k < f + n
  · rw [if_pos hk, if_pos hk]; rfl
  · rw [if_neg hk, if_neg hk]
    rcases tp_val h k with g | g
    · rw [g]; rfl
    · rw [if_pos g.1]
theorem cut0_len {l : List Ex} (h : Ti l) (n : Int) : (cutL l (0, n)).length ≤ l.length := by
  have := cutL_len (0, n) l e0 h
  rw [if_neg (by simp)] at this
  exact this

/-- What the walk carries. -/
structure CW (w0 : World) (H : Nat) (s : Sp) (v5 v6 v7 v8 : Value) (L C R P : List Ex) (w : World) : Prop where
  bx : Box w H (.int .i64 s.1) (.int .i64 s.2)
  r5 : BkE.Row w v5 L
  r6 : BkE.Row w v6 C
  r7 : BkE.Row w v7 R
  r8 : BkE.Row w v8 P
  b : Below w0.heap.size w0 w
theorem CW.below {w0 w w' : World} {H : Nat} {s : Sp} {v5 v6 v7 v8 : Value} {L C R P : List Ex} (h : CW w0 H s v5 v6 v7 v8 L C R P w) (hb : Below w.heap.size w w') : CW w0 H s v5 v6 v7 v8 L C R P w' :=
  ⟨h.bx.below hb h.bx.lt, h.r5.below hb, h.r6.below hb, h.r7.below hb, h.r8.below hb, h.b.trans (hb.mono h.b.size)⟩

set_option maxRecDepth 100000 in
set_option maxHeartbeats 4000000 in
theorem cuts_any {w : World} {v : Value} {l : List Ex} (hr : BkE.Row w v l) (s : Sp) (hf : s.1 ≤ 9223372036854775807) :
    Calls Try.prog 6 #[v, .agg #[.int .i64 s.1, .int .i64 s.2]] w fun e w' => e = .returned (.bool true) ∧ Below w.heap.size w w' := by
  obtain ⟨a, c, rfl⟩ := hr.slice
  have hr' := Hid.intro hr
  clear hr
  obtain ⟨f, n⟩ := s
  simp only at hf ⊢
  have hbx := Hid.intro (Box.new w (.int .i64 f) (.int .i64 n) 26)
  have hba := Hid.intro ((Below.refl w.heap.size w).alloc (Nat.le_refl _) (.cells #[.int .i64 f, .int .i64 n] 26))
  by_cases hl : l.length ≤ 60
  · have hl' : (l.length : Int) ≤ 60 := by omega
    by_cases hx : 0 ≤ f ∧ 1 ≤ n ∧ n ≤ 64 - f
    · obtain ⟨h1, h2, h3⟩ := hx
      obtain ⟨M, hM⟩ : ∃ M, max f (1 : Int) = M := ⟨_, rfl⟩
      have hM1 : 1 ≤ M ∧ M ≤ 63 := by omega
      go_enter Try.func6, Try.ntmps6
      go_wp2_with fail
      change Calls _ _ _ (w.alloc (.cells #[.int .i64 f, .int .i64 n] 26)) _
      generalize w.alloc (.cells #[.int .i64 f, .int .i64 n] 26) = w1 at *
      refine (refWhole_yes f n _ ⟨h1, h2, h3⟩).mono ?_; rintro e w2 ⟨rfl, hb2⟩
      have hbx2 := Hid.intro (hbx.out.below hb2 hbx.out.lt)
      have hB2 := Hid.intro (hba.out.trans (hb2.mono hba.out.size))
      clear hb2 hbx hba
      go_wp2_with fail
      refine (alive_any _).mono ?_; rintro e w3 ⟨rfl, hb3⟩
      have hbx3 := Hid.intro (hbx2.out.below hb3 hbx2.out.lt)
      have hB3 := Hid.intro (hB2.out.trans (hb3.mono hB2.out.size))
      clear hb3 hbx2 hB2
      go_wp2_with fail
      refine (lawTidy_any (hr'.out.below hB3.out) (by omega)).mono ?_; rintro e w4 ⟨v5, L, rfl, hv5, hTi, hvL, hb4⟩
      clear hvL
      have hbx4 := Hid.intro (hbx3.out.below hb4 hbx3.out.lt)
      have hB4 := Hid.intro (hB3.out.trans (hb4.mono hB3.out.size))
      have hr5 := Hid.intro (BkE.own_row hv5)
      have hTi' := Hid.intro hTi
      have hLl := ti_len hTi
      clear hb4 hbx3 hB3 hv5 hTi
      obtain ⟨a0, a1, _⟩ := hbx4.out
      go_wp2_with fail
      refine (cut_row hr5.out hTi'.out (by omega) (f, n) hf).mono ?_; rintro e w5 ⟨v6, rfl, hv6, hb5⟩
      have hbx5 := Hid.intro (hbx4.out.below hb5 hbx4.out.lt)
      have hB5 := Hid.intro (hB4.out.trans (hb5.mono hB4.out.size))
      have hr55 := Hid.intro (hr5.out.below hb5)
      have hr6 := Hid.intro (BkE.own_row hv6)
      clear hb5 hbx4 hB4 hr5 hv6 a0 a1
      obtain ⟨a0, a1, _⟩ := hbx5.out
      go_wp2_with fail
      refine (cut_row hr55.out hTi'.out (by omega) (0, M) (by simp only; omega)).mono ?_; rintro e w6 ⟨v7, rfl, hv7, hb6⟩
      have hbx6 := Hid.intro (hbx5.out.below hb6 hbx5.out.lt)
      have hB6 := Hid.intro (hB5.out.trans (hb6.mono hB5.out.size))
      have hr56 := Hid.intro (hr55.out.below hb6)
      have hr66 := Hid.intro (hr6.out.below hb6)
      have hr7 := Hid.intro (BkE.own_row hv7)
      have hT7 := Hid.intro (cut_ti hTi'.out (0, M))
      have hl7 := cut0_len hTi'.out M
      clear hb6 hbx5 hB5 hr55 hr6 hv7 a0 a1
      go_wp2_with fail
      refine (cut_row hr7.out hT7.out (by omega) (0, 1) (by decide)).mono ?_; rintro e w7 ⟨v8, rfl, hv8, hb7⟩
      have hl8 := cut0_len hT7.out 1
      have hS : Hid (CW w w.heap.size (f, n) v5 v6 v8 v5 L (cutL L (f, n)) (cutL (cutL L (0, M)) (0, 1)) L w7) := Hid.intro ⟨hbx6.out.below hb7 hbx6.out.lt, hr56.out.below hb7, hr66.out.below hb7, BkE.own_row hv8, hr56.out.below hb7, hB6.out.trans (hb7.mono hB6.out.size)⟩
      obtain ⟨R, hR⟩ : ∃ R, Hid (cutL (cutL L (0, M)) (0, 1) = R) := ⟨_, rfl⟩
      rw [hR.out] at hS hl8
      have hRl : R.length ≤ L.length := by omega
      have hCT := Hid.intro (cut_ti hTi'.out (f, n))
      have hCv := Hid.intro (fun k => cuts_val hTi'.out h1 h2 h3 k)
      have hCl := ti_len (cut_ti hTi'.out (f, n))
      have hPT := Hid.intro (part_spec hTi'.out h1 h2 h3).1
      have hPv := Hid.intro (part_spec hTi'.out h1 h2 h3).2
      have hO1 := Hid.intro (part_over1 hTi'.out h1 h2 h3)
      have hO2 := Hid.intro (part_over2 hTi'.out h1 h2 h3)
      obtain ⟨C, hC⟩ : ∃ C, Hid (cutL L (f, n) = C) := ⟨_, rfl⟩
      rw [hC.out] at hS hCT hCv hCl hO1 hO2
      clear hb7 hbx6 hB6 hr56 hr66 hr7 hT7 hv8 hl7 hl8 hR hM hM1 hC
      obtain ⟨a0, a1, _⟩ := hS.out.bx
      by_cases hf0 : 0 < f
      · go_wp2_with fail
        refine (cut_row hS.out.r5 hTi'.out (by omega) (0, f) (by simp only; omega)).mono ?_; rintro e y1 ⟨u, rfl, hu, hb1⟩
        have hS1 := Hid.intro (hS.out.below hb1)
        have hu1 := Hid.intro (BkE.own_row hu)
        have ep : part1 L f = cutL L (0, f) := by unfold part1; rw [if_pos hf0]
        clear hb1 hS hu a0 a1
        obtain ⟨a0, a1, _⟩ := hS1.out.bx
        by_cases he : f + n < 64
        · have ep2 : partL L f n = cutL (cutL L (0, f)) (f + n, 64 - f - n) := by unfold partL; rw [if_pos he, ep]
          go_wp2_with fail
          refine (cut_row hu1.out (cut_ti hTi'.out (0, f)) (by have := ti_len (cut_ti hTi'.out (0, f)); omega) (f + n, 64 - f - n) (by simp only; omega)).mono ?_; rintro e y2 ⟨u8, rfl, hu8, hb2⟩
          have hS2 := hS1.out.below hb2
          rw [← ep2] at hu8
          have hS : Hid (CW w w.heap.size (f, n) v5 v6 v8 u8 L C R (partL L f n) y2) := Hid.intro ⟨hS2.bx, hS2.r5, hS2.r6, hS2.r7, BkE.own_row hu8, hS2.b⟩
          clear hb2 hS1 hS2 hu8 hu1 ep ep2 a0 a1
          obtain ⟨P, hP⟩ : ∃ P, Hid (partL L f n = P) := ⟨_, rfl⟩
          rw [hP.out] at hS hO1 hO2 hPv hPT
          have hPl := ti_len hPT.out
          clear hP
          -- the loop and the end: v8 is the part
          obtain ⟨q6, z6, rfl⟩ := hS.out.r6.slice
          obtain ⟨q8, z8, rfl⟩ := hS.out.r8.slice
          obtain ⟨q5, z5, rfl⟩ := hS.out.r5.slice
          obtain ⟨q7, z7, rfl⟩ := hS.out.r7.slice
          go_wp2_with fail
          go_loopw [9] (fun jv wr => ∃ k : Nat, k ≤ 64 ∧ jv = .int .i64 k ∧ CW w w.heap.size (f, n) (.slice q5 L.length z5) (.slice q6 C.length z6) (.slice q7 R.length z7) (.slice q8 P.length z8) L C R P wr) (fun jv _ => 64 - (intOf jv).toNat)
          case atStart => exact ⟨0, Nat.zero_le _, rfl, hS.out⟩
          case round =>
            clear hS
            obtain ⟨k, hk, rfl, hS⟩ := hrel
            have k0 : (0 : Int) ≤ (k : Int) := Int.natCast_nonneg _
            by_cases hlt : k < 64
            · have k1 : (k : Int) < 64 := by omega
              go_wp2_with fail
              refine (find_any hS.r6 hCT.out (by omega) (k : Int)).mono ?_; rintro e x1 ⟨rfl, hb1⟩
              have hS1 := hS.below hb1
              clear hb1 hS
              go_wp2_with fail
              refine (find_any hS1.r8 hPT.out (by omega) (k : Int)).mono ?_; rintro e x2 ⟨rfl, hb1⟩
              have hS2 := hS1.below hb1
              clear hb1 hS1
              obtain ⟨a0, a1, _⟩ := hS2.bx
              have hS4 := Hid.intro hS2
              clear hS2
              have hcv := hCv.out (k : Int)
              have hpv := hPv.out (k : Int)
              by_cases hin1 : f ≤ (k : Int)
              · by_cases hin2 : (k : Int) < f + n
                · rw [hcv, if_pos ⟨hin1, hin2⟩]
                  clear hcv hpv
                  obtain ⟨B, hB⟩ : ∃ B, decide (0 ≤ val P (k : Int)) = B := ⟨_, rfl⟩
                  rw [hB, show decide ((0 : Int) ≤ -1) = false by decide]
                  clear hB
                  cases B
                  · go_wp2
                    go_roundw
                    case rel => exact ⟨k + 1, by omega, by go_num, hS4.out⟩
                    case measure => simp [intOf]; omega
                  · go_wp2
                    go_roundw
                    case rel => exact ⟨k + 1, by omega, by go_num, hS4.out⟩
                    case measure => simp [intOf]; omega
                · rw [hpv, if_neg (by omega)]
                  clear hcv hpv
                  obtain ⟨B, hB⟩ : ∃ B, decide (0 ≤ val C (k : Int)) = B := ⟨_, rfl⟩
                  rw [hB, show decide ((0 : Int) ≤ -1) = false by decide]
                  clear hB
                  cases B
                  · go_wp2
                    go_roundw
                    case rel => exact ⟨k + 1, by omega, by go_num, hS4.out⟩
                    case measure => simp [intOf]; omega
                  · go_wp2
                    go_roundw
                    case rel => exact ⟨k + 1, by omega, by go_num, hS4.out⟩
                    case measure => simp [intOf]; omega
              · rw [hpv, if_neg (by omega)]
                clear hcv hpv
                obtain ⟨B, hB⟩ : ∃ B, decide (0 ≤ val C (k : Int)) = B := ⟨_, rfl⟩
                rw [hB, show decide ((0 : Int) ≤ -1) = false by decide]
                clear hB
                cases B
                · go_wp2
                  go_roundw
                  case rel => exact ⟨k + 1, by omega, by go_num, hS4.out⟩
                  case measure => simp [intOf]; omega
                · go_wp2
                  go_roundw
                  case rel => exact ⟨k + 1, by omega, by go_num, hS4.out⟩
                  case measure => simp [intOf]; omega
            · have hk' : k = 64 := by omega
              subst hk'
              have hle : (R.length : Int) ≤ (L.length : Int) + 1 := by omega
              go_wp2_with fail
              refine (over_tidy hS.r6 hS.r8 hCT.out hPT.out).mono ?_; rintro e x1 ⟨u1, rfl, hu1, hb1⟩
              have hS1 := hS.below hb1
              rw [hO1.out] at hu1
              have hur := BkE.own_row hu1
              clear hb1 hS hu1
              go_wp2_with fail
              refine (BkE.same_rows hur hS1.r5 (by omega)).mono ?_; rintro e x2 ⟨rfl, hb2⟩
              have hS2 := hS1.below hb2
              clear hb2 hS1 hur
              go_wp2_with fail
              refine (over_tidy hS2.r8 hS2.r6 hPT.out hCT.out).mono ?_; rintro e x3 ⟨u1, rfl, hu1, hb1⟩
              have hS3 := hS2.below hb1
              rw [hO2.out] at hu1
              have hur := BkE.own_row hu1
              clear hb1 hS2 hu1
              go_wp2_with fail
              refine (BkE.same_rows hur hS3.r5 (by omega)).mono ?_; rintro e x4 ⟨rfl, hb2⟩
              have hS4 := hS3.below hb2
              clear hb2 hS3 hur
              go_wp2
              go_ret
              exact ⟨by simp, hS4.b⟩
        · have ep2 : partL L f n = cutL L (0, f) := by unfold partL; rw [if_neg he, ep]
          have hu8 := hu1.out
          rw [← ep2] at hu8
          have hS : Hid (CW w w.heap.size (f, n) v5 v6 v8 u L C R (partL L f n) y1) := Hid.intro ⟨hS1.out.bx, hS1.out.r5, hS1.out.r6, hS1.out.r7, hu8, hS1.out.b⟩
          clear hS1 hu8 hu1 ep ep2
          obtain ⟨P, hP⟩ : ∃ P, Hid (partL L f n = P) := ⟨_, rfl⟩
          rw [hP.out] at hS hO1 hO2 hPv hPT
          have hPl := ti_len hPT.out
          clear hP
          -- the loop and the end: v8 is the part
          obtain ⟨q6, z6, rfl⟩ := hS.out.r6.slice
          obtain ⟨q8, z8, rfl⟩ := hS.out.r8.slice
          obtain ⟨q5, z5, rfl⟩ := hS.out.r5.slice
          obtain ⟨q7, z7, rfl⟩ := hS.out.r7.slice
          go_wp2_with fail
          go_loopw [9] (fun jv wr => ∃ k : Nat, k ≤ 64 ∧ jv = .int .i64 k ∧ CW w w.heap.size (f, n) (.slice q5 L.length z5) (.slice q6 C.length z6) (.slice q7 R.length z7) (.slice q8 P.length z8) L C R P wr) (fun jv _ => 64 - (intOf jv).toNat)
          case atStart => exact ⟨0, Nat.zero_le _, rfl, hS.out⟩
          case round =>
            clear hS
            obtain ⟨k, hk, rfl, hS⟩ := hrel
            have k0 : (0 : Int) ≤ (k : Int) := Int.natCast_nonneg _
            by_cases hlt : k < 64
            · have k1 : (k : Int) < 64 := by omega
              go_wp2_with fail
              refine (find_any hS.r6 hCT.out (by omega) (k : Int)).mono ?_; rintro e x1 ⟨rfl, hb1⟩
              have hS1 := hS.below hb1
              clear hb1 hS
              go_wp2_with fail
              refine (find_any hS1.r8 hPT.out (by omega) (k : Int)).mono ?_; rintro e x2 ⟨rfl, hb1⟩
              have hS2 := hS1.below hb1
              clear hb1 hS1
              obtain ⟨a0, a1, _⟩ := hS2.bx
              have hS4 := Hid.intro hS2
              clear hS2
              have hcv := hCv.out (k : Int)
              have hpv := hPv.out (k : Int)
              by_cases hin1 : f ≤ (k : Int)
              · by_cases hin2 : (k : Int) < f + n
                · rw [hcv, if_pos ⟨hin1, hin2⟩]
                  clear hcv hpv
                  obtain ⟨B, hB⟩ : ∃ B, decide (0 ≤ val P (k : Int)) = B := ⟨_, rfl⟩
                  rw [hB, show decide ((0 : Int) ≤ -1) = false by decide]
                  clear hB
                  cases B
                  · go_wp2
                    go_roundw
                    case rel => exact ⟨k + 1, by omega, by go_num, hS4.out⟩
                    case measure => simp [intOf]; omega
                  · go_wp2
                    go_roundw
                    case rel => exact ⟨k + 1, by omega, by go_num, hS4.out⟩
                    case measure => simp [intOf]; omega
                · omega
              · rw [hpv, if_neg (by omega)]
                clear hcv hpv
                obtain ⟨B, hB⟩ : ∃ B, decide (0 ≤ val C (k : Int)) = B := ⟨_, rfl⟩
                rw [hB, show decide ((0 : Int) ≤ -1) = false by decide]
                clear hB
                cases B
                · go_wp2
                  go_roundw
                  case rel => exact ⟨k + 1, by omega, by go_num, hS4.out⟩
                  case measure => simp [intOf]; omega
                · go_wp2
                  go_roundw
                  case rel => exact ⟨k + 1, by omega, by go_num, hS4.out⟩
                  case measure => simp [intOf]; omega
            · have hk' : k = 64 := by omega
              subst hk'
              have hle : (R.length : Int) ≤ (L.length : Int) + 1 := by omega
              go_wp2_with fail
              refine (over_tidy hS.r6 hS.r8 hCT.out hPT.out).mono ?_; rintro e x1 ⟨u1, rfl, hu1, hb1⟩
              have hS1 := hS.below hb1
              rw [hO1.out] at hu1
              have hur := BkE.own_row hu1
              clear hb1 hS hu1
              go_wp2_with fail
              refine (BkE.same_rows hur hS1.r5 (by omega)).mono ?_; rintro e x2 ⟨rfl, hb2⟩
              have hS2 := hS1.below hb2
              clear hb2 hS1 hur
              go_wp2_with fail
              refine (over_tidy hS2.r8 hS2.r6 hPT.out hCT.out).mono ?_; rintro e x3 ⟨u1, rfl, hu1, hb1⟩
              have hS3 := hS2.below hb1
              rw [hO2.out] at hu1
              have hur := BkE.own_row hu1
              clear hb1 hS2 hu1
              go_wp2_with fail
              refine (BkE.same_rows hur hS3.r5 (by omega)).mono ?_; rintro e x4 ⟨rfl, hb2⟩
              have hS4 := hS3.below hb2
              clear hb2 hS3 hur
              go_wp2
              go_ret
              exact ⟨by simp, hS4.b⟩
      · have ep : part1 L f = L := by unfold part1; rw [if_neg hf0]
        by_cases he : f + n < 64
        · have ep2 : partL L f n = cutL L (f + n, 64 - f - n) := by unfold partL; rw [if_pos he, ep]
          go_wp2_with fail
          refine (cut_row hS.out.r5 hTi'.out (by omega) (f + n, 64 - f - n) (by simp only; omega)).mono ?_; rintro e y2 ⟨u8, rfl, hu8, hb2⟩
          have hS2 := hS.out.below hb2
          rw [← ep2] at hu8
          have hS : Hid (CW w w.heap.size (f, n) v5 v6 v8 u8 L C R (partL L f n) y2) := Hid.intro ⟨hS2.bx, hS2.r5, hS2.r6, hS2.r7, BkE.own_row hu8, hS2.b⟩
          clear hb2 hS2 hu8 ep ep2 a0 a1
          obtain ⟨P, hP⟩ : ∃ P, Hid (partL L f n = P) := ⟨_, rfl⟩
          rw [hP.out] at hS hO1 hO2 hPv hPT
          have hPl := ti_len hPT.out
          clear hP
          -- the loop and the end: v8 is the part
          obtain ⟨q6, z6, rfl⟩ := hS.out.r6.slice
          obtain ⟨q8, z8, rfl⟩ := hS.out.r8.slice
          obtain ⟨q5, z5, rfl⟩ := hS.out.r5.slice
          obtain ⟨q7, z7, rfl⟩ := hS.out.r7.slice
          go_wp2_with fail
          go_loopw [9] (fun jv wr => ∃ k : Nat, k ≤ 64 ∧ jv = .int .i64 k ∧ CW w w.heap.size (f, n) (.slice q5 L.length z5) (.slice q6 C.length z6) (.slice q7 R.length z7) (.slice q8 P.length z8) L C R P wr) (fun jv _ => 64 - (intOf jv).toNat)
          case atStart => exact ⟨0, Nat.zero_le _, rfl, hS.out⟩
          case round =>
            clear hS
            obtain ⟨k, hk, rfl, hS⟩ := hrel
            have k0 : (0 : Int) ≤ (k : Int) := Int.natCast_nonneg _
            by_cases hlt : k < 64
            · have k1 : (k : Int) < 64 := by omega
              go_wp2_with fail
              refine (find_any hS.r6 hCT.out (by omega) (k : Int)).mono ?_; rintro e x1 ⟨rfl, hb1⟩
              have hS1 := hS.below hb1
              clear hb1 hS
              go_wp2_with fail
              refine (find_any hS1.r8 hPT.out (by omega) (k : Int)).mono ?_; rintro e x2 ⟨rfl, hb1⟩
              have hS2 := hS1.below hb1
              clear hb1 hS1
              obtain ⟨a0, a1, _⟩ := hS2.bx
              have hS4 := Hid.intro hS2
              clear hS2
              have hcv := hCv.out (k : Int)
              have hpv := hPv.out (k : Int)
              by_cases hin1 : f ≤ (k : Int)
              · by_cases hin2 : (k : Int) < f + n
                · rw [hcv, if_pos ⟨hin1, hin2⟩]
                  clear hcv hpv
                  obtain ⟨B, hB⟩ : ∃ B, decide (0 ≤ val P (k : Int)) = B := ⟨_, rfl⟩
                  rw [hB, show decide ((0 : Int) ≤ -1) = false by decide]
                  clear hB
                  cases B
                  · go_wp2
                    go_roundw
                    case rel => exact ⟨k + 1, by omega, by go_num, hS4.out⟩
                    case measure => simp [intOf]; omega
                  · go_wp2
                    go_roundw
                    case rel => exact ⟨k + 1, by omega, by go_num, hS4.out⟩
                    case measure => simp [intOf]; omega
                · rw [hpv, if_neg (by omega)]
                  clear hcv hpv
                  obtain ⟨B, hB⟩ : ∃ B, decide (0 ≤ val C (k : Int)) = B := ⟨_, rfl⟩
                  rw [hB, show decide ((0 : Int) ≤ -1) = false by decide]
                  clear hB
                  cases B
                  · go_wp2
                    go_roundw
                    case rel => exact ⟨k + 1, by omega, by go_num, hS4.out⟩
                    case measure => simp [intOf]; omega
                  · go_wp2
                    go_roundw
                    case rel => exact ⟨k + 1, by omega, by go_num, hS4.out⟩
                    case measure => simp [intOf]; omega
              · omega
            · have hk' : k = 64 := by omega
              subst hk'
              have hle : (R.length : Int) ≤ (L.length : Int) + 1 := by omega
              go_wp2_with fail
              refine (over_tidy hS.r6 hS.r8 hCT.out hPT.out).mono ?_; rintro e x1 ⟨u1, rfl, hu1, hb1⟩
              have hS1 := hS.below hb1
              rw [hO1.out] at hu1
              have hur := BkE.own_row hu1
              clear hb1 hS hu1
              go_wp2_with fail
              refine (BkE.same_rows hur hS1.r5 (by omega)).mono ?_; rintro e x2 ⟨rfl, hb2⟩
              have hS2 := hS1.below hb2
              clear hb2 hS1 hur
              go_wp2_with fail
              refine (over_tidy hS2.r8 hS2.r6 hPT.out hCT.out).mono ?_; rintro e x3 ⟨u1, rfl, hu1, hb1⟩
              have hS3 := hS2.below hb1
              rw [hO2.out] at hu1
              have hur := BkE.own_row hu1
              clear hb1 hS2 hu1
              go_wp2_with fail
              refine (BkE.same_rows hur hS3.r5 (by omega)).mono ?_; rintro e x4 ⟨rfl, hb2⟩
              have hS4 := hS3.below hb2
              clear hb2 hS3 hur
              go_wp2
              go_ret
              exact ⟨by simp, hS4.b⟩
        · have ep2 : partL L f n = L := by unfold partL; rw [if_neg he, ep]
          have hS : Hid (CW w w.heap.size (f, n) v5 v6 v8 v5 L C R (partL L f n) w7) := Hid.intro (by rw [ep2]; exact hS.out)
          rw [ep2] at hS hO1 hO2 hPv hPT
          clear ep ep2
          -- the loop and the end: v8 is the part
          obtain ⟨q6, z6, rfl⟩ := hS.out.r6.slice
          obtain ⟨q5, z5, rfl⟩ := hS.out.r5.slice
          obtain ⟨q7, z7, rfl⟩ := hS.out.r7.slice
          go_wp2_with fail
          go_loopw [9] (fun jv wr => ∃ k : Nat, k ≤ 64 ∧ jv = .int .i64 k ∧ CW w w.heap.size (f, n) (.slice q5 L.length z5) (.slice q6 C.length z6) (.slice q7 R.length z7) (.slice q5 L.length z5) L C R L wr) (fun jv _ => 64 - (intOf jv).toNat)
          case atStart => exact ⟨0, Nat.zero_le _, rfl, hS.out⟩
          case round =>
            clear hS
            obtain ⟨k, hk, rfl, hS⟩ := hrel
            have k0 : (0 : Int) ≤ (k : Int) := Int.natCast_nonneg _
            by_cases hlt : k < 64
            · have k1 : (k : Int) < 64 := by omega
              go_wp2_with fail
              refine (find_any hS.r6 hCT.out (by omega) (k : Int)).mono ?_; rintro e x1 ⟨rfl, hb1⟩
              have hS1 := hS.below hb1
              clear hb1 hS
              go_wp2_with fail
              refine (find_any hS1.r8 hPT.out (by omega) (k : Int)).mono ?_; rintro e x2 ⟨rfl, hb1⟩
              have hS2 := hS1.below hb1
              clear hb1 hS1
              obtain ⟨a0, a1, _⟩ := hS2.bx
              have hS4 := Hid.intro hS2
              clear hS2
              have hcv := hCv.out (k : Int)
              have hpv := hPv.out (k : Int)
              by_cases hin1 : f ≤ (k : Int)
              · by_cases hin2 : (k : Int) < f + n
                · rw [hcv, if_pos ⟨hin1, hin2⟩]
                  clear hcv hpv
                  obtain ⟨B, hB⟩ : ∃ B, decide (0 ≤ val L (k : Int)) = B := ⟨_, rfl⟩
                  rw [hB, show decide ((0 : Int) ≤ -1) = false by decide]
                  clear hB
                  cases B
                  · go_wp2
                    go_roundw
                    case rel => exact ⟨k + 1, by omega, by go_num, hS4.out⟩
                    case measure => simp [intOf]; omega
                  · go_wp2
                    go_roundw
                    case rel => exact ⟨k + 1, by omega, by go_num, hS4.out⟩
                    case measure => simp [intOf]; omega
                · omega
              · omega
            · have hk' : k = 64 := by omega
              subst hk'
              have hle : (R.length : Int) ≤ (L.length : Int) + 1 := by omega
              go_wp2_with fail
              refine (over_tidy hS.r6 hS.r8 hCT.out hPT.out).mono ?_; rintro e x1 ⟨u1, rfl, hu1, hb1⟩
              have hS1 := hS.below hb1
              rw [hO1.out] at hu1
              have hur := BkE.own_row hu1
              clear hb1 hS hu1
              go_wp2_with fail
              refine (BkE.same_rows hur hS1.r5 (by omega)).mono ?_; rintro e x2 ⟨rfl, hb2⟩
              have hS2 := hS1.below hb2
              clear hb2 hS1 hur
              go_wp2_with fail
              refine (over_tidy hS2.r8 hS2.r6 hPT.out hCT.out).mono ?_; rintro e x3 ⟨u1, rfl, hu1, hb1⟩
              have hS3 := hS2.below hb1
              rw [hO2.out] at hu1
              have hur := BkE.own_row hu1
              clear hb1 hS2 hu1
              go_wp2_with fail
              refine (BkE.same_rows hur hS3.r5 (by omega)).mono ?_; rintro e x4 ⟨rfl, hb2⟩
              have hS4 := hS3.below hb2
              clear hb2 hS3 hur
              go_wp2
              go_ret
              exact ⟨by simp, hS4.b⟩
    · have hx' := Hid.intro hx
      clear hx
      go_enter Try.func6, Try.ntmps6
      go_wp2_with fail
      change Calls _ _ _ (w.alloc (.cells #[.int .i64 f, .int .i64 n] 26)) _
      generalize w.alloc (.cells #[.int .i64 f, .int .i64 n] 26) = w1 at *
      refine (refWhole_no f n _ hx'.out).mono ?_; rintro e w2 ⟨rfl, hb2⟩
      have hB2 := Hid.intro (hba.out.trans (hb2.mono hba.out.size))
      go_wp2_with fail
      refine (alive_any _).mono ?_; rintro e w3 ⟨rfl, hb3⟩
      have hB3 := Hid.intro (hB2.out.trans (hb3.mono hB2.out.size))
      go_wp2
      go_ret
      exact ⟨rfl, hB3.out⟩
  · have hl2 : (60 : Int) < (l.length : Int) := by omega
    go_enter Try.func6, Try.ntmps6
    go_wp2_with fail
    change Calls _ _ _ (w.alloc (.cells #[.int .i64 f, .int .i64 n] 26)) _
    generalize w.alloc (.cells #[.int .i64 f, .int .i64 n] 26) = w1 at *
    refine (alive_any _).mono ?_; rintro e w3 ⟨rfl, hb3⟩
    have hB3 := Hid.intro (hba.out.trans (hb3.mono hba.out.size))
    go_wp2
    go_ret
    exact ⟨rfl, hB3.out⟩
end Go.Proofs.Ytfikkbmilhcahaa
