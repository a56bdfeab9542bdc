/-
  ExtentSets' walk: a block that is set is as it was set, all others are as they were; what is cut out says nothing.
-/
import Derived.Test.YtfikkbmilhcahaaEAlive
import Derived.Test.YtfikkbmilhcahaaEFind
namespace Go.Proofs.Ytfikkbmilhcahaa
open Go.ChangeShapes Go.WideShapes Go.ChangeAt Go.RowKit
attribute [local go_sem ↓] Go.wp_at_zero Go.wp_at_succ

theorem cut_len {l : List Ex} (h : Ti l) (s : Sp) : (cutL l s).length ≤ l.length + 1 := by
  have := cutL_len s l e0 h
  split at this <;> omega
theorem cut_ti {l : List Ex} (h : Ti l) (s : Sp) : Ti (cutL l s) := (cutL_spec s l e0 h).1
theorem cut_val {l : List Ex} (h : Ti l) (s : Sp) (k : Int) : val (cutL l s) k = cutF (val l) s k := (cutL_spec s l e0 h).2 k
theorem bx_of (w : World) (x : Ex) : Bx (w.alloc (.cells #[.int .i64 x.1, .int .i64 x.2.1, .int .i64 x.2.2] 24)) w.heap.size x := Bx.new w x 24

/-- What the walk carries. -/
structure SW (w0 : World) (H : Nat) (x : Ex) (v5 v6 v7 : Value) (L M N : List Ex) (w : World) : Prop where
  bx : Bx w H x
  r5 : BkE.Row w v5 L
  r6 : BkE.Row w v6 M
  r7 : BkE.Row w v7 N
  b : Below w0.heap.size w0 w
theorem SW.below {w0 w w' : World} {H : Nat} {x : Ex} {v5 v6 v7 : Value} {L M N : List Ex} (h : SW w0 H x v5 v6 v7 L M N w) (hb : Below w.heap.size w w') : SW w0 H x v5 v6 v7 L M N w' :=
  ⟨h.bx.below hb h.bx.lt, h.r5.below hb, h.r6.below hb, h.r7.below hb, h.b.trans (hb.mono h.b.size)⟩

/-- The document's words, block by block. -/
theorem sets_in {L : List Ex} {x : Ex} (hL : Ti L) (hx : Al x) {k : Int} (h : x.1 ≤ k ∧ k < x.1 + x.2.1) :
    findV (setL L x) k = idA x k ∧ decide (0 ≤ val (setL L x) k) = true ∧ decide (0 ≤ val (cutL (setL L x) (x.1, x.2.1)) k) = false := by
  obtain ⟨a, b, _⟩ := setL_spec (x := x) hL
  have hv : val (setL L x) k = idA x k := by rw [b]; unfold setF; rw [if_pos ⟨hx, h⟩]
  have hp := idA_low (k := k) hx h.1
  have hc : val (cutL (setL L x) (x.1, x.2.1)) k = -1 := by rw [cut_val a]; unfold cutF; rw [if_pos ((hasW_iff (al_wh hx) k).2 h)]
  refine ⟨?_, ?_, ?_⟩
  · unfold findV; rw [hv, if_pos hp]
  · rw [hv]; simp [hp]
  · rw [hc]; rfl
theorem sets_out {L : List Ex} {x : Ex} (hL : Ti L) (hx : Al x) {k : Int} (h : ¬ (x.1 ≤ k ∧ k < x.1 + x.2.1)) :
    findV (setL L x) k = findV L k ∧ decide (0 ≤ val (setL L x) k) = decide (0 ≤ val L k) ∧ decide (0 ≤ val (cutL (setL L x) (x.1, x.2.1)) k) = decide (0 ≤ val L k) := by
  obtain ⟨a, b, _⟩ := setL_spec (x := x) hL
  have hv : val (setL L x) k = val L k := by rw [b]; unfold setF; rw [if_neg fun g => h g.2]
  have hc : val (cutL (setL L x) (x.1, x.2.1)) k = val L k := by rw [cut_val a]; unfold cutF; rw [if_neg fun g => h ((hasW_iff (al_wh hx) k).1 g)]; exact hv
  refine ⟨?_, ?_, ?_⟩
  · unfold findV; rw [hv]
  · rw [hv]
  · rw [hc]

set_option maxRecDepth 100000 in
set_option maxHeartbeats 4000000 in
theorem sets_any {w : World} {v : Value} {l : List Ex} (hr : BkE.Row w v l) (x : Ex) (hf : x.1 ≤ 9223372036854775807) :
    Calls Try.prog 5 #[v, .agg #[.int .i64 x.1, .int .i64 x.2.1, .int .i64 x.2.2]] w fun e w' => e = .returned (.bool true) ∧ Below w.heap.size w w' := by
  obtain ⟨a, c, rfl⟩ := hr.slice
  have hr' := Hid.intro hr
  clear hr
  by_cases hl : l.length ≤ 60
  · have hl' : (l.length : Int) ≤ 60 := by omega
    by_cases hx : Al x
    · obtain ⟨f, n, d⟩ := x
      have hx' := Hid.intro hx
      obtain ⟨h1, h2, h3, h4, h5⟩ : 0 ≤ f ∧ 1 ≤ n ∧ n ≤ 64 - f ∧ 0 ≤ d ∧ d ≤ 60 := by unfold Al at hx; simp only at hx; omega
      clear hx
      simp only at hf ⊢
      have hbx := Hid.intro (bx_of w (f, n, d))
      have hba := Hid.intro ((Below.refl w.heap.size w).alloc (Nat.le_refl _) (.cells #[.int .i64 f, .int .i64 n, .int .i64 d] 24))
      go_enter Try.func5, Try.ntmps5
      go_wp2_with fail
      change Calls _ _ _ (w.alloc (.cells #[.int .i64 f, .int .i64 n, .int .i64 d] 24)) _
      generalize w.alloc (.cells #[.int .i64 f, .int .i64 n, .int .i64 d] 24) = w1 at *
      refine (alone_t (f, n, d) _ hx'.out).mono ?_; rintro e w2 ⟨rfl, hb2⟩
      have hbx2 := Hid.intro (hbx.out.below hb2 hbx.out.lt)
      have hB2 := Hid.intro (hba.out.trans (hb2.mono hba.out.size))
      clear hb2 hbx hba
      go_wp2_with fail
      refine (alive_any _).mono ?_; rintro e w3 ⟨rfl, hb3⟩
      have hbx3 := Hid.intro (hbx2.out.below hb3 hbx2.out.lt)
      have hB3 := Hid.intro (hB2.out.trans (hb3.mono hB2.out.size))
      clear hb3 hbx2 hB2
      go_wp2_with fail
      refine (lawTidy_any (hr'.out.below hB3.out) (by omega)).mono ?_; rintro e w4 ⟨v5, L, rfl, hv5, hTi, hvL, hb4⟩
      clear hvL
      have hbx4 := Hid.intro (hbx3.out.below hb4 hbx3.out.lt)
      have hB4 := Hid.intro (hB3.out.trans (hb4.mono hB3.out.size))
      have hr5 := Hid.intro (BkE.own_row hv5)
      have hTi' := Hid.intro hTi
      clear hb4 hbx3 hB3 hv5 hTi
      obtain ⟨a0, a1, a2, _⟩ := hbx4.out
      simp only at a0 a1 a2
      go_wp2_with fail
      refine (set_any hr5.out hTi'.out (f, n, d) hf).mono ?_; rintro e w5 ⟨v6, rfl, hv6, hb5⟩
      have hbx5 := Hid.intro (hbx4.out.below hb5 hbx4.out.lt)
      have hB5 := Hid.intro (hB4.out.trans (hb5.mono hB4.out.size))
      have hr55 := Hid.intro (hr5.out.below hb5)
      have hr6 := Hid.intro (BkE.own_row hv6)
      have hMT := Hid.intro (setL_spec (x := (f, n, d)) hTi'.out)
      clear hb5 hbx4 hB4 hr5 hv6 a0 a1 a2
      obtain ⟨a0, a1, a2, _⟩ := hbx5.out
      simp only at a0 a1 a2
      go_wp2_with fail
      refine (cut_row hr6.out hMT.out.1 (by have := ti_len hMT.out.1; omega) (f, n) (by simp only; omega)).mono ?_; rintro e w6 ⟨v7, rfl, hv7, hb6⟩
      have hS : Hid (SW w w.heap.size (f, n, d) v5 v6 v7 L (setL L (f, n, d)) (cutL (setL L (f, n, d)) (f, n)) w6) := Hid.intro ⟨hbx5.out.below hb6 hbx5.out.lt, hr55.out.below hb6, hr6.out.below hb6, BkE.own_row hv7, hB5.out.trans (hb6.mono hB5.out.size)⟩
      have hin := Hid.intro (fun k => sets_in (k := k) hTi'.out hx'.out)
      have hout := Hid.intro (fun k => sets_out (k := k) hTi'.out hx'.out)
      have hMl := hMT.out.2.2
      have hMTi := Hid.intro hMT.out.1
      have hNTi := Hid.intro (cut_ti hMT.out.1 (f, n))
      have hNl := cut_len hMT.out.1 (f, n)
      have hLl := ti_len hTi'.out
      have hMl2 := ti_len hMT.out.1
      simp only at hin hout
      clear hbx5 hB5 hr55 hr6 hv7 hb6 hMT a0 a1 a2
      generalize cutL (setL L (f, n, d)) (f, n) = N at *
      generalize setL L (f, n, d) = M at *
      obtain ⟨q5, z5, rfl⟩ := hS.out.r5.slice
      obtain ⟨q6, z6, rfl⟩ := hS.out.r6.slice
      go_wp2_with fail
      go_loopw [8] (fun jv wr => ∃ k : Nat, k ≤ 64 ∧ jv = .int .i64 k ∧ SW w w.heap.size (f, n, d) (.slice q5 L.length z5) (.slice q6 M.length z6) v7 L M N wr) (fun jv _ => 64 - (intOf jv).toNat)
      case atStart => exact ⟨0, Nat.zero_le _, rfl, hS.out⟩
      case round =>
        clear hS
        obtain ⟨k, hk, rfl, hS⟩ := hrel
        have k0 : (0 : Int) ≤ (k : Int) := Int.natCast_nonneg _
        by_cases hlt : k < 64
        · have k1 : (k : Int) < 64 := by omega
          go_wp2_with fail
          refine (find_any hS.r5 hTi'.out (by omega) (k : Int)).mono ?_; rintro e x1 ⟨rfl, hb1⟩
          have hS1 := hS.below hb1
          clear hb1 hS
          go_wp2_with fail
          refine (find_any hS1.r6 hMTi.out (by omega) (k : Int)).mono ?_; rintro e x2 ⟨rfl, hb1⟩
          have hS2 := hS1.below hb1
          clear hb1 hS1
          go_wp2_with fail
          refine (find_any hS2.r7 hNTi.out (by omega) (k : Int)).mono ?_; rintro e x3 ⟨rfl, hb1⟩
          have hS3 := hS2.below hb1
          clear hb1 hS2
          obtain ⟨a0, a1, a2, _⟩ := hS3.bx
          simp only at a0 a1 a2
          have hS4 := Hid.intro hS3
          clear hS3
          have hdd : ¬ 0 < d ∨ 0 < d := by omega
          by_cases hin1 : f ≤ (k : Int)
          · by_cases hin2 : (k : Int) < f + n
            · obtain ⟨e1, e2, e3⟩ := hin.out (k : Int) ⟨hin1, hin2⟩
              rw [e1, e2, e3]
              clear e1 e2 e3
              rcases hdd with hdd | hdd
              · have hid : idA (f, n, d) (k : Int) = 0 := by unfold idA; simp only; rw [if_pos (by omega)]
                rw [hid]
                clear hid
                go_wp2
                go_roundw
                case rel => exact ⟨k + 1, by omega, by go_num, hS4.out⟩
                case measure => simp [intOf]; omega
              · have hid : idA (f, n, d) (k : Int) = d + (k : Int) - f := by unfold idA; simp only; rw [if_neg (by omega)]
                rw [hid]
                clear hid
                go_wp2
                go_roundw
                case rel => exact ⟨k + 1, by omega, by go_num, hS4.out⟩
                case measure => simp [intOf]; omega
            · have hd0 : ¬ (f ≤ (k : Int) ∧ (k : Int) < f + n) := by omega
              obtain ⟨e1, e2, e3⟩ := hout.out (k : Int) hd0
              rw [e1, e2, e3]
              clear e1 e2 e3 hd0
              obtain ⟨A, hA⟩ : ∃ A, findV L (k : Int) = A := ⟨_, rfl⟩
              obtain ⟨P, hP⟩ : ∃ P, decide (0 ≤ val L (k : Int)) = P := ⟨_, rfl⟩
              rw [hA, hP]
              clear hA hP
              rcases hdd with hdd | hdd
              · cases P
                · go_wp2
                  go_roundw
                  case rel => exact ⟨k + 1, by omega, by go_num, hS4.out⟩
                  case measure => simp [intOf]; omega
                · go_wp2
                  go_roundw
                  case rel => exact ⟨k + 1, by omega, by go_num, hS4.out⟩
                  case measure => simp [intOf]; omega
              · cases P
                · go_wp2
                  go_roundw
                  case rel => exact ⟨k + 1, by omega, by go_num, hS4.out⟩
                  case measure => simp [intOf]; omega
                · go_wp2
                  go_roundw
                  case rel => exact ⟨k + 1, by omega, by go_num, hS4.out⟩
                  case measure => simp [intOf]; omega
          · have hd0 : ¬ (f ≤ (k : Int) ∧ (k : Int) < f + n) := by omega
            obtain ⟨e1, e2, e3⟩ := hout.out (k : Int) hd0
            rw [e1, e2, e3]
            clear e1 e2 e3 hd0
            obtain ⟨A, hA⟩ : ∃ A, findV L (k : Int) = A := ⟨_, rfl⟩
            obtain ⟨P, hP⟩ : ∃ P, decide (0 ≤ val L (k : Int)) = P := ⟨_, rfl⟩
            rw [hA, hP]
            clear hA hP
            rcases hdd with hdd | hdd
            · cases P
              · go_wp2
                go_roundw
                case rel => exact ⟨k + 1, by omega, by go_num, hS4.out⟩
                case measure => simp [intOf]; omega
              · go_wp2
                go_roundw
                case rel => exact ⟨k + 1, by omega, by go_num, hS4.out⟩
                case measure => simp [intOf]; omega
            · cases P
              · go_wp2
                go_roundw
                case rel => exact ⟨k + 1, by omega, by go_num, hS4.out⟩
                case measure => simp [intOf]; omega
              · go_wp2
                go_roundw
                case rel => exact ⟨k + 1, by omega, by go_num, hS4.out⟩
                case measure => simp [intOf]; omega
        · have hk' : k = 64 := by omega
          subst hk'
          have hle : (M.length : Int) ≤ (L.length : Int) + 2 := by omega
          go_wp2
          go_ret
          exact ⟨by simp, hS.b⟩
    · obtain ⟨f, n, d⟩ := x
      have hx' := Hid.intro hx
      clear hx
      simp only at hf ⊢
      have hba := Hid.intro ((Below.refl w.heap.size w).alloc (Nat.le_refl _) (.cells #[.int .i64 f, .int .i64 n, .int .i64 d] 24))
      go_enter Try.func5, Try.ntmps5
      go_wp2_with fail
      change Calls _ _ _ (w.alloc (.cells #[.int .i64 f, .int .i64 n, .int .i64 d] 24)) _
      generalize w.alloc (.cells #[.int .i64 f, .int .i64 n, .int .i64 d] 24) = w1 at *
      refine (alone_f (f, n, d) _ hx'.out).mono ?_; rintro e w2 ⟨rfl, hb2⟩
      have hB2 := Hid.intro (hba.out.trans (hb2.mono hba.out.size))
      go_wp2_with fail
      refine (alive_any _).mono ?_; rintro e w3 ⟨rfl, hb3⟩
      have hB3 := Hid.intro (hB2.out.trans (hb3.mono hB2.out.size))
      go_wp2
      go_ret
      exact ⟨rfl, hB3.out⟩
  · have hl' : ¬ (l.length : Int) ≤ 60 := by omega
    obtain ⟨f, n, d⟩ := x
    simp only at hf ⊢
    have hba := Hid.intro ((Below.refl w.heap.size w).alloc (Nat.le_refl _) (.cells #[.int .i64 f, .int .i64 n, .int .i64 d] 24))
    have hl2 : (60 : Int) < (l.length : Int) := by omega
    go_enter Try.func5, Try.ntmps5
    go_wp2_with fail
    change Calls _ _ _ (w.alloc (.cells #[.int .i64 f, .int .i64 n, .int .i64 d] 24)) _
    generalize w.alloc (.cells #[.int .i64 f, .int .i64 n, .int .i64 d] 24) = w1 at *
    refine (alive_any _).mono ?_; rintro e w3 ⟨rfl, hb3⟩
    have hB3 := Hid.intro (hba.out.trans (hb3.mono hba.out.size))
    go_wp2
    go_ret
    exact ⟨rfl, hB3.out⟩
end Go.Proofs.Ytfikkbmilhcahaa
