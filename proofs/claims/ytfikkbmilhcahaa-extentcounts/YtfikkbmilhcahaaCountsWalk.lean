/-
  ExtentCounts' walk: as many ids as blocks that are not zeros; the spans are just the blocks of which something is said.
-/
import Derived.Test.YtfikkbmilhcahaaEAlive
import Derived.Test.YtfikkbmilhcahaaEFind
import Derived.Test.YtfikkbmilhcahaaESpans
import Derived.Test.YtfikkbmilhcahaaEIds
namespace Go.Proofs.Ytfikkbmilhcahaa
open Go.ChangeShapes Go.WideShapes Go.ChangeAt Go.RowKit
attribute [local go_sem ↓] Go.wp_at_zero Go.wp_at_succ

/-- How many of the first k blocks are said, and how many are not zeros. -/
def cS (L : List Ex) (k : Nat) : Nat := (List.range k).countP fun (j : Nat) => decide (0 ≤ val L (j : Int))
def cN (L : List Ex) (k : Nat) : Nat := (List.range k).countP fun (j : Nat) => decide (0 < val L (j : Int))
theorem cS_succ (L : List Ex) (k : Nat) : cS L (k + 1) = cS L k + (if 0 ≤ val L (k : Int) then 1 else 0) := by
  unfold cS; rw [List.range_succ, List.countP_append]; simp [List.countP_cons]
theorem cN_succ (L : List Ex) (k : Nat) : cN L (k + 1) = cN L k + (if 0 < val L (k : Int) then 1 else 0) := by
  unfold cN; rw [List.range_succ, List.countP_append]; simp [List.countP_cons]
theorem cS_le (L : List Ex) (k : Nat) : cS L k ≤ k := by
  have := List.countP_le_length (p := fun (j : Nat) => decide (0 ≤ val L (j : Int))) (l := List.range k)
  simpa [cS] using this
theorem cN_le (L : List Ex) (k : Nat) : cN L k ≤ k := by
  have := List.countP_le_length (p := fun (j : Nat) => decide (0 < val L (j : Int))) (l := List.range k)
  simpa [cN] using this
theorem cN_ids {L : List Ex} (h : Ti L) : (idsL L).length = cN L 64 := by
  rw [ids_ti h]
  unfold segI cN
  rw [← List.countP_eq_length_filter, List.countP_map]
  congr 1
  funext j
  simp [Function.comp]
theorem cS_spans {L : List Ex} {ps : List Sp} (hc : Canon ps) (h : ∀ k, In ps k ↔ 0 ≤ val L k) : cnt ps = (cS L 64 : Nat) := by
  rw [← upTo_64 hc]
  congr 1
  unfold upTo cS
  congr 1
  funext j
  simp only [decide_eq_decide]
  exact h j

set_option maxRecDepth 100000 in
set_option maxHeartbeats 4000000 in
theorem counts_any {w : World} {v : Value} {l : List Ex} (hr : BkE.Row w v l) :
    Calls Try.prog 7 #[v] w fun e w' => e = .returned (.bool true) ∧ Below w.heap.size w w' := by
  obtain ⟨a, c, rfl⟩ := hr.slice
  have hr' := Hid.intro hr
  clear hr
  by_cases hl : l.length ≤ 60
  · have hl' : (l.length : Int) ≤ 60 := by omega
    go_enter Try.func7, Try.ntmps7
    go_wp2_with fail
    refine (alive_any _).mono ?_; rintro e w3 ⟨rfl, hb3⟩
    go_wp2_with fail
    refine (lawTidy_any (hr'.out.below hb3) (by omega)).mono ?_; rintro e w4 ⟨v5, L, rfl, hv5, hTi, hvL, hb4⟩
    clear hvL
    have hB4 := Hid.intro (hb3.trans (hb4.mono hb3.size))
    have hr5 := Hid.intro (BkE.own_row hv5)
    have hTi' := Hid.intro hTi
    have hLl := ti_len hTi
    obtain ⟨q5, z5, rfl⟩ := hr5.out.slice
    clear hb3 hb4 hv5 hTi
    go_wp2_with fail
    go_loopw [4, 5, 6] (fun nv sv jv wr => ∃ k : Nat, k ≤ 64 ∧ jv = .int .i64 k ∧ nv = .int .i64 (cN L k : Nat) ∧ sv = .int .i64 (cS L k : Nat) ∧ BkE.Row wr (.slice q5 L.length z5) L ∧ Below w.heap.size w wr) (fun _ _ jv _ => 64 - (intOf jv).toNat)
    case atStart => exact ⟨0, Nat.zero_le _, rfl, rfl, rfl, hr5.out, hB4.out⟩
    case round =>
      clear hr5 hB4
      obtain ⟨k, hk, rfl, rfl, rfl, hrr, hBB⟩ := hrel
      have k0 : (0 : Int) ≤ (k : Int) := Int.natCast_nonneg _
      have n0 : (0 : Int) ≤ ((cN L k : Nat) : Int) := Int.natCast_nonneg _
      have s0 : (0 : Int) ≤ ((cS L k : Nat) : Int) := Int.natCast_nonneg _
      have n1 : ((cN L k : Nat) : Int) ≤ 64 := by have := cN_le L k; omega
      have s1 : ((cS L k : Nat) : Int) ≤ 64 := by have := cS_le L k; omega
      by_cases hlt : k < 64
      · have k1 : (k : Int) < 64 := by omega
        have es := Hid.intro (cS_succ L k)
        have en := Hid.intro (cN_succ L k)
        go_wp2_with fail
        refine (find_any hrr hTi'.out (by omega) (k : Int)).mono ?_; rintro e x1 ⟨rfl, hb1⟩
        have hrr := Hid.intro (hrr.below hb1)
        have hBB := Hid.intro (hBB.trans (hb1.mono hBB.size))
        clear hb1
        rcases tp_val hTi'.out (k : Int) with hv | ⟨hv, _⟩
        · have e1 : findV L (k : Int) = 0 := by unfold findV; rw [if_neg (by omega)]
          have e2 : decide (0 ≤ val L (k : Int)) = false := by rw [hv]; rfl
          have hcs : Hid (Value.int .i64 ((cS L k : Nat) : Int) = .int .i64 ((cS L (k + 1) : Nat) : Int)) := Hid.intro (by rw [es.out, if_neg (by omega)]; rfl)
          have hcn : Hid (Value.int .i64 ((cN L k : Nat) : Int) = .int .i64 ((cN L (k + 1) : Nat) : Int)) := Hid.intro (by rw [en.out, if_neg (by omega)]; rfl)
          rw [e1, e2]
          clear e1 e2 hv es en
          go_wp2
          go_roundw
          case rel => exact ⟨k + 1, by omega, by go_num, hcn.out, hcs.out, hrr.out, hBB.out⟩
          case measure => simp [intOf]; omega
        · have e2 : decide (0 ≤ val L (k : Int)) = true := by simp [hv]
          have e1 : findV L (k : Int) = val L (k : Int) := by unfold findV; rw [if_pos hv]
          have hcs : Hid (Value.int .i64 (((cS L k : Nat) : Int) + 1) = .int .i64 ((cS L (k + 1) : Nat) : Int)) := Hid.intro (by rw [es.out, if_pos hv]; push_cast; rfl)
          rw [e1, e2]
          by_cases hp : 0 < val L (k : Int)
          · have hcn : Hid (Value.int .i64 (((cN L k : Nat) : Int) + 1) = .int .i64 ((cN L (k + 1) : Nat) : Int)) := Hid.intro (by rw [en.out, if_pos hp]; push_cast; rfl)
            clear e1 e2 hv es en
            go_wp2
            go_roundw
            case rel => exact ⟨k + 1, by omega, by go_num, hcn.out, hcs.out, hrr.out, hBB.out⟩
            case measure => simp [intOf]; omega
          · have hcn : Hid (Value.int .i64 ((cN L k : Nat) : Int) = .int .i64 ((cN L (k + 1) : Nat) : Int)) := Hid.intro (by rw [en.out, if_neg hp]; rfl)
            clear e1 e2 hv es en
            go_wp2
            go_roundw
            case rel => exact ⟨k + 1, by omega, by go_num, hcn.out, hcs.out, hrr.out, hBB.out⟩
            case measure => simp [intOf]; omega
      · have hk' : k = 64 := by omega
        subst hk'
        have hci := Hid.intro (cN_ids hTi'.out)
        go_wp2_with fail
        refine (spans_row hrr hTi'.out).mono ?_; rintro e x1 ⟨v6, ps, rfl, hv6, hcan, hin, hb1⟩
        have hcs := Hid.intro (cS_spans hcan hin)
        have hr6 := Hid.intro (own_row hv6)
        have hrr2 := Hid.intro (hrr.below hb1)
        have hB2 := Hid.intro (hBB.trans (hb1.mono hBB.size))
        have hpl := canon_64 hcan
        have hcan' := Hid.intro hcan
        obtain ⟨q6, z6, rfl⟩ := hr6.out.slice
        clear hv6 hin hb1 hrr hBB hcan
        go_wp2_with fail
        go_loopw [9, 42] (fun sv jv wr => ∃ i : Nat, i ≤ ps.length ∧ jv = .int .i64 i ∧ sv = .int .i64 (cnt (ps.take i)) ∧ Row wr (.slice q6 ps.length z6) ps ∧ BkE.Row wr (.slice q5 L.length z5) L ∧ Below w.heap.size w wr) (fun _ jv _ => ps.length - (intOf jv).toNat)
        case atStart => exact ⟨0, Nat.zero_le _, rfl, rfl, hr6.out, hrr2.out, hB2.out⟩
        case round =>
          clear hr6 hrr2 hB2
          obtain ⟨i, hi, rfl, rfl, hr6, hrr2, hB2⟩ := hrel
          have i0' : (0 : Int) ≤ (i : Int) := Int.natCast_nonneg _
          obtain ⟨c0, c1⟩ := cnt_bound (canon_take hcan'.out i)
          by_cases hil : i < ps.length
          · obtain ⟨g, o, ⟨f, n⟩, rfl, hg, hp, d0, d1⟩ := srow_at hr6 hil
            have hwf := canon_whole hcan'.out _ (List.mem_of_getElem? hp)
            obtain ⟨w1, w2, w3⟩ := hwf
            have hct := Hid.intro (cnt_take_succ hp)
            have i1 : (i : Int) < (ps.length : Int) := by omega
            simp only at d0 d1 w1 w2 w3 hct
            have hba : Below wr.heap.size wr (wr.alloc (.cells #[.int .i64 f, .int .i64 n] 26)) := (Below.refl _ _).alloc (Nat.le_refl _) _
            have hr7 := Hid.intro (hr6.below hba)
            have hrr3 := Hid.intro (hrr2.below hba)
            have hB3 := Hid.intro (hB2.trans (hba.mono hB2.size))
            obtain ⟨ct, hctv⟩ : ∃ ct, cnt (ps.take i) = ct := ⟨_, rfl⟩
            rw [hctv] at c0 c1 hct ⊢
            clear hp hr6 hrr2 hB2 hba hctv
            go_wp2
            go_roundw
            case rel => exact ⟨i + 1, by omega, by go_num, by rw [hct.out], hr7.out, hrr3.out, hB3.out⟩
            case measure => simp [intOf]; omega
          · have hie : i = ps.length := by omega
            have hfull : cnt (ps.take i) = (cS L 64 : Nat) := by rw [hie, List.take_length]; exact hcs.out
            rw [hfull]
            clear hfull hcs c0 c1 hie
            go_wp2_with fail
            refine (ids_row hrr2 hTi'.out).mono ?_; rintro e x2 ⟨v7, rfl, hv7, hb2⟩
            have hB3 := hB2.trans (hb2.mono hB2.size)
            obtain ⟨a7, c7, rfl⟩ := (BkI.own_row hv7).slice
            rw [hci.out]
            clear hv7 hb2
            go_wp2
            go_ret
            exact ⟨by simp, hB3⟩
  · have hl2 : (60 : Int) < (l.length : Int) := by omega
    go_enter Try.func7, Try.ntmps7
    go_wp2_with fail
    refine (alive_any _).mono ?_; rintro e w3 ⟨rfl, hb3⟩
    go_wp2
    go_ret
    exact ⟨rfl, hb3⟩
end Go.Proofs.Ytfikkbmilhcahaa
