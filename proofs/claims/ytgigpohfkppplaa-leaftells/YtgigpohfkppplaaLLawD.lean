/-
  The walk of LeafTells.
-/
import Derived.Test.YtgigpohfkppplaaLLawB
namespace Go.Proofs.Ytgigpohfkppplaa
open Go.ChangeShapes Go.WideShapes Go.ChangeAt Go.RowKit
attribute [local go_sem] str_size str_extract str_append str_toList

theorem rd_nil {P : List UInt8} (hl : P.length = 32) (h : ¬ Isp P) : rdS P = [] ∧ rdE P = 6 := by
  refine ⟨if_neg h, ?_⟩
  unfold rdE; rw [if_neg (by omega), if_neg h]
set_option maxRecDepth 100000 in
theorem ltells_b (S P : List UInt8) (n : Int) (w : World) (h : 600 < S.length) :
    Calls Try.prog 3 #[.string (str S), .string (str P), .int .i64 n] w fun e w' => e = .returned (.bool true) ∧ Below w.heap.size w w' := by
  have hA := Hid.intro alive_any
  have d1 : decide ((600 : Int) < (S.length : Int)) = true := decide_eq_true (by omega)
  go_enter Try.func3, Try.ntmps3
  go_wp2_with fail
  refine (hA.out _).mono ?_; rintro e w1 ⟨rfl, hb1⟩
  have hb1' := Hid.intro hb1
  clear hb1
  go_wp2
  go_ret
  exact ⟨rfl, hb1'.out⟩
set_option maxRecDepth 100000 in
theorem ltells_p (S P : List UInt8) (n : Int) (w : World) (h : S.length ≤ 600) (h2 : 100 < P.length) :
    Calls Try.prog 3 #[.string (str S), .string (str P), .int .i64 n] w fun e w' => e = .returned (.bool true) ∧ Below w.heap.size w w' := by
  have hA := Hid.intro alive_any
  have d1 : decide ((600 : Int) < (S.length : Int)) = false := decide_eq_false (by omega)
  have d2 : decide ((100 : Int) < (P.length : Int)) = true := decide_eq_true (by omega)
  go_enter Try.func3, Try.ntmps3
  go_wp2_with fail
  refine (hA.out _).mono ?_; rintro e w1 ⟨rfl, hb1⟩
  have hb1' := Hid.intro hb1
  clear hb1
  go_wp2
  go_ret
  exact ⟨rfl, hb1'.out⟩
set_option maxRecDepth 100000 in
set_option maxHeartbeats 16000000 in
theorem ltells_long_yes (S P : List UInt8) (n : Int) (w : World) (h : S.length ≤ 600) (_ : P.length ≤ 100) (hnb : -9223372036854775808 ≤ n ∧ n ≤ 9223372036854775807) (h27 : 27 < S.length) (hI : Isp P) :
    Calls Try.prog 3 #[.string (str S), .string (str P), .int .i64 n] w fun e w' => e = .returned (.bool true) ∧ Below w.heap.size w w' := by
  have hA := Hid.intro alive_any
  have s0 : (0 : Int) ≤ (S.length : Int) := Int.natCast_nonneg _
  have s1 : (S.length : Int) ≤ 600 := by omega
  have d1 : decide ((600 : Int) < (S.length : Int)) = false := decide_eq_false (by omega)
  have d2 : decide ((100 : Int) < (P.length : Int)) = false := decide_eq_false (by omega)
  have hR := Hid.intro (fun w => read_any P w)
  have hU := Hid.intro (fun w => unleaf_any P w)
  have r1 : rdE P = 0 := by unfold rdE; rw [if_neg (by have := hI.1; omega), if_pos hI]
  rw [unS_yes hI, decide_eq_true hI] at hU
  rw [r1] at hR
  have hl : (P.length : Int) = 32 := by have := hI.1; omega
  clear r1 hI
  generalize rdS P = RD at *
  have hP := Hid.intro (fun w => parts_any S w (by omega))
  have hN1 := Hid.intro (fun w => need_any S.length w (by omega) (by omega))
  have hN2 := Hid.intro (fun w => need_any n w hnb.2 hnb.1)
  rw [ned_nat] at hN1
  have hn : (decide (1 ≤ n) = false ∧ decide (1099511627776 < n) = false ∧ ned n = 0) ∨ (decide (1 ≤ n) = true ∧ decide (n ≤ 1099511627776) = true ∧ decide (1099511627776 < n) = false ∧ n ≤ 1099511627776 ∧ 1 ≤ n) ∨ (decide (1 ≤ n) = true ∧ decide (n ≤ 1099511627776) = false ∧ decide (1099511627776 < n) = true) := by
    by_cases a1 : 1 ≤ n
    · by_cases a2 : n ≤ 1099511627776
      · exact .inr (.inl ⟨decide_eq_true a1, decide_eq_true a2, decide_eq_false (by omega), a2, a1⟩)
      · exact .inr (.inr ⟨decide_eq_true a1, decide_eq_false a2, decide_eq_true (by omega)⟩)
    · exact .inl ⟨decide_eq_false a1, decide_eq_false (by omega), by unfold ned; rw [if_pos (by omega)]⟩
  have hall : Hid (S.take (27 * need S.length) = S) := Hid.intro (chk_all (Nat.le_refl _))
  have hnl : need S.length ≤ 23 := by unfold need; omega
  have hnn : Hid (∀ i, i < need S.length → (prt S)[i]? = some (chk S i) ∧ 1 ≤ (chk S i).length ∧ (chk S i).length ≤ 27 ∧ (i + 1 < need S.length → (chk S i).length = 27)) :=
    Hid.intro fun i hi => ⟨prt_get hi, (chk_pos hi).1, (chk_pos hi).2, fun h => chk_full h⟩
  generalize need S.length = nn at *
  have n0 : (0 : Int) ≤ (nn : Int) := Int.natCast_nonneg _
  have hL := Hid.intro (fun w => lay_none S w (by omega))
  have z1 : (27 : Int) < (S.length : Int) := by omega
  go_enter Try.func3, Try.ntmps3
  go_wp2_with fail
  refine (hA.out _).mono ?_; rintro e w1 ⟨rfl, hbx⟩
  have hbw1 := Hid.intro hbx
  clear hbx hA
  go_wp2_with fail
  refine (hL.out _).mono ?_; rintro e w2 ⟨rfl, hwx⟩
  obtain rfl : w1 = w2 := hwx.symm
  clear hwx
  go_wp2_with fail
  refine (hR.out _).mono ?_; rintro e w5 ⟨rfl, hbx⟩
  have hbw5 := Hid.intro (hbw1.out.trans (hbx.mono hbw1.out.size))
  clear hbx
  go_wp2_with fail
  refine (hU.out _).mono ?_; rintro e w6 ⟨rfl, hbx⟩
  have hbw6 := Hid.intro (hbw5.out.trans (hbx.mono hbw5.out.size))
  clear hbx
  go_wp2_with fail
  refine (hP.out _).mono ?_; rintro e w7 ⟨v, rfl, hv, hbx⟩
  have hbw7 := Hid.intro (hbw6.out.trans (hbx.mono hbw6.out.size))
  clear hbx
  obtain ⟨a, c, rfl, hrd⟩ := own_strs hv
  have hrd' := Hid.intro hrd
  clear hv hrd hP
  go_wp2_with fail
  go_loopw [15, 16] (fun av iv wr => ∃ i : Nat, i ≤ nn ∧ av = .string (str (S.take (27 * i))) ∧ iv = .int .i64 i ∧ w7 = wr) (fun _ iv _ => nn - (intOf iv).toNat)
  case atStart => exact ⟨0, Nat.zero_le _, rfl, rfl, rfl⟩
  case round =>
    obtain ⟨i, hi, rfl, rfl, rfl⟩ := hrel
    have i0 : (0 : Int) ≤ (i : Int) := Int.natCast_nonneg _
    by_cases hlt : i < nn
    · have i1 : (i : Int) < (nn : Int) := by omega
      obtain ⟨hg, k1, k2, k3⟩ := hnn.out i hlt
      obtain ⟨g, rfl, hgl, ld⟩ := hrd'.out i _ hg
      have hnx := Hid.intro (chk_next S i)
      have htl : (S.take (27 * i)).length ≤ 600 := by rw [List.length_take]; omega
      clear hg
      generalize chk S i = C at *
      generalize S.take (27 * i) = TT at *
      have q1 : decide ((C.length : Int) < 1) = false := decide_eq_false (by omega)
      have q2 : decide ((27 : Int) < (C.length : Int)) = false := decide_eq_false (by omega)
      have q3 : ¬ 9223372036854775807 < TT.length + C.length := by omega
      by_cases hl2 : i + 1 < nn
      · have i2 : decide ((i : Int) + 1 < (nn : Int)) = true := decide_eq_true (by omega)
        have hc27 : (C.length : Int) = 27 := by have := k3 hl2; omega
        have hc27' : C.length = 27 := k3 hl2
        clear k3
        go_wp2
        go_roundw
        case rel => exact ⟨i + 1, by omega, by rw [← hnx.out], by go_num, trivial⟩
        case measure => simp [intOf]; omega
      · have i2 : decide ((i : Int) + 1 < (nn : Int)) = false := decide_eq_false (by omega)
        clear k3
        go_wp2
        go_roundw
        case rel => exact ⟨i + 1, by omega, by rw [← hnx.out], by go_num, trivial⟩
        case measure => simp [intOf]; omega
    · obtain rfl : i = nn := by omega
      have hall' := hall.out
      rw [hall']
      clear hall' hnn
      rcases hn with ⟨c1, c0, e0⟩ | ⟨c1, c2, c3, c4, c5⟩ | ⟨c1, c2, c3⟩
      · rw [e0] at hN2
        go_wp2_with fail
        refine (hN1.out _).mono ?_; rintro e wa ⟨rfl, hwx⟩
        obtain rfl : w7 = wa := hwx.symm
        clear hwx
        go_wp2_with fail
        refine (hN2.out _).mono ?_; rintro e wb ⟨rfl, hwx⟩
        obtain rfl : w7 = wb := hwx.symm
        clear hwx
        go_wp2
        go_ret
        exact ⟨rfl, hbw7.out⟩
      · have hN3 := Hid.intro (fun w => rneed_any n w c4 c5)
        go_wp2_with fail
        refine (hN3.out _).mono ?_; rintro e wc ⟨rfl, hwx⟩
        obtain rfl : w7 = wc := hwx.symm
        clear hwx
        go_wp2_with fail
        refine (hN1.out _).mono ?_; rintro e wa ⟨rfl, hwx⟩
        obtain rfl : w7 = wa := hwx.symm
        clear hwx
        go_wp2_with fail
        refine (hN2.out _).mono ?_; rintro e wb ⟨rfl, hwx⟩
        obtain rfl : w7 = wb := hwx.symm
        clear hwx
        go_wp2
        go_ret
        exact ⟨rfl, hbw7.out⟩
      · go_wp2_with fail
        refine (hN1.out _).mono ?_; rintro e wa ⟨rfl, hwx⟩
        obtain rfl : w7 = wa := hwx.symm
        clear hwx
        go_wp2
        go_ret
        exact ⟨rfl, hbw7.out⟩
set_option maxRecDepth 100000 in
set_option maxHeartbeats 16000000 in
theorem ltells_long_no (S P : List UInt8) (n : Int) (w : World) (h : S.length ≤ 600) (_ : P.length ≤ 100) (hnb : -9223372036854775808 ≤ n ∧ n ≤ 9223372036854775807) (h27 : 27 < S.length) (hl : P.length = 32) (hI : ¬ Isp P) :
    Calls Try.prog 3 #[.string (str S), .string (str P), .int .i64 n] w fun e w' => e = .returned (.bool true) ∧ Below w.heap.size w w' := by
  have hA := Hid.intro alive_any
  have s0 : (0 : Int) ≤ (S.length : Int) := Int.natCast_nonneg _
  have s1 : (S.length : Int) ≤ 600 := by omega
  have d1 : decide ((600 : Int) < (S.length : Int)) = false := decide_eq_false (by omega)
  have d2 : decide ((100 : Int) < (P.length : Int)) = false := decide_eq_false (by omega)
  have hR := Hid.intro (fun w => read_any P w)
  have hU := Hid.intro (fun w => unleaf_any P w)
  rw [(rd_nil hl hI).1, (rd_nil hl hI).2] at hR
  rw [decide_eq_false hI] at hU
  have hlp : (P.length : Int) = 32 := by omega
  clear hl hI
  generalize unS P = UD at *
  have hP := Hid.intro (fun w => parts_any S w (by omega))
  have hN1 := Hid.intro (fun w => need_any S.length w (by omega) (by omega))
  have hN2 := Hid.intro (fun w => need_any n w hnb.2 hnb.1)
  rw [ned_nat] at hN1
  have hn : (decide (1 ≤ n) = false ∧ decide (1099511627776 < n) = false ∧ ned n = 0) ∨ (decide (1 ≤ n) = true ∧ decide (n ≤ 1099511627776) = true ∧ decide (1099511627776 < n) = false ∧ n ≤ 1099511627776 ∧ 1 ≤ n) ∨ (decide (1 ≤ n) = true ∧ decide (n ≤ 1099511627776) = false ∧ decide (1099511627776 < n) = true) := by
    by_cases a1 : 1 ≤ n
    · by_cases a2 : n ≤ 1099511627776
      · exact .inr (.inl ⟨decide_eq_true a1, decide_eq_true a2, decide_eq_false (by omega), a2, a1⟩)
      · exact .inr (.inr ⟨decide_eq_true a1, decide_eq_false a2, decide_eq_true (by omega)⟩)
    · exact .inl ⟨decide_eq_false a1, decide_eq_false (by omega), by unfold ned; rw [if_pos (by omega)]⟩
  have hall : Hid (S.take (27 * need S.length) = S) := Hid.intro (chk_all (Nat.le_refl _))
  have hnl : need S.length ≤ 23 := by unfold need; omega
  have hnn : Hid (∀ i, i < need S.length → (prt S)[i]? = some (chk S i) ∧ 1 ≤ (chk S i).length ∧ (chk S i).length ≤ 27 ∧ (i + 1 < need S.length → (chk S i).length = 27)) :=
    Hid.intro fun i hi => ⟨prt_get hi, (chk_pos hi).1, (chk_pos hi).2, fun h => chk_full h⟩
  generalize need S.length = nn at *
  have n0 : (0 : Int) ≤ (nn : Int) := Int.natCast_nonneg _
  have hL := Hid.intro (fun w => lay_none S w (by omega))
  have z1 : (27 : Int) < (S.length : Int) := by omega
  go_enter Try.func3, Try.ntmps3
  go_wp2_with fail
  refine (hA.out _).mono ?_; rintro e w1 ⟨rfl, hbx⟩
  have hbw1 := Hid.intro hbx
  clear hbx hA
  go_wp2_with fail
  refine (hL.out _).mono ?_; rintro e w2 ⟨rfl, hwx⟩
  obtain rfl : w1 = w2 := hwx.symm
  clear hwx
  go_wp2_with fail
  refine (hR.out _).mono ?_; rintro e w5 ⟨rfl, hbx⟩
  have hbw5 := Hid.intro (hbw1.out.trans (hbx.mono hbw1.out.size))
  clear hbx
  go_wp2_with fail
  refine (hU.out _).mono ?_; rintro e w6 ⟨rfl, hbx⟩
  have hbw6 := Hid.intro (hbw5.out.trans (hbx.mono hbw5.out.size))
  clear hbx
  go_wp2_with fail
  refine (hP.out _).mono ?_; rintro e w7 ⟨v, rfl, hv, hbx⟩
  have hbw7 := Hid.intro (hbw6.out.trans (hbx.mono hbw6.out.size))
  clear hbx
  obtain ⟨a, c, rfl, hrd⟩ := own_strs hv
  have hrd' := Hid.intro hrd
  clear hv hrd hP
  go_wp2_with fail
  go_loopw [15, 16] (fun av iv wr => ∃ i : Nat, i ≤ nn ∧ av = .string (str (S.take (27 * i))) ∧ iv = .int .i64 i ∧ w7 = wr) (fun _ iv _ => nn - (intOf iv).toNat)
  case atStart => exact ⟨0, Nat.zero_le _, rfl, rfl, rfl⟩
  case round =>
    obtain ⟨i, hi, rfl, rfl, rfl⟩ := hrel
    have i0 : (0 : Int) ≤ (i : Int) := Int.natCast_nonneg _
    by_cases hlt : i < nn
    · have i1 : (i : Int) < (nn : Int) := by omega
      obtain ⟨hg, k1, k2, k3⟩ := hnn.out i hlt
      obtain ⟨g, rfl, hgl, ld⟩ := hrd'.out i _ hg
      have hnx := Hid.intro (chk_next S i)
      have htl : (S.take (27 * i)).length ≤ 600 := by rw [List.length_take]; omega
      clear hg
      generalize chk S i = C at *
      generalize S.take (27 * i) = TT at *
      have q1 : decide ((C.length : Int) < 1) = false := decide_eq_false (by omega)
      have q2 : decide ((27 : Int) < (C.length : Int)) = false := decide_eq_false (by omega)
      have q3 : ¬ 9223372036854775807 < TT.length + C.length := by omega
      by_cases hl2 : i + 1 < nn
      · have i2 : decide ((i : Int) + 1 < (nn : Int)) = true := decide_eq_true (by omega)
        have hc27 : (C.length : Int) = 27 := by have := k3 hl2; omega
        have hc27' : C.length = 27 := k3 hl2
        clear k3
        go_wp2
        go_roundw
        case rel => exact ⟨i + 1, by omega, by rw [← hnx.out], by go_num, trivial⟩
        case measure => simp [intOf]; omega
      · have i2 : decide ((i : Int) + 1 < (nn : Int)) = false := decide_eq_false (by omega)
        clear k3
        go_wp2
        go_roundw
        case rel => exact ⟨i + 1, by omega, by rw [← hnx.out], by go_num, trivial⟩
        case measure => simp [intOf]; omega
    · obtain rfl : i = nn := by omega
      have hall' := hall.out
      rw [hall']
      clear hall' hnn
      rcases hn with ⟨c1, c0, e0⟩ | ⟨c1, c2, c3, c4, c5⟩ | ⟨c1, c2, c3⟩
      · rw [e0] at hN2
        go_wp2_with fail
        refine (hN1.out _).mono ?_; rintro e wa ⟨rfl, hwx⟩
        obtain rfl : w7 = wa := hwx.symm
        clear hwx
        go_wp2_with fail
        refine (hN2.out _).mono ?_; rintro e wb ⟨rfl, hwx⟩
        obtain rfl : w7 = wb := hwx.symm
        clear hwx
        go_wp2
        go_ret
        exact ⟨rfl, hbw7.out⟩
      · have hN3 := Hid.intro (fun w => rneed_any n w c4 c5)
        go_wp2_with fail
        refine (hN3.out _).mono ?_; rintro e wc ⟨rfl, hwx⟩
        obtain rfl : w7 = wc := hwx.symm
        clear hwx
        go_wp2_with fail
        refine (hN1.out _).mono ?_; rintro e wa ⟨rfl, hwx⟩
        obtain rfl : w7 = wa := hwx.symm
        clear hwx
        go_wp2_with fail
        refine (hN2.out _).mono ?_; rintro e wb ⟨rfl, hwx⟩
        obtain rfl : w7 = wb := hwx.symm
        clear hwx
        go_wp2
        go_ret
        exact ⟨rfl, hbw7.out⟩
      · go_wp2_with fail
        refine (hN1.out _).mono ?_; rintro e wa ⟨rfl, hwx⟩
        obtain rfl : w7 = wa := hwx.symm
        clear hwx
        go_wp2
        go_ret
        exact ⟨rfl, hbw7.out⟩
set_option maxRecDepth 100000 in
set_option maxHeartbeats 16000000 in
theorem ltells_long_len (S P : List UInt8) (n : Int) (w : World) (h : S.length ≤ 600) (h2 : P.length ≤ 100) (hnb : -9223372036854775808 ≤ n ∧ n ≤ 9223372036854775807) (h27 : 27 < S.length) (hl : ¬ P.length = 32) :
    Calls Try.prog 3 #[.string (str S), .string (str P), .int .i64 n] w fun e w' => e = .returned (.bool true) ∧ Below w.heap.size w w' := by
  have hA := Hid.intro alive_any
  have s0 : (0 : Int) ≤ (S.length : Int) := Int.natCast_nonneg _
  have s1 : (S.length : Int) ≤ 600 := by omega
  have d1 : decide ((600 : Int) < (S.length : Int)) = false := decide_eq_false (by omega)
  have d2 : decide ((100 : Int) < (P.length : Int)) = false := decide_eq_false (by omega)
  have hR := Hid.intro (fun w => read_any P w)
  have hU := Hid.intro (fun w => unleaf_any P w)
  have hI : ¬ Isp P := fun h => hl h.1
  have r1 : rdE P = 8 := by unfold rdE; rw [if_pos hl]
  rw [rdS_no hI, r1] at hR
  rw [decide_eq_false hI] at hU
  have hlp : ¬ (P.length : Int) = 32 := by omega
  clear hl hI r1
  generalize unS P = UD at *
  have hP := Hid.intro (fun w => parts_any S w (by omega))
  have hN1 := Hid.intro (fun w => need_any S.length w (by omega) (by omega))
  have hN2 := Hid.intro (fun w => need_any n w hnb.2 hnb.1)
  rw [ned_nat] at hN1
  have hn : (decide (1 ≤ n) = false ∧ decide (1099511627776 < n) = false ∧ ned n = 0) ∨ (decide (1 ≤ n) = true ∧ decide (n ≤ 1099511627776) = true ∧ decide (1099511627776 < n) = false ∧ n ≤ 1099511627776 ∧ 1 ≤ n) ∨ (decide (1 ≤ n) = true ∧ decide (n ≤ 1099511627776) = false ∧ decide (1099511627776 < n) = true) := by
    by_cases a1 : 1 ≤ n
    · by_cases a2 : n ≤ 1099511627776
      · exact .inr (.inl ⟨decide_eq_true a1, decide_eq_true a2, decide_eq_false (by omega), a2, a1⟩)
      · exact .inr (.inr ⟨decide_eq_true a1, decide_eq_false a2, decide_eq_true (by omega)⟩)
    · exact .inl ⟨decide_eq_false a1, decide_eq_false (by omega), by unfold ned; rw [if_pos (by omega)]⟩
  have hall : Hid (S.take (27 * need S.length) = S) := Hid.intro (chk_all (Nat.le_refl _))
  have hnl : need S.length ≤ 23 := by unfold need; omega
  have hnn : Hid (∀ i, i < need S.length → (prt S)[i]? = some (chk S i) ∧ 1 ≤ (chk S i).length ∧ (chk S i).length ≤ 27 ∧ (i + 1 < need S.length → (chk S i).length = 27)) :=
    Hid.intro fun i hi => ⟨prt_get hi, (chk_pos hi).1, (chk_pos hi).2, fun h => chk_full h⟩
  generalize need S.length = nn at *
  have n0 : (0 : Int) ≤ (nn : Int) := Int.natCast_nonneg _
  have hL := Hid.intro (fun w => lay_none S w (by omega))
  have z1 : (27 : Int) < (S.length : Int) := by omega
  go_enter Try.func3, Try.ntmps3
  go_wp2_with fail
  refine (hA.out _).mono ?_; rintro e w1 ⟨rfl, hbx⟩
  have hbw1 := Hid.intro hbx
  clear hbx hA
  go_wp2_with fail
  refine (hL.out _).mono ?_; rintro e w2 ⟨rfl, hwx⟩
  obtain rfl : w1 = w2 := hwx.symm
  clear hwx
  go_wp2_with fail
  refine (hR.out _).mono ?_; rintro e w5 ⟨rfl, hbx⟩
  have hbw5 := Hid.intro (hbw1.out.trans (hbx.mono hbw1.out.size))
  clear hbx
  go_wp2_with fail
  refine (hU.out _).mono ?_; rintro e w6 ⟨rfl, hbx⟩
  have hbw6 := Hid.intro (hbw5.out.trans (hbx.mono hbw5.out.size))
  clear hbx
  go_wp2_with fail
  refine (hP.out _).mono ?_; rintro e w7 ⟨v, rfl, hv, hbx⟩
  have hbw7 := Hid.intro (hbw6.out.trans (hbx.mono hbw6.out.size))
  clear hbx
  obtain ⟨a, c, rfl, hrd⟩ := own_strs hv
  have hrd' := Hid.intro hrd
  clear hv hrd hP
  go_wp2_with fail
  go_loopw [15, 16] (fun av iv wr => ∃ i : Nat, i ≤ nn ∧ av = .string (str (S.take (27 * i))) ∧ iv = .int .i64 i ∧ w7 = wr) (fun _ iv _ => nn - (intOf iv).toNat)
  case atStart => exact ⟨0, Nat.zero_le _, rfl, rfl, rfl⟩
  case round =>
    obtain ⟨i, hi, rfl, rfl, rfl⟩ := hrel
    have i0 : (0 : Int) ≤ (i : Int) := Int.natCast_nonneg _
    by_cases hlt : i < nn
    · have i1 : (i : Int) < (nn : Int) := by omega
      obtain ⟨hg, k1, k2, k3⟩ := hnn.out i hlt
      obtain ⟨g, rfl, hgl, ld⟩ := hrd'.out i _ hg
      have hnx := Hid.intro (chk_next S i)
      have htl : (S.take (27 * i)).length ≤ 600 := by rw [List.length_take]; omega
      clear hg
      generalize chk S i = C at *
      generalize S.take (27 * i) = TT at *
      have q1 : decide ((C.length : Int) < 1) = false := decide_eq_false (by omega)
      have q2 : decide ((27 : Int) < (C.length : Int)) = false := decide_eq_false (by omega)
      have q3 : ¬ 9223372036854775807 < TT.length + C.length := by omega
      by_cases hl2 : i + 1 < nn
      · have i2 : decide ((i : Int) + 1 < (nn : Int)) = true := decide_eq_true (by omega)
        have hc27 : (C.length : Int) = 27 := by have := k3 hl2; omega
        have hc27' : C.length = 27 := k3 hl2
        clear k3
        go_wp2
        go_roundw
        case rel => exact ⟨i + 1, by omega, by rw [← hnx.out], by go_num, trivial⟩
        case measure => simp [intOf]; omega
      · have i2 : decide ((i : Int) + 1 < (nn : Int)) = false := decide_eq_false (by omega)
        clear k3
        go_wp2
        go_roundw
        case rel => exact ⟨i + 1, by omega, by rw [← hnx.out], by go_num, trivial⟩
        case measure => simp [intOf]; omega
    · obtain rfl : i = nn := by omega
      have hall' := hall.out
      rw [hall']
      clear hall' hnn
      rcases hn with ⟨c1, c0, e0⟩ | ⟨c1, c2, c3, c4, c5⟩ | ⟨c1, c2, c3⟩
      · rw [e0] at hN2
        go_wp2_with fail
        refine (hN1.out _).mono ?_; rintro e wa ⟨rfl, hwx⟩
        obtain rfl : w7 = wa := hwx.symm
        clear hwx
        go_wp2_with fail
        refine (hN2.out _).mono ?_; rintro e wb ⟨rfl, hwx⟩
        obtain rfl : w7 = wb := hwx.symm
        clear hwx
        go_wp2
        go_ret
        exact ⟨rfl, hbw7.out⟩
      · have hN3 := Hid.intro (fun w => rneed_any n w c4 c5)
        go_wp2_with fail
        refine (hN3.out _).mono ?_; rintro e wc ⟨rfl, hwx⟩
        obtain rfl : w7 = wc := hwx.symm
        clear hwx
        go_wp2_with fail
        refine (hN1.out _).mono ?_; rintro e wa ⟨rfl, hwx⟩
        obtain rfl : w7 = wa := hwx.symm
        clear hwx
        go_wp2_with fail
        refine (hN2.out _).mono ?_; rintro e wb ⟨rfl, hwx⟩
        obtain rfl : w7 = wb := hwx.symm
        clear hwx
        go_wp2
        go_ret
        exact ⟨rfl, hbw7.out⟩
      · go_wp2_with fail
        refine (hN1.out _).mono ?_; rintro e wa ⟨rfl, hwx⟩
        obtain rfl : w7 = wa := hwx.symm
        clear hwx
        go_wp2
        go_ret
        exact ⟨rfl, hbw7.out⟩
set_option maxRecDepth 100000 in
set_option maxHeartbeats 16000000 in
theorem ltells_short_yes (S P : List UInt8) (n : Int) (w : World) (h : S.length ≤ 600) (_ : P.length ≤ 100) (hnb : -9223372036854775808 ≤ n ∧ n ≤ 9223372036854775807) (h27 : S.length ≤ 27) (hI : Isp P) :
    Calls Try.prog 3 #[.string (str S), .string (str P), .int .i64 n] w fun e w' => e = .returned (.bool true) ∧ Below w.heap.size w w' := by
  have hA := Hid.intro alive_any
  have s0 : (0 : Int) ≤ (S.length : Int) := Int.natCast_nonneg _
  have s1 : (S.length : Int) ≤ 600 := by omega
  have d1 : decide ((600 : Int) < (S.length : Int)) = false := decide_eq_false (by omega)
  have d2 : decide ((100 : Int) < (P.length : Int)) = false := decide_eq_false (by omega)
  have hR := Hid.intro (fun w => read_any P w)
  have hU := Hid.intro (fun w => unleaf_any P w)
  have r1 : rdE P = 0 := by unfold rdE; rw [if_neg (by have := hI.1; omega), if_pos hI]
  rw [unS_yes hI, decide_eq_true hI] at hU
  rw [r1] at hR
  have hl : (P.length : Int) = 32 := by have := hI.1; omega
  clear r1 hI
  generalize rdS P = RD at *
  have hP := Hid.intro (fun w => parts_any S w (by omega))
  have hN1 := Hid.intro (fun w => need_any S.length w (by omega) (by omega))
  have hN2 := Hid.intro (fun w => need_any n w hnb.2 hnb.1)
  rw [ned_nat] at hN1
  have hn : (decide (1 ≤ n) = false ∧ decide (1099511627776 < n) = false ∧ ned n = 0) ∨ (decide (1 ≤ n) = true ∧ decide (n ≤ 1099511627776) = true ∧ decide (1099511627776 < n) = false ∧ n ≤ 1099511627776 ∧ 1 ≤ n) ∨ (decide (1 ≤ n) = true ∧ decide (n ≤ 1099511627776) = false ∧ decide (1099511627776 < n) = true) := by
    by_cases a1 : 1 ≤ n
    · by_cases a2 : n ≤ 1099511627776
      · exact .inr (.inl ⟨decide_eq_true a1, decide_eq_true a2, decide_eq_false (by omega), a2, a1⟩)
      · exact .inr (.inr ⟨decide_eq_true a1, decide_eq_false a2, decide_eq_true (by omega)⟩)
    · exact .inl ⟨decide_eq_false a1, decide_eq_false (by omega), by unfold ned; rw [if_pos (by omega)]⟩
  have hall : Hid (S.take (27 * need S.length) = S) := Hid.intro (chk_all (Nat.le_refl _))
  have hnl : need S.length ≤ 23 := by unfold need; omega
  have hnn : Hid (∀ i, i < need S.length → (prt S)[i]? = some (chk S i) ∧ 1 ≤ (chk S i).length ∧ (chk S i).length ≤ 27 ∧ (i + 1 < need S.length → (chk S i).length = 27)) :=
    Hid.intro fun i hi => ⟨prt_get hi, (chk_pos hi).1, (chk_pos hi).2, fun h => chk_full h⟩
  generalize need S.length = nn at *
  have n0 : (0 : Int) ≤ (nn : Int) := Int.natCast_nonneg _
  have hL := Hid.intro (fun w => lay_some S w h27)
  have hF := Hid.intro (fun w => rleaf_any S w h27)
  have z1 : ¬ (27 : Int) < (S.length : Int) := by omega
  clear h27
  generalize layL S = L at *
  go_enter Try.func3, Try.ntmps3
  go_wp2_with fail
  refine (hA.out _).mono ?_; rintro e w1 ⟨rfl, hbx⟩
  have hbw1 := Hid.intro hbx
  clear hbx hA
  go_wp2_with fail
  refine (hL.out _).mono ?_; rintro e w2 ⟨rfl, hbx⟩
  have hbw2 := Hid.intro (hbw1.out.trans (hbx.mono hbw1.out.size))
  clear hbx
  go_wp2_with fail
  refine (hF.out _).mono ?_; rintro e w3 ⟨rfl, hbx⟩
  have hbw3 := Hid.intro (hbw2.out.trans (hbx.mono hbw2.out.size))
  clear hbx
  go_wp2_with fail
  refine (hR.out _).mono ?_; rintro e w5 ⟨rfl, hbx⟩
  have hbw5 := Hid.intro (hbw3.out.trans (hbx.mono hbw3.out.size))
  clear hbx
  go_wp2_with fail
  refine (hU.out _).mono ?_; rintro e w6 ⟨rfl, hbx⟩
  have hbw6 := Hid.intro (hbw5.out.trans (hbx.mono hbw5.out.size))
  clear hbx
  go_wp2_with fail
  refine (hP.out _).mono ?_; rintro e w7 ⟨v, rfl, hv, hbx⟩
  have hbw7 := Hid.intro (hbw6.out.trans (hbx.mono hbw6.out.size))
  clear hbx
  obtain ⟨a, c, rfl, hrd⟩ := own_strs hv
  have hrd' := Hid.intro hrd
  clear hv hrd hP
  go_wp2_with fail
  go_loopw [15, 16] (fun av iv wr => ∃ i : Nat, i ≤ nn ∧ av = .string (str (S.take (27 * i))) ∧ iv = .int .i64 i ∧ w7 = wr) (fun _ iv _ => nn - (intOf iv).toNat)
  case atStart => exact ⟨0, Nat.zero_le _, rfl, rfl, rfl⟩
  case round =>
    obtain ⟨i, hi, rfl, rfl, rfl⟩ := hrel
    have i0 : (0 : Int) ≤ (i : Int) := Int.natCast_nonneg _
    by_cases hlt : i < nn
    · have i1 : (i : Int) < (nn : Int) := by omega
      obtain ⟨hg, k1, k2, k3⟩ := hnn.out i hlt
      obtain ⟨g, rfl, hgl, ld⟩ := hrd'.out i _ hg
      have hnx := Hid.intro (chk_next S i)
      have htl : (S.take (27 * i)).length ≤ 600 := by rw [List.length_take]; omega
      clear hg
      generalize chk S i = C at *
      generalize S.take (27 * i) = TT at *
      have q1 : decide ((C.length : Int) < 1) = false := decide_eq_false (by omega)
      have q2 : decide ((27 : Int) < (C.length : Int)) = false := decide_eq_false (by omega)
      have q3 : ¬ 9223372036854775807 < TT.length + C.length := by omega
      by_cases hl2 : i + 1 < nn
      · have i2 : decide ((i : Int) + 1 < (nn : Int)) = true := decide_eq_true (by omega)
        have hc27 : (C.length : Int) = 27 := by have := k3 hl2; omega
        have hc27' : C.length = 27 := k3 hl2
        clear k3
        go_wp2
        go_roundw
        case rel => exact ⟨i + 1, by omega, by rw [← hnx.out], by go_num, trivial⟩
        case measure => simp [intOf]; omega
      · have i2 : decide ((i : Int) + 1 < (nn : Int)) = false := decide_eq_false (by omega)
        clear k3
        go_wp2
        go_roundw
        case rel => exact ⟨i + 1, by omega, by rw [← hnx.out], by go_num, trivial⟩
        case measure => simp [intOf]; omega
    · obtain rfl : i = nn := by omega
      have hall' := hall.out
      rw [hall']
      clear hall' hnn
      rcases hn with ⟨c1, c0, e0⟩ | ⟨c1, c2, c3, c4, c5⟩ | ⟨c1, c2, c3⟩
      · rw [e0] at hN2
        go_wp2_with fail
        refine (hN1.out _).mono ?_; rintro e wa ⟨rfl, hwx⟩
        obtain rfl : w7 = wa := hwx.symm
        clear hwx
        go_wp2_with fail
        refine (hN2.out _).mono ?_; rintro e wb ⟨rfl, hwx⟩
        obtain rfl : w7 = wb := hwx.symm
        clear hwx
        go_wp2
        go_ret
        exact ⟨rfl, hbw7.out⟩
      · have hN3 := Hid.intro (fun w => rneed_any n w c4 c5)
        go_wp2_with fail
        refine (hN3.out _).mono ?_; rintro e wc ⟨rfl, hwx⟩
        obtain rfl : w7 = wc := hwx.symm
        clear hwx
        go_wp2_with fail
        refine (hN1.out _).mono ?_; rintro e wa ⟨rfl, hwx⟩
        obtain rfl : w7 = wa := hwx.symm
        clear hwx
        go_wp2_with fail
        refine (hN2.out _).mono ?_; rintro e wb ⟨rfl, hwx⟩
        obtain rfl : w7 = wb := hwx.symm
        clear hwx
        go_wp2
        go_ret
        exact ⟨rfl, hbw7.out⟩
      · go_wp2_with fail
        refine (hN1.out _).mono ?_; rintro e wa ⟨rfl, hwx⟩
        obtain rfl : w7 = wa := hwx.symm
        clear hwx
        go_wp2
        go_ret
        exact ⟨rfl, hbw7.out⟩
set_option maxRecDepth 100000 in
set_option maxHeartbeats 16000000 in
theorem ltells_short_no (S P : List UInt8) (n : Int) (w : World) (h : S.length ≤ 600) (_ : P.length ≤ 100) (hnb : -9223372036854775808 ≤ n ∧ n ≤ 9223372036854775807) (h27 : S.length ≤ 27) (hl : P.length = 32) (hI : ¬ Isp P) :
    Calls Try.prog 3 #[.string (str S), .string (str P), .int .i64 n] w fun e w' => e = .returned (.bool true) ∧ Below w.heap.size w w' := by
  have hA := Hid.intro alive_any
  have s0 : (0 : Int) ≤ (S.length : Int) := Int.natCast_nonneg _
  have s1 : (S.length : Int) ≤ 600 := by omega
  have d1 : decide ((600 : Int) < (S.length : Int)) = false := decide_eq_false (by omega)
  have d2 : decide ((100 : Int) < (P.length : Int)) = false := decide_eq_false (by omega)
  have hR := Hid.intro (fun w => read_any P w)
  have hU := Hid.intro (fun w => unleaf_any P w)
  rw [(rd_nil hl hI).1, (rd_nil hl hI).2] at hR
  rw [decide_eq_false hI] at hU
  have hlp : (P.length : Int) = 32 := by omega
  clear hl hI
  generalize unS P = UD at *
  have hP := Hid.intro (fun w => parts_any S w (by omega))
  have hN1 := Hid.intro (fun w => need_any S.length w (by omega) (by omega))
  have hN2 := Hid.intro (fun w => need_any n w hnb.2 hnb.1)
  rw [ned_nat] at hN1
  have hn : (decide (1 ≤ n) = false ∧ decide (1099511627776 < n) = false ∧ ned n = 0) ∨ (decide (1 ≤ n) = true ∧ decide (n ≤ 1099511627776) = true ∧ decide (1099511627776 < n) = false ∧ n ≤ 1099511627776 ∧ 1 ≤ n) ∨ (decide (1 ≤ n) = true ∧ decide (n ≤ 1099511627776) = false ∧ decide (1099511627776 < n) = true) := by
    by_cases a1 : 1 ≤ n
    · by_cases a2 : n ≤ 1099511627776
      · exact .inr (.inl ⟨decide_eq_true a1, decide_eq_true a2, decide_eq_false (by omega), a2, a1⟩)
      · exact .inr (.inr ⟨decide_eq_true a1, decide_eq_false a2, decide_eq_true (by omega)⟩)
    · exact .inl ⟨decide_eq_false a1, decide_eq_false (by omega), by unfold ned; rw [if_pos (by omega)]⟩
  have hall : Hid (S.take (27 * need S.length) = S) := Hid.intro (chk_all (Nat.le_refl _))
  have hnl : need S.length ≤ 23 := by unfold need; omega
  have hnn : Hid (∀ i, i < need S.length → (prt S)[i]? = some (chk S i) ∧ 1 ≤ (chk S i).length ∧ (chk S i).length ≤ 27 ∧ (i + 1 < need S.length → (chk S i).length = 27)) :=
    Hid.intro fun i hi => ⟨prt_get hi, (chk_pos hi).1, (chk_pos hi).2, fun h => chk_full h⟩
  generalize need S.length = nn at *
  have n0 : (0 : Int) ≤ (nn : Int) := Int.natCast_nonneg _
  have hL := Hid.intro (fun w => lay_some S w h27)
  have hF := Hid.intro (fun w => rleaf_any S w h27)
  have z1 : ¬ (27 : Int) < (S.length : Int) := by omega
  clear h27
  generalize layL S = L at *
  go_enter Try.func3, Try.ntmps3
  go_wp2_with fail
  refine (hA.out _).mono ?_; rintro e w1 ⟨rfl, hbx⟩
  have hbw1 := Hid.intro hbx
  clear hbx hA
  go_wp2_with fail
  refine (hL.out _).mono ?_; rintro e w2 ⟨rfl, hbx⟩
  have hbw2 := Hid.intro (hbw1.out.trans (hbx.mono hbw1.out.size))
  clear hbx
  go_wp2_with fail
  refine (hF.out _).mono ?_; rintro e w3 ⟨rfl, hbx⟩
  have hbw3 := Hid.intro (hbw2.out.trans (hbx.mono hbw2.out.size))
  clear hbx
  go_wp2_with fail
  refine (hR.out _).mono ?_; rintro e w5 ⟨rfl, hbx⟩
  have hbw5 := Hid.intro (hbw3.out.trans (hbx.mono hbw3.out.size))
  clear hbx
  go_wp2_with fail
  refine (hU.out _).mono ?_; rintro e w6 ⟨rfl, hbx⟩
  have hbw6 := Hid.intro (hbw5.out.trans (hbx.mono hbw5.out.size))
  clear hbx
  go_wp2_with fail
  refine (hP.out _).mono ?_; rintro e w7 ⟨v, rfl, hv, hbx⟩
  have hbw7 := Hid.intro (hbw6.out.trans (hbx.mono hbw6.out.size))
  clear hbx
  obtain ⟨a, c, rfl, hrd⟩ := own_strs hv
  have hrd' := Hid.intro hrd
  clear hv hrd hP
  go_wp2_with fail
  go_loopw [15, 16] (fun av iv wr => ∃ i : Nat, i ≤ nn ∧ av = .string (str (S.take (27 * i))) ∧ iv = .int .i64 i ∧ w7 = wr) (fun _ iv _ => nn - (intOf iv).toNat)
  case atStart => exact ⟨0, Nat.zero_le _, rfl, rfl, rfl⟩
  case round =>
    obtain ⟨i, hi, rfl, rfl, rfl⟩ := hrel
    have i0 : (0 : Int) ≤ (i : Int) := Int.natCast_nonneg _
    by_cases hlt : i < nn
    · have i1 : (i : Int) < (nn : Int) := by omega
      obtain ⟨hg, k1, k2, k3⟩ := hnn.out i hlt
      obtain ⟨g, rfl, hgl, ld⟩ := hrd'.out i _ hg
      have hnx := Hid.intro (chk_next S i)
      have htl : (S.take (27 * i)).length ≤ 600 := by rw [List.length_take]; omega
      clear hg
      generalize chk S i = C at *
      generalize S.take (27 * i) = TT at *
      have q1 : decide ((C.length : Int) < 1) = false := decide_eq_false (by omega)
      have q2 : decide ((27 : Int) < (C.length : Int)) = false := decide_eq_false (by omega)
      have q3 : ¬ 9223372036854775807 < TT.length + C.length := by omega
      by_cases hl2 : i + 1 < nn
      · have i2 : decide ((i : Int) + 1 < (nn : Int)) = true := decide_eq_true (by omega)
        have hc27 : (C.length : Int) = 27 := by have := k3 hl2; omega
        have hc27' : C.length = 27 := k3 hl2
        clear k3
        go_wp2
        go_roundw
        case rel => exact ⟨i + 1, by omega, by rw [← hnx.out], by go_num, trivial⟩
        case measure => simp [intOf]; omega
      · have i2 : decide ((i : Int) + 1 < (nn : Int)) = false := decide_eq_false (by omega)
        clear k3
        go_wp2
        go_roundw
        case rel => exact ⟨i + 1, by omega, by rw [← hnx.out], by go_num, trivial⟩
        case measure => simp [intOf]; omega
    · obtain rfl : i = nn := by omega
      have hall' := hall.out
      rw [hall']
      clear hall' hnn
      rcases hn with ⟨c1, c0, e0⟩ | ⟨c1, c2, c3, c4, c5⟩ | ⟨c1, c2, c3⟩
      · rw [e0] at hN2
        go_wp2_with fail
        refine (hN1.out _).mono ?_; rintro e wa ⟨rfl, hwx⟩
        obtain rfl : w7 = wa := hwx.symm
        clear hwx
        go_wp2_with fail
        refine (hN2.out _).mono ?_; rintro e wb ⟨rfl, hwx⟩
        obtain rfl : w7 = wb := hwx.symm
        clear hwx
        go_wp2
        go_ret
        exact ⟨rfl, hbw7.out⟩
      · have hN3 := Hid.intro (fun w => rneed_any n w c4 c5)
        go_wp2_with fail
        refine (hN3.out _).mono ?_; rintro e wc ⟨rfl, hwx⟩
        obtain rfl : w7 = wc := hwx.symm
        clear hwx
        go_wp2_with fail
        refine (hN1.out _).mono ?_; rintro e wa ⟨rfl, hwx⟩
        obtain rfl : w7 = wa := hwx.symm
        clear hwx
        go_wp2_with fail
        refine (hN2.out _).mono ?_; rintro e wb ⟨rfl, hwx⟩
        obtain rfl : w7 = wb := hwx.symm
        clear hwx
        go_wp2
        go_ret
        exact ⟨rfl, hbw7.out⟩
      · go_wp2_with fail
        refine (hN1.out _).mono ?_; rintro e wa ⟨rfl, hwx⟩
        obtain rfl : w7 = wa := hwx.symm
        clear hwx
        go_wp2
        go_ret
        exact ⟨rfl, hbw7.out⟩
set_option maxRecDepth 100000 in
set_option maxHeartbeats 16000000 in
theorem ltells_short_len (S P : List UInt8) (n : Int) (w : World) (h : S.length ≤ 600) (h2 : P.length ≤ 100) (hnb : -9223372036854775808 ≤ n ∧ n ≤ 9223372036854775807) (h27 : S.length ≤ 27) (hl : ¬ P.length = 32) :
    Calls Try.prog 3 #[.string (str S), .string (str P), .int .i64 n] w fun e w' => e = .returned (.bool true) ∧ Below w.heap.size w w' := by
  have hA := Hid.intro alive_any
  have s0 : (0 : Int) ≤ (S.length : Int) := Int.natCast_nonneg _
  have s1 : (S.length : Int) ≤ 600 := by omega
  have d1 : decide ((600 : Int) < (S.length : Int)) = false := decide_eq_false (by omega)
  have d2 : decide ((100 : Int) < (P.length : Int)) = false := decide_eq_false (by omega)
  have hR := Hid.intro (fun w => read_any P w)
  have hU := Hid.intro (fun w => unleaf_any P w)
  have hI : ¬ Isp P := fun h => hl h.1
  have r1 : rdE P = 8 := by unfold rdE; rw [if_pos hl]
  rw [rdS_no hI, r1] at hR
  rw [decide_eq_false hI] at hU
  have hlp : ¬ (P.length : Int) = 32 := by omega
  clear hl hI r1
  generalize unS P = UD at *
  have hP := Hid.intro (fun w => parts_any S w (by omega))
  have hN1 := Hid.intro (fun w => need_any S.length w (by omega) (by omega))
  have hN2 := Hid.intro (fun w => need_any n w hnb.2 hnb.1)
  rw [ned_nat] at hN1
  have hn : (decide (1 ≤ n) = false ∧ decide (1099511627776 < n) = false ∧ ned n = 0) ∨ (decide (1 ≤ n) = true ∧ decide (n ≤ 1099511627776) = true ∧ decide (1099511627776 < n) = false ∧ n ≤ 1099511627776 ∧ 1 ≤ n) ∨ (decide (1 ≤ n) = true ∧ decide (n ≤ 1099511627776) = false ∧ decide (1099511627776 < n) = true) := by
    by_cases a1 : 1 ≤ n
    · by_cases a2 : n ≤ 1099511627776
      · exact .inr (.inl ⟨decide_eq_true a1, decide_eq_true a2, decide_eq_false (by omega), a2, a1⟩)
      · exact .inr (.inr ⟨decide_eq_true a1, decide_eq_false a2, decide_eq_true (by omega)⟩)
    · exact .inl ⟨decide_eq_false a1, decide_eq_false (by omega), by unfold ned; rw [if_pos (by omega)]⟩
  have hall : Hid (S.take (27 * need S.length) = S) := Hid.intro (chk_all (Nat.le_refl _))
  have hnl : need S.length ≤ 23 := by unfold need; omega
  have hnn : Hid (∀ i, i < need S.length → (prt S)[i]? = some (chk S i) ∧ 1 ≤ (chk S i).length ∧ (chk S i).length ≤ 27 ∧ (i + 1 < need S.length → (chk S i).length = 27)) :=
    Hid.intro fun i hi => ⟨prt_get hi, (chk_pos hi).1, (chk_pos hi).2, fun h => chk_full h⟩
  generalize need S.length = nn at *
  have n0 : (0 : Int) ≤ (nn : Int) := Int.natCast_nonneg _
  have hL := Hid.intro (fun w => lay_some S w h27)
  have hF := Hid.intro (fun w => rleaf_any S w h27)
  have z1 : ¬ (27 : Int) < (S.length : Int) := by omega
  clear h27
  generalize layL S = L at *
  go_enter Try.func3, Try.ntmps3
  go_wp2_with fail
  refine (hA.out _).mono ?_; rintro e w1 ⟨rfl, hbx⟩
  have hbw1 := Hid.intro hbx
  clear hbx hA
  go_wp2_with fail
  refine (hL.out _).mono ?_; rintro e w2 ⟨rfl, hbx⟩
  have hbw2 := Hid.intro (hbw1.out.trans (hbx.mono hbw1.out.size))
  clear hbx
  go_wp2_with fail
  refine (hF.out _).mono ?_; rintro e w3 ⟨rfl, hbx⟩
  have hbw3 := Hid.intro (hbw2.out.trans (hbx.mono hbw2.out.size))
  clear hbx
  go_wp2_with fail
  refine (hR.out _).mono ?_; rintro e w5 ⟨rfl, hbx⟩
  have hbw5 := Hid.intro (hbw3.out.trans (hbx.mono hbw3.out.size))
  clear hbx
  go_wp2_with fail
  refine (hU.out _).mono ?_; rintro e w6 ⟨rfl, hbx⟩
  have hbw6 := Hid.intro (hbw5.out.trans (hbx.mono hbw5.out.size))
  clear hbx
  go_wp2_with fail
  refine (hP.out _).mono ?_; rintro e w7 ⟨v, rfl, hv, hbx⟩
  have hbw7 := Hid.intro (hbw6.out.trans (hbx.mono hbw6.out.size))
  clear hbx
  obtain ⟨a, c, rfl, hrd⟩ := own_strs hv
  have hrd' := Hid.intro hrd
  clear hv hrd hP
  go_wp2_with fail
  go_loopw [15, 16] (fun av iv wr => ∃ i : Nat, i ≤ nn ∧ av = .string (str (S.take (27 * i))) ∧ iv = .int .i64 i ∧ w7 = wr) (fun _ iv _ => nn - (intOf iv).toNat)
  case atStart => exact ⟨0, Nat.zero_le _, rfl, rfl, rfl⟩
  case round =>
    obtain ⟨i, hi, rfl, rfl, rfl⟩ := hrel
    have i0 : (0 : Int) ≤ (i : Int) := Int.natCast_nonneg _
    by_cases hlt : i < nn
    · have i1 : (i : Int) < (nn : Int) := by omega
      obtain ⟨hg, k1, k2, k3⟩ := hnn.out i hlt
      obtain ⟨g, rfl, hgl, ld⟩ := hrd'.out i _ hg
      have hnx := Hid.intro (chk_next S i)
      have htl : (S.take (27 * i)).length ≤ 600 := by rw [List.length_take]; omega
      clear hg
      generalize chk S i = C at *
      generalize S.take (27 * i) = TT at *
      have q1 : decide ((C.length : Int) < 1) = false := decide_eq_false (by omega)
      have q2 : decide ((27 : Int) < (C.length : Int)) = false := decide_eq_false (by omega)
      have q3 : ¬ 9223372036854775807 < TT.length + C.length := by omega
      by_cases hl2 : i + 1 < nn
      · have i2 : decide ((i : Int) + 1 < (nn : Int)) = true := decide_eq_true (by omega)
        have hc27 : (C.length : Int) = 27 := by have := k3 hl2; omega
        have hc27' : C.length = 27 := k3 hl2
        clear k3
        go_wp2
        go_roundw
        case rel => exact ⟨i + 1, by omega, by rw [← hnx.out], by go_num, trivial⟩
        case measure => simp [intOf]; omega
      · have i2 : decide ((i : Int) + 1 < (nn : Int)) = false := decide_eq_false (by omega)
        clear k3
        go_wp2
        go_roundw
        case rel => exact ⟨i + 1, by omega, by rw [← hnx.out], by go_num, trivial⟩
        case measure => simp [intOf]; omega
    · obtain rfl : i = nn := by omega
      have hall' := hall.out
      rw [hall']
      clear hall' hnn
      rcases hn with ⟨c1, c0, e0⟩ | ⟨c1, c2, c3, c4, c5⟩ | ⟨c1, c2, c3⟩
      · rw [e0] at hN2
        go_wp2_with fail
        refine (hN1.out _).mono ?_; rintro e wa ⟨rfl, hwx⟩
        obtain rfl : w7 = wa := hwx.symm
        clear hwx
        go_wp2_with fail
        refine (hN2.out _).mono ?_; rintro e wb ⟨rfl, hwx⟩
        obtain rfl : w7 = wb := hwx.symm
        clear hwx
        go_wp2
        go_ret
        exact ⟨rfl, hbw7.out⟩
      · have hN3 := Hid.intro (fun w => rneed_any n w c4 c5)
        go_wp2_with fail
        refine (hN3.out _).mono ?_; rintro e wc ⟨rfl, hwx⟩
        obtain rfl : w7 = wc := hwx.symm
        clear hwx
        go_wp2_with fail
        refine (hN1.out _).mono ?_; rintro e wa ⟨rfl, hwx⟩
        obtain rfl : w7 = wa := hwx.symm
        clear hwx
        go_wp2_with fail
        refine (hN2.out _).mono ?_; rintro e wb ⟨rfl, hwx⟩
        obtain rfl : w7 = wb := hwx.symm
        clear hwx
        go_wp2
        go_ret
        exact ⟨rfl, hbw7.out⟩
      · go_wp2_with fail
        refine (hN1.out _).mono ?_; rintro e wa ⟨rfl, hwx⟩
        obtain rfl : w7 = wa := hwx.symm
        clear hwx
        go_wp2
        go_ret
        exact ⟨rfl, hbw7.out⟩
theorem ltells_any (S P : List UInt8) (n : Int) (hnb : -9223372036854775808 ≤ n ∧ n ≤ 9223372036854775807) (w : World) :
    Calls Try.prog 3 #[.string (str S), .string (str P), .int .i64 n] w fun e w' => e = .returned (.bool true) ∧ Below w.heap.size w w' := by
  by_cases h : S.length ≤ 600
  · by_cases h2 : P.length ≤ 100
    · by_cases h27 : S.length ≤ 27
      · by_cases hl : P.length = 32
        · by_cases hI : Isp P
          · exact ltells_short_yes S P n w h h2 hnb h27 hI
          · exact ltells_short_no S P n w h h2 hnb h27 hl hI
        · exact ltells_short_len S P n w h h2 hnb h27 hl
      · by_cases hl : P.length = 32
        · by_cases hI : Isp P
          · exact ltells_long_yes S P n w h h2 hnb (by omega) hI
          · exact ltells_long_no S P n w h h2 hnb (by omega) hl hI
        · exact ltells_long_len S P n w h h2 hnb (by omega) hl
    · exact ltells_p S P n w h (by omega)
  · exact ltells_b S P n w (by omega)
end Go.Proofs.Ytgigpohfkppplaa
