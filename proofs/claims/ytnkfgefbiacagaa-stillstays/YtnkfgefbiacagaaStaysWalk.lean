/-
  StillStays, walked.
-/
import Derived.Test.YtnkfgefbiacagaaStaysMath
namespace Go.Proofs.Ytnkfgefbiacagaa
open Go.ChangeShapes Go.WideShapes Go.ChangeAt Go.RowKit
attribute [local go_sem ↓] Go.wp_at_zero Go.wp_at_succ
attribute [local go_sem] str_size str_extract str_append str_toList

theorem write_fit {w : World} {b g B : Nat} {S : List UInt8} (a : Nat) (T : List UInt8) (h : FObj w b g S) (hl : S.length = B * 8) (h1 : 1 ≤ B) (h2 : B ≤ 64) (ha : a + T.length ≤ S.length) :
    Calls Try.prog 7 #[.pointer (some ⟨b, 0, none⟩), .int .i64 (a : Int), .string (str T)] w fun e w' => e = .returned (.int .i64 0) ∧ FObj w' b g (wrS S a T) ∧ But g w w' := by
  have := write_any (a : Int) T h hl h1 h2 (by omega)
  rwa [if_pos (by omega)] at this

set_option maxRecDepth 100000 in
set_option maxHeartbeats 4000000 in
theorem stays_walk (B : Nat) (A : List UInt8) (a : Option Addr) (c : Nat) (os : List FOp) (w : World) (b1 : 1 ≤ B) (b2 : B ≤ 64) (a1 : (A.length : Int) ≤ 600) (l1 : (os.length : Int) ≤ 40) (hh : Hid (OpsAt w (.slice a os.length c) os)) :
    Calls Try.prog 3 #[.int .i64 (B : Int), .string (str A), .slice a os.length c] w fun e w' => e = .returned (.bool true) ∧ Below w.heap.size w w' := by
  have q1 : ¬ (B : Int) < 1 := by omega
  have q2 : ¬ (64 : Int) < (B : Int) := by omega
  have q3 : ¬ (600 : Int) < (A.length : Int) := by omega
  have q4 : ¬ (40 : Int) < (os.length : Int) := by omega
  obtain ⟨M, hM, hM1⟩ : ∃ M : Nat, min (A.length : Int) ((B : Int) * 8) = (M : Int) ∧ Hid (M ≤ A.length ∧ M ≤ B * 8) := ⟨min A.length (B * 8), by omega, Hid.intro (by omega)⟩
  have m1 : (M : Int) ≤ (A.length : Int) := by have := hM1.out; omega
  have m0 : (0 : Int) ≤ (M : Int) := by omega
  go_enter Try.func3, Try.ntmps3
  go_wp2_with fail
  refine (alive_any _).mono ?_; rintro e w1 ⟨rfl, hb⟩
  go_wp2_with fail
  refine (new_any B _ b1 b2).mono ?_; rintro e w2 ⟨rfl, hF, hb2⟩
  have hz := hb.size
  have hF2 := Hid.intro hF
  have hB2 := Hid.intro (show Below w.heap.size w w2 from hb.trans (hb2.mono hb.size))
  clear hb hb2 hF
  have hg : w.heap.size ≤ w1.heap.size := hz
  generalize w1.heap.size = g at *
  generalize hbd : g + 1 = b at *
  have hbw : w.heap.size ≤ b := by omega
  clear hbd hz
  go_wp2_with fail
  refine (write_fit (B := B) 0 (A.take M) hF2.out (by simp) b1 b2 (by have := hM1.out; simp; omega)).mono ?_; rintro e w3 ⟨rfl, hF3, hb3⟩
  have hl0 : (wrS (List.replicate (B * 8) 0) ((0 : Nat) : Int) (A.take M)).length = B * 8 := by rw [wrS_length]; simp
  have hF3' := Hid.intro hF3
  have hB3 := Hid.intro (hB2.out.trans (hb3.low hg hB2.out.size))
  have hl0' := Hid.intro hl0
  clear hF3 hb3 hB2 hF2 hl0
  generalize wrS (List.replicate (B * 8) 0) ((0 : Nat) : Int) (A.take M) = S0 at *
  go_wp2_with fail
  refine (fcopy_any hF3'.out hl0'.out b1).mono ?_; rintro e w4 ⟨rfl, hC4, hb4⟩
  have hC4' := Hid.intro hC4
  have hF4 := Hid.intro (hF3'.out.below hb4)
  have hB4 := Hid.intro (hB3.out.trans (hb4.mono hB3.out.size))
  have hgc : w.heap.size ≤ w3.heap.size := hB3.out.size
  have hap1 : Hid (b < w3.heap.size ∧ g < w3.heap.size) := Hid.intro ⟨hF3'.out.lt.1, hF3'.out.lt.2.1⟩
  clear hC4 hb4 hF3' hB3
  generalize w3.heap.size = gc at *
  generalize hbd : gc + 1 = bc at *
  have hbcw : Hid (gc < bc) := Hid.intro (by omega)
  clear hbd
  go_wp2_with fail
  refine (snew_any hF4.out hl0'.out b1).mono ?_; rintro e w5 ⟨rfl, hS5, hb5⟩
  have hS5' := Hid.intro hS5
  have hF5 := Hid.intro (hF4.out.below hb5)
  have hC5 := Hid.intro (hC4'.out.below hb5)
  have hB5 := Hid.intro (hB4.out.trans (hb5.mono hB4.out.size))
  have hs : w.heap.size ≤ w4.heap.size := hB4.out.size
  have hap2 : Hid (bc < w4.heap.size ∧ gc < w4.heap.size ∧ b < w4.heap.size ∧ g < w4.heap.size) := Hid.intro ⟨hC4'.out.lt.1, hC4'.out.lt.2.1, hF4.out.lt.1, hF4.out.lt.2.1⟩
  clear hS5 hb5 hF4 hC4' hB4
  generalize w4.heap.size = s at *
  have hne : Hid (bc ≠ s ∧ gc ≠ s ∧ bc ≠ g ∧ gc ≠ g ∧ b ≠ s ∧ g ≠ s) := Hid.intro (by have := hap1.out; have := hap2.out; have := hbcw.out; omega)
  go_wp2_with fail
  go_loopw [12] (fun iv wr => ∃ (i K : Nat) (O : List (List UInt8)) (S : List UInt8), i ≤ os.length ∧ iv = .int .i64 i ∧ SObj wr s b K 0 O ∧ FObj wr b g S ∧ S.length = B * 8 ∧ FObj wr bc gc S0 ∧ Inv B S0 K O S ∧ Below w.heap.size w wr) (fun iv _ => os.length - (intOf iv).toNat)
  case atStart => exact ⟨0, 0, _, S0, Nat.zero_le _, rfl, hS5'.out, hF5.out, hl0'.out, hC5.out, Inv.new _ _ _, hB5.out⟩
  case round =>
    clear hS5' hF5 hC5 hB5
    obtain ⟨i, K, O, S, hi, rfl, hS, hF, hSl, hC, hI, hB⟩ := hrel
    have i0 : (0 : Int) ≤ (i : Int) := Int.natCast_nonneg _
    have hS' := Hid.intro hS
    have hF' := Hid.intro hF
    have hSl' := Hid.intro hSl
    have hC' := Hid.intro hC
    have hI' := Hid.intro hI
    have hB' := Hid.intro hB
    clear hS hF hSl hC hI hB
    by_cases hl : i < os.length
    · obtain ⟨go, oo, x, T, rfl, hgo, c1, c2, hx⟩ := hh.out.at hB'.out i hl
      have hgr : go < wr.heap.size := Nat.lt_of_lt_of_le hgo hB'.out.size
      have i1 : (i : Int) < (os.length : Int) := by omega
      by_cases hT : (600 : Int) < (T.length : Int)
      · go_wp2
        go_ret
        exact ⟨rfl, hB'.out⟩
      · go_wp2_with fail
        go_region_with (go_at_call 10; refine (swrite_any x T (hS'.out.below below_drw) (hF'.out.below below_drw) hSl'.out b1 b2 hx).mono ?_; rintro e w6 ⟨⟨er, rfl⟩, ⟨K6, O6, hS6, hR6⟩, hF6, hb6⟩)
        all_goals
          go_wp2
          go_roundw
          case rel => exact ⟨i + 1, K6, O6, _, by omega, by go_num, hS6, hF6, (wrS_length _ _ _).trans hSl'.out, (hC'.out.below below_drw).but2 hb6 ⟨hne.out.1, hne.out.2.2.1⟩ ⟨hne.out.2.1, hne.out.2.2.2.1⟩, hI'.out.step b2 hR6, hB'.out.trans ((below_drw.mono hB'.out.size).trans (hb6.low hs hg hB'.out.size))⟩
          case measure => simp [intOf]; omega
    · have i1 : ¬ (i : Int) < (os.length : Int) := by omega
      go_wp2_with fail
      refine (unlike_any (.inr ⟨_, _, B, rfl, hC'.out, hl0'.out, b1, b2⟩) (.inr ⟨_, _, B, rfl, hF'.out, hSl'.out, b1, b2⟩)).mono ?_; rintro e w6 ⟨v, ps, rfl, hc, hin, ⟨base, hbs, hown⟩, hb6⟩
      have hS6 := Hid.intro (hS'.out.below hb6)
      have hF6 := Hid.intro (hF'.out.below hb6)
      have hC6 := Hid.intro (hC'.out.below hb6)
      have hB6 := Hid.intro (hB'.out.trans (hb6.mono hB'.out.size))
      have hown' := Hid.intro hown
      have hc' := Hid.intro hc
      have hin' := Hid.intro hin
      clear hc hin hown hb6 hbs hS' hF' hC' hB'
      have hmk := run_makeMap (P := Try.prog) 37 w6
      have hA : Below w6.heap.size w6 (w6.alloc (.map #[] 0)) := (Below.refl _ _).alloc (Nat.le_refl _) _
      have hA' := Hid.intro hA
      have hM6 := Hid.intro (made_run w6)
      clear hA
      go_wp2_with fail
      refine (kept_any (hS6.out.below hA'.out) (hF6.out.below hA'.out) hSl'.out b2).mono ?_; rintro e w8 ⟨kv, rfl, hk, hb8⟩
      have hS8 := Hid.intro ((hS6.out.below hA'.out).below hb8)
      have hF8 := Hid.intro ((hF6.out.below hA'.out).below hb8)
      have hC8 := Hid.intro ((hC6.out.below hA'.out).below hb8)
      have hM8 := Hid.intro (OwnM.below hM6.out hb8)
      have hu8 := Hid.intro (own_below (own_below hown'.out hA'.out) hb8)
      have hB8 := Hid.intro ((hB6.out.trans (hA'.out.mono hB6.out.size)).trans (hb8.mono (Nat.le_trans hB6.out.size hA'.out.size)))
      have hmb : w.heap.size ≤ w6.heap.size := hB6.out.size
      have hL1 : Hid (∀ j : Nat, blk S0 j ≠ blk S j → j ∈ keptL K B) := Hid.intro (fun j hj => hI'.out.kept hSl'.out hl0'.out hj)
      have hL2 : Hid (∀ j ∈ keptL K B, j < 64) := Hid.intro (fun j hj => by have := (keptL_mem.1 hj).1; omega)
      have hL3 : (keptL K B).length ≤ 64 := Nat.le_trans (keptL_length K B) b2
      obtain ⟨ka, kc, rfl⟩ := own_form hk
      obtain ⟨va, vc, rfl⟩ := own_slice hown'.out
      have hk8 := Hid.intro hk
      clear hk hb8 hS6 hF6 hC6 hM6 hB6 hown' hA' hmk
      generalize (w6.alloc (.map #[] 0)).heap.size = kb at *
      generalize w6.heap.size = mb at *
      generalize keptL K B = L at *
      go_wp2_with fail
      go_loopw [118] (fun iv wr => ∃ i : Nat, i ≤ L.length ∧ iv = .int .i64 i ∧ OwnM wr mb i (L.take i) ∧ SObj wr s b K 0 O ∧ FObj wr b g S ∧ FObj wr bc gc S0 ∧ wr.ownsRow base 41 2 (.slice va ps.length vc) ps.length (spansV ps) ∧ wr.ownsRow kb 3 1 (.slice ka L.length kc) L.length (intsV L) ∧ Below w.heap.size w wr) (fun iv _ => L.length - (intOf iv).toNat)
      case atStart => exact ⟨0, Nat.zero_le _, rfl, hM8.out, hS8.out, hF8.out, hC8.out, hu8.out, hk8.out, hB8.out⟩
      case round =>
        clear hM8 hS8 hF8 hC8 hu8 hk8 hB8
        obtain ⟨i, hi, rfl, hM, hS, hF, hC, hu, hk, hB⟩ := hrel
        have i0 : (0 : Int) ≤ (i : Int) := Int.natCast_nonneg _
        have hM' := Hid.intro hM
        have hS' := Hid.intro hS
        have hF' := Hid.intro hF
        have hC' := Hid.intro hC
        have hu' := Hid.intro hu
        have hk' := Hid.intro hk
        have hB' := Hid.intro hB
        clear hM hS hF hC hu hk hB
        by_cases hl : i < L.length
        · have i1 : (i : Int) < (L.length : Int) := by omega
          obtain ⟨gk, rfl, hgk, hcell⟩ := own_at hk'.out (by omega)
          have c0 : wr.cell? ⟨gk, i, none⟩ = some (.int .i64 ((L[i]'hl : Nat) : Int)) := by rw [hcell i (by omega)]; simp [intsV, hl]
          obtain ⟨w9, hr, ho, hgr⟩ := put_run hM'.out (L[i]'hl) (hL2.out _ (List.getElem_mem hl)) (by omega)
          have hoT : Hid (OwnM w9 mb (i + 1) (L.take (i + 1))) := Hid.intro (by rw [List.take_succ_eq_append_getElem hl]; exact ho)
          have hgr' := Hid.intro hgr
          clear hcell ho hgr
          generalize L[i]'hl = x at *
          go_wp2
          go_roundw
          case rel => exact ⟨i + 1, by omega, by go_num, hoT.out, hS'.out.map hM'.out hgr'.out, hF'.out.map hM'.out hgr'.out, hC'.out.map hM'.out hgr'.out, own_map hu'.out hM'.out hgr'.out, own_map hk'.out hM'.out hgr'.out, hB'.out.grown hgr'.out hB'.out.size (fun j hj => by cases hj; exact hmb)⟩
          case measure => simp [intOf]; omega
        · have i1 : ¬ (i : Int) < (L.length : Int) := by omega
          go_wp2_with fail
          obtain ⟨wz, hwz⟩ : ∃ wz, wz = wr := ⟨_, rfl⟩
          subst hwz
          obtain rfl : i = L.length := by omega
          rw [List.take_length] at hM'
          clear hk'
          go_loopw [17] (fun iv wr => ∃ i n : Nat, i ≤ ps.length ∧ iv = .int .i64 i ∧ wr = wz.drewN n) (fun iv _ => ps.length - (intOf iv).toNat)
          case atStart => exact ⟨0, 0, Nat.zero_le _, rfl, rfl⟩
          case round =>
            obtain ⟨i, n, hi, rfl, rfl⟩ := hrel
            have i0 : (0 : Int) ≤ (i : Int) := Int.natCast_nonneg _
            by_cases hl : i < ps.length
            · have i2 : (i : Int) < (ps.length : Int) := by omega
              have hp64 : (ps.length : Int) ≤ 64 := by have := canon_64 hc'.out; omega
              obtain ⟨gv, rfl, hgv, hcell⟩ := own_at hu'.out (by omega)
              have hw := canon_whole hc'.out _ (List.getElem_mem hl)
              obtain ⟨F, N, hFN⟩ : ∃ F N : Nat, ps[i]'hl = ((F : Int), (N : Int)) := ⟨(ps[i]'hl).1.toNat, (ps[i]'hl).2.toNat, by obtain ⟨h1, h2, _⟩ := hw; ext <;> simp <;> omega⟩
              rw [hFN] at hw
              obtain ⟨hw1, hw2, hw3⟩ := id hw
              simp only at hw1 hw2 hw3
              have hps : ps[i]? = some ((F : Int), (N : Int)) := by rw [List.getElem?_eq_getElem hl, hFN]
              obtain ⟨s0, s1⟩ := spansV_get ps i _ hps
              have c0 : wz.cell? ⟨gv, i * 2, none⟩ = some (.int .i64 (F : Int)) := by rw [hcell (i * 2) (by omega), s0]
              have c1 : wz.cell? ⟨gv, i * 2 + 1, none⟩ = some (.int .i64 (N : Int)) := by rw [hcell (i * 2 + 1) (by omega), s1]
              have hmem : Hid (∀ k : Nat, F ≤ k → k < F + N → k ∈ L) := Hid.intro (fun k h1 h2 => by
                have : In ps (k : Int) := ⟨_, List.mem_of_getElem? hps, hw, by simp only; omega, by simp only; omega⟩
                have := ((hin'.out (k : Int)).1 this).2.2
                exact hL1.out k (by simpa using this))
              clear hcell s0 s1 hw hps hFN
              go_wp2_with fail
              go_loopw [18] (fun kv wr => ∃ k n : Nat, F ≤ k ∧ k ≤ F + N ∧ kv = .int .i64 k ∧ wr = wz.drewN n) (fun kv _ => F + N - (intOf kv).toNat)
              case atStart => exact ⟨F, n, Nat.le_refl _, by omega, rfl, rfl⟩
              case round =>
                obtain ⟨k, n2, hk1, hk2, rfl, rfl⟩ := hrel
                have k0 : (0 : Int) ≤ (k : Int) := Int.natCast_nonneg _
                by_cases hlk : k < F + N
                · have i3 : (k : Int) < (F : Int) + (N : Int) := by omega
                  go_wp2_with fail
                  go_quiet (fail)
                  have hlook := look_true (w := wz.drewN (n2 + nq)) hM'.out k (hmem.out k hk1 hlk) (by omega)
                  go_wp2
                  go_roundw
                  case rel => exact ⟨k + 1, n2 + nq, by omega, by omega, by go_num, rfl⟩
                  case measure => simp [intOf]; omega
                · have i3 : ¬ (k : Int) < (F : Int) + (N : Int) := by omega
                  go_wp2_with fail
                  go_quiet (fail)
                  go_wp2
                  go_roundw
                  case rel => exact ⟨i + 1, n2 + nq, by omega, by go_num, rfl⟩
                  case measure => simp [intOf]; omega
            · have i2 : ¬ (i : Int) < (ps.length : Int) := by omega
              have hI2 : Hid (∀ j, j < B → shown K O S j = blk S0 j) := Hid.intro (fun j hj => hI'.out.shown hj)
              have hzD := below_drwN wz n
              have hSz := Hid.intro (hS'.out.below hzD)
              have hFz := Hid.intro (hF'.out.below hzD)
              have hCz := Hid.intro (hC'.out.below hzD)
              have hBz := Hid.intro (hB'.out.trans (hzD.mono hB'.out.size))
              clear hzD hM' hS' hF' hC' hB' hu' hL1 hL2 hc' hin' hI'
              generalize wz.drewN n = wy at *
              go_wp2_with fail
              go_loopw [19] (fun iv wr => ∃ (k K' G' : Nat) (O' : List (List UInt8)), k ≤ B ∧ iv = .int .i64 k ∧ SObj wr s b K' G' O' ∧ FObj wr b g S ∧ FObj wr bc gc S0 ∧ (∀ j, j < B → k ≤ j → shown K' O' S j = blk S0 j ∧ G'.testBit j = false) ∧ (∀ j, j < k → K'.testBit j = false) ∧ Below w.heap.size w wr) (fun iv _ => B - (intOf iv).toNat)
              case atStart => exact ⟨0, K, 0, O, Nat.zero_le _, rfl, hSz.out, hFz.out, hCz.out, fun j hj _ => ⟨hI2.out j hj, by simp⟩, fun j hj => by omega, hBz.out⟩
              case round =>
                clear hSz hFz hCz hBz hI2
                obtain ⟨k, K', G', O', hk, rfl, hS, hF, hC, hJ, hN, hB⟩ := hrel
                have k0 : (0 : Int) ≤ (k : Int) := Int.natCast_nonneg _
                have hS' := Hid.intro hS
                have hF' := Hid.intro hF
                have hC' := Hid.intro hC
                have hJ' := Hid.intro hJ
                have hN' := Hid.intro hN
                have hB' := Hid.intro hB
                clear hS hF hC hJ hN hB
                by_cases hlt : k < B
                · have i3 : (k : Int) < (B : Int) := by omega
                  have e1 := Hid.intro (sblock_any k hS'.out hF'.out hSl'.out b2 hlt)
                  rw [(hJ'.out k hlt (Nat.le_refl _)).1] at e1
                  have e2 := Hid.intro (block_in k hC'.out hl0'.out b2 hlt)
                  have e3 := Hid.intro (let_yes k hS'.out hF'.out hSl'.out b2 hlt (hJ'.out k hlt (Nat.le_refl _)).2)
                  go_wp2_with fail
                  refine e1.out.mono ?_; rintro e w11 ⟨rfl, rfl⟩
                  go_wp2_with fail
                  refine e2.out.mono ?_; rintro e w12 ⟨rfl, rfl⟩
                  go_wp2_with fail
                  refine e3.out.mono ?_; rintro e w13 ⟨rfl, hS13, hb13⟩
                  have hF13 := Hid.intro (hF'.out.but hb13 hne.out.2.2.2.2.1 hne.out.2.2.2.2.2)
                  have hC13 := Hid.intro (hC'.out.but hb13 hne.out.1 hne.out.2.1)
                  have hB13 := Hid.intro (hB'.out.trans (hb13.low hs hB'.out.size))
                  have hS13' := Hid.intro hS13
                  have e4 := Hid.intro (let_no k hS13 hF13.out hSl'.out b2 hlt (by rw [onW_bit]; simp))
                  have e5 := Hid.intro (sblock_any k hS13 hF13.out hSl'.out b2 hlt)
                  have e5' : shown (offW K' k) (O'.set k []) S k = blk S k := by unfold shown; rw [offW_bit hS'.out.hK (by omega)]; simp
                  rw [e5'] at e5
                  have e6 := Hid.intro (block_in k hF13.out hSl'.out b2 hlt)
                  have hJ2 : Hid (∀ j, j < B → k + 1 ≤ j → shown (offW K' k) (O'.set k []) S j = blk S0 j ∧ (onW G' k).testBit j = false) := Hid.intro (fun j h1 h2 => by
                    obtain ⟨g1, g2⟩ := hJ'.out j h1 (by omega)
                    refine ⟨?_, by rw [onW_bit, g2]; simp; omega⟩
                    rw [← g1]
                    unfold shown
                    rw [offW_bit hS'.out.hK (by omega), List.getElem?_set_ne (by omega), decide_eq_false (by omega)]
                    simp)
                  have hN2 : Hid (∀ j, j < k + 1 → (offW K' k).testBit j = false) := Hid.intro (fun j h1 => by
                    rw [offW_bit hS'.out.hK (by omega)]
                    by_cases e : k = j
                    · simp [e]
                    · rw [hN'.out j (by omega)]; rfl)
                  clear e1 e2 e3 e5' hS13 hb13 hS' hF' hC' hJ' hN' hB'
                  generalize offW K' k = K2 at *
                  generalize onW G' k = G2 at *
                  generalize O'.set k [] = O2 at *
                  go_wp2_with fail
                  refine e4.out.mono ?_; rintro e w14 ⟨rfl, rfl⟩
                  go_wp2_with fail
                  refine e5.out.mono ?_; rintro e w15 ⟨rfl, rfl⟩
                  go_wp2_with fail
                  refine e6.out.mono ?_; rintro e w16 ⟨rfl, rfl⟩
                  go_wp2
                  go_roundw
                  case rel => exact ⟨k + 1, K2, G2, O2, by omega, by go_num, hS13'.out, hF13.out, hC13.out, hJ2.out, hN2.out, hB13.out⟩
                  case measure => simp [intOf]; omega
                · have i3 : ¬ (k : Int) < (B : Int) := by omega
                  obtain rfl : k = B := by omega
                  have e7 := Hid.intro (kept_any hS'.out hF'.out hSl'.out b2)
                  rw [keptL_none hN'.out] at e7
                  go_wp2_with fail
                  refine e7.out.mono ?_; rintro e w11 ⟨v7, rfl, hk7, hb7⟩
                  obtain ⟨ka7, kc7, rfl⟩ := own_form hk7
                  go_wp2
                  go_ret
                  exact ⟨rfl, hB'.out.trans (hb7.mono hB'.out.size)⟩
set_option maxRecDepth 100000 in
theorem stays_out (B : Int) (A : List UInt8) (a : Option Addr) (n c : Nat) (w : World) (h : B < 1 ∨ 64 < B ∨ 600 < (A.length : Int) ∨ 40 < (n : Int)) :
    Calls Try.prog 3 #[.int .i64 B, .string (str A), .slice a n c] w fun e w' => e = .returned (.bool true) ∧ Below w.heap.size w w' := by
  by_cases h1 : B < 1
  · clear h
    go_enter Try.func3, Try.ntmps3
    go_wp2_with fail
    refine (alive_any _).mono ?_; rintro e w1 ⟨rfl, hb⟩
    go_wp2
    go_ret
    exact ⟨rfl, hb⟩
  by_cases h2 : 64 < B
  · clear h
    go_enter Try.func3, Try.ntmps3
    go_wp2_with fail
    refine (alive_any _).mono ?_; rintro e w1 ⟨rfl, hb⟩
    go_wp2
    go_ret
    exact ⟨rfl, hb⟩
  by_cases h3 : 600 < (A.length : Int)
  · clear h
    go_enter Try.func3, Try.ntmps3
    go_wp2_with fail
    refine (alive_any _).mono ?_; rintro e w1 ⟨rfl, hb⟩
    go_wp2
    go_ret
    exact ⟨rfl, hb⟩
  have h4 : 40 < (n : Int) := by omega
  clear h
  go_enter Try.func3, Try.ntmps3
  go_wp2_with fail
  refine (alive_any _).mono ?_; rintro e w1 ⟨rfl, hb⟩
  go_wp2
  go_ret
  exact ⟨rfl, hb⟩
theorem stays_any (B : Int) (A : List UInt8) (v : Value) (os : List FOp) (w : World) (h : OpsAt w v os) :
    Calls Try.prog 3 #[.int .i64 B, .string (str A), v] w fun e w' => e = .returned (.bool true) ∧ Below w.heap.size w w' := by
  obtain ⟨a, c, rfl⟩ := h.slice
  by_cases hc : B < 1 ∨ 64 < B ∨ 600 < (A.length : Int) ∨ 40 < (os.length : Int)
  · exact stays_out B A a os.length c w hc
  · obtain ⟨b, rfl⟩ : ∃ b : Nat, B = b := ⟨B.toNat, by omega⟩
    exact stays_walk b A a c os w (by omega) (by omega) (by omega) (by omega) h
end Go.Proofs.Ytnkfgefbiacagaa
