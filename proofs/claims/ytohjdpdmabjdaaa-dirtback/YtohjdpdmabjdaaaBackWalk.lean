/-
  DirtBack, walked.
-/
import Derived.Test.YtohjdpdmabjdaaaOrsWalk
import Derived.Test.YtohjdpdmabjdaaaBackMath
import Derived.Test.YtohjdpdmabjdaaaSame
namespace Go.Proofs.Ytohjdpdmabjdaaa
open Go.ChangeShapes Go.WideShapes Go.ChangeAt Go.RowKit
attribute [local go_sem ↓] Go.wp_at_zero Go.wp_at_succ

theorem back_out (B : Int) (a a' : Option Addr) (n c n' c' : Nat) (w : World) (h : B < 0 ∨ 64 < B ∨ 20 < (n : Int) ∨ 20 < (n' : Int)) :
    Calls Try.prog 6 #[.int .i64 B, .slice a n c, .slice a' n' c'] w fun e w' => e = .returned (.bool true) ∧ Below w.heap.size w w' := by
  by_cases h1 : B < 0
  · clear h
    go_enter Try.func6, Try.ntmps6
    go_wp2_with fail
    refine (alive_any _).mono ?_; rintro e w1 ⟨rfl, hb⟩
    go_wp2
    go_ret
    exact ⟨rfl, hb⟩
  · by_cases h2 : 64 < B
    · clear h
      go_enter Try.func6, Try.ntmps6
      go_wp2_with fail
      refine (alive_any _).mono ?_; rintro e w1 ⟨rfl, hb⟩
      go_wp2
      go_ret
      exact ⟨rfl, hb⟩
    · by_cases h3 : 20 < (n : Int)
      · clear h
        go_enter Try.func6, Try.ntmps6
        go_wp2_with fail
        refine (alive_any _).mono ?_; rintro e w1 ⟨rfl, hb⟩
        go_wp2
        go_ret
        exact ⟨rfl, hb⟩
      · have h4 : 20 < (n' : Int) := by omega
        clear h
        go_enter Try.func6, Try.ntmps6
        go_wp2_with fail
        refine (alive_any _).mono ?_; rintro e w1 ⟨rfl, hb⟩
        go_wp2
        go_ret
        exact ⟨rfl, hb⟩

theorem upS_len (W B : Nat) (h : B ≤ 64) : (upS W B).length ≤ 1000000 := by have := canon_64 (upS_spec W B h).1; omega
theorem same_t {w : World} {b b' : Nat} {W B : Nat} (hB : B ≤ 64) (h : RObj w b (upS W B)) (h' : RObj w b' (upS W B)) :
    Calls Try.prog 29 #[.pointer (some ⟨b, 0, none⟩), .pointer (some ⟨b', 0, none⟩)] w fun e w' => e = .returned (.bool true) ∧ Below w.heap.size w w' := by
  have := same_any h h' (upS_len W B hB)
  rwa [decide_eq_true rfl] at this
theorem same_f {w : World} {b b' : Nat} {W V B : Nat} (hB : B ≤ 64) (hne : ¬ upS W B = upS V B) (h : RObj w b (upS W B)) (h' : RObj w b' (upS V B)) :
    Calls Try.prog 29 #[.pointer (some ⟨b, 0, none⟩), .pointer (some ⟨b', 0, none⟩)] w fun e w' => e = .returned (.bool false) ∧ Below w.heap.size w w' := by
  have := same_any h h' (upS_len W B hB)
  rwa [decide_eq_false hne] at this
theorem dbytes_s {w : World} {b B W : Nat} {S : ByteArray} (hS : bstr W ((B + 7) / 8) = S) (hB : B ≤ 64) (h : DObj w b B W) :
    Calls Try.prog 22 #[.pointer (some ⟨b, 0, none⟩)] w fun e w' => e = .returned (.string S) ∧ Below w.heap.size w w' := by
  subst hS; exact dbytes_any h hB

set_option maxRecDepth 100000 in
theorem back_walk (B : Nat) (l m : List Sp) (a b : Option Addr) (c d : Nat) (w : World) (h2 : B ≤ 64) (h3 : l.length ≤ 20) (h4 : m.length ≤ 20) (hr : Hid (Row w (.slice a l.length c) l)) (hf : Hid (Fits l)) (hr2 : Hid (Row w (.slice b m.length d) m)) (hf2 : Hid (Fits m)) :
    Calls Try.prog 6 #[.int .i64 (B : Int), .slice a l.length c, .slice b m.length d] w fun e w' => e = .returned (.bool true) ∧ Below w.heap.size w w' := by
  have hcl : clamp (B : Int) = B := by unfold clamp; (repeat' split) <;> omega
  have q1 : ¬ (B : Int) < 0 := by omega
  have q2 : ¬ (64 : Int) < (B : Int) := by omega
  have q3 : ¬ (20 : Int) < (l.length : Int) := by omega
  have q4 : ¬ (20 : Int) < (m.length : Int) := by omega
  go_enter Try.func6, Try.ntmps6
  go_wp2_with fail
  refine (alive_any _).mono ?_; rintro e w1 ⟨rfl, hb⟩
  go_wp2_with fail
  refine (new_any (B : Int) w1).mono ?_; rintro e w2 ⟨rfl, hD, hb2⟩
  go_wp2_with fail
  refine (new_any (B : Int) w2).mono ?_; rintro e w3 ⟨rfl, hE0, hb3⟩
  rw [hcl] at hD hE0
  have hD0 := hD.stay hb3
  have hz1 : w.heap.size ≤ w1.heap.size := hb.size
  have hz2 : w1.heap.size < w2.heap.size := hD.lt
  have hz3 : w2.heap.size < w3.heap.size := hE0.lt
  have hB0 : Below w.heap.size w w3 := (hb.trans (hb2.mono hb.size)).trans (hb3.mono (by omega))
  clear hb hb2 hb3 hD
  generalize w1.heap.size = D at *
  generalize w2.heap.size = E at *
  go_wp2_with fail
  go_loopw [9] (fun iv wr => ∃ (i W : Nat), i ≤ l.length ∧ iv = .int .i64 i ∧ markL B W (l.drop i) = markL B 0 l ∧ DObj wr D B W ∧ W < 2 ^ B ∧ DObj wr E B 0 ∧ Below w.heap.size w wr) (fun iv _ => l.length - (intOf iv).toNat)
  case atStart => exact ⟨0, 0, Nat.zero_le _, rfl, by simp, hD0, Nat.two_pow_pos B, hE0, hB0⟩
  case round =>
    clear hD0 hE0 hB0
    obtain ⟨i, W, hi, rfl, hW2, hD0, hW, hE0, hB0⟩ := hrel
    have i0 : (0 : Int) ≤ (i : Int) := Int.natCast_nonneg _
    by_cases hl : i < l.length
    · have i1 : (i : Int) < (l.length : Int) := by omega
      obtain ⟨g, o, f, n, rfl, hg, c0, c1, hp, hfit⟩ := arg_at hr.out hf.out hB0 i hl
      have hgr : g < wr.heap.size := Nat.lt_of_lt_of_le hg hB0.size
      have hd : l.drop i = (f, n) :: l.drop (i + 1) := by rw [List.drop_eq_getElem_cons hl]; congr 1; simp [hl] at hp; exact hp
      have hW2' : Hid (markL B (orW B W (spW (f, n))) (l.drop (i + 1)) = markL B 0 l) := by rw [← hW2, hd]; rfl
      clear hW2 hd hp
      go_wp2_with fail
      refine (mark_any f n hD0 hfit h2 hW).mono ?_; rintro e w7 ⟨rfl, hX7, hB7⟩
      have hY7 := hE0.but hB7 (by omega)
      have hB7' := hB0.trans (hB7.low (by omega) hB0.size)
      have hV := orW_lt B W (spW (f, n)) hW
      go_wp2
      go_roundw
      case rel => exact ⟨i + 1, _, by omega, by go_num, hW2'.out, hX7, hV, hY7, hB7'⟩
      case measure => simp [intOf]; omega
    · have i1 : ¬ (i : Int) < (l.length : Int) := by omega
      clear hW2
      go_wp2_with fail
      go_loopw [10] (fun iv wr => ∃ (j V : Nat), j ≤ m.length ∧ iv = .int .i64 j ∧ markL B V (m.drop j) = markL B 0 m ∧ DObj wr E B V ∧ V < 2 ^ B ∧ DObj wr D B W ∧ Below w.heap.size w wr) (fun iv _ => m.length - (intOf iv).toNat)
      case atStart => exact ⟨0, 0, Nat.zero_le _, rfl, by simp, hE0, Nat.two_pow_pos B, hD0, hB0⟩
      case round =>
        clear hE0 hD0 hB0
        obtain ⟨j, V, hj, rfl, hW2, hE0, hV, hD0, hB0⟩ := hrel
        have j0 : (0 : Int) ≤ (j : Int) := Int.natCast_nonneg _
        by_cases hm : j < m.length
        · have j1 : (j : Int) < (m.length : Int) := by omega
          obtain ⟨g, o, f, n, rfl, hg, c0, c1, hp, hfit⟩ := arg_at hr2.out hf2.out hB0 j hm
          have hgr : g < wr.heap.size := Nat.lt_of_lt_of_le hg hB0.size
          have hd : m.drop j = (f, n) :: m.drop (j + 1) := by rw [List.drop_eq_getElem_cons hm]; congr 1; simp [hm] at hp; exact hp
          have hW2' : Hid (markL B (orW B V (spW (f, n))) (m.drop (j + 1)) = markL B 0 m) := by rw [← hW2, hd]; rfl
          clear hW2 hd hp
          go_wp2_with fail
          refine (mark_any f n hE0 hfit h2 hV).mono ?_; rintro e w7 ⟨rfl, hX7, hB7⟩
          have hY7 := hD0.but hB7 (by omega)
          have hB7' := hB0.trans (hB7.low (by omega) hB0.size)
          have hV := orW_lt B V (spW (f, n)) hV
          go_wp2
          go_roundw
          case rel => exact ⟨j + 1, _, by omega, by go_num, hW2'.out, hX7, hV, hY7, hB7'⟩
          case measure => simp [intOf]; omega
        · have j1 : ¬ (j : Int) < (m.length : Int) := by omega
          clear hW2
          go_wp2_with fail
          have hW64 : W < 18446744073709551616 := Nat.lt_of_lt_of_le hW (two64 B h2)
          have hV64 : V < 18446744073709551616 := Nat.lt_of_lt_of_le hV (two64 B h2)
          obtain ⟨S, hS⟩ : ∃ S, Hid (bstr W ((B + 7) / 8) = S) := ⟨_, rfl⟩
          have hSz : Hid (S.size = (B + 7) / 8) := by rw [← hS.out]; exact bstr_size W _
          have hRd : Hid (rdW S ((B + 7) / 8) = W) := by rw [← hS.out]; exact rdW_B W B hW
          by_cases hWV : W = V
          · subst hWV
            have hT : Hid (bstr W ((B + 7) / 8) = S) := hS
            have hV64 := hW64
            clear i1 i0 hi hj j0 j1
            go_wp2_with fail
            refine (dbytes_s hS.out h2 hD0).mono ?_; rintro e v1 ⟨rfl, hb1⟩
            have hD1 := hD0.stay hb1
            have hE1 := hE0.stay hb1
            have hB1 := below_step hB0 hb1
            clear hb1 hB0 hD0 hE0
            go_wp2_with fail
            refine (read_ok S B _ _ h2 rfl hSz.out (by rw [hRd.out]; exact hW)).mono ?_; rintro e v2 ⟨rfl, hZ0, hb2⟩
            rw [hRd.out] at hZ0
            have hD2 := hD1.stay hb2
            have hE2 := hE1.stay hb2
            have hB2 := below_step hB1 hb2
            clear hb2 hB1 hD1 hE1
            have hzz := hZ0.lt
            generalize v1.heap.size = Z at *
            go_wp2_with fail
            refine (runs_any hZ0 h2 hW64).mono ?_; rintro e v3 ⟨rfl, hRa, hb3⟩
            have hD3 := hD2.stay hb3
            have hE3 := hE2.stay hb3
            have hZ3 := hZ0.stay hb3
            have hB3 := below_step hB2 hb3
            clear hb3 hB2 hD2 hE2 hZ0
            generalize v2.heap.size = Ra at *
            clear hRa
            go_wp2_with fail
            refine (runs_any hD3 h2 hW64).mono ?_; rintro e v4 ⟨rfl, hRb, hb4⟩
            have hD4 := hD3.stay hb4
            have hE4 := hE3.stay hb4
            have hZ4 := hZ3.stay hb4
            have hB4 := below_step hB3 hb4
            clear hb4 hB3 hD3 hE3 hZ3
            generalize v3.heap.size = Rb at *
            clear hRb
            go_wp2_with fail
            refine (runs_any hE4 h2 hV64).mono ?_; rintro e v5 ⟨rfl, hRc, hb5⟩
            have hD5 := hD4.stay hb5
            have hE5 := hE4.stay hb5
            have hZ5 := hZ4.stay hb5
            have hB5 := below_step hB4 hb5
            clear hb5 hB4 hD4 hE4 hZ4
            generalize v4.heap.size = Rc at *
            clear hRc
            go_wp2_with fail
            refine (runs_any hZ5 h2 hW64).mono ?_; rintro e v6 ⟨rfl, hRd, hb6⟩
            have hD6 := hD5.stay hb6
            have hE6 := hE5.stay hb6
            have hZ6 := hZ5.stay hb6
            have hB6 := below_step hB5 hb6
            clear hb6 hB5 hD5 hE5 hZ5
            generalize v5.heap.size = Rd at *
            go_wp2_with fail
            refine (runs_any hD6 h2 hW64).mono ?_; rintro e v7 ⟨rfl, hRe, hb7⟩
            have hD7 := hD6.stay hb7
            have hE7 := hE6.stay hb7
            have hZ7 := hZ6.stay hb7
            have hRd_7 := hRd.below hb7
            have hB7 := below_step hB6 hb7
            clear hb7 hB6 hD6 hE6 hZ6 hRd
            generalize v6.heap.size = Re at *
            go_wp2_with fail
            refine (same_t h2 hRd_7 hRe).mono ?_; rintro e v8 ⟨rfl, hb8⟩
            have hD8 := hD7.stay hb8
            have hE8 := hE7.stay hb8
            have hZ8 := hZ7.stay hb8
            have hRd_8 := hRd_7.below hb8
            have hRe_8 := hRe.below hb8
            have hB8 := below_step hB7 hb8
            clear hb8 hB7 hD7 hE7 hZ7 hRd_7 hRe
            clear hRd_8
            clear hRe_8
            go_wp2_with fail
            refine (dbytes_s hS.out h2 hD8).mono ?_; rintro e v9 ⟨rfl, hb9⟩
            have hD9 := hD8.stay hb9
            have hE9 := hE8.stay hb9
            have hZ9 := hZ8.stay hb9
            have hB9 := below_step hB8 hb9
            clear hb9 hB8 hD8 hE8 hZ8
            go_wp2_with fail
            refine (dbytes_s hT.out h2 hE9).mono ?_; rintro e v10 ⟨rfl, hb10⟩
            have hD10 := hD9.stay hb10
            have hE10 := hE9.stay hb10
            have hZ10 := hZ9.stay hb10
            have hB10 := below_step hB9 hb10
            clear hb10 hB9 hD9 hE9 hZ9
            go_wp2_with fail
            refine (runs_any hD10 h2 hW64).mono ?_; rintro e v11 ⟨rfl, hRf, hb11⟩
            have hD11 := hD10.stay hb11
            have hE11 := hE10.stay hb11
            have hZ11 := hZ10.stay hb11
            have hB11 := below_step hB10 hb11
            clear hb11 hB10 hD10 hE10 hZ10
            generalize v10.heap.size = Rf at *
            go_wp2_with fail
            refine (runs_any hE11 h2 hV64).mono ?_; rintro e v12 ⟨rfl, hRg, hb12⟩
            have hD12 := hD11.stay hb12
            have hE12 := hE11.stay hb12
            have hZ12 := hZ11.stay hb12
            have hRf_12 := hRf.below hb12
            have hB12 := below_step hB11 hb12
            clear hb12 hB11 hD11 hE11 hZ11 hRf
            generalize v11.heap.size = Rg at *
            go_wp2_with fail
            refine (same_t h2 hRf_12 hRg).mono ?_; rintro e v13 ⟨rfl, hb13⟩
            have hD13 := hD12.stay hb13
            have hE13 := hE12.stay hb13
            have hZ13 := hZ12.stay hb13
            have hRf_13 := hRf_12.below hb13
            have hRg_13 := hRg.below hb13
            have hB13 := below_step hB12 hb13
            clear hb13 hB12 hD12 hE12 hZ12 hRf_12 hRg
            go_wp2
            go_ret
            exact ⟨rfl, hB13⟩
          · obtain ⟨T, hT⟩ : ∃ T, Hid (bstr V ((B + 7) / 8) = T) := ⟨_, rfl⟩
            have hsne : (S.toList == T.toList) = false := by rw [← hS.out, ← hT.out]; exact bstr_ne hW hV hWV
            have hne : Hid (¬ upS W B = upS V B) := upS_ne h2 hW hV hWV
            clear hWV i1 i0 hi hj j0 j1
            go_wp2_with fail
            refine (dbytes_s hS.out h2 hD0).mono ?_; rintro e v1 ⟨rfl, hb1⟩
            have hD1 := hD0.stay hb1
            have hE1 := hE0.stay hb1
            have hB1 := below_step hB0 hb1
            clear hb1 hB0 hD0 hE0
            go_wp2_with fail
            refine (read_ok S B _ _ h2 rfl hSz.out (by rw [hRd.out]; exact hW)).mono ?_; rintro e v2 ⟨rfl, hZ0, hb2⟩
            rw [hRd.out] at hZ0
            have hD2 := hD1.stay hb2
            have hE2 := hE1.stay hb2
            have hB2 := below_step hB1 hb2
            clear hb2 hB1 hD1 hE1
            have hzz := hZ0.lt
            generalize v1.heap.size = Z at *
            go_wp2_with fail
            refine (runs_any hZ0 h2 hW64).mono ?_; rintro e v3 ⟨rfl, hRa, hb3⟩
            have hD3 := hD2.stay hb3
            have hE3 := hE2.stay hb3
            have hZ3 := hZ0.stay hb3
            have hB3 := below_step hB2 hb3
            clear hb3 hB2 hD2 hE2 hZ0
            generalize v2.heap.size = Ra at *
            clear hRa
            go_wp2_with fail
            refine (runs_any hD3 h2 hW64).mono ?_; rintro e v4 ⟨rfl, hRb, hb4⟩
            have hD4 := hD3.stay hb4
            have hE4 := hE3.stay hb4
            have hZ4 := hZ3.stay hb4
            have hB4 := below_step hB3 hb4
            clear hb4 hB3 hD3 hE3 hZ3
            generalize v3.heap.size = Rb at *
            clear hRb
            go_wp2_with fail
            refine (runs_any hE4 h2 hV64).mono ?_; rintro e v5 ⟨rfl, hRc, hb5⟩
            have hD5 := hD4.stay hb5
            have hE5 := hE4.stay hb5
            have hZ5 := hZ4.stay hb5
            have hB5 := below_step hB4 hb5
            clear hb5 hB4 hD4 hE4 hZ4
            generalize v4.heap.size = Rc at *
            clear hRc
            go_wp2_with fail
            refine (runs_any hZ5 h2 hW64).mono ?_; rintro e v6 ⟨rfl, hRd, hb6⟩
            have hD6 := hD5.stay hb6
            have hE6 := hE5.stay hb6
            have hZ6 := hZ5.stay hb6
            have hB6 := below_step hB5 hb6
            clear hb6 hB5 hD5 hE5 hZ5
            generalize v5.heap.size = Rd at *
            go_wp2_with fail
            refine (runs_any hD6 h2 hW64).mono ?_; rintro e v7 ⟨rfl, hRe, hb7⟩
            have hD7 := hD6.stay hb7
            have hE7 := hE6.stay hb7
            have hZ7 := hZ6.stay hb7
            have hRd_7 := hRd.below hb7
            have hB7 := below_step hB6 hb7
            clear hb7 hB6 hD6 hE6 hZ6 hRd
            generalize v6.heap.size = Re at *
            go_wp2_with fail
            refine (same_t h2 hRd_7 hRe).mono ?_; rintro e v8 ⟨rfl, hb8⟩
            have hD8 := hD7.stay hb8
            have hE8 := hE7.stay hb8
            have hZ8 := hZ7.stay hb8
            have hRd_8 := hRd_7.below hb8
            have hRe_8 := hRe.below hb8
            have hB8 := below_step hB7 hb8
            clear hb8 hB7 hD7 hE7 hZ7 hRd_7 hRe
            clear hRd_8
            clear hRe_8
            go_wp2_with fail
            refine (dbytes_s hS.out h2 hD8).mono ?_; rintro e v9 ⟨rfl, hb9⟩
            have hD9 := hD8.stay hb9
            have hE9 := hE8.stay hb9
            have hZ9 := hZ8.stay hb9
            have hB9 := below_step hB8 hb9
            clear hb9 hB8 hD8 hE8 hZ8
            go_wp2_with fail
            refine (dbytes_s hT.out h2 hE9).mono ?_; rintro e v10 ⟨rfl, hb10⟩
            have hD10 := hD9.stay hb10
            have hE10 := hE9.stay hb10
            have hZ10 := hZ9.stay hb10
            have hB10 := below_step hB9 hb10
            clear hb10 hB9 hD9 hE9 hZ9
            go_wp2_with fail
            refine (runs_any hD10 h2 hW64).mono ?_; rintro e v11 ⟨rfl, hRf, hb11⟩
            have hD11 := hD10.stay hb11
            have hE11 := hE10.stay hb11
            have hZ11 := hZ10.stay hb11
            have hB11 := below_step hB10 hb11
            clear hb11 hB10 hD10 hE10 hZ10
            generalize v10.heap.size = Rf at *
            go_wp2_with fail
            refine (runs_any hE11 h2 hV64).mono ?_; rintro e v12 ⟨rfl, hRg, hb12⟩
            have hD12 := hD11.stay hb12
            have hE12 := hE11.stay hb12
            have hZ12 := hZ11.stay hb12
            have hRf_12 := hRf.below hb12
            have hB12 := below_step hB11 hb12
            clear hb12 hB11 hD11 hE11 hZ11 hRf
            generalize v11.heap.size = Rg at *
            go_wp2_with fail
            refine (same_f h2 hne.out hRf_12 hRg).mono ?_; rintro e v13 ⟨rfl, hb13⟩
            have hD13 := hD12.stay hb13
            have hE13 := hE12.stay hb13
            have hZ13 := hZ12.stay hb13
            have hRf_13 := hRf_12.below hb13
            have hRg_13 := hRg.below hb13
            have hB13 := below_step hB12 hb13
            clear hb13 hB12 hD12 hE12 hZ12 hRf_12 hRg
            go_wp2
            go_ret
            exact ⟨rfl, hB13⟩
end Go.Proofs.Ytohjdpdmabjdaaa
