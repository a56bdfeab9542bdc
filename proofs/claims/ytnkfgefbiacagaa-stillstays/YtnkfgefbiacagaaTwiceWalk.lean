/-
  StillTwice, walked.
-/
import Derived.Test.YtnkfgefbiacagaaStillE
import Derived.Lib.MinMax
import Derived.LaidEqlPtr
namespace Go.Proofs.Ytnkfgefbiacagaa
open Go.ChangeShapes Go.WideShapes Go.ChangeAt Go.RowKit
attribute [local go_sem ↓] Go.wp_at_zero Go.wp_at_succ
attribute [local go_sem] str_size str_extract str_append str_toList

theorem take_blk (X : List UInt8) (k : Nat) : X.take (k * 8) ++ blk X k = X.take ((k + 1) * 8) := by
  unfold blk
  rw [show (k + 1) * 8 = k * 8 + 8 by omega, List.take_add]
theorem blk_length {X : List UInt8} {k B : Nat} (hl : X.length = B * 8) (hk : k < B) : (blk X k).length = 8 := by
  simp [blk]; omega

theorem Try.info52 : (Try.prog.info? 52).map (·.size) = some 1 := by kernel_rfl
theorem ptr_same (w : World) (a : Addr) : (binOp .eql 24 (.pointer (some a)) (.pointer (some a))).run Try.prog w = .ok (.bool true) w := by
  have h := Try.info52
  match hi : Try.prog.info? 52, h with
  | some j, _ => exact run_eql_ptr_same w a Try.underlying24 hi
set_option maxRecDepth 100000 in
theorem twice_out (B : Int) (A T : List UInt8) (p : Int) (w : World) (hB : B ≤ 9223372036854775807) (hT : (T.length : Int) ≤ 9223372036854775807) (h : B < 1 ∨ 30 < B ∨ 200 < (A.length : Int) ∨ 60 < (T.length : Int) ∨ p < 0 ∨ B * 8 - T.length < p) :
    Calls Try.prog 4 #[.int .i64 B, .string (str A), .string (str T), .int .i64 p] w fun e w' => e = .returned (.bool true) ∧ Below w.heap.size w w' := by
  by_cases h1 : B < 1
  · clear h
    go_enter Try.func4, Try.ntmps4
    go_wp2_with fail
    refine (alive_any _).mono ?_; rintro e w1 ⟨rfl, hb⟩
    go_wp2
    go_ret
    exact ⟨rfl, hb⟩
  by_cases h2 : 30 < B
  · clear h
    go_enter Try.func4, Try.ntmps4
    go_wp2_with fail
    refine (alive_any _).mono ?_; rintro e w1 ⟨rfl, hb⟩
    go_wp2
    go_ret
    exact ⟨rfl, hb⟩
  by_cases h3 : 200 < (A.length : Int)
  · clear h
    go_enter Try.func4, Try.ntmps4
    go_wp2_with fail
    refine (alive_any _).mono ?_; rintro e w1 ⟨rfl, hb⟩
    go_wp2
    go_ret
    exact ⟨rfl, hb⟩
  by_cases h4 : 60 < (T.length : Int)
  · clear h
    go_enter Try.func4, Try.ntmps4
    go_wp2_with fail
    refine (alive_any _).mono ?_; rintro e w1 ⟨rfl, hb⟩
    go_wp2
    go_ret
    exact ⟨rfl, hb⟩
  by_cases h5 : p < 0
  · clear h
    go_enter Try.func4, Try.ntmps4
    go_wp2_with fail
    refine (alive_any _).mono ?_; rintro e w1 ⟨rfl, hb⟩
    go_wp2
    go_ret
    exact ⟨rfl, hb⟩
  have h6 : B * 8 - T.length < p := by omega
  clear h
  go_enter Try.func4, Try.ntmps4
  go_wp2_with fail
  refine (alive_any _).mono ?_; rintro e w1 ⟨rfl, hb⟩
  go_wp2
  go_ret
  exact ⟨rfl, hb⟩

theorem shown_len {S S2 : List UInt8} {t : Nat → Bool} {K' B k : Nat} {O' : List (List UInt8)} (hR : KRel S t 0 0 K' (List.replicate 64 []) O') (h1 : S.length = B * 8) (h2 : S2.length = B * 8) (hB : B ≤ 64) (hk : k < B) : (shown K' O' S2 k).length = 8 := by
  unfold shown
  rw [hR.bits k (by omega), hR.old k (by omega)]
  cases h : t k with
  | true => simp [blk_length h1 hk]
  | false => simp [blk_length h2 hk]
theorem tchW_ok (S T : List UInt8) (a : Nat) (h : a + T.length ≤ S.length) : tchW S (a : Int) T = tch a T.length := by
  funext j; unfold tchW; rw [decide_eq_true (by omega)]; simp
set_option maxRecDepth 100000 in
theorem twice_walk (B : Nat) (A T : List UInt8) (p : Nat) (w : World) (b1 : 1 ≤ B) (b2 : B ≤ 30) (a1 : (A.length : Int) ≤ 200) (t1 : (T.length : Int) ≤ 60) (p1 : (p : Int) ≤ (B : Int) * 8 - (T.length : Int)) :
    Calls Try.prog 4 #[.int .i64 (B : Int), .string (str A), .string (str T), .int .i64 (p : Int)] w fun e w' => e = .returned (.bool true) ∧ Below w.heap.size w w' := by
  have q1 : ¬ (B : Int) < 1 := by omega
  have q2 : ¬ (30 : Int) < (B : Int) := by omega
  have q3 : ¬ (200 : Int) < (A.length : Int) := by omega
  have q4 : ¬ (60 : Int) < (T.length : Int) := by omega
  have q5 : (0 : Int) ≤ (p : Int) := by omega
  have q6 : ¬ (B : Int) * 8 - (T.length : Int) < (p : Int) := by omega
  obtain ⟨M, hM, hM1⟩ : ∃ M : Nat, min (A.length : Int) ((B : Int) * 8) = (M : Int) ∧ Hid (M ≤ A.length ∧ M ≤ B * 8) := ⟨min A.length (B * 8), by omega, Hid.intro (by omega)⟩
  have m1 : (M : Int) ≤ (A.length : Int) := by have := hM1.out; omega
  have m0 : (0 : Int) ≤ (M : Int) := by omega
  have p9 := Hid.intro p1
  go_enter Try.func4, Try.ntmps4
  go_wp2_with fail
  refine (alive_any _).mono ?_; rintro e w1 ⟨rfl, hb⟩
  go_wp2_with fail
  refine (new_any B _ b1 (by omega)).mono ?_; rintro e w2 ⟨rfl, hF, hb2⟩
  have hz := hb.size
  have hF2 := Hid.intro hF
  have hB2 := Hid.intro (show Below w.heap.size w w2 from hb.trans (hb2.mono hb.size))
  clear hb hb2 hF
  have hg : w.heap.size ≤ w1.heap.size := hz
  generalize w1.heap.size = g at *
  generalize hbd : g + 1 = b at *
  have hbw : w.heap.size ≤ b := by omega
  clear hbd hz
  go_wp2_with fail
  refine (snew_any (B := B) hF2.out (by simp) b1).mono ?_; rintro e w3 ⟨rfl, hS, hb3⟩
  have hF3 := Hid.intro (hF2.out.below hb3)
  have hB3 := Hid.intro (hB2.out.trans (hb3.mono hB2.out.size))
  have hs := hB2.out.size
  have hS3 := Hid.intro hS
  have hne : Hid (b ≠ w2.heap.size ∧ g ≠ w2.heap.size) := Hid.intro (by have := hF2.out.lt; omega)
  clear hS hb3 hF2 hB2
  generalize w2.heap.size = s at *
  go_wp2_with fail
  refine (swrite_ok (B := B) 0 (A.take M) hS3.out hF3.out (by simp) b1 (by omega) (by have := hM1.out; simp; omega)).mono ?_; rintro e w4 ⟨rfl, ⟨K1, O1, hS4, hR1⟩, hF4, hb4⟩
  have hl1 : (wrS (List.replicate (B * 8) 0) ((0 : Nat) : Int) (A.take M)).length = B * 8 := by rw [wrS_length]; simp
  have hlen1 : Hid (∀ S2 : List UInt8, S2.length = B * 8 → ∀ k, k < B → (shown K1 O1 S2 k).length = 8) := Hid.intro (fun S2 h2 k hk => shown_len hR1 (by simp) h2 (by omega) hk)
  have hS4' := Hid.intro hS4
  have hF4' := Hid.intro hF4
  have hB4 := Hid.intro (hB3.out.trans (hb4.low hs hg hB3.out.size))
  have hl1' := Hid.intro hl1
  clear hS4 hF4 hR1 hb4 hB3 hS3 hF3 hl1
  generalize wrS (List.replicate (B * 8) 0) ((0 : Nat) : Int) (A.take M) = S1 at *
  go_wp2_with fail
  refine (fbytes_any hF4'.out).mono ?_; rintro e w5 ⟨rfl, rfl⟩
  go_wp2_with fail
  refine (snew_any hF4'.out hl1'.out b1).mono ?_; rintro e w6 ⟨rfl, hS6, hb6⟩
  have hF6 := Hid.intro (hF4'.out.below hb6)
  have hS1 := Hid.intro (hS4'.out.below hb6)
  have hT6 := Hid.intro hS6
  have hB6 := Hid.intro (hB4.out.trans (hb6.mono hB4.out.size))
  have hs5 := hB4.out.size
  have hne2 : Hid (b ≠ w5.heap.size ∧ g ≠ w5.heap.size ∧ s ≠ w5.heap.size) := Hid.intro (by have := hF4'.out.lt; have := hS4'.out.lt; omega)
  clear hF4' hS4' hS6 hb6 hB4
  generalize w5.heap.size = tt at *
  go_wp2_with fail
  refine (swrite_ok p T hT6.out hF6.out hl1'.out b1 (by omega) (by have := hl1'.out; have := p9.out; omega)).mono ?_; rintro e w7 ⟨rfl, ⟨K2, O2, hS7, hR2⟩, hF7, hb7⟩
  have hl2 : Hid ((wrS S1 (p : Int) T).length = B * 8) := Hid.intro (by rw [wrS_length]; exact hl1'.out)
  have hsh : Hid (∀ k, k < B → shown K2 O2 (wrS S1 (p : Int) T) k = blk S1 k) := Hid.intro (fun k hk => shown_new hR2 (fun j hj => blk_wr j (by rw [tchW_ok S1 T p (by have := hl1'.out; have := p9.out; omega)]; exact hj)) k (by omega))
  have hF7' := Hid.intro hF7
  have hT7 := Hid.intro hS7
  have hS7' := Hid.intro (hS1.out.but2 hb7 ⟨hne2.out.2.2, hne.out.2.symm⟩)
  have hB7 := Hid.intro (hB6.out.trans (hb7.low hs5 hg hB6.out.size))
  clear hR2 hF7 hS7 hb7 hF6 hT6 hS1 hB6
  generalize wrS S1 (p : Int) T = S2 at *
  have hlen2 := Hid.intro (hlen1.out S2 hl2.out)
  clear hlen1
  go_wp2_with fail
  go_loopw [16, 17] (fun av iv wr => ∃ k : Nat, k ≤ B ∧ iv = .int .i64 k ∧ av = .string (str (S1.take (k * 8))) ∧ wr = w7) (fun _ iv _ => B - (intOf iv).toNat)
  case atStart => exact ⟨0, Nat.zero_le _, rfl, by simp; rfl, rfl⟩
  case round =>
    obtain ⟨k, hk, rfl, rfl, rfl⟩ := hrel
    have k0 : (0 : Int) ≤ (k : Int) := Int.natCast_nonneg _
    by_cases hlt : k < B
    · have i1 : (k : Int) < (B : Int) := by omega
      have e1 := Hid.intro (sblock_any k hT7.out hF7'.out hl2.out (by omega) hlt)
      rw [hsh.out k hlt] at e1
      have e2 := Hid.intro (sblock_any k hS7'.out hF7'.out hl2.out (by omega) hlt)
      have l1 : ((blk S1 k).length : Int) = 8 := by rw [blk_length hl1'.out hlt]; rfl
      have l2 : ((shown K1 O1 S2 k).length : Int) = 8 := by rw [hlen2.out k hlt]; rfl
      have hcat : Hid (S1.take (k * 8) ++ blk S1 k = S1.take ((k + 1) * 8)) := Hid.intro (take_blk S1 k)
      have zl : ¬ 9223372036854775807 < (S1.take (k * 8)).length + (blk S1 k).length := by rw [List.length_take]; omega
      generalize shown K1 O1 S2 k = Y at *
      generalize blk S1 k = X at *
      generalize S1.take (k * 8) = Z at *
      go_wp2_with fail
      refine e1.out.mono ?_; rintro e w8 ⟨rfl, rfl⟩
      go_wp2_with fail
      refine e2.out.mono ?_; rintro e w9 ⟨rfl, rfl⟩
      go_wp2
      go_roundw
      case rel => exact ⟨k + 1, by omega, by go_num, by rw [← hcat.out], trivial⟩
      case measure => simp [intOf]; omega
    · have hkm : k = B := by omega
      subst hkm
      have i1 : ¬ (k : Int) < (k : Int) := by omega
      rw [show S1.take (k * 8) = S1 from List.take_of_length_le (by rw [hl1'.out]; exact Nat.le_refl _)]
      go_wp2_with fail
      refine (now_any hT7.out).mono ?_; rintro e w8 ⟨rfl, rfl⟩
      have hq := ptr_same w8 ⟨b, 0, none⟩
      go_wp2
      go_ret
      exact ⟨rfl, hB7.out⟩
theorem twice_any (B : Int) (A T : List UInt8) (p : Int) (w : World) (hB : B ≤ 9223372036854775807) (hT : (T.length : Int) ≤ 9223372036854775807) :
    Calls Try.prog 4 #[.int .i64 B, .string (str A), .string (str T), .int .i64 p] w fun e w' => e = .returned (.bool true) ∧ Below w.heap.size w w' := by
  by_cases h : B < 1 ∨ 30 < B ∨ 200 < (A.length : Int) ∨ 60 < (T.length : Int) ∨ p < 0 ∨ B * 8 - T.length < p
  · exact twice_out B A T p w hB hT h
  · obtain ⟨b, rfl⟩ : ∃ b : Nat, B = b := ⟨B.toNat, by omega⟩
    obtain ⟨q, rfl⟩ : ∃ q : Nat, p = q := ⟨p.toNat, by omega⟩
    exact twice_walk b A T q w (by omega) (by omega) (by omega) (by omega) (by omega)
end Go.Proofs.Ytnkfgefbiacagaa
