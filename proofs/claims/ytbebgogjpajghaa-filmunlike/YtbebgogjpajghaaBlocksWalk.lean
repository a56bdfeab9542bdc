/-
  FilmBlocks, walked.
-/
import Derived.Test.YtbebgogjpajghaaFilmF
namespace Go.Proofs.Ytbebgogjpajghaa
open Go.ChangeShapes Go.WideShapes Go.ChangeAt Go.RowKit
attribute [local go_sem ↓] Go.wp_at_zero Go.wp_at_succ
attribute [local go_sem] str_size str_extract str_append str_toList

theorem take_blk (X : List UInt8) (k : Nat) : X.take (k * 8) ++ blk X k = X.take ((k + 1) * 8) := by
  unfold blk
  rw [show (k + 1) * 8 = k * 8 + 8 by omega, List.take_add]
theorem blk_length {X : List UInt8} {k B : Nat} (hl : X.length = B * 8) (hk : k < B) : (blk X k).length = 8 := by
  simp [blk]; omega

theorem write_er {w : World} {b g B : Nat} {S : List UInt8} (at_ : Int) (T : List UInt8) (h : FObj w b g S) (hl : S.length = B * 8) (h1 : 1 ≤ B) (h2 : B ≤ 64) (ha : at_ ≤ 9223372036854775807) :
    Calls Try.prog 10 #[.pointer (some ⟨b, 0, none⟩), .int .i64 at_, .string (str T)] w fun e w' => ∃ er : Int, e = .returned (.int .i64 er) ∧ FObj w' b g (wrS S at_ T) ∧ But g w w' :=
  (write_any at_ T h hl h1 h2 ha).mono fun _ _ h => ⟨_, h⟩
set_option maxRecDepth 100000 in
theorem blocks_out (B : Int) (a : Option Addr) (n c : Nat) (w : World) (h : B < 1 ∨ 64 < B) :
    Calls Try.prog 5 #[.int .i64 B, .slice a n c] w fun e w' => e = .returned (.bool true) ∧ Below w.heap.size w w' := by
  by_cases h1 : B < 1
  · clear h
    go_enter Try.func5, Try.ntmps5
    go_wp2_with fail
    refine (alive_any _).mono ?_; rintro e w1 ⟨rfl, hb⟩
    go_wp2
    go_ret
    exact ⟨rfl, hb⟩
  have h2 : 64 < B := by omega
  clear h
  go_enter Try.func5, Try.ntmps5
  go_wp2_with fail
  refine (alive_any _).mono ?_; rintro e w1 ⟨rfl, hb⟩
  go_wp2
  go_ret
  exact ⟨rfl, hb⟩

set_option maxRecDepth 100000 in
theorem blocks_walk (B : Nat) (a : Option Addr) (c : Nat) (os : List FPut) (w : World) (h1 : 1 ≤ B) (h2 : B ≤ 64) (hh : Hid (PutsAt w (.slice a os.length c) os)) :
    Calls Try.prog 5 #[.int .i64 (B : Int), .slice a os.length c] w fun e w' => e = .returned (.bool true) ∧ Below w.heap.size w w' := by
  have q1 : ¬ (B : Int) < 1 := by omega
  have q2 : ¬ (64 : Int) < (B : Int) := by omega
  go_enter Try.func5, Try.ntmps5
  go_wp2_with fail
  refine (light_any hh.out).mono ?_; rintro e w1 ⟨bb, rfl, hlt, rfl⟩
  cases bb with
  | false =>
    go_wp2_with fail
    refine (alive_any _).mono ?_; rintro e w1 ⟨rfl, hb⟩
    go_wp2
    go_ret
    exact ⟨rfl, hb⟩
  | true =>
    have hl50 := hlt rfl
    clear hlt
    go_wp2_with fail
    refine (alive_any _).mono ?_; rintro e w2 ⟨rfl, hb⟩
    go_wp2_with fail
    refine (new_any B _ h1 h2).mono ?_; rintro e w3 ⟨rfl, hX, hb2⟩
    have hX' := Hid.intro hX
    have hlX := Hid.intro hX.lt
    have hz1 := hb.size
    have hB2 := Hid.intro (show Below w1.heap.size w1 w3 from hb.trans (hb2.mono hb.size))
    clear hb hb2 hX
    generalize hx1 : w2.heap.size = gx at *
    clear hx1
    generalize hx2 : gx + 1 = bx at *
    clear hx2
    go_wp2_with fail
    go_loopw [7] (fun iv wr => ∃ (i : Nat) (X : List UInt8), i ≤ os.length ∧ iv = .int .i64 i ∧ FObj wr bx gx X ∧ X.length = B * 8 ∧ Below w1.heap.size w1 wr) (fun iv _ => os.length - (intOf iv).toNat)
    case atStart => exact ⟨0, _, Nat.zero_le _, rfl, hX'.out, by simp, hB2.out⟩
    case round =>
      clear hX' hlX hB2
      obtain ⟨i, X, hi, rfl, hF, hXl, hBw⟩ := hrel
      have i0 : (0 : Int) ≤ (i : Int) := Int.natCast_nonneg _
      have hF' := Hid.intro hF
      have hXl' := Hid.intro hXl
      have hBw' := Hid.intro hBw
      clear hF hXl hBw
      by_cases hl : i < os.length
      · obtain ⟨g, o, x, T, rfl, hg, _, c0, c1, hx⟩ := hh.out.at hBw'.out i hl
        have hgr : g < wr.heap.size := Nat.lt_of_lt_of_le hg hBw'.out.size
        have i1 : (i : Int) < (os.length : Int) := by omega
        go_wp2_with fail
        go_region_with (go_at_call 10; refine (write_er x T (hF'.out.below below_drw) hXl'.out h1 h2 hx).mono ?_; rintro e w4 ⟨er, rfl, hF4, hb4⟩)
        all_goals
          go_wp2
          go_roundw
          case rel => exact ⟨i + 1, _, by omega, by go_num, hF4, (wrS_length _ _ _).trans hXl'.out, hBw'.out.trans ((below_drw.mono hBw'.out.size).trans (hb4.low hz1 hBw'.out.size))⟩
          case measure => simp [intOf]; omega
      · have i1 : ¬ (i : Int) < (os.length : Int) := by omega
        go_wp2_with fail
        go_loopw [8, 9] (fun sv kv wk => ∃ k : Nat, k ≤ B ∧ kv = .int .i64 k ∧ sv = .string (str (X.take (k * 8))) ∧ wk = wr) (fun _ kv _ => B - (intOf kv).toNat)
        case atStart => exact ⟨0, Nat.zero_le _, rfl, by rw [Nat.zero_mul, List.take_zero]; rfl, rfl⟩
        case round =>
          obtain ⟨k, hk, rfl, rfl, rfl⟩ := hrel
          have k0 : (0 : Int) ≤ (k : Int) := Int.natCast_nonneg _
          by_cases hkB : k < B
          · have k1 : (k : Int) < (B : Int) := by omega
            have hbl := blk_length hXl'.out hkB
            have htl : (X.take (k * 8)).length ≤ 512 := by simp; omega
            have hr : Hid (Calls Try.prog 20 #[.pointer (some ⟨bx, 0, none⟩), .int .i64 ((k : Int) * 8), .int .i64 8] wr fun e w' => e = .returned (.tuple #[.string (str (blk X k)), .int .i64 0]) ∧ w' = wr) := Hid.intro (by
              have := read_ok (k * 8) 8 hF'.out hXl'.out h1 h2 (by have := hXl'.out; omega)
              simpa [blk] using this)
            have htk := Hid.intro (take_blk X k)
            go_wp2_with fail
            refine (block_in k hF'.out hXl'.out h2 hkB).mono ?_; rintro e w4 ⟨rfl, rfl⟩
            go_wp2_with fail
            refine hr.out.mono ?_; rintro e w5 ⟨rfl, rfl⟩
            generalize blk X k = Y at *
            generalize X.take (k * 8) = Z at *
            go_wp2
            go_roundw
            case rel => exact ⟨k + 1, by omega, by go_num, by rw [htk.out], trivial⟩
            case measure => simp [intOf]; omega
          · have hkk : k = B := by omega
            subst hkk
            have hX8 : X.take (k * 8) = X := List.take_of_length_le (by have := hXl'.out; omega)
            rw [hX8]
            go_wp2_with fail
            refine (fbytes_any hF'.out).mono ?_; rintro e w4 ⟨rfl, rfl⟩
            go_wp2
            go_ret
            exact ⟨rfl, hBw'.out⟩
theorem blocks_any (B : Int) (v : Value) (os : List FPut) (w : World) (h : PutsAt w v os) :
    Calls Try.prog 5 #[.int .i64 B, v] w fun e w' => e = .returned (.bool true) ∧ Below w.heap.size w w' := by
  obtain ⟨a, c, rfl⟩ := h.slice
  by_cases hB : B < 1 ∨ 64 < B
  · exact blocks_out B a os.length c w hB
  · obtain ⟨b, rfl⟩ : ∃ b : Nat, B = b := ⟨B.toNat, by omega⟩
    exact blocks_walk b a c os w (by omega) (by omega) h
end Go.Proofs.Ytbebgogjpajghaa
