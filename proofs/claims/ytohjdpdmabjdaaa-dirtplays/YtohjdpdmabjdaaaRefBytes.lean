/-
  The contract of emulsionlaw3's bytes: of a word's marks what Bytes tells.
-/
import Derived.Test.YtohjdpdmabjdaaaBackMath
import Derived.Test.YtohjdpdmabjdaaaSetKit
import Derived.Deep.AppendLies
namespace Go.Proofs.Ytohjdpdmabjdaaa
open Go.ChangeShapes Go.WideShapes Go.ChangeAt Go.RowKit
attribute [local go_sem ↓] Go.wp_at_zero Go.wp_at_succ

theorem own_form5 {w : World} {base : Nat} {e : TypeId} {size : Nat} {v : Value} {n : Nat} {xs : List Value} (h : w.ownsRow base e size v n xs) : ∃ a c, v = .slice a n c := by
  rcases h.2 with ⟨rfl, rfl⟩ | ⟨g, cap, cur, hv, _⟩
  · exact ⟨_, _, rfl⟩
  · exact ⟨_, _, hv⟩
def bytV (W j : Nat) : List Value := (bytL W j).map (Value.int .u8)
theorem bytV_succ (W j : Nat) : bytV W (j + 1) = bytV W j ++ [.int .u8 ((byt W j : Nat) : Int)] := by
  simp [bytV, bytL, List.range_succ]
theorem low_step (V t : Nat) : V % 2 ^ (t + 1) = V % 2 ^ t + (if V.testBit t then 2 ^ t else 0) := by
  rw [Nat.mod_pow_succ, Nat.testBit_eq_decide_div_mod_eq]
  by_cases h : V / 2 ^ t % 2 = 1
  · rw [h, decide_eq_true rfl]; simp
  · rw [decide_eq_false h, show V / 2 ^ t % 2 = 0 by omega]; simp
theorem shr_bit (W j t : Nat) : (W / 2 ^ (j * 8)).testBit t = W.testBit (8 * j + t) := by
  rw [Nat.testBit_div_two_pow]
  congr 1
  omega
theorem low_end (W B j t : Nat) (hW : W < 2 ^ B) (ht : t ≤ 8) (h : t = 8 ∨ 8 * j + t = B) : W / 2 ^ (j * 8) % 2 ^ t = byt W j := by
  unfold byt
  rcases h with rfl | h
  · rfl
  · have h1 : W / 2 ^ (j * 8) < 2 ^ t := by
      rw [Nat.div_lt_iff_lt_mul (Nat.two_pow_pos _), ← Nat.pow_add]
      rw [show t + j * 8 = B by omega]; exact hW
    have h2 : 2 ^ t ≤ 256 := by
      have : 2 ^ t ≤ 2 ^ 8 := Nat.pow_le_pow_right (by decide) ht
      simpa using this
    rw [Nat.mod_eq_of_lt h1, Nat.mod_eq_of_lt (by omega)]
theorem pow_in (t : Nat) (ht : t ≤ 8) : 1 ≤ 2 ^ t ∧ 2 ^ t ≤ 256 := by
  have : 2 ^ t ≤ 2 ^ 8 := Nat.pow_le_pow_right (by decide) ht
  exact ⟨Nat.two_pow_pos _, by simpa using this⟩
theorem own_str {w : World} {base n : Nat} {v : Value} {W : Nat} (h : w.ownsRow base 5 1 v n (bytV W n)) : (convert 73 9 v).run Try.prog w = .ok (.string (bstr W n)) w := by
  rcases h.2 with ⟨rfl, rfl⟩ | ⟨g, cap, cur, rfl, hg⟩
  · exact run_convert_bytes_nil (P := Try.prog) w 73 5 Try.underlying73 Try.underlying5 _ _ 9 Try.underlying9
  · refine run_convert_bytes_arg (P := Try.prog) w 73 5 Try.underlying73 Try.underlying5 g 0 n cap (bytL W n) (bytL_length W n) (fun i hi => ?_) 9 Try.underlying9
    rw [Nat.zero_add, World.ownsRow.cellAt h i (by omega), bytL_getD W n i hi]
    simp [bytV, bytL, hi]

set_option maxRecDepth 100000 in
theorem refBytes_any (W B : Nat) (w : World) (hB : B ≤ 64) (hW : Hid (W < 2 ^ B)) :
    Calls Try.prog 23 #[.agg (bv (bitsOf (upS W B))).toArray, .int .i64 (B : Int)] w fun e w' => e = .returned (.string (bstr W ((B + 7) / 8))) ∧ Below w.heap.size w w' := by
  obtain ⟨i0, hi0, hz0', hz1', hz2'⟩ := info_parts Try.info5
  have hi' := Hid.intro (upS_spec W B hB).2
  go_enter Try.func23, Try.ntmps23
  go_wp2_with fail
  go_loopw [5, 6] (fun bvv kv wr => ∃ j k : Nat, k = 8 * j ∧ kv = .int .i64 (k : Int) ∧ j ≤ (B + 7) / 8 ∧ wr.ownsRow (w.heap.size + 1) 5 1 bvv j (bytV W j) ∧ wr.rangeAt w.heap.size 0 (bv (bitsOf (upS W B))) ∧ w.heap.size < wr.heap.size ∧ Below w.heap.size w wr) (fun _ kv _ => B + 8 - (intOf kv).toNat)
  case atStart => exact ⟨0, 0, rfl, rfl, Nat.zero_le _, World.ownsRow_nil _ _ _ _, by simpa using range_new (w := w) (C := (bv (bitsOf (upS W B))).toArray) (t := 27), by simp, (Below.refl _ _).alloc (Nat.le_refl _) _⟩
  case round =>
    obtain ⟨j, k, hk0, rfl, hj, hown, hr, hz, hBw⟩ := hrel
    have hk := Hid.intro hk0
    have hjk : k / 8 = j := by omega
    have hjk' := Hid.intro hjk
    have hjb : k < B → j + 1 ≤ (B + 7) / 8 := by omega
    have hje : ¬ k < B → j = (B + 7) / 8 := by omega
    have hj64 : k < B → j ≤ 8 := by omega
    clear hk0 hjk
    have k0 : (0 : Int) ≤ (k : Int) := Int.natCast_nonneg _
    obtain ⟨aa, cc, rfl⟩ := own_form5 hown
    have hown' := Hid.intro hown
    have hr' := Hid.intro hr
    clear hown hr
    by_cases hkb : k < B
    · have k1 : (k : Int) < (B : Int) := by omega
      have hj8 := hj64 hkb
      go_wp2_with fail
      go_loopw [7, 8, 9] (fun vv bb iv wk => ∃ t i v p : Nat, t ≤ 8 ∧ i = k + t ∧ i ≤ B ∧ v = W / 2 ^ (j * 8) % 2 ^ t ∧ p = 2 ^ t ∧ vv = .int .i64 (v : Int) ∧ bb = .int .i64 (p : Int) ∧ iv = .int .i64 (i : Int) ∧ wk = wr) (fun _ _ iv _ => k + 8 - (intOf iv).toNat)
      case atStart => exact ⟨0, k, 0, 1, by omega, rfl, by omega, by simp [Nat.mod_one], rfl, rfl, rfl, rfl, rfl⟩
      case round =>
        obtain ⟨t, i, v, p, ht, hi, hiB, hv, hp, rfl, rfl, rfl, rfl⟩ := hrel
        have t0 : (0 : Int) ≤ (i : Int) := Int.natCast_nonneg _
        have hi2 := Hid.intro hi
        obtain ⟨p1, p2⟩ := pow_in t ht
        rw [← hp] at p1 p2
        have hvl : v < p := by rw [hv, hp]; exact Nat.mod_lt _ (Nat.two_pow_pos _)
        by_cases hgo : t < 8 ∧ i < B
        · obtain ⟨g1, g2⟩ := hgo
          have g1' : (i : Int) < (k : Int) + 8 := by omega
          have g2' : (i : Int) < (B : Int) := by omega
          have g3' : (i : Int) < 64 := by omega
          have d1 : decide ((i : Int) < (k : Int) + 8) = true := decide_eq_true g1'
          have hc := bit_cell hr'.out i (by omega)
          have hls := low_step (W / 2 ^ (j * 8)) t
          rw [shr_bit, ← hv, ← hp, show 8 * j + t = i by have := hk.out; omega] at hls
          have hp' : Hid (2 ^ (t + 1) = 2 * p) := Hid.intro (by rw [Nat.pow_succ, hp]; omega)
          have hin := hi'.out (i : Int)
          by_cases hb : W.testBit i = true
          · rw [decide_eq_true (hin.2 ⟨t0, g2', by simpa using hb⟩)] at hc
            rw [if_pos hb] at hls
            have hls' := Hid.intro hls
            clear hls hin hb hv hp hi
            go_wp2
            go_roundw
            case rel => exact ⟨t + 1, i + 1, v + p, 2 * p, by omega, by have := hi2.out; omega, by omega, hls'.out.symm, hp'.out.symm, by go_num, by go_num, by go_num, trivial⟩
            case measure => simp [intOf]; omega
          · rw [decide_eq_false (fun h => hb (by simpa using (hin.1 h).2.2))] at hc
            rw [if_neg hb] at hls
            have hls' := Hid.intro hls
            clear hls hin hb hv hp hi
            go_wp2
            go_roundw
            case rel => exact ⟨t + 1, i + 1, v, 2 * p, by omega, by have := hi2.out; omega, by omega, hls'.out.symm, hp'.out.symm, rfl, by go_num, by go_num, trivial⟩
            case measure => simp [intOf]; omega
        · have hend : v = byt W j := by rw [hv]; exact low_end W B j t hW.out ht (by have := hk.out; omega)
          by_cases g1 : t < 8
          · have g2 : ¬ i < B := fun h => hgo ⟨g1, h⟩
            have d1 : decide ((i : Int) < (k : Int) + 8) = true := decide_eq_true (by omega)
            have d2 : decide ((i : Int) < (B : Int)) = false := decide_eq_false (by omega)
            clear hgo
            have hend' := Hid.intro hend
            have v0 : (0 : Int) ≤ (v : Int) := Int.natCast_nonneg _
            have v1 : (v : Int) ≤ 255 := by omega
            have hsz : w.heap.size + 1 ≤ wr.heap.size := by omega
            clear hv hp hend
            go_wp2_with (at_builtin; refine wpList_append_lies _ rfl _ _ 73 rfl (w.heap.size + 1) 5 i0 (.int .u8 0) 1 1 Try.underlying73 hi0 hz0' hz1' hz2' rfl (by decide) _ j (bytV W j) rfl (hown'.out.alloc _) ⟨wr.heap.size, 0, none⟩ 1 1 [.int .u8 (v : Int)] rfl rfl (World.news_of_block (cs := #[.int .u8 (v : Int)]) (t := 5) (fr := (0, 0)) (heap_alloc_new wr _)) (by simp [Value.oneCell']) (by decide) (by unfold maxLen; omega) (by omega) (by simp; omega) (wr.heap.size + 1) (by simp) ?_; intro g5 cap5 w5 hown5 hgrow5 hat5 hlt5)
            have hne : ∀ x, (Value.slice aa j cc).ownBlock = some x → w.heap.size + 1 ≤ x := fun x hx => (hown'.out.lt x hx).1
            have hr5 : w5.rangeAt w.heap.size 0 (bv (bitsOf (upS W B))) := range_grown hgrow5 (by simp; omega) (fun h => by have := hne _ h.symm; omega) (range_below ((Below.refl wr.heap.size wr).alloc (Nat.le_refl _) _) hz hr'.out)
            have hB5 : Below w.heap.size w w5 := (hBw.alloc hBw.size _).grown hgrow5 (by simp; omega) (fun x hx => by have := hne x hx; omega)
            go_roundw
            case rel => exact ⟨j + 1, k + 8, by have := hk.out; omega, by go_num, hjb hkb, by rw [bytV_succ, ← hend'.out]; exact hown5, hr5, by have := hgrow5.size; simp at this; omega, hB5⟩
            case measure => simp [intOf]; omega
          · have d1 : decide ((i : Int) < (k : Int) + 8) = false := decide_eq_false (by omega)
            clear hgo
            have hend' := Hid.intro hend
            have v0 : (0 : Int) ≤ (v : Int) := Int.natCast_nonneg _
            have v1 : (v : Int) ≤ 255 := by omega
            have hsz : w.heap.size + 1 ≤ wr.heap.size := by omega
            clear hv hp hend
            go_wp2_with (at_builtin; refine wpList_append_lies _ rfl _ _ 73 rfl (w.heap.size + 1) 5 i0 (.int .u8 0) 1 1 Try.underlying73 hi0 hz0' hz1' hz2' rfl (by decide) _ j (bytV W j) rfl (hown'.out.alloc _) ⟨wr.heap.size, 0, none⟩ 1 1 [.int .u8 (v : Int)] rfl rfl (World.news_of_block (cs := #[.int .u8 (v : Int)]) (t := 5) (fr := (0, 0)) (heap_alloc_new wr _)) (by simp [Value.oneCell']) (by decide) (by unfold maxLen; omega) (by omega) (by simp; omega) (wr.heap.size + 1) (by simp) ?_; intro g5 cap5 w5 hown5 hgrow5 hat5 hlt5)
            have hne : ∀ x, (Value.slice aa j cc).ownBlock = some x → w.heap.size + 1 ≤ x := fun x hx => (hown'.out.lt x hx).1
            have hr5 : w5.rangeAt w.heap.size 0 (bv (bitsOf (upS W B))) := range_grown hgrow5 (by simp; omega) (fun h => by have := hne _ h.symm; omega) (range_below ((Below.refl wr.heap.size wr).alloc (Nat.le_refl _) _) hz hr'.out)
            have hB5 : Below w.heap.size w w5 := (hBw.alloc hBw.size _).grown hgrow5 (by simp; omega) (fun x hx => by have := hne x hx; omega)
            go_roundw
            case rel => exact ⟨j + 1, k + 8, by have := hk.out; omega, by go_num, hjb hkb, by rw [bytV_succ, ← hend'.out]; exact hown5, hr5, by have := hgrow5.size; simp at this; omega, hB5⟩
            case measure => simp [intOf]; omega
    · have hnn : j = (B + 7) / 8 := hje hkb
      have k1 : ¬ (k : Int) < (B : Int) := by omega
      have hcv := own_str hown'.out
      rw [hnn] at hcv
      subst hnn
      go_wp2
      go_ret
      exact ⟨rfl, hBw⟩
end Go.Proofs.Ytohjdpdmabjdaaa
