/-
  The contracts of octets' countMayBe and size and of the document's Fits, Num and Value.
-/
import Derived.Test.YtnboajhcjgcpfaaOMath
import Derived.Deep.AppendLies
import Derived.Maps.AppendAt
namespace Go.Proofs.Ytnboajhcjgcpfaa
open Go.ChangeShapes Go.WideShapes Go.ChangeAt Go.RowKit
attribute [local go_sem] str_size str_extract str_append str_toList

theorem cnt_any (n : Int) (w : World) : Calls Try.prog 33 #[.int .i64 n] w fun e w' => e = .returned (.bool (decide (1 ≤ n ∧ n ≤ 4))) ∧ w' = w := by
  by_cases h1 : 1 ≤ n
  · by_cases h2 : n ≤ 4
    · go_enter Try.func33, Try.ntmps33
      go_wp2
      go_ret
      exact ⟨by simp [h1, h2], rfl⟩
    · go_enter Try.func33, Try.ntmps33
      go_wp2
      go_ret
      exact ⟨by simp [h2], rfl⟩
  · go_enter Try.func33, Try.ntmps33
    go_wp2
    go_ret
    exact ⟨by have h9 : ¬ 1 ≤ n := by omega
              simp [h9], rfl⟩

theorem shr_iff (v : Int) (k : Nat) : (0 < v / 2 ^ k) ↔ 2 ^ k ≤ v := by
  have hp : (0 : Int) < 2 ^ k := Int.pow_pos (by decide)
  rw [← Int.add_one_le_iff, Int.zero_add, Int.le_ediv_iff_mul_le hp, Int.one_mul]

set_option maxRecDepth 100000 in
theorem size_any (v : Int) (w : World) (h0 : 0 ≤ v) (h1 : v ≤ 9223372036854775807) : Calls Try.prog 34 #[.int .i64 v] w fun e w' => e = .returned (.int .i64 (szN v)) ∧ w' = w := by
  unfold szN
  by_cases a1 : 4294967296 ≤ v
  · have b1 : 0 < v / 4294967296 := by omega
    rw [if_pos a1]
    go_enter Try.func34, Try.ntmps34
    go_wp2
    go_ret
    exact ⟨rfl, rfl⟩
  have b1 : ¬ 0 < v / 4294967296 := by omega
  rw [if_neg a1]
  by_cases a2 : 16777216 ≤ v
  · have b2 : 0 < v / 16777216 := by omega
    rw [if_pos a2]
    go_enter Try.func34, Try.ntmps34
    go_wp2
    go_ret
    exact ⟨rfl, rfl⟩
  have b2 : ¬ 0 < v / 16777216 := by omega
  rw [if_neg a2]
  by_cases a3 : 65536 ≤ v
  · have b3 : 0 < v / 65536 := by omega
    rw [if_pos a3]
    go_enter Try.func34, Try.ntmps34
    go_wp2
    go_ret
    exact ⟨rfl, rfl⟩
  have b3 : ¬ 0 < v / 65536 := by omega
  rw [if_neg a3]
  by_cases a4 : 256 ≤ v
  · have b4 : 0 < v / 256 := by omega
    rw [if_pos a4]
    go_enter Try.func34, Try.ntmps34
    go_wp2
    go_ret
    exact ⟨rfl, rfl⟩
  have b4 : ¬ 0 < v / 256 := by omega
  rw [if_neg a4]
  go_enter Try.func34, Try.ntmps34
  go_wp2
  go_ret
  exact ⟨rfl, rfl⟩

theorem fits_no (v n : Int) (w : World) (h : ¬ (1 ≤ n ∧ n ≤ 4 ∧ 0 ≤ v ∧ v ≤ 4294967295)) : Calls Try.prog 11 #[.int .i64 v, .int .i64 n] w fun e w' => e = .returned (.bool false) ∧ w' = w := by
  by_cases h1 : 1 ≤ n
  · by_cases h2 : n ≤ 4
    · by_cases h3 : 0 ≤ v
      · have h4 : ¬ v ≤ 4294967295 := by omega
        go_enter Try.func11, Try.ntmps11
        go_wp2
        go_ret
        exact ⟨rfl, rfl⟩
      · go_enter Try.func11, Try.ntmps11
        go_wp2
        go_ret
        exact ⟨rfl, rfl⟩
    · go_enter Try.func11, Try.ntmps11
      go_wp2
      go_ret
      exact ⟨rfl, rfl⟩
  · go_enter Try.func11, Try.ntmps11
    go_wp2
    go_ret
    exact ⟨rfl, rfl⟩
theorem fits_in (v n : Int) (w : World) (hn : 1 ≤ n ∧ n ≤ 4) (h3 : 0 ≤ v) (h4 : v ≤ 4294967295) : Calls Try.prog 11 #[.int .i64 v, .int .i64 n] w fun e w' => e = .returned (.bool (decide (Fit v n))) ∧ w' = w := by
  rcases four_cases hn with rfl | rfl | rfl | rfl
  · rw [show decide (Fit v 1) = decide (v < 256) from decide_eq_decide.2 (by unfold Fit; simp; omega)]
    by_cases h : v < 256
    · go_enter Try.func11, Try.ntmps11
      go_wp2
      go_ret
      exact ⟨by simp [h], rfl⟩
    · go_enter Try.func11, Try.ntmps11
      go_wp2
      go_ret
      exact ⟨by simp [h], rfl⟩
  · rw [show decide (Fit v 2) = decide (v < 65536) from decide_eq_decide.2 (by unfold Fit; simp; omega)]
    by_cases h : v < 65536
    · go_enter Try.func11, Try.ntmps11
      go_wp2
      go_ret
      exact ⟨by simp [h], rfl⟩
    · have h' : ¬ v < 256 := by omega
      go_enter Try.func11, Try.ntmps11
      go_wp2
      go_ret
      exact ⟨by simp [h], rfl⟩
  · rw [show decide (Fit v 3) = decide (v < 16777216) from decide_eq_decide.2 (by unfold Fit; simp; omega)]
    by_cases h : v < 16777216
    · go_enter Try.func11, Try.ntmps11
      go_wp2
      go_ret
      exact ⟨by simp [h], rfl⟩
    · have h' : ¬ v < 256 := by omega
      go_enter Try.func11, Try.ntmps11
      go_wp2
      go_ret
      exact ⟨by simp [h], rfl⟩
  · rw [show decide (Fit v 4) = true from decide_eq_true (by unfold Fit; simp; omega)]
    go_enter Try.func11, Try.ntmps11
    go_wp2
    go_ret
    exact ⟨rfl, rfl⟩
/-- The document's Fits. -/
theorem fits_any (v n : Int) (w : World) : Calls Try.prog 11 #[.int .i64 v, .int .i64 n] w fun e w' => e = .returned (.bool (decide (Fit v n))) ∧ w' = w := by
  by_cases h : 1 ≤ n ∧ n ≤ 4 ∧ 0 ≤ v ∧ v ≤ 4294967295
  · exact fits_in v n w ⟨h.1, h.2.1⟩ h.2.2.1 h.2.2.2
  · rw [show decide (Fit v n) = false from decide_eq_false (fun hf => h ⟨hf.1, hf.2.1, hf.2.2.1, (fit_lt hf).2.1⟩)]
    exact fits_no v n w h

set_option maxRecDepth 100000 in
theorem rnum_any (t n : Nat) (w : World) (ht : t < 4294967296) (hn : n ≤ 4) :
    Calls Try.prog 12 #[.int .i64 (t : Int), .int .i64 (n : Int)] w fun e w' => e = .returned (.string (str (num t n))) ∧ Below w.heap.size w w' := by
  obtain ⟨i0, hi0, hz0', hz1', hz2'⟩ := info_parts Try.info5
  have n0 : (0 : Int) ≤ (n : Int) := Int.natCast_nonneg _
  have n4 : (n : Int) ≤ 4 := by omega
  go_enter Try.func12, Try.ntmps12
  go_wp2_with fail
  go_loopw [0, 5, 6] (fun tv bv kv wr => ∃ u k : Nat, u = t / 2 ^ (k * 8) ∧ k ≤ n ∧ tv = .int .i64 (u : Int) ∧ kv = .int .i64 (k : Int) ∧ wr.ownsRow w.heap.size 5 1 bv k (bytV t k) ∧ Below w.heap.size w wr) (fun _ _ kv _ => n - (intOf kv).toNat)
  case atStart => exact ⟨t, 0, by simp, Nat.zero_le _, rfl, rfl, World.ownsRow_nil _ _ _ _, Below.refl _ _⟩
  case round =>
    obtain ⟨u, k, hu, hk, rfl, rfl, hown, hB⟩ := hrel
    have k0 : (0 : Int) ≤ (k : Int) := Int.natCast_nonneg _
    obtain ⟨aa, cc, rfl⟩ := own_form5 hown
    have hown' := Hid.intro hown
    have hB' := Hid.intro hB
    clear hown
    by_cases hkb : k < n
    · have k1 : (k : Int) < n := by omega
      have hul : u < 4294967296 := by rw [hu]; exact Nat.lt_of_le_of_lt (Nat.div_le_self _ _) ht
      have ha := and255 u hul
      have hby : u % 256 = byt t k := by rw [hu]; rfl
      have hlt := byt_lt t k
      rw [hby] at ha
      have hnx := Hid.intro (show u / 256 = t / 2 ^ ((k + 1) * 8) by rw [hu, Nat.div_div_eq_div_mul, ← show (2:Nat) ^ 8 = 256 from rfl, ← Nat.pow_add, show (k + 1) * 8 = k * 8 + 8 by omega])
      have hsz : w.heap.size ≤ wr.heap.size := hB.size
      have hbs := Hid.intro (bytV_succ t k)
      clear hu hby hB
      generalize byt t k = v at *
      go_wp2_with (at_builtin; refine wpList_append_lies _ rfl _ _ 26 rfl w.heap.size 5 i0 (.int .u8 0) 1 1 Try.underlying26 hi0 hz0' hz1' hz2' rfl (by decide) _ k (bytV t k) rfl (hown'.out.alloc _) ⟨wr.heap.size, 0, none⟩ 1 1 [.int .u8 (v : Int)] rfl rfl (World.news_of_block (cs := #[.int .u8 (v : Int)]) (t := 5) (fr := (0, 0)) (heap_alloc_new wr _)) (by simp [Value.oneCell']) (by decide) (by unfold maxLen; omega) (by omega) (by simp; omega) (wr.heap.size + 1) (by simp) ?_; intro g5 cap5 w5 hown5 hgrow5 hat5 hlt5)
      have hne : ∀ x, (Value.slice aa k cc).ownBlock = some x → w.heap.size ≤ x := fun x hx => (hown'.out.lt x hx).1
      have hB5 : Below w.heap.size w w5 := (hB'.out.alloc hB'.out.size _).grown hgrow5 (by simp; omega) (fun x hx => hne x hx)
      go_roundw
      case rel => exact ⟨u / 256, k + 1, hnx.out, by omega, by go_num, by go_num, by rw [hbs.out]; exact hown5, hB5⟩
      case measure => simp [intOf]; omega
    · obtain rfl : k = n := by omega
      have hcv := own_str hown'.out
      rw [str_num] at hcv
      generalize hz : num t k = Z at *
      have hz' := Hid.intro hz
      clear hz
      go_wp2
      go_ret
      exact ⟨by rw [hz'.out]; rfl, hB'.out⟩

set_option maxRecDepth 100000 in
theorem value_any (S : List UInt8) (w : World) (hS : S.length ≤ 4) :
    Calls Try.prog 44 #[.string (str S)] w fun e w' => e = .returned (.int .i64 (vl S : Int)) ∧ w' = w := by
  have n0 : (0 : Int) ≤ (S.length : Int) := Int.natCast_nonneg _
  have n4 : (S.length : Int) ≤ 4 := by omega
  obtain ⟨R, hR⟩ : ∃ R, Hid (vl S = R) := ⟨_, rfl⟩
  rw [hR.out]
  go_enter Try.func44, Try.ntmps44
  go_wp2_with fail
  go_loopw [3, 4] (fun vv kv wr => ∃ k : Nat, k ≤ S.length ∧ vv = .int .i64 (vl (S.drop k) : Int) ∧ kv = .int .i64 ((k : Int) - 1) ∧ wr = w) (fun _ kv _ => (intOf kv + 1).toNat)
  case atStart => exact ⟨S.length, Nat.le_refl _, by rw [List.drop_length]; rfl, rfl, rfl⟩
  case round =>
    obtain ⟨k, hk, rfl, rfl, rfl⟩ := hrel
    cases k with
    | zero =>
      have hR2 := hR.out
      rw [List.drop_zero] at *
      go_wp2
      go_ret
      exact ⟨by rw [hR2]; rfl, rfl⟩
    | succ j =>
      have hj : j < S.length := by omega
      obtain ⟨x, hx⟩ : ∃ x, S[j]? = some x := ⟨S[j], by simp [hj]⟩
      have hat := str_at S j x hx wr
      have hx' := Hid.intro (vl_drop hx)
      have hb := vl_lt (S.drop (j + 1))
      have hb2 : vl (S.drop (j + 1)) < 256 ^ 4 := Nat.lt_of_lt_of_le hb (Nat.pow_le_pow_right (by decide) (by rw [List.length_drop]; omega))
      have hb3 : vl (S.drop (j + 1)) < 4294967296 := hb2
      clear hx hb hb2
      have hm : x.toNat < 256 := x.toNat_lt
      unfold bV at hat
      generalize x.toNat = m at *
      generalize vl (S.drop (j + 1)) = V at *
      have j0 : (0 : Int) ≤ (j : Int) := Int.natCast_nonneg _
      have j1 : (j : Int) < (S.length : Int) := by omega
      have hc : ((j + 1 : Nat) : Int) - 1 = (j : Int) := by omega
      rw [hc]
      go_wp2
      go_roundw
      case rel => exact ⟨j, by omega, by rw [hx'.out]; first | done | go_num, rfl, trivial⟩
      case measure => simp [intOf] <;> omega
end Go.Proofs.Ytnboajhcjgcpfaa
