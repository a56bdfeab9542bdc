/-
  DirtReads, walked.
-/
import Derived.Test.YtohjdpdmabjdaaaBackMath
import Derived.Test.YtohjdpdmabjdaaaSetKit
import Derived.Test.YtohjdpdmabjdaaaDirtE
import Derived.Test.YtohjdpdmabjdaaaReadsR
import Derived.Deep.CutRange
namespace Go.Proofs.Ytohjdpdmabjdaaa
open Go.ChangeShapes Go.WideShapes Go.ChangeAt Go.RowKit
attribute [local go_sem ↓] Go.wp_at_zero Go.wp_at_succ

theorem bit_out' {B W k : Nat} (hW : W < 2 ^ B) (h : W.testBit k = true) : k < B := by
  rcases Nat.lt_or_ge k B with hk | hk
  · exact hk
  · rw [Nat.testBit_lt_two_pow (Nat.lt_of_lt_of_le hW (Nat.pow_le_pow_right (by decide) hk))] at h; cases h
theorem bitsOf_set (W t : Nat) (ht : t < 64) (hb : W.testBit t = true) : bitsOf (upS W (t + 1)) = (bitsOf (upS W t)).set t true := by
  refine bits_ext (bitsOf_length _) (by simp [bitsOf_length]) fun k hk => ?_
  rw [bitsOf_get _ k hk, List.getElem?_set]
  have a := (upS_spec W (t + 1) (by omega)).2 (k : Int)
  have b := (upS_spec W t (by omega)).2 (k : Int)
  by_cases e : t = k
  · subst e
    rw [if_pos rfl, if_pos (by rw [bitsOf_length]; exact ht), decide_eq_true (a.2 ⟨by omega, by omega, by simpa using hb⟩)]
  · rw [if_neg e, bitsOf_get _ k hk]
    congr 1
    apply decide_eq_decide.2
    rw [a, b]
    constructor
    · rintro ⟨x, y, z⟩; exact ⟨x, by omega, z⟩
    · rintro ⟨x, y, z⟩; exact ⟨x, by omega, z⟩
theorem set_bit {wr : World} {X W t : Nat} (h : wr.rangeAt X 0 (bv (bitsOf (upS W t)))) (ht : t < 64) (hb : W.testBit t = true) : (wr.setCell ⟨X, t, none⟩ (.bool true)).rangeAt X 0 (bv (bitsOf (upS W (t + 1)))) := by
  rw [bitsOf_set W t ht hb]
  exact range_set true h (by rw [bitsOf_length]; exact ht)
theorem upS_skip {W t : Nat} (hb : W.testBit t = false) : upS W (t + 1) = upS W t := by rw [upS, if_neg (by simp [hb])]
theorem cnt_upS (W t : Nat) (ht : t ≤ 64) (hW : W < 2 ^ t) : cnt (upS W t) = ((pop W : Nat) : Int) := by
  obtain ⟨hc, hi⟩ := upS_spec W t ht
  rw [← upTo_64 hc]
  congr 1
  unfold upTo pop popN
  apply List.countP_congr
  intro k hk
  rw [decide_eq_true_iff, hi]
  simp only [Int.toNat_natCast]
  constructor
  · rintro ⟨_, _, h⟩; exact h
  · intro h
    refine ⟨by omega, ?_, h⟩
    rcases Nat.lt_or_ge k t with h1 | h1
    · omega
    · rw [Nat.testBit_lt_two_pow (Nat.lt_of_lt_of_le hW (Nat.pow_le_pow_right (by decide) h1))] at h; cases h
theorem str_self (S : ByteArray) : (S.toList == S.toList) = true := by simp
/-- What is left of a byte behind k halvings tells its bit k. -/
theorem half_bit (S : ByteArray) (n i k : Nat) (hi : i < n) (hk : k < 8) : (byteAt S i / 2 ^ k) % 2 = 1 ↔ (rdW S n).testBit (8 * i + k) = true := by
  rw [rdW_bit, decide_eq_true (by omega), Bool.true_and, show (8 * i + k) / 8 = i by omega, show (8 * i + k) % 8 = k by omega, Nat.testBit_eq_decide_div_mod_eq, decide_eq_true_iff]

theorem zs_size : (Try.prog.info? 27).map (·.size) = some (List.replicate 64 (Value.bool false)).toArray.size := by have := (bv_facts []).2.2.2; rwa [bv_nil] at this
theorem zs_one : (List.replicate 64 (Value.bool false)).toArray.all (·.oneCell') = true := by have := (bv_facts []).2.2.1; rwa [bv_nil] at this
theorem zs_list : (List.replicate 64 (Value.bool false)).toArray.toList = bv (bitsOf []) := by rw [← bv_nil]
theorem zs_facts (w : World) : let z := (w.alloc (.cells (List.replicate 64 (Value.bool false)).toArray 27)).setCells w.heap.size 0 (List.replicate 64 (Value.bool false)).toArray.toList
    z.rangeAt w.heap.size 0 (bv (bitsOf [])) ∧ z.there w.heap.size 0 64 ∧ w.heap.size < z.heap.size ∧ Below w.heap.size w z := by
  intro z
  have := set_facts w [] (List.replicate 64 (Value.bool false)).toArray (by simp)
  rw [← zs_list] at this
  rw [← zs_list]
  exact this

/-- What is read of some bytes is told as they were. -/
theorem bstr_rdW (S : ByteArray) (n : Nat) (hs : S.size = n) : bstr (rdW S n) n = S := by
  apply ByteArray.ext
  apply Array.ext
  · show (bstr (rdW S n) n).size = S.size
    rw [bstr_size, hs]
  · intro i h1 h2
    have hi : i < n := by rw [← hs]; exact h2
    have e1 : byteAt (bstr (rdW S n) n) i = byteAt S i := by
      rw [bstr_at _ _ _ hi]
      apply Nat.eq_of_testBit_eq
      intro k
      by_cases hk : k < 8
      · rw [byt_bit _ _ _ hk, rdW_bit, decide_eq_true (by omega), Bool.true_and, show (i * 8 + k) / 8 = i by omega, show (i * 8 + k) % 8 = k by omega]
      · have p : ∀ x, x < 256 → x.testBit k = false := fun x hx => Nat.testBit_lt_two_pow (Nat.lt_of_lt_of_le hx (by have : 2 ^ 8 ≤ 2 ^ k := Nat.pow_le_pow_right (by decide) (by omega); simpa using this))
        rw [p _ (byt_lt _ _), p _ (byteAt_lt _ _)]
    have h1' : i < (bstr (rdW S n) n).size := h1
    have h2' : i < S.size := h2
    unfold byteAt at e1
    rw [dif_pos h1', dif_pos h2'] at e1
    exact UInt8.toNat_inj.1 e1

theorem reads_out (S : ByteArray) (b : Int) (w : World) (h : 40 < S.size) :
    Calls Try.prog 4 #[.string S, .int .i64 b] w fun e w' => e = .returned (.bool true) ∧ Below w.heap.size w w' := by
  have h1 : (40 : Int) < (S.size : Int) := by omega
  go_enter Try.func4, Try.ntmps4
  go_wp2_with fail
  refine (alive_any _).mono ?_; rintro e w1 ⟨rfl, hb⟩
  go_wp2
  go_ret
  exact ⟨rfl, hb⟩
theorem reads_arg (S : ByteArray) (b : Int) (w : World) (h : S.size ≤ 40) (hb : ¬ (0 ≤ b ∧ b ≤ 64)) :
    Calls Try.prog 4 #[.string S, .int .i64 b] w fun e w' => e = .returned (.bool true) ∧ Below w.heap.size w w' := by
  have h1 : ¬ (40 : Int) < (S.size : Int) := by omega
  have hb' : Hid (¬ (0 ≤ b ∧ b ≤ 64)) := hb
  by_cases hc : b < 0
  · clear hb
    go_enter Try.func4, Try.ntmps4
    go_wp2_with fail
    refine (alive_any _).mono ?_; rintro e w1 ⟨rfl, hb1⟩
    go_wp2_with fail
    refine (read_arg S b w1 hb'.out).mono ?_; rintro e w2 ⟨rfl, hb2⟩
    have hB := below_step hb1 hb2
    go_wp2
    go_ret
    exact ⟨rfl, hB⟩
  · have hd : 64 < b := by omega
    clear hb
    go_enter Try.func4, Try.ntmps4
    go_wp2_with fail
    refine (alive_any _).mono ?_; rintro e w1 ⟨rfl, hb1⟩
    go_wp2_with fail
    refine (read_arg S b w1 hb'.out).mono ?_; rintro e w2 ⟨rfl, hb2⟩
    have hB := below_step hb1 hb2
    go_wp2
    go_ret
    exact ⟨rfl, hB⟩

set_option maxRecDepth 100000 in
theorem reads_ok (S : ByteArray) (B n W : Nat) (w : World) (hB : B ≤ 64) (hBn : Hid ((B + 7) / 8 = n)) (hs : S.size = n) (hV : Hid (rdW S n = W)) (hw : Hid (W < 2 ^ B)) :
    Calls Try.prog 4 #[.string S, .int .i64 (B : Int)] w fun e w' => e = .returned (.bool true) ∧ Below w.heap.size w w' := by
  have hn : n ≤ 8 := by have := hBn.out; omega
  have q0 : ¬ (40 : Int) < (n : Int) := by omega
  have q1 : ¬ (B : Int) < 0 := by omega
  have q2 : ¬ (64 : Int) < (B : Int) := by omega
  have q3 : ((B : Int) + 7).tdiv 8 = (n : Int) := by
    rw [Int.tdiv_eq_ediv_of_nonneg (by omega)]; have := hBn.out; omega
  have hW64 : W < 18446744073709551616 := by rw [← hV.out]; exact Nat.lt_of_lt_of_le (rdW_lt S n) (pow64 _ hn)
  go_enter Try.func4, Try.ntmps4
  go_wp2_with fail
  refine (alive_any _).mono ?_; rintro e w1 ⟨rfl, hb1⟩
  go_wp2_with fail
  refine (read_ok S B n w1 hB hBn.out hs (by rw [hV.out]; exact hw.out)).mono ?_; rintro e w2 ⟨rfl, hZ, hb2⟩
  rw [hV.out] at hZ
  have hz1 := hb1.size
  have hz2 := hZ.lt
  have hB2 := below_step hb1 hb2
  have hZ' := Hid.intro hZ
  clear hb1 hb2 hZ
  generalize w1.heap.size = Z at *
  have hz : w.heap.size ≤ w2.heap.size := hB2.size
  have hth : Hid ((w2.alloc (.cells (List.replicate 64 (Value.bool false)).toArray 27)).there w2.heap.size 0 (List.replicate 64 (Value.bool false)).toArray.size) := Hid.intro (there_new (by simp))
  go_wp2_with (first
    | (refine wpList_store_mid rfl 27 _ _ rfl w2.heap.size 0 (List.replicate 64 (Value.bool false)).toArray rfl rfl hth.out zs_size zs_one ?_))
  refine gen_world _ (fun w4 => w4.rangeAt w2.heap.size 0 (bv (bitsOf [])) ∧ w4.there w2.heap.size 0 64 ∧ w2.heap.size < w4.heap.size ∧ Below w2.heap.size w2 w4) (zs_facts w2) ?_
  rintro w3 ⟨hrX, htX, hzX, hb3⟩
  have hB3 := below_step hB2 hb3
  have hZ3 := Hid.intro (hZ'.out.stay hb3)
  have hZX : Z < w2.heap.size := hz2
  clear hZ' hz2
  have hrX' := Hid.intro hrX
  have htX' := Hid.intro htX
  clear hB2 hb3 hth hrX htX q3
  generalize w2.heap.size = X at *
  go_loopw [7, 9] (fun okv iv wr => ∃ i : Nat, i ≤ n ∧ okv = .bool true ∧ iv = .int .i64 i ∧ wr.rangeAt X 0 (bv (bitsOf (upS W (8 * i)))) ∧ wr.there X 0 64 ∧ X < wr.heap.size ∧ Below w.heap.size w wr ∧ DObj wr Z B W) (fun _ iv _ => n - (intOf iv).toNat)
  case atStart => exact ⟨0, Nat.zero_le _, rfl, rfl, hrX'.out, htX'.out, hzX, hB3, hZ3.out⟩
  case round =>
    clear hrX' htX' hzX hB3 hZ3
    obtain ⟨i, hi, hok, rfl, hrX, htX, hzX, hBw, hZw⟩ := hrel
    have i0 : (0 : Int) ≤ (i : Int) := Int.natCast_nonneg _
    have hrX' := Hid.intro hrX
    have htX' := Hid.intro htX
    clear hrX htX
    subst hok
    by_cases hl : i < n
    · have i1 : (i : Int) < (n : Int) := by omega
      have i2 : i < S.size := by omega
      have hby : ((S[i].toNat : Nat) : Int) = ((byteAt S i : Nat) : Int) := by rw [byteAt_in S i i2]
      have hbl := byteAt_lt S i
      have hwr : ((S[i].toNat : Nat) : Int) ≤ 255 := by rw [hby]; omega
      go_wp2_with fail
      go_loopw [7, 10, 11] (fun okv vv kv wr => ∃ k : Nat, k ≤ 8 ∧ okv = .bool true ∧ vv = .int .i64 ((byteAt S i / 2 ^ k : Nat) : Int) ∧ kv = .int .i64 k ∧ wr.rangeAt X 0 (bv (bitsOf (upS W (8 * i + k)))) ∧ wr.there X 0 64 ∧ X < wr.heap.size ∧ Below w.heap.size w wr ∧ DObj wr Z B W) (fun _ _ kv _ => 8 - (intOf kv).toNat)
      case atStart => exact ⟨0, by omega, rfl, by simp, rfl, hrX'.out, htX'.out, hzX, hBw, hZw⟩
      case round =>
        clear hrX' htX' hzX hBw hZw
        obtain ⟨k, hk, rfl, rfl, rfl, hrX, htX, hzX, hBw, hZw⟩ := hrel
        have k0 : (0 : Int) ≤ (k : Int) := Int.natCast_nonneg _
        have hrX' := Hid.intro hrX
        have htX' := Hid.intro htX
        by_cases hk8 : k < 8
        · have k1 : (k : Int) < 8 := by omega
          have hbi := half_bit S n i k hl hk8
          rw [hV.out] at hbi
          have hle : byteAt S i / 2 ^ k < 256 := Nat.lt_of_le_of_lt (Nat.div_le_self _ _) hbl
          have hnx' : Hid (byteAt S i / 2 ^ (k + 1) = byteAt S i / 2 ^ k / 2) := Hid.intro (by rw [Nat.pow_succ, Nat.div_div_eq_div_mul])
          by_cases hodd : (byteAt S i / 2 ^ k) % 2 = 1
          · have hb1 := hbi.1 hodd
            have hb1' := Hid.intro hb1
            have ht0 := htX (8 * i + k) (by omega)
            rw [Nat.zero_add] at ht0
            obtain ⟨u, hu0⟩ := Option.isSome_iff_exists.1 ht0.1
            have hf0 := ht0.2
            have hlt : 8 * i + k < B := bit_out' hw.out hb1
            clear hbi hb1 hrX htX ht0
            generalize byteAt S i / 2 ^ k = v at *
            go_wp2
            refine ⟨⟨k + 1, by omega, rfl, by rw [hnx'.out]; rfl, by go_num, set_bit hrX'.out (by omega) hb1'.out, there_set htX'.out _ _, by simpa using hzX, hBw.setCell (by omega) _, hZw.but ((But.of (Below.refl _ _)).setCell (8 * i + k) _) (by omega)⟩, by simp [intOf]; omega⟩
          · have hbf : W.testBit (8 * i + k) = false := by cases hh : W.testBit (8 * i + k) with
              | false => rfl
              | true => exact absurd (hbi.2 hh) hodd
            have hev : (byteAt S i / 2 ^ k) % 2 = 0 := by omega
            have hsk := Hid.intro (upS_skip hbf)
            have hbf' := Hid.intro hbf
            clear hbi hrX htX hbf hodd
            generalize byteAt S i / 2 ^ k = v at *
            go_wp2
            refine ⟨⟨k + 1, by omega, rfl, by rw [hnx'.out]; rfl, by go_num, by rw [show 8 * i + (k + 1) = 8 * i + k + 1 from rfl, hsk.out]; exact hrX'.out, htX'.out, hzX, hBw, hZw⟩, by simp [intOf]; omega⟩
        · obtain rfl : k = 8 := by omega
          clear hrX htX
          go_wp2
          refine ⟨⟨i + 1, by omega, rfl, by go_num, hrX'.out, htX'.out, hzX, hBw, hZw⟩, by simp [intOf]; omega⟩
    · obtain rfl : i = n := by omega
      have i1 : ¬ (i : Int) < (i : Int) := by omega
      have h8 : 8 * i ≤ 64 := by omega
      have hW8 : W < 2 ^ (8 * i) := Nat.lt_of_lt_of_le hw.out (Nat.pow_le_pow_right (by decide) (by have := hBn.out; omega))
      have hcnt := Hid.intro (cnt_upS W (8 * i) h8 hW8)
      have hcan := Hid.intro (upS_spec W (8 * i) h8).1
      have hSb : Hid (bstr W ((B + 7) / 8) = S) := Hid.intro (by rw [hBn.out, ← hV.out]; exact bstr_rdW S i hs)
      have hZ' := Hid.intro hZw
      clear hW8 hZw
      go_upto_region 22 with fail
      refine rd22_walk hB hW64 hZ' hrX' hzX hSb hcan hcnt (fun _ a D v z h => by cases D <;> exact h) ?_
      intros
      rename_i z hbz
      have hBz := below_step hBw hbz
      go_wp2
      go_ret
      exact ⟨rfl, hBz⟩

set_option maxRecDepth 100000 in
theorem reads_bad (S : ByteArray) (B n W : Nat) (w : World) (hB : B ≤ 64) (hBn : Hid ((B + 7) / 8 = n)) (hs : S.size = n) (hV : Hid (rdW S n = W)) (hw : Hid (¬ W < 2 ^ B)) :
    Calls Try.prog 4 #[.string S, .int .i64 (B : Int)] w fun e w' => e = .returned (.bool true) ∧ Below w.heap.size w w' := by
  have hn : n ≤ 8 := by have := hBn.out; omega
  have q0 : ¬ (40 : Int) < (n : Int) := by omega
  have q1 : ¬ (B : Int) < 0 := by omega
  have q2 : ¬ (64 : Int) < (B : Int) := by omega
  have q3 : ((B : Int) + 7).tdiv 8 = (n : Int) := by
    rw [Int.tdiv_eq_ediv_of_nonneg (by omega)]; have := hBn.out; omega
  have hW64 : W < 18446744073709551616 := by rw [← hV.out]; exact Nat.lt_of_lt_of_le (rdW_lt S n) (pow64 _ hn)
  go_enter Try.func4, Try.ntmps4
  go_wp2_with fail
  refine (alive_any _).mono ?_; rintro e w1 ⟨rfl, hb1⟩
  go_wp2_with fail
  refine (read_bad S B n w1 hB hBn.out hs (by rw [hV.out]; exact hw.out)).mono ?_; rintro e w2 ⟨rfl, hb2⟩
  have hB2 := below_step hb1 hb2
  clear hb1 hb2
  have hz : w.heap.size ≤ w2.heap.size := hB2.size
  have hth : Hid ((w2.alloc (.cells (List.replicate 64 (Value.bool false)).toArray 27)).there w2.heap.size 0 (List.replicate 64 (Value.bool false)).toArray.size) := Hid.intro (there_new (by simp))
  go_wp2_with (first
    | (refine wpList_store_mid rfl 27 _ _ rfl w2.heap.size 0 (List.replicate 64 (Value.bool false)).toArray rfl rfl hth.out zs_size zs_one ?_))
  refine gen_world _ (fun w4 => w4.rangeAt w2.heap.size 0 (bv (bitsOf [])) ∧ w4.there w2.heap.size 0 64 ∧ w2.heap.size < w4.heap.size ∧ Below w2.heap.size w2 w4) (zs_facts w2) ?_
  rintro w3 ⟨hrX, htX, hzX, hb3⟩
  have hB3 := below_step hB2 hb3
  have hrX' := Hid.intro hrX
  have htX' := Hid.intro htX
  clear hB2 hb3 hth hrX htX q3
  generalize w2.heap.size = X at *
  go_loopw [7, 9] (fun okv iv wr => ∃ i : Nat, i ≤ n ∧ ((okv = .bool true ∧ wr.rangeAt X 0 (bv (bitsOf (upS W (8 * i)))) ∧ wr.there X 0 64 ∧ ∀ j, j < 8 * i → W.testBit j = true → j < B) ∨ okv = .bool false) ∧ iv = .int .i64 i ∧ X < wr.heap.size ∧ Below w.heap.size w wr) (fun _ iv _ => n - (intOf iv).toNat)
  case atStart => exact ⟨0, Nat.zero_le _, .inl ⟨rfl, hrX'.out, htX'.out, fun j hj => by omega⟩, rfl, hzX, hB3⟩
  case round =>
    clear hrX' htX' hzX hB3
    obtain ⟨i, hi, hok, rfl, hzX, hBw⟩ := hrel
    have i0 : (0 : Int) ≤ (i : Int) := Int.natCast_nonneg _
    rcases hok with ⟨rfl, hrX, htX, hgood⟩ | rfl
    · have hrX' := Hid.intro hrX
      have htX' := Hid.intro htX
      clear hrX htX
      by_cases hl : i < n
      · have i1 : (i : Int) < (n : Int) := by omega
        have i2 : i < S.size := by omega
        have hby : ((S[i].toNat : Nat) : Int) = ((byteAt S i : Nat) : Int) := by rw [byteAt_in S i i2]
        have hbl := byteAt_lt S i
        have hwr : ((S[i].toNat : Nat) : Int) ≤ 255 := by rw [hby]; omega
        go_wp2_with fail
        go_loopw [7, 10, 11] (fun okv vv kv wr => ∃ k : Nat, k ≤ 8 ∧ okv = .bool true ∧ vv = .int .i64 ((byteAt S i / 2 ^ k : Nat) : Int) ∧ kv = .int .i64 k ∧ wr.rangeAt X 0 (bv (bitsOf (upS W (8 * i + k)))) ∧ wr.there X 0 64 ∧ X < wr.heap.size ∧ Below w.heap.size w wr ∧ (∀ j, j < 8 * i + k → W.testBit j = true → j < B)) (fun _ _ kv _ => 8 - (intOf kv).toNat)
        case atStart => exact ⟨0, by omega, rfl, by simp, rfl, hrX'.out, htX'.out, hzX, hBw, hgood⟩
        case round =>
          clear hrX' htX' hzX hBw hgood
          obtain ⟨k, hk, rfl, rfl, rfl, hrX, htX, hzX, hBw, hgood⟩ := hrel
          have k0 : (0 : Int) ≤ (k : Int) := Int.natCast_nonneg _
          have hrX' := Hid.intro hrX
          have htX' := Hid.intro htX
          by_cases hk8 : k < 8
          · have k1 : (k : Int) < 8 := by omega
            have hbi := half_bit S n i k hl hk8
            rw [hV.out] at hbi
            have hle : byteAt S i / 2 ^ k < 256 := Nat.lt_of_le_of_lt (Nat.div_le_self _ _) hbl
            have hnx' : Hid (byteAt S i / 2 ^ (k + 1) = byteAt S i / 2 ^ k / 2) := Hid.intro (by rw [Nat.pow_succ, Nat.div_div_eq_div_mul])
            by_cases hodd : (byteAt S i / 2 ^ k) % 2 = 1
            · have hb1 := hbi.1 hodd
              have hb1' := Hid.intro hb1
              have ht0 := htX (8 * i + k) (by omega)
              rw [Nat.zero_add] at ht0
              obtain ⟨u, hu0⟩ := Option.isSome_iff_exists.1 ht0.1
              have hf0 := ht0.2
              have hgood' := Hid.intro hgood
              by_cases hlt : 8 * i + k < B
              · clear hbi hb1 hrX htX ht0
                generalize byteAt S i / 2 ^ k = v at *
                go_wp2
                refine ⟨⟨k + 1, by omega, rfl, by rw [hnx'.out]; rfl, by go_num, set_bit hrX'.out (by omega) hb1'.out, there_set htX'.out _ _, by simpa using hzX, hBw.setCell (by omega) _, fun j hj hbj => by by_cases e : j = 8 * i + k; omega; exact hgood'.out j (by omega) hbj⟩, by simp [intOf]; omega⟩
              · clear hbi hb1 hrX htX ht0
                generalize byteAt S i / 2 ^ k = v at *
                go_wp2
                refine ⟨⟨i + 1, by omega, .inr rfl, by go_num, hzX, hBw⟩, by simp [intOf]; omega⟩
            · have hbf : W.testBit (8 * i + k) = false := by cases hh : W.testBit (8 * i + k) with
                | false => rfl
                | true => exact absurd (hbi.2 hh) hodd
              have hev : (byteAt S i / 2 ^ k) % 2 = 0 := by omega
              have hsk := Hid.intro (upS_skip hbf)
              have hbf' := Hid.intro hbf
              clear hbi hrX htX hbf hodd
              generalize byteAt S i / 2 ^ k = v at *
              go_wp2
              refine ⟨⟨k + 1, by omega, rfl, by rw [hnx'.out]; rfl, by go_num, by rw [show 8 * i + (k + 1) = 8 * i + k + 1 from rfl, hsk.out]; exact hrX'.out, htX'.out, hzX, hBw, fun j hj hbj => by by_cases e : j = 8 * i + k; (subst e; rw [hbf'.out] at hbj; cases hbj); exact hgood j (by omega) hbj⟩, by simp [intOf]; omega⟩
          · obtain rfl : k = 8 := by omega
            clear hrX htX
            go_wp2
            refine ⟨⟨i + 1, by omega, .inl ⟨rfl, hrX'.out, htX'.out, hgood⟩, by go_num, hzX, hBw⟩, by simp [intOf]; omega⟩
      · obtain rfl : i = n := by omega
        refine absurd ?_ hw.out
        apply Nat.lt_pow_two_of_testBit
        intro j hj
        cases hb : W.testBit j with
        | false => rfl
        | true =>
          have hj8 : j < 8 * i := by
            have := rdW_lt S i
            rw [hV.out] at this
            have := bit_out' this hb
            omega
          have := hgood j hj8 hb
          omega
    · go_wp2
      go_ret
      exact ⟨rfl, hBw⟩

set_option maxRecDepth 100000 in
theorem reads_len (S : ByteArray) (B : Nat) (w : World) (hB : B ≤ 64) (h40 : S.size ≤ 40) (hs : S.size ≠ (B + 7) / 8) :
    Calls Try.prog 4 #[.string S, .int .i64 (B : Int)] w fun e w' => e = .returned (.bool true) ∧ Below w.heap.size w w' := by
  have hs' := Hid.intro hs
  have q0 : ¬ (40 : Int) < (S.size : Int) := by omega
  have q1 : ¬ (B : Int) < 0 := by omega
  have q2 : ¬ (64 : Int) < (B : Int) := by omega
  have q3 : ((B : Int) + 7).tdiv 8 = (((B + 7) / 8 : Nat) : Int) := by
    rw [Int.tdiv_eq_ediv_of_nonneg (by omega)]; omega
  generalize hn : (B + 7) / 8 = n at *
  have q4 : ¬ (S.size : Int) = (n : Int) := by omega
  rw [← hn] at hs'
  have hn8 : n ≤ 8 := by omega
  clear hs hn
  go_enter Try.func4, Try.ntmps4
  go_wp2_with fail
  refine (alive_any _).mono ?_; rintro e w1 ⟨rfl, hb1⟩
  go_wp2_with fail
  refine (read_len S B w1 hB hs'.out).mono ?_; rintro e w2 ⟨rfl, hb2⟩
  have hB2 := below_step hb1 hb2
  clear hb1 hb2
  have hth : Hid ((w2.alloc (.cells (List.replicate 64 (Value.bool false)).toArray 27)).there w2.heap.size 0 (List.replicate 64 (Value.bool false)).toArray.size) := Hid.intro (there_new (by simp))
  go_wp2_with (first
    | (refine wpList_store_mid rfl 27 _ _ rfl w2.heap.size 0 (List.replicate 64 (Value.bool false)).toArray rfl rfl hth.out zs_size zs_one ?_))
  refine gen_world _ (fun w4 => w4.rangeAt w2.heap.size 0 (bv (bitsOf [])) ∧ w4.there w2.heap.size 0 64 ∧ w2.heap.size < w4.heap.size ∧ Below w2.heap.size w2 w4) (zs_facts w2) ?_
  rintro w3 ⟨_, _, _, hb3⟩
  have hB3 := below_step hB2 hb3
  clear hB2 hb3 hth q3
  generalize w2.heap.size = X at *
  go_loopw [7, 9] (fun okv iv wr => okv = .bool false ∧ iv = .int .i64 0 ∧ wr = w3) (fun _ _ _ => 0)
  case atStart => exact ⟨congrArg Value.bool (beq_eq_false_iff_ne.2 q4), rfl, rfl⟩
  case round =>
    obtain ⟨rfl, rfl, rfl⟩ := hrel
    go_wp2
    go_ret
    exact ⟨rfl, hB3⟩
end Go.Proofs.Ytohjdpdmabjdaaa
