/-
  DirtOrs, walked.
-/
import Derived.Test.YtohjdpdmabjdaaaMarksWalk
import Derived.Test.YtohjdpdmabjdaaaSetKit
namespace Go.Proofs.Ytohjdpdmabjdaaa
open Go.ChangeShapes Go.WideShapes Go.ChangeAt Go.RowKit
attribute [local go_sem ↓] Go.wp_at_zero Go.wp_at_succ

/-- Spans that are marked, one behind the other. -/
def markL (B W : Nat) (l : List Sp) : Nat := l.foldl (fun W s => orW B W (spW s)) W
theorem markL_lt (B : Nat) : ∀ (l : List Sp) (W : Nat), W < 2 ^ B → markL B W l < 2 ^ B
  | [], _, h => h
  | s :: l, W, h => markL_lt B l _ (orW_lt B W (spW s) h)
theorem markL_bit (B k : Nat) : ∀ (l : List Sp) (W : Nat), (markL B W l).testBit k = (W.testBit k || (decide (k < B) && decide (In l (k : Int))))
  | [], W => by
    have : ¬ In [] (k : Int) := by rintro ⟨p, hp, _⟩; simp at hp
    simp [markL, this]
  | s :: l, W => by
    have e : markL B W (s :: l) = markL B (orW B W (spW s)) l := rfl
    have i : In (s :: l) (k : Int) ↔ hasW s (k : Int) ∨ In l (k : Int) := by
      unfold In; simp
    rw [e, markL_bit B k l, orW_bit, spW_bit, decide_eq_decide.2 i, Bool.decide_or]
    cases W.testBit k <;> cases decide (k < B) <;> cases decide (hasW s (k : Int)) <;> cases decide (In l (k : Int)) <;> rfl
theorem bit_out {B W k : Nat} (hW : W < 2 ^ B) (h : W.testBit k = true) : k < B := by
  rcases Nat.lt_or_ge k B with hk | hk
  · exact hk
  · rw [Nat.testBit_lt_two_pow (Nat.lt_of_lt_of_le hW (Nat.pow_le_pow_right (by decide) hk))] at h; cases h
theorem range_but {w w' : World} {x b o : Nat} {cs : List Value} (h : w.rangeAt b o cs) (hb : But x w w') (hz : b < w.heap.size) (hne : b ≠ x) : w'.rangeAt b o cs := fun j v hv => by
  rw [World.cell?_of_block (w := w) (a := ⟨b, o + j, none⟩) (hb.block b hz hne)]; exact h j v hv
theorem orW_back (B W X : Nat) (hW : W < 2 ^ B) (hX : X < 2 ^ B) : orW B X (orW B W X) = orW B W X := by
  apply Nat.eq_of_testBit_eq
  intro k
  simp only [orW_bit]
  have a : W.testBit k = true → k < B := bit_out hW
  have b : X.testBit k = true → k < B := bit_out hX
  by_cases h : k < B
  · simp only [h, decide_true, Bool.true_and]
    cases W.testBit k <;> cases X.testBit k <;> rfl
  · cases hw : W.testBit k
    · cases hx : X.testBit k
      · simp [h]
      · exact absurd (b hx) h
    · exact absurd (a hw) h
theorem orW_self (B W : Nat) : orW B W W = W := by
  apply Nat.eq_of_testBit_eq
  intro k
  rw [orW_bit]
  cases W.testBit k <;> simp
theorem ors_bit (B k : Nat) (a b : List Sp) (hk : k < B) : (orW B (markL B 0 a) (markL B 0 b)).testBit k = decide (In (putR (putR [] a) b) (k : Int)) := by
  rw [orW_bit, markL_bit, markL_bit, Nat.zero_testBit]
  have i : In (putR (putR [] a) b) (k : Int) ↔ In a (k : Int) ∨ In b (k : Int) := by
    rw [(put_spec b _ (put_spec a [] trivial).1).2, (put_spec a [] trivial).2]
    have : ¬ In [] (k : Int) := by rintro ⟨p, hp, _⟩; simp at hp
    simp [this]
  rw [decide_eq_decide.2 i, Bool.decide_or]
  simp [hk]
theorem ors_out (B : Int) (a a' : Option Addr) (n c n' c' : Nat) (w : World) (h : B < 0 ∨ 64 < B ∨ 20 < (n : Int) ∨ 20 < (n' : Int)) :
    Calls Try.prog 5 #[.int .i64 B, .slice a n c, .slice a' n' c'] w fun e w' => e = .returned (.bool true) ∧ Below w.heap.size w w' := by
  by_cases h1 : B < 0
  · clear h
    go_enter Try.func5, Try.ntmps5
    go_wp2_with fail
    refine (alive_any _).mono ?_; rintro e w1 ⟨rfl, hb⟩
    go_wp2
    go_ret
    exact ⟨rfl, hb⟩
  · by_cases h2 : 64 < B
    · clear h
      go_enter Try.func5, Try.ntmps5
      go_wp2_with fail
      refine (alive_any _).mono ?_; rintro e w1 ⟨rfl, hb⟩
      go_wp2
      go_ret
      exact ⟨rfl, hb⟩
    · by_cases h3 : 20 < (n : Int)
      · clear h
        go_enter Try.func5, Try.ntmps5
        go_wp2_with fail
        refine (alive_any _).mono ?_; rintro e w1 ⟨rfl, hb⟩
        go_wp2
        go_ret
        exact ⟨rfl, hb⟩
      · have h4 : 20 < (n' : Int) := by omega
        clear h
        go_enter Try.func5, Try.ntmps5
        go_wp2_with fail
        refine (alive_any _).mono ?_; rintro e w1 ⟨rfl, hb⟩
        go_wp2
        go_ret
        exact ⟨rfl, hb⟩

set_option maxRecDepth 100000 in
theorem ors_walk (B : Nat) (l m : List Sp) (a b : Option Addr) (c d : Nat) (w : World) (h2 : B ≤ 64) (h3 : l.length ≤ 20) (h4 : m.length ≤ 20) (hr : Hid (Row w (.slice a l.length c) l)) (hf : Hid (Fits l)) (hr2 : Hid (Row w (.slice b m.length d) m)) (hf2 : Hid (Fits m)) :
    Calls Try.prog 5 #[.int .i64 (B : Int), .slice a l.length c, .slice b m.length d] w fun e w' => e = .returned (.bool true) ∧ Below w.heap.size w w' := by
  have hcl : clamp (B : Int) = B := by unfold clamp; (repeat' split) <;> omega
  have q1 : ¬ (B : Int) < 0 := by omega
  have q2 : ¬ (64 : Int) < (B : Int) := by omega
  have q3 : ¬ (20 : Int) < (l.length : Int) := by omega
  have q4 : ¬ (20 : Int) < (m.length : Int) := by omega
  obtain ⟨ps, hps⟩ : ∃ ps, Hid (putR (putR [] l) m = ps) := ⟨_, rfl⟩
  have HF := Hid.intro (bv_facts ps)
  go_enter Try.func5, Try.ntmps5
  go_wp2_with fail
  refine (alive_any _).mono ?_; rintro e w1 ⟨rfl, hb⟩
  go_wp2_with fail
  refine (new_any (B : Int) w1).mono ?_; rintro e w2 ⟨rfl, hD, hb2⟩
  go_wp2_with fail
  refine (new_any (B : Int) w2).mono ?_; rintro e w3 ⟨rfl, hE, hb3⟩
  rw [hcl] at hD hE
  have hD3 := hD.stay hb3
  have hz1 : w.heap.size ≤ w1.heap.size := hb.size
  have hz2 : w1.heap.size < w2.heap.size := hD.lt
  have hz3 : w2.heap.size < w3.heap.size := hE.lt
  have hB3 : Below w.heap.size w w3 := (hb.trans (hb2.mono hb.size)).trans (hb3.mono (by omega))
  clear hb hb2 hb3 hD
  generalize w1.heap.size = D at *
  generalize w2.heap.size = E at *
  go_wp2_with fail
  refine (refZero_row (hr.out.below hB3) (by omega)).mono ?_; rintro e w4 ⟨rfl, hb4⟩
  have hB4 := below_step hB3 hb4
  go_wp2_with fail
  refine (refOn_row (hr2.out.below hB4) (by omega) (put_spec l [] trivial).1).mono ?_; rintro e w5 ⟨rfl, hb5⟩
  rw [hps.out]
  have hD5 := (hD3.stay hb4).stay hb5
  have hE5 := (hE.stay hb4).stay hb5
  have hB5 := below_step hB4 hb5
  have hz5 : E < w5.heap.size := hE5.lt
  clear hb4 hb5 hB3 hB4 hD3 hE hz3
  have hth : Hid ((w5.alloc (.cells (List.replicate 64 (Value.bool false)).toArray 27)).there w5.heap.size 0 (bv (bitsOf ps)).toArray.size) := Hid.intro (there_new (by simp [HF.out.1]))
  go_wp2_with (first
    | (refine wpList_store_mid rfl 27 _ _ rfl w5.heap.size 0 (bv (bitsOf ps)).toArray rfl rfl hth.out HF.out.2.2.2 HF.out.2.2.1 ?_))
  refine gen_world _ (fun w4 => w4.rangeAt w5.heap.size 0 (bv (bitsOf ps)) ∧ w4.there w5.heap.size 0 64 ∧ w5.heap.size < w4.heap.size ∧ Below w5.heap.size w5 w4) (set_facts w5 ps _ rfl) ?_
  rintro w6 ⟨hrX, _, hzX, hb6⟩
  have hD6 := hD5.stay hb6
  have hE6 := hE5.stay hb6
  have hB6 := below_step hB5 hb6
  have hrX' := Hid.intro hrX
  clear hb6 hB5 hth hrX hD5 hE5
  generalize w5.heap.size = X at *
  go_loopw [10] (fun iv wr => ∃ (i W : Nat), i ≤ l.length ∧ iv = .int .i64 i ∧ markL B W (l.drop i) = markL B 0 l ∧ DObj wr D B W ∧ W < 2 ^ B ∧ DObj wr E B 0 ∧ wr.rangeAt X 0 (bv (bitsOf ps)) ∧ X < wr.heap.size ∧ Below w.heap.size w wr) (fun iv _ => l.length - (intOf iv).toNat)
  case atStart => exact ⟨0, 0, Nat.zero_le _, rfl, by simp, hD6, Nat.two_pow_pos B, hE6, hrX'.out, hzX, hB6⟩
  case round =>
    clear hD6 hE6 hrX' hzX hB6
    obtain ⟨i, W, hi, rfl, hW2, hDw, hW, hEw, hrX, hzX, hBw⟩ := hrel
    have i0 : (0 : Int) ≤ (i : Int) := Int.natCast_nonneg _
    have hrX' := Hid.intro hrX
    clear hrX
    by_cases hl : i < l.length
    · have i1 : (i : Int) < (l.length : Int) := by omega
      obtain ⟨g, o, f, n, rfl, hg, c0, c1, hp, hfit⟩ := arg_at hr.out hf.out hBw i hl
      have hgr : g < wr.heap.size := Nat.lt_of_lt_of_le hg hBw.size
      have hd : l.drop i = (f, n) :: l.drop (i + 1) := by rw [List.drop_eq_getElem_cons hl]; congr 1; simp [hl] at hp; exact hp
      have hW2' : Hid (markL B (orW B W (spW (f, n))) (l.drop (i + 1)) = markL B 0 l) := by rw [← hW2, hd]; rfl
      clear hW2 hd hp
      go_wp2_with fail
      refine (mark_any f n hDw hfit h2 hW).mono ?_; rintro e w7 ⟨rfl, hD7, hB7⟩
      have hE7 := hEw.but hB7 (by omega)
      have hr7 : w7.rangeAt X 0 (bv (bitsOf ps)) := range_but hrX'.out hB7 hzX (by omega)
      have hB7' := hBw.trans (hB7.low hz1 hBw.size)
      have hV := orW_lt B W (spW (f, n)) hW
      have hz7 := hB7.size
      go_wp2
      go_roundw
      case rel => exact ⟨i + 1, _, by omega, by go_num, hW2'.out, hD7, hV, hE7, hr7, by omega, hB7'⟩
      case measure => simp [intOf]; omega
    · have i1 : ¬ (i : Int) < (l.length : Int) := by omega
      rw [List.drop_eq_nil_of_le (by omega)] at hW2
      have eA : W = markL B 0 l := hW2
      have eA' := Hid.intro eA
      clear hW2 eA
      go_wp2_with fail
      go_loopw [11] (fun iv wr => ∃ (i V : Nat), i ≤ m.length ∧ iv = .int .i64 i ∧ markL B V (m.drop i) = markL B 0 m ∧ DObj wr D B W ∧ V < 2 ^ B ∧ DObj wr E B V ∧ wr.rangeAt X 0 (bv (bitsOf ps)) ∧ X < wr.heap.size ∧ Below w.heap.size w wr) (fun iv _ => m.length - (intOf iv).toNat)
      case atStart => exact ⟨0, 0, Nat.zero_le _, rfl, by simp, hDw, Nat.two_pow_pos B, hEw, hrX'.out, hzX, hBw⟩
      case round =>
        clear hDw hEw hrX' hzX hBw
        obtain ⟨j, V, hj, rfl, hV2, hDw, hV, hEw, hrX, hzX, hBw⟩ := hrel
        have j0 : (0 : Int) ≤ (j : Int) := Int.natCast_nonneg _
        have hrX' := Hid.intro hrX
        clear hrX
        by_cases hm : j < m.length
        · have j1 : (j : Int) < (m.length : Int) := by omega
          obtain ⟨g, o, f, n, rfl, hg, c0, c1, hp, hfit⟩ := arg_at hr2.out hf2.out hBw j hm
          have hgr : g < wr.heap.size := Nat.lt_of_lt_of_le hg hBw.size
          have hd : m.drop j = (f, n) :: m.drop (j + 1) := by rw [List.drop_eq_getElem_cons hm]; congr 1; simp [hm] at hp; exact hp
          have hV2' : Hid (markL B (orW B V (spW (f, n))) (m.drop (j + 1)) = markL B 0 m) := by rw [← hV2, hd]; rfl
          clear hV2 hd hp
          go_wp2_with fail
          refine (mark_any f n hEw hfit h2 hV).mono ?_; rintro e w7 ⟨rfl, hE7, hB7⟩
          have hD7 := hDw.but hB7 (by omega)
          have hr7 : w7.rangeAt X 0 (bv (bitsOf ps)) := range_but hrX'.out hB7 hzX (by omega)
          have hB7' := hBw.trans (hB7.low (by omega) hBw.size)
          have hU := orW_lt B V (spW (f, n)) hV
          have hz7 := hB7.size
          go_wp2
          go_roundw
          case rel => exact ⟨j + 1, _, by omega, by go_num, hV2'.out, hD7, hU, hE7, hr7, by omega, hB7'⟩
          case measure => simp [intOf]; omega
        · have j1 : ¬ (j : Int) < (m.length : Int) := by omega
          rw [List.drop_eq_nil_of_le (by omega)] at hV2
          have eB : V = markL B 0 m := hV2
          have eU := orW_back B W V hW hV
          have eS := orW_self B (orW B W V)
          have eS2 : orW B (orW B W V) (orW B W V) = orW B W V := eS
          have hU := orW_lt B W V hW
          have hbits : Hid (∀ k, k < B → (orW B W V).testBit k = decide (In ps (k : Int))) := fun k hk => by rw [eA'.out, eB, ← hps.out]; exact ors_bit B k l m hk
          clear hV2 eB eS
          have hW64 : W < 18446744073709551616 := Nat.lt_of_lt_of_le hW (two64 B h2)
          have hV64 : V < 18446744073709551616 := Nat.lt_of_lt_of_le hV (two64 B h2)
          have pw := pop_le W
          have pv := pop_le V
          go_wp2_with fail
          refine (dcount_any hDw hW64).mono ?_; rintro e w7 ⟨rfl, rfl⟩
          go_wp2_with fail
          refine (dcount_any hEw hV64).mono ?_; rintro e w8 ⟨rfl, rfl⟩
          go_wp2_with fail
          refine (or_any hDw hEw h2 hW hV64).mono ?_; rintro e w9 ⟨rfl, hD9, hB9⟩
          have hE9 := hEw.but hB9 (by omega)
          have hr9 := Hid.intro (range_but hrX'.out hB9 hzX (by omega))
          have hB9' := hBw.trans (hB9.low hz1 hBw.size)
          have hz9 := hB9.size
          have hU64 : orW B W V < 18446744073709551616 := Nat.lt_of_lt_of_le hU (two64 B h2)
          have pu := pop_le (orW B W V)
          have oE : Hid (∀ {z : World}, DObj z E B V → DObj z D B (orW B W V) → Calls Try.prog 13 #[.pointer (some ⟨E, 0, none⟩), .pointer (some ⟨D, 0, none⟩)] z fun e w' => e = .returned (.int .i64 ((pop (orW B W V) : Nat) - (pop V : Nat))) ∧ DObj w' E B (orW B W V) ∧ But E z w') := fun hx hy => by
            have := or_any hx hy h2 hV hU64
            rwa [eU] at this
          have oD : Hid (∀ {z : World}, DObj z D B (orW B W V) → DObj z E B (orW B W V) → Calls Try.prog 13 #[.pointer (some ⟨D, 0, none⟩), .pointer (some ⟨E, 0, none⟩)] z fun e w' => e = .returned (.int .i64 0) ∧ DObj w' D B (orW B W V) ∧ But D z w') := fun hx hy => by
            have := or_any hx hy h2 hU hU64
            rwa [eS2, Int.sub_self] at this
          clear eU eS2 hDw hEw hrX' hBw hB9
          generalize orW B W V = U at *
          go_wp2_with fail
          refine (oE.out hE9 hD9).mono ?_; rintro e wa ⟨rfl, hEa, hBa⟩
          have hDa := hD9.but hBa (by omega)
          have hra := Hid.intro (range_but hr9.out hBa (by omega) (by omega))
          have hBa' := hB9'.trans (hBa.low (by omega) hB9'.size)
          have hza := hBa.size
          clear hD9 hE9 hr9 hB9' hBa
          go_wp2_with fail
          refine (dbytes_any hDa h2).mono ?_; rintro e wb ⟨rfl, hbb⟩
          have hDb := hDa.stay hbb
          have hEb := hEa.stay hbb
          have hrb := Hid.intro (range_below hbb (by omega) hra.out)
          have hBb := below_step hBa' hbb
          have hzb := hbb.size
          clear hDa hEa hra hBa' hbb
          go_wp2_with fail
          refine (dbytes_any hEb h2).mono ?_; rintro e wc ⟨rfl, hbc⟩
          have hDc := hDb.stay hbc
          have hEc := hEb.stay hbc
          have hrc := Hid.intro (range_below hbc (by omega) hrb.out)
          have hBc := below_step hBb hbc
          have hzc := hbc.size
          clear hDb hEb hrb hBb hbc
          generalize strOfNums (bytL U ((B + 7) / 8)) = S
          go_wp2_with fail
          refine (dcount_any hDc hU64).mono ?_; rintro e wd ⟨rfl, rfl⟩
          go_wp2_with fail
          refine (dcount_any hEc hU64).mono ?_; rintro e we ⟨rfl, rfl⟩
          go_wp2_with fail
          refine (oD.out hDc hEc).mono ?_; rintro e wf ⟨rfl, hDf, hBf⟩
          have hrf := range_but hrc.out hBf (by omega) (by omega)
          have hBf' := hBc.trans (hBf.low hz1 hBc.size)
          have hzf := hBf.size
          clear hDc hEc hrc hBc hBf
          go_wp2_with fail
          go_loopw [16] (fun iv wr => ∃ (k : Nat), k ≤ B ∧ iv = .int .i64 k ∧ DObj wr D B U ∧ wr.rangeAt X 0 (bv (bitsOf ps)) ∧ Below w.heap.size w wr) (fun iv _ => B - (intOf iv).toNat)
          case atStart => exact ⟨0, Nat.zero_le _, rfl, hDf, hrf, hBf'⟩
          case round =>
            clear hDf hrf hBf'
            obtain ⟨k, hk, rfl, hDk, hrk, hBk⟩ := hrel
            have k0 : (0 : Int) ≤ (k : Int) := Int.natCast_nonneg _
            by_cases hkb : k < B
            · have k1 : (k : Int) < (B : Int) := by omega
              have k2 : (k : Int) < 64 := by omega
              have hc := bit_cell hrk k (by omega)
              have hzk : X < wr.heap.size := World.block_lt_of_cell? _ _ hc
              rw [← hbits.out k hkb] at hc
              have hrk' := Hid.intro hrk
              clear hrk
              have hbit := Hid.intro (rfl : U.testBit k = U.testBit k)
              have hkt : Hid (∀ {z : World}, DObj z D B U → Calls Try.prog 21 #[.pointer (some ⟨D, 0, none⟩), .int .i64 (k : Int)] z fun e w' => e = .returned (.bool (U.testBit k)) ∧ w' = z) := fun hz => has_bit hz hU64 h2 hkb rfl
              clear hbit
              generalize U.testBit k = t at *
              go_wp2_with fail
              go_region_with (go_at_call 21; refine (hkt.out (?_ : DObj _ D B U)).mono ?_; exact hDk.stay below_drw; rintro e w7 ⟨rfl, rfl⟩)
              all_goals
                go_wp2
                go_roundw
                case rel => exact ⟨k + 1, by omega, by go_num, hDk.stay below_drw, range_below below_drw (by omega) hrk'.out, below_step hBk below_drw⟩
                case measure => simp [intOf]; omega
            · have k1 : ¬ (k : Int) < (B : Int) := by omega
              go_wp2
              go_ret
              exact ⟨rfl, hBk⟩
end Go.Proofs.Ytohjdpdmabjdaaa
