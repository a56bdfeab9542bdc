/-
  DirtMarks, walked.
-/
import Derived.Test.YtohjdpdmabjdaaaDirtE
namespace Go.Proofs.Ytohjdpdmabjdaaa
open Go.ChangeShapes Go.WideShapes Go.ChangeAt Go.RowKit
attribute [local go_sem ↓] Go.wp_at_zero Go.wp_at_succ

theorem orW_idem (B W X : Nat) : orW B (orW B W X) X = orW B W X := by
  apply Nat.eq_of_testBit_eq
  intro k
  simp only [orW_bit]
  cases W.testBit k <;> cases decide (k < B) <;> cases X.testBit k <;> rfl
theorem pop_two : ∀ k : Fin 64, pop (2 ^ k.val) = 1 := by decide +kernel
theorem orW_one (B K : Nat) (hK : K < B) (hB : B ≤ 64) : orW B 0 (spW ((K : Int), 1)) = 2 ^ K := by
  apply Nat.eq_of_testBit_eq
  intro k
  rw [orW_bit, spW_bit, Nat.zero_testBit, Bool.false_or, Nat.testBit_two_pow, ← Bool.decide_and]
  congr 1
  apply propext
  constructor
  · rintro ⟨_, _, a, b⟩; simp only at a b; omega
  · rintro rfl; exact ⟨hK, ⟨by simp only; omega, by simp only; omega, by simp only; omega⟩, by simp only; omega, by simp only; omega⟩
theorem row_at {w : World} {a : Option Addr} {n c : Nat} {l : List Sp} (h : Row w (.slice a n c) l) (i : Nat) (p : Sp) (hp : l[i]? = some p) :
    ∃ g o, a = some ⟨g, o, none⟩ ∧ g < w.heap.size ∧ w.cell? ⟨g, o + i * 2, none⟩ = some (.int .i64 p.1) ∧ w.cell? ⟨g, o + i * 2 + 1, none⟩ = some (.int .i64 p.2) := by
  rcases h with ⟨_, rfl⟩ | ⟨g, o, cap, hv, hg, hc⟩
  · simp at hp
  · cases hv
    exact ⟨g, o, rfl, hg, (hc i p hp).1, (hc i p hp).2⟩

/-- What each turn of a loop reads of a list that was handed in. -/
theorem arg_at {w wr : World} {a : Option Addr} {n c : Nat} {l : List Sp} (h : Row w (.slice a n c) l) (hf : Fits l) (hb : Below w.heap.size w wr) (i : Nat) (hi : i < l.length) :
    ∃ g o f m, a = some ⟨g, o, none⟩ ∧ g < w.heap.size ∧ wr.cell? ⟨g, o + i * 2, none⟩ = some (.int .i64 f) ∧ wr.cell? ⟨g, o + i * 2 + 1, none⟩ = some (.int .i64 m) ∧ l[i]? = some (f, m) ∧ f ≤ 9223372036854775807 := by
  obtain ⟨⟨f, m⟩, hp⟩ : ∃ p, l[i]? = some p := ⟨l[i]'hi, by simp [hi]⟩
  obtain ⟨g, o, e, hg, c0, c1⟩ := row_at h i _ hp
  exact ⟨g, o, f, m, e, hg, by rw [hb.cell (p := ⟨g, o + i * 2, none⟩) hg]; exact c0, by rw [hb.cell (p := ⟨g, o + i * 2 + 1, none⟩) hg]; exact c1, hp, hf _ (List.mem_of_getElem? hp)⟩

theorem marks_out (B k : Int) (a : Option Addr) (n c : Nat) (w : World) (h : B < 1 ∨ 64 < B ∨ 30 < (n : Int)) :
    Calls Try.prog 7 #[.int .i64 B, .int .i64 k, .slice a n c] w fun e w' => e = .returned (.bool true) ∧ Below w.heap.size w w' := by
  by_cases h1 : B < 1
  · clear h
    go_enter Try.func7, Try.ntmps7
    go_wp2_with fail
    refine (alive_any _).mono ?_; rintro e w1 ⟨rfl, hb⟩
    go_wp2
    go_ret
    exact ⟨rfl, hb⟩
  · by_cases h2 : 64 < B
    · clear h
      go_enter Try.func7, Try.ntmps7
      go_wp2_with fail
      refine (alive_any _).mono ?_; rintro e w1 ⟨rfl, hb⟩
      go_wp2
      go_ret
      exact ⟨rfl, hb⟩
    · have h3 : 30 < (n : Int) := by omega
      clear h
      go_enter Try.func7, Try.ntmps7
      go_wp2_with fail
      refine (alive_any _).mono ?_; rintro e w1 ⟨rfl, hb⟩
      go_wp2
      go_ret
      exact ⟨rfl, hb⟩

theorem rem_in (k : Int) (B : Nat) (h1 : 1 ≤ B) (h2 : B ≤ 64) : ∃ K : Nat, (wrap64 (k.tmod (B : Int) + (B : Int))).tmod (B : Int) = (K : Int) ∧ K < B := by
  have a := Int.tmod_lt_of_pos k (b := (B : Int)) (by omega)
  have b := Int.lt_tmod_of_pos k (b := (B : Int)) (by omega)
  have e : wrap64 (k.tmod (B : Int) + (B : Int)) = k.tmod (B : Int) + (B : Int) := by unfold wrap64; omega
  rw [e]
  have c := Int.tmod_nonneg (B : Int) (a := k.tmod (B : Int) + (B : Int)) (by omega)
  have d := Int.tmod_lt_of_pos (k.tmod (B : Int) + (B : Int)) (b := (B : Int)) (by omega)
  exact ⟨((k.tmod (B : Int) + (B : Int)).tmod (B : Int)).toNat, by omega, by omega⟩

set_option maxRecDepth 100000 in
theorem marks_walk (B : Nat) (k : Int) (l : List Sp) (a : Option Addr) (c : Nat) (w : World) (h1 : 1 ≤ B) (h2 : B ≤ 64) (h3 : l.length ≤ 30) (hr : Hid (Row w (.slice a l.length c) l)) (hf : Hid (Fits l)) :
    Calls Try.prog 7 #[.int .i64 (B : Int), .int .i64 k, .slice a l.length c] w fun e w' => e = .returned (.bool true) ∧ Below w.heap.size w w' := by
  have hcl : clamp (B : Int) = B := by unfold clamp; (repeat' split) <;> omega
  have q1 : ¬ (B : Int) < 1 := by omega
  have q2 : ¬ (64 : Int) < (B : Int) := by omega
  have q3 : ¬ (30 : Int) < (l.length : Int) := by omega
  have q4 : ¬ (B : Int) = 0 := by omega
  go_enter Try.func7, Try.ntmps7
  go_wp2_with fail
  refine (alive_any _).mono ?_; rintro e w1 ⟨rfl, hb⟩
  go_wp2_with fail
  refine (new_any (B : Int) w1).mono ?_; rintro e w2 ⟨rfl, hD, hb2⟩
  rw [hcl] at hD
  obtain ⟨K, hK, hKB⟩ := rem_in k B h1 h2
  have hB2 : Below w.heap.size w w2 := hb.trans (hb2.mono hb.size)
  have hz1 : w.heap.size ≤ w1.heap.size := hb.size
  have hlt := hD.lt
  clear hb hb2
  generalize w1.heap.size = D at *
  go_wp2_with fail
  refine (mark_any (K : Int) 1 hD (by omega) h2 (Nat.two_pow_pos B)).mono ?_; rintro e w3 ⟨rfl, hD3, hB3⟩
  rw [orW_one B K hKB h2, pop_two ⟨K, by omega⟩, p0]
  rw [orW_one B K hKB h2] at hD3
  have hB3' : Below w.heap.size w w3 := hB2.trans (hB3.low hz1 hB2.size)
  clear hD hB3 hB2 hK
  go_wp2_with fail
  go_loopw [8, 9] (fun nv iv wr => ∃ (i W : Nat), i ≤ l.length ∧ iv = .int .i64 i ∧ nv = .int .i64 (pop W : Nat) ∧ DObj wr D B W ∧ W < 2 ^ B ∧ W.testBit K = true ∧ Below w.heap.size w wr) (fun _ iv _ => l.length - (intOf iv).toNat)
  case atStart => exact ⟨0, 2 ^ K, Nat.zero_le _, rfl, by rw [pop_two ⟨K, by omega⟩]; rfl, hD3, Nat.pow_lt_pow_right (by decide) hKB, by rw [Nat.testBit_two_pow, decide_eq_true rfl], hB3'⟩
  case round =>
    obtain ⟨i, W, hi, rfl, rfl, hDw, hW, hbit, hBw⟩ := hrel
    have i0 : (0 : Int) ≤ (i : Int) := Int.natCast_nonneg _
    have hW64 : W < 18446744073709551616 := Nat.lt_of_lt_of_le hW (two64 B h2)
    clear hD3 hB3'
    by_cases hl : i < l.length
    · have i1 : (i : Int) < (l.length : Int) := by omega
      obtain ⟨g, o, f, m, rfl, hg, c0, c1, hp, hfit⟩ := arg_at hr.out hf.out hBw i hl
      have hgr : g < wr.heap.size := Nat.lt_of_lt_of_le hg hBw.size
      have pw := pop_le W
      go_wp2_with fail
      refine (mark_any f m hDw hfit h2 hW).mono ?_; rintro e w4 ⟨rfl, hD4, hB4⟩
      have hB4' : Below w.heap.size w w4 := hBw.trans (hB4.low hz1 hBw.size)
      have hV := orW_lt B W (spW (f, m)) hW
      have hbV : (orW B W (spW (f, m))).testBit K = true := by rw [orW_bit, hbit, Bool.true_or]
      have hid := orW_idem B W (spW (f, m))
      have pv := pop_le (orW B W (spW (f, m)))
      obtain ⟨g', o', f', m', ea, hg', d0, d1, hp', hfit'⟩ := arg_at hr.out hf.out hB4' i hl
      cases ea
      rw [hp] at hp'; cases hp'
      clear hDw hbit hBw hB4 c0 c1 hgr
      have hgr : g < w4.heap.size := Nat.lt_of_lt_of_le hg hB4'.size
      have hmk : Hid (∀ {z : World}, DObj z D B (orW B W (spW (f, m))) → Calls Try.prog 12 #[.pointer (some ⟨D, 0, none⟩), .agg #[.int .i64 f, .int .i64 m]] z fun e w' => e = .returned (.int .i64 0) ∧ DObj w' D B (orW B W (spW (f, m))) ∧ But D z w') := fun hz => by
        have := mark_any f m hz hfit h2 hV
        rwa [hid, Int.sub_self] at this
      clear hid
      generalize orW B W (spW (f, m)) = V at *
      have hV64 : V < 18446744073709551616 := Nat.lt_of_lt_of_le hV (two64 B h2)
      have en : ((pop W : Nat) : Int) + (((pop V : Nat) : Int) - ((pop W : Nat) : Int)) = ((pop V : Nat) : Int) := by omega
      go_wp2_with fail
      refine (has_bit hD4 hV64 h2 hKB hbV).mono ?_; rintro e w5 ⟨rfl, rfl⟩
      go_wp2_with fail
      refine (dcount_any hD4 hV64).mono ?_; rintro e w6 ⟨rfl, rfl⟩
      go_wp2_with fail
      refine (hmk.out hD4).mono ?_; rintro e w7 ⟨rfl, hD7, hB7⟩
      go_wp2
      go_roundw
      case rel => exact ⟨i + 1, V, by omega, by go_num, rfl, hD7, hV, hbV, hB4'.trans (hB7.low hz1 hB4'.size)⟩
      case measure => simp [intOf]; omega
    · have i1 : ¬ (i : Int) < (l.length : Int) := by omega
      go_wp2_with fail
      refine (wipe_any hDw).mono ?_; rintro e w4 ⟨rfl, hD4, hB4⟩
      have hB4' : Below w.heap.size w w4 := hBw.trans (hB4.low hz1 hBw.size)
      go_wp2_with fail
      refine (dcount_any hD4 (by decide)).mono ?_; rintro e w5 ⟨rfl, rfl⟩
      rw [p0]
      go_wp2_with fail
      refine (has_bit hD4 (by decide) h2 hKB (Nat.zero_testBit K)).mono ?_; rintro e w6 ⟨rfl, rfl⟩
      go_wp2_with fail
      refine (blocks_any hD4).mono ?_; rintro e w7 ⟨rfl, rfl⟩
      go_wp2
      go_ret
      exact ⟨by simp, hB4'⟩
end Go.Proofs.Ytohjdpdmabjdaaa
