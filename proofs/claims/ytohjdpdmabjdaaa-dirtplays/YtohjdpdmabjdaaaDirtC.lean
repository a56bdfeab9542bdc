/-
  The contract of dirt's Runs: the marks as spans, as few as may be.
-/
import Derived.Test.YtohjdpdmabjdaaaDirtB
import Derived.Test.YtohjdpdmabjdaaaCuts
import Derived.Test.YtohjdpdmabjdaaaBits
namespace Go.Proofs.Ytohjdpdmabjdaaa
open Go.ChangeShapes Go.WideShapes Go.ChangeAt Go.RowKit
attribute [local go_sem ↓] Go.wp_at_zero Go.wp_at_succ

theorem But.low {x n : Nat} {w w' : World} (h : But x w w') (hn : n ≤ x) (hm : n ≤ w.heap.size) : Below n w w' := ⟨h.os, h.tape, h.output, h.size, fun k hk => h.block k (by omega) (by omega)⟩

/-- The spans of the first n bits of a word. -/
def upS (W : Nat) : Nat → List Sp
  | 0 => []
  | n + 1 => if W.testBit n then putR (upS W n) [((n : Int), 1)] else upS W n
theorem upS_spec (W : Nat) : ∀ n, n ≤ 64 → Canon (upS W n) ∧ ∀ k, In (upS W n) k ↔ 0 ≤ k ∧ k < (n : Int) ∧ W.testBit k.toNat = true
  | 0, _ => ⟨trivial, fun k => ⟨fun ⟨p, hp, _⟩ => by simp [upS] at hp, fun ⟨a, b, _⟩ => by omega⟩⟩
  | n + 1, h => by
    obtain ⟨hc, hi⟩ := upS_spec W n (by omega)
    unfold upS
    split
    · rename_i hb
      obtain ⟨hc', hi'⟩ := put_spec [((n : Int), 1)] _ hc
      refine ⟨hc', fun k => ?_⟩
      rw [hi', hi]
      have : In [((n : Int), 1)] k ↔ k = (n : Int) := by
        constructor
        · rintro ⟨p, hp, hk⟩
          simp at hp; subst hp
          obtain ⟨_, a, b⟩ := hk
          simp only at a b; omega
        · rintro rfl
          exact ⟨_, List.mem_singleton.2 rfl, ⟨by simp only; omega, by simp only; omega, by simp only; omega⟩, by simp only; omega, by simp only; omega⟩
      rw [this]
      constructor
      · rintro (⟨a, b, c⟩ | rfl)
        · exact ⟨a, by omega, c⟩
        · exact ⟨by omega, by omega, by simpa using hb⟩
      · rintro ⟨a, b, c⟩
        by_cases e : k = (n : Int)
        · exact .inr e
        · exact .inl ⟨a, by omega, c⟩
    · rename_i hb
      refine ⟨hc, fun k => ?_⟩
      rw [hi]
      constructor
      · rintro ⟨a, b, c⟩; exact ⟨a, by omega, c⟩
      · rintro ⟨a, b, c⟩
        refine ⟨a, ?_, c⟩
        by_cases e : k = (n : Int)
        · subst e; simp at c; exact absurd c hb
        · omega

theorem has_bit {w : World} {b B W : Nat} {i : Nat} {v : Bool} (h : DObj w b B W) (hW : W < 18446744073709551616) (hB : B ≤ 64) (hi : i < B) (hv : W.testBit i = v) :
    Calls Try.prog 21 #[.pointer (some ⟨b, 0, none⟩), .int .i64 (i : Int)] w fun e w' => e = .returned (.bool v) ∧ w' = w := by
  have := dhas_any (i : Int) h hW hB
  rwa [decide_eq_true ⟨by omega, by omega⟩, Bool.true_and, Int.toNat_natCast, hv] at this

theorem row_one (w : World) (x y : Int) : Row (w.alloc (.cells #[.int .i64 x, .int .i64 y] 39)) (.slice (some ⟨w.heap.size, 0, none⟩) 1 1) [(x, y)] := by
  refine .inr ⟨w.heap.size, 0, 1, rfl, by simp, fun i p hp => ?_⟩
  cases i with
  | zero => simp at hp; subst hp; simp [go_sem]
  | succ i => simp at hp

theorem runs_none (w : World) :
    Calls Try.prog 15 #[.pointer none] w fun e w' => e = .returned (.pointer (some ⟨w.heap.size, 0, none⟩)) ∧ RObj w' w.heap.size [] ∧ Below w.heap.size w w' := by
  go_enter Try.func15, Try.ntmps15
  go_wp2_with fail
  refine (of_any (l := []) (.inl ⟨⟨none, 0, rfl⟩, rfl⟩) (by intro p hp; simp at hp) (by simp)).mono ?_; rintro e w1 ⟨rfl, hr, hb⟩
  go_wp2_with fail
  refine (blocks_none _).mono ?_; rintro e w2 ⟨rfl, rfl⟩
  go_wp2_with fail
  go_loop [8] (fun iv => iv = .int .i64 0) (fun _ => 0)
  case atStart => rfl
  case round =>
    obtain rfl := hrel
    go_wp2
    go_ret
    exact ⟨rfl, hr, hb⟩

theorem runs_any {w : World} {b B W : Nat} (h : DObj w b B W) (hB : B ≤ 64) (hW : W < 18446744073709551616) :
    Calls Try.prog 15 #[.pointer (some ⟨b, 0, none⟩)] w fun e w' => e = .returned (.pointer (some ⟨w.heap.size, 0, none⟩)) ∧ RObj w' w.heap.size (upS W B) ∧ Below w.heap.size w w' := by
  have hh : Hid (DObj w b B W) := h
  have hlt := h.lt
  clear h
  go_enter Try.func15, Try.ntmps15
  go_wp2_with fail
  refine (of_any (l := []) (.inl ⟨⟨none, 0, rfl⟩, rfl⟩) (by intro p hp; simp at hp) (by simp)).mono ?_; rintro e w1 ⟨rfl, hr, hb⟩
  go_wp2_with fail
  refine (blocks_any (hh.out.stay hb)).mono ?_; rintro e w2 ⟨rfl, rfl⟩
  go_wp2_with fail
  go_loopw [8] (fun iv wr => ∃ i : Nat, i ≤ B ∧ iv = .int .i64 i ∧ RObj wr w.heap.size (upS W i) ∧ Below w.heap.size w wr) (fun iv _ => B - (intOf iv).toNat)
  case atStart => exact ⟨0, Nat.zero_le _, rfl, hr, hb⟩
  case round =>
    obtain ⟨i, hi, rfl, hri, hbi⟩ := hrel
    have i0 : (0 : Int) ≤ (i : Int) := Int.natCast_nonneg _
    by_cases hl : i < B
    · have i1 : (i : Int) < (B : Int) := by omega
      have hri' : Hid (RObj wr w.heap.size (upS W i)) := hri
      have hbi' : Hid (Below w.heap.size w wr) := hbi
      have hR := hri.lt
      clear hri hbi hr hb
      by_cases hbit : W.testBit i = true
      · have hS : Hid (upS W (i + 1) = putR (upS W i) [((i : Int), 1)]) := by unfold Hid; rw [upS, if_pos hbit]
        have hbit' := Hid.intro hbit
        clear hbit
        go_wp2_with fail
        refine (has_bit (hh.out.below hbi'.out hlt) hW hB hl hbit'.out).mono ?_; rintro e w3 ⟨rfl, rfl⟩
        go_wp2_with fail
        have hb4 : Below w3.heap.size w3 (w3.alloc (.cells #[.int .i64 (i : Int), .int .i64 1] 39)) := (Below.refl _ _).alloc (Nat.le_refl _) _
        refine (put_any (l := [((i : Int), 1)]) (hri'.out.below hb4) (upS_spec W i (by omega)).1 (row_one w3 (i : Int) 1) (by intro p hp; simp at hp; subst hp; simp only; omega) (by simp)).mono ?_
        rintro e w5 ⟨rfl, hr5, hB5⟩
        have hb5 : Below w.heap.size w w5 := hbi'.out.trans ((hb4.mono (by omega)).trans (hB5.low (Nat.le_refl _) (by simp; omega)))
        go_wp2
        go_roundw
        case rel => exact ⟨i + 1, by omega, by go_num, by rw [hS.out]; exact hr5, hb5⟩
        case measure => simp [intOf]; omega
      · have hbit0 : W.testBit i = false := by simpa using hbit
        have hS : Hid (upS W (i + 1) = upS W i) := by unfold Hid; rw [upS, if_neg hbit]
        have hbit' := Hid.intro hbit0
        clear hbit hbit0
        go_wp2_with fail
        refine (has_bit (hh.out.below hbi'.out hlt) hW hB hl hbit'.out).mono ?_; rintro e w3 ⟨rfl, rfl⟩
        go_wp2
        go_roundw
        case rel => exact ⟨i + 1, by omega, by go_num, by rw [hS.out]; exact hri'.out, hbi'.out⟩
        case measure => simp [intOf]; omega
    · obtain rfl : i = B := by omega
      go_wp2
      go_ret
      exact ⟨rfl, hri, hbi⟩
end Go.Proofs.Ytohjdpdmabjdaaa
