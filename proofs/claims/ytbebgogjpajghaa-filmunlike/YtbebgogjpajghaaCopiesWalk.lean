/-
  FilmCopies, walked.
-/
import Derived.Test.YtbebgogjpajghaaBlocksWalk
import Derived.Test.YtbebgogjpajghaaCopyMath
namespace Go.Proofs.Ytbebgogjpajghaa
open Go.ChangeShapes Go.WideShapes Go.ChangeAt Go.RowKit
attribute [local go_sem ↓] Go.wp_at_zero Go.wp_at_succ
attribute [local go_sem] str_size str_extract str_append str_toList

set_option maxRecDepth 100000 in
theorem copies_out (B : Int) (a : Option Addr) (n c : Nat) (x y : Int) (w : World) (h : B < 1 ∨ 64 < B) :
    Calls Try.prog 6 #[.int .i64 B, .slice a n c, .int .i64 x, .int .u8 y] w fun e w' => e = .returned (.bool true) ∧ Below w.heap.size w w' := by
  by_cases h1 : B < 1
  · clear h
    go_enter Try.func6, Try.ntmps6
    go_wp2_with fail
    refine (alive_any _).mono ?_; rintro e w1 ⟨rfl, hb⟩
    go_wp2
    go_ret
    exact ⟨rfl, hb⟩
  have h2 : 64 < B := by omega
  clear h
  go_enter Try.func6, Try.ntmps6
  go_wp2_with fail
  refine (alive_any _).mono ?_; rintro e w1 ⟨rfl, hb⟩
  go_wp2
  go_ret
  exact ⟨rfl, hb⟩
theorem one_byte (w : World) (y : UInt8) : (convert 60 9 (.slice (some ⟨w.heap.size, 0, none⟩) 1 1)).run Try.prog (w.alloc (.cells #[.int .u8 (y.toNat : Int)] 5)) = .ok (.string (str [y])) (w.alloc (.cells #[.int .u8 (y.toNat : Int)] 5)) := by
  refine film_str (fun j x hj => ?_) rfl
  cases j with
  | zero =>
    simp at hj; subst hj
    have h := heap_alloc_new w (.cells #[.int .u8 (y.toNat : Int)] 5)
    unfold World.cell?
    rw [h]
    rfl
  | succ j => simp at hj

set_option maxRecDepth 100000 in
theorem copies_walk (B : Nat) (a : Option Addr) (c : Nat) (os : List FPut) (at_ : Int) (y : UInt8) (w : World) (h1 : 1 ≤ B) (h2 : B ≤ 64) (hh : Hid (PutsAt w (.slice a os.length c) os)) :
    Calls Try.prog 6 #[.int .i64 (B : Int), .slice a os.length c, .int .i64 at_, .int .u8 (y.toNat : Int)] w fun e w' => e = .returned (.bool true) ∧ Below w.heap.size w w' := by
  have q1 : ¬ (B : Int) < 1 := by omega
  have q2 : ¬ (64 : Int) < (B : Int) := by omega
  go_enter Try.func6, Try.ntmps6
  go_wp2_with fail
  refine (light_any hh.out).mono ?_; rintro e w1 ⟨bb, rfl, hlt, rfl⟩
  cases bb with
  | false =>
    go_wp2_with fail
    refine (alive_any _).mono ?_; rintro e w1 ⟨rfl, hb⟩
    go_wp2
    go_ret
    exact ⟨rfl, hb⟩
  | true =>
    have hl50 := hlt rfl
    clear hlt
    go_wp2_with fail
    refine (alive_any _).mono ?_; rintro e w2 ⟨rfl, hb⟩
    go_wp2_with fail
    refine (new_any B _ h1 h2).mono ?_; rintro e w3 ⟨rfl, hX, hb2⟩
    have hX' := Hid.intro hX
    have hlX := Hid.intro hX.lt
    have hz1 := hb.size
    have hB2 := Hid.intro (show Below w1.heap.size w1 w3 from hb.trans (hb2.mono hb.size))
    clear hb hb2 hX
    generalize hx1 : w2.heap.size = gx at *
    clear hx1
    generalize hx2 : gx + 1 = bx at *
    clear hx2
    go_wp2_with fail
    go_loopw [11] (fun iv wr => ∃ (i : Nat) (X : List UInt8), i ≤ os.length ∧ iv = .int .i64 i ∧ FObj wr bx gx X ∧ X.length = B * 8 ∧ Below w1.heap.size w1 wr) (fun iv _ => os.length - (intOf iv).toNat)
    case atStart => exact ⟨0, _, Nat.zero_le _, rfl, hX'.out, by simp, hB2.out⟩
    case round =>
      clear hX' hlX hB2
      obtain ⟨i, X, hi, rfl, hF, hXl, hBw⟩ := hrel
      have i0 : (0 : Int) ≤ (i : Int) := Int.natCast_nonneg _
      have hF' := Hid.intro hF
      have hXl' := Hid.intro hXl
      have hBw' := Hid.intro hBw
      clear hF hXl hBw
      by_cases hl : i < os.length
      · obtain ⟨g, o, x, T, rfl, hg, _, c0, c1, hx⟩ := hh.out.at hBw'.out i hl
        have hgr : g < wr.heap.size := Nat.lt_of_lt_of_le hg hBw'.out.size
        have i1 : (i : Int) < (os.length : Int) := by omega
        go_wp2_with fail
        go_region_with (go_at_call 10; refine (write_er x T (hF'.out.below below_drw) hXl'.out h1 h2 hx).mono ?_; rintro e w4 ⟨er, rfl, hF4, hb4⟩)
        all_goals
          go_wp2
          go_roundw
          case rel => exact ⟨i + 1, _, by omega, by go_num, hF4, (wrS_length _ _ _).trans hXl'.out, hBw'.out.trans ((below_drw.mono hBw'.out.size).trans (hb4.low hz1 hBw'.out.size))⟩
          case measure => simp [intOf]; omega
      · have i1 : ¬ (i : Int) < (os.length : Int) := by omega
        go_wp2_with fail
        refine (fcopy_any hF'.out hXl'.out h1).mono ?_; rintro e w4 ⟨rfl, hG, hb4⟩
        have hG4 := Hid.intro hG
        have hF4 := Hid.intro (hF'.out.below hb4)
        have hne := Hid.intro (show gx ≠ wr.heap.size ∧ gx ≠ wr.heap.size + 1 ∧ bx ≠ wr.heap.size ∧ bx ≠ wr.heap.size + 1 ∧ w1.heap.size ≤ wr.heap.size from by have := hF'.out.lt; have := hBw'.out.size; omega)
        have hB4 := Hid.intro (hBw'.out.trans (hb4.mono hBw'.out.size))
        clear hG hb4 hF' hBw'
        generalize wr.heap.size = gg at *
        generalize gg + 1 = bg at *
        go_wp2_with fail
        refine (fbytes_any hG4.out).mono ?_; rintro e w5 ⟨rfl, rfl⟩
        go_wp2_with fail
        refine (fbytes_any hF4.out).mono ?_; rintro e w6 ⟨rfl, rfl⟩
        go_wp2_with fail
        refine (unlike_any (.inr ⟨_, _, B, rfl, hF4.out, hXl'.out, h1, h2⟩) (.inr ⟨_, _, B, rfl, hG4.out, hXl'.out, h1, h2⟩)).mono ?_; rintro e w7 ⟨v, ps, rfl, hc, hin, ⟨base, hbs, hown⟩, hb7⟩
        obtain rfl : ps = [] := unlike_self hc hin
        obtain ⟨av, cv, rfl⟩ := own_slice hown
        have hF7 := Hid.intro (hF4.out.below hb7)
        have hG7 := Hid.intro (hG4.out.below hb7)
        have hB7 := Hid.intro (hB4.out.trans (hb7.mono hB4.out.size))
        clear hc hin hown hb7 hbs hB4 hF4 hG4
        obtain ⟨K, hK, hKB⟩ := remB at_ B h1 h2
        have q8 : ¬ (B : Int) * 8 = 0 := by omega
        obtain ⟨x, hx⟩ : ∃ x, X[K]? = some x := ⟨X[K]'(by have := hXl'.out; omega), by simp⟩
        have hx' := Hid.intro hx
        have hrd : Hid (∀ {z : World}, FObj z bx gx X → Calls Try.prog 20 #[.pointer (some ⟨bx, 0, none⟩), .int .i64 (K : Int), .int .i64 1] z fun e w' => e = .returned (.tuple #[.string (str [x]), .int .i64 0]) ∧ w' = z) := Hid.intro (fun hz => by
          have := read_ok K 1 hz hXl'.out h1 h2 (by have := hXl'.out; omega)
          rw [take1 hx'.out] at this
          exact this)
        clear hx
        go_wp2_with fail
        refine (hrd.out hF7.out).mono ?_; rintro e w8 ⟨rfl, rfl⟩
        have hcv := one_byte w8 y
        have hA := (Below.refl w8.heap.size w8).alloc (Nat.le_refl _) (.cells #[.int .u8 (y.toNat : Int)] 5)
        have hFa := Hid.intro (hF7.out.below hA)
        have hGa := Hid.intro (hG7.out.below hA)
        have hBa := Hid.intro (hB7.out.trans (hA.mono hB7.out.size))
        clear hA hF7 hG7 hB7
        go_wp2_with fail
        refine (write_any (K : Int) [y] hGa.out hXl'.out h1 h2 (by omega)).mono ?_; rintro e w9 ⟨rfl, hG9, hb9⟩
        rw [if_pos (by have := hXl'.out; simp; omega)]
        have hF9 := Hid.intro (hFa.out.but hb9 (by have := hne.out; omega) (by have := hne.out; omega))
        have hB9 := Hid.intro (hBa.out.trans (hb9.low hne.out.2.2.2.2 hBa.out.size))
        have hG9' := Hid.intro hG9
        clear hG9 hb9 hcv hFa hGa hBa
        go_wp2_with fail
        refine (hrd.out hF9.out).mono ?_; rintro e w10 ⟨rfl, rfl⟩
        go_wp2_with fail
        refine (unlike_any (.inr ⟨_, _, B, rfl, hF9.out, hXl'.out, h1, h2⟩) (.inr ⟨_, _, B, rfl, hG9'.out, (wrS_length _ _ _).trans hXl'.out, h1, h2⟩)).mono ?_; rintro e w11 ⟨v, ps, rfl, hc, hin, ⟨base, hbs, hown⟩, hb11⟩
        have hB11 := Hid.intro (hB9.out.trans (hb11.mono hB9.out.size))
        have hat : (Instr.index 9 (.string (str [x])) (.int .i64 0)).run Try.prog w11 = .ok (.int .u8 (x.toNat : Int)) w11 := str_at [x] 0 x rfl w11
        by_cases e : x = y
        · subst e
          rw [wr1_same hx'.out] at hin
          obtain rfl : ps = [] := unlike_self hc hin
          obtain ⟨av2, cv2, rfl⟩ := own_slice hown
          clear hc hin hown hb11 hbs hB9 hF9 hG9'
          go_wp2
          go_ret
          exact ⟨rfl, hB11.out⟩
        · obtain rfl : ps = [(((K / 8 : Nat) : Int), 1)] := unlike_one (by omega) hx'.out e hc hin
          have hm : ¬ (x.toNat : Int) = (y.toNat : Int) := fun h => e (UInt8.toNat_inj.1 (by omega))
          rcases own_room hown with ⟨rfl, h0⟩ | ⟨gu, cu, rfl, _⟩
          · simp at h0
          · obtain ⟨c0, c1⟩ := row_cells hown 0 _ rfl
            have hgu : gu < w11.heap.size := World.block_lt_of_cell? w11 ⟨gu, 0 * 2, none⟩ c0
            simp only [Nat.zero_mul, Nat.zero_add] at c0 c1
            clear hc hin hown hb11 hbs hB9 hF9 hG9' e
            generalize x.toNat = xn at *
            generalize y.toNat = yn at *
            go_wp2
            go_ret
            exact ⟨rfl, hB11.out⟩
theorem copies_any (B : Int) (v : Value) (os : List FPut) (at_ y : Int) (w : World) (h : PutsAt w v os) (hy : 0 ≤ y ∧ y ≤ 255) :
    Calls Try.prog 6 #[.int .i64 B, v, .int .i64 at_, .int .u8 y] w fun e w' => e = .returned (.bool true) ∧ Below w.heap.size w w' := by
  obtain ⟨a, c, rfl⟩ := h.slice
  by_cases hB : B < 1 ∨ 64 < B
  · exact copies_out B a os.length c at_ y w hB
  · obtain ⟨b, rfl⟩ : ∃ b : Nat, B = b := ⟨B.toNat, by omega⟩
    have e : y = ((UInt8.ofNat y.toNat).toNat : Int) := by simp; omega
    rw [e]
    exact copies_walk b a c os at_ _ w (by omega) (by omega) h
end Go.Proofs.Ytbebgogjpajghaa
