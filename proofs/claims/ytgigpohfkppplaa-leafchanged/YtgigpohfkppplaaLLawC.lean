/-
  The walk of LeafChanged.
-/
import Derived.Test.YtgigpohfkppplaaLLawB
namespace Go.Proofs.Ytgigpohfkppplaa
open Go.ChangeShapes Go.WideShapes Go.ChangeAt Go.RowKit
attribute [local go_sem] str_size str_extract str_append str_toList

theorem set_parts {P : List UInt8} {k : Nat} (c : UInt8) (h : k < P.length) : P.take k ++ (c :: P.drop (k + 1)) = P.set k c := by
  rw [List.set_eq_take_append_cons_drop, if_pos h]
theorem byte_str {w : World} {g : Nat} {c : UInt8} (h : w.cell? ⟨g, 0, none⟩ = some (bV c)) (cap : Nat) :
    (convert 54 9 (.slice (some ⟨g, 0, none⟩) 1 cap)).run Try.prog w = .ok (.string (str [c])) w := by
  rw [← nums_str]
  refine run_convert_bytes_arg (P := Try.prog) w 54 5 Try.underlying54 Try.underlying5 g 0 1 cap _ rfl (fun j hj => ?_) 9 Try.underlying9
  obtain rfl : j = 0 := by omega
  rw [Nat.add_zero, h]; rfl
theorem one_byte (w : World) (c : UInt8) (t : TypeId) : (w.alloc (.cells #[bV c] t)).cell? ⟨w.heap.size, 0, none⟩ = some (bV c) := by
  simp [go_sem]
theorem below_al1 (w : World) (c : UInt8) : Below w.heap.size w (w.alloc (.cells #[.int .u8 (c.toNat : Int)] 5)).drew := ((Below.refl _ _).alloc (Nat.le_refl _) _).drew
/-- The place that is meant. -/
theorem rem_place (k : Int) : ∃ r : Int, Int.tmod k 32 = r ∧ -32 < r ∧ r < 32 ∧ ∃ n : Nat, Int.tmod (r + 32) 32 = (n : Int) ∧ n < 32 := by
  refine ⟨_, rfl, ?_, ?_, (Int.tmod (Int.tmod k 32 + 32) 32).toNat, ?_, ?_⟩
  all_goals
    have h1 := Int.tmod_lt_of_pos k (show (0 : Int) < 32 by decide)
    have h2 : -32 < Int.tmod k 32 := by
      have := Int.tmod_lt_of_pos (-k) (show (0 : Int) < 32 by decide)
      rw [Int.neg_tmod] at this; omega
    have h3 := Int.tmod_nonneg 32 (show (0 : Int) ≤ Int.tmod k 32 + 32 by omega)
    have h4 := Int.tmod_lt_of_pos (Int.tmod k 32 + 32) (show (0 : Int) < 32 by decide)
    omega
/-- Three numbers in a block of their own. -/
theorem row3 (w : World) : BkI.Row (w.alloc (.cells #[.int .i64 2, .int .i64 3, .int .i64 9] 3)) (.slice (some ⟨w.heap.size, 0, none⟩) 3 3) [2, 3, 9] := by
  refine .inr ⟨w.heap.size, 0, 3, rfl, by simp, fun i p hp => ?_⟩
  have hi : i < 3 := (List.getElem?_eq_some_iff.1 hp).1
  have h := heap_alloc_new w (.cells #[.int .i64 2, .int .i64 3, .int .i64 9] 3)
  unfold World.cell?
  simp only [h]
  obtain rfl | rfl | rfl : i = 0 ∨ i = 1 ∨ i = 2 := by omega
  all_goals
    simp at hp
    subst hp
    rfl
theorem mid_set {P : List UInt8} {n : Nat} (c : UInt8) (hl : P.length = 32) (h : n < 32) : List.take n P ++ c :: List.take (31 - n) (List.drop (n + 1) P) = P.set n c := by
  rw [List.take_of_length_le (l := List.drop (n + 1) P) (by rw [List.length_drop]; omega), set_parts c (by omega)]
theorem rd_no {P : List UInt8} (hl : P.length = 32) (h : ¬ Isp P) : rdS P = [] ∧ rdE P = 6 := by
  refine ⟨if_neg h, ?_⟩
  unfold rdE; rw [if_neg (by omega), if_neg h]
set_option maxRecDepth 100000 in
set_option maxHeartbeats 16000000 in
theorem lchanged_c (S : List UInt8) (gen k : Int) (c : UInt8) (w : World) :
    Calls Try.prog 5 #[.string (str S), .int .i64 gen, .int .i64 k, .int .u8 (c.toNat : Int)] w fun e w' => e = .returned (.bool true) ∧ Below w.heap.size w w' := by
  obtain ⟨r, hr1, hr2, hr3, n, hn1, hn2⟩ := rem_place k
  obtain ⟨m, hmin, hml, T, hT, htk⟩ : ∃ m : Nat, min (S.length : Int) 27 = (m : Int) ∧ m ≤ S.length ∧ ∃ T : List UInt8, T.length ≤ 27 ∧ List.take m S = T :=
    ⟨min S.length 27, by omega, by omega, _, by rw [List.length_take]; omega, rfl⟩
  have hA := Hid.intro alive_any
  have hL := Hid.intro (fun w => lay_some T w hT)
  have hl32 := layL_length hT
  have hpo := Hid.intro (fun (x : UInt8) (hx : (layL T)[n]? = some x) (hc : c ≠ x) => page_other hT hx hc)
  generalize layL T = L at *
  have m0 : (0 : Int) ≤ (m : Int) := Int.natCast_nonneg _
  have mS : (m : Int) ≤ (S.length : Int) := by omega
  obtain ⟨x, hx⟩ : ∃ x, L[n]? = some x := ⟨L[n]'(by omega), List.getElem?_eq_getElem _⟩
  have hat := str_at L n x hx
  unfold bV at hat
  have hn0 : (0 : Int) ≤ (n : Int) := Int.natCast_nonneg _
  have hn3 : (n : Int) < 32 := by omega
  have hlc : (L.length : Int) = 32 := by omega
  have hmn : min n 32 = n := by omega
  have hq1 : ¬ 9223372036854775807 < n + 1 := by omega
  have hq2 : ¬ 9223372036854775807 < n + 1 + (31 - n) := by omega
  have hn4 : (n : Int) ≤ 32 := by omega
  have hn5 : (0 : Int) ≤ (n : Int) + 1 := by omega
  have hn6 : (n : Int) + 1 ≤ 32 := by omega
  have hn7 : IntKind.i64.wrap ((n : Int) + 1) = (n : Int) + 1 := by rw [IntKind.wrap_i64]; omega
  have hS := Hid.intro (fun W => slot_any gen (row3 W))
  have hXs := Hid.intro (mid_set c hl32 hn2)
  have hcx : c = x ∨ (¬ (x.toNat : Int) = (c.toNat : Int) ∧ rdE (List.take n L ++ c :: List.take (31 - n) (List.drop (n + 1) L)) = 6) := by
    by_cases e : c = x
    · exact .inl e
    · refine .inr ⟨fun h => e (UInt8.toNat_inj.1 (by omega)), ?_⟩
      rw [hXs.out]
      exact (rd_no (by rw [List.length_set]; exact hl32) (hpo.out x hx e)).2
  have hc : (∃ g : Nat, gen = (g : Int) ∧ 1 ≤ g ∧ g ≤ 1000000000) ∨ (¬ Sl gen [2, 3, 9] ∧ (decide (gen < 1) = true ∨ (decide (gen < 1) = false ∧ decide (1000000000 < gen) = true))) := by
    by_cases h : 1 ≤ gen ∧ gen ≤ 1000000000
    · exact .inl ⟨gen.toNat, by omega, by omega, by omega⟩
    · refine .inr ⟨fun hh => h hh.1, ?_⟩
      by_cases h1 : gen < 1
      · exact .inl (decide_eq_true h1)
      · exact .inr ⟨decide_eq_false h1, decide_eq_true (by omega)⟩
  clear hpo hx hXs
  go_enter Try.func5, Try.ntmps5
  go_wp2_with fail
  refine (hA.out _).mono ?_; rintro e w1 ⟨rfl, hb1⟩
  have hb1' := Hid.intro hb1
  clear hb1 hA
  go_wp2_with fail
  refine (hL.out _).mono ?_; rintro e w2 ⟨rfl, hb2⟩
  have hb2' := Hid.intro (hb1'.out.trans (hb2.mono hb1'.out.size))
  clear hb2
  rcases hcx with hxc | ⟨hx1, hx2⟩
  · subst hxc
    rcases hc with ⟨g, rfl, hg1, hg2⟩ | ⟨hcn, d1 | ⟨d1, d2⟩⟩
    · have hSl : Sl (g : Int) [2, 3, 9] := ⟨by omega, by decide, by decide⟩
      rw [(slS_yes hSl).1, (slS_yes hSl).2, Int.toNat_natCast] at hS
      have hz32 := slL_length (g := g) (ps := [2, 3, 9]) (by decide)
      obtain ⟨y, hy⟩ : ∃ y, (slL g [2, 3, 9])[n]? = some y := ⟨(slL g [2, 3, 9])[n]'(by omega), List.getElem?_eq_getElem _⟩
      have haz := str_at (slL g [2, 3, 9]) n y hy
      unfold bV at haz
      have hcy : c = y ∨ (¬ (y.toNat : Int) = (c.toNat : Int) ∧ usE (List.take n (slL g [2, 3, 9]) ++ c :: List.take (31 - n) (List.drop (n + 1) (slL g [2, 3, 9]))) = 6) := by
        by_cases e : c = y
        · exact .inl e
        · refine .inr ⟨fun h => e (UInt8.toNat_inj.1 (by omega)), ?_⟩
          rw [mid_set c hz32 hn2]
          exact (us_no (by rw [List.length_set]; exact hz32) (slot_other (by decide) hy e)).2.2
      have hzc : ((slL g [2, 3, 9]).length : Int) = 32 := by omega
      clear hSl hy
      generalize slL g [2, 3, 9] = Z at *
      go_wp2_with fail
      refine (hS.out w2).mono ?_; rintro e w4 ⟨rfl, hb4⟩
      have hb4' := Hid.intro ((hb2'.out.alloc hb2'.out.size _).trans (hb4.mono (Below.size (hb2'.out.alloc hb2'.out.size _))))
      clear hb4
      rcases hcy with rfl | ⟨hy1, hy2⟩
      · go_wp2
        go_ret
        exact ⟨rfl, hb4'.out⟩
      · have hcvA := byte_str (w := (w4.alloc (.cells #[.int .u8 (c.toNat : Int)] 5)).drew) (g := w4.heap.size) (c := c) (one_byte w4 c 5) 1
        go_wp2_with fail
        go_region_law (first
          | (go_simp; refine (unslot_any _ _).mono ?_; rintro e w5 ⟨v5, rfl, hv5, hb9⟩; clear hv5; have hB9 := Hid.intro ((below_al1 w4 c).trans (hb9.mono (below_al1 w4 c).size))))
        all_goals
          have hb5' := Hid.intro (hb4'.out.trans (hB9.out.mono hb4'.out.size))
          clear hB9 hb9 hcvA
          go_wp2
          go_ret
          exact ⟨rfl, hb5'.out⟩
    · rw [(slS_no hcn).1, (slS_no hcn).2] at hS
      go_wp2_with fail
      refine (hS.out w2).mono ?_; rintro e w4 ⟨rfl, hb4⟩
      have hb4' := Hid.intro ((hb2'.out.alloc hb2'.out.size _).trans (hb4.mono (Below.size (hb2'.out.alloc hb2'.out.size _))))
      clear hb4
      go_wp2
      go_ret
      exact ⟨rfl, hb4'.out⟩
    · rw [(slS_no hcn).1, (slS_no hcn).2] at hS
      go_wp2_with fail
      refine (hS.out w2).mono ?_; rintro e w4 ⟨rfl, hb4⟩
      have hb4' := Hid.intro ((hb2'.out.alloc hb2'.out.size _).trans (hb4.mono (Below.size (hb2'.out.alloc hb2'.out.size _))))
      clear hb4
      go_wp2
      go_ret
      exact ⟨rfl, hb4'.out⟩
  · have hcvA := byte_str (w := (w2.alloc (.cells #[.int .u8 (c.toNat : Int)] 5)).drew) (g := w2.heap.size) (c := c) (one_byte w2 c 5) 1
    go_wp2_with fail
    go_region_law (first
      | (go_simp; refine (read_any _ _).mono ?_; rintro e w3 ⟨rfl, hb9⟩; have hB9 := Hid.intro ((below_al1 w2 c).trans (hb9.mono (below_al1 w2 c).size))))
    all_goals
      have hb3' := Hid.intro (hb2'.out.trans (hB9.out.mono hb2'.out.size))
      clear hB9 hb9 hcvA
      rcases hc with ⟨g, rfl, hg1, hg2⟩ | ⟨hcn, d1 | ⟨d1, d2⟩⟩
      · have hSl : Sl (g : Int) [2, 3, 9] := ⟨by omega, by decide, by decide⟩
        rw [(slS_yes hSl).1, (slS_yes hSl).2, Int.toNat_natCast] at hS
        have hz32 := slL_length (g := g) (ps := [2, 3, 9]) (by decide)
        obtain ⟨y, hy⟩ : ∃ y, (slL g [2, 3, 9])[n]? = some y := ⟨(slL g [2, 3, 9])[n]'(by omega), List.getElem?_eq_getElem _⟩
        have haz := str_at (slL g [2, 3, 9]) n y hy
        unfold bV at haz
        have hcy : c = y ∨ (¬ (y.toNat : Int) = (c.toNat : Int) ∧ usE (List.take n (slL g [2, 3, 9]) ++ c :: List.take (31 - n) (List.drop (n + 1) (slL g [2, 3, 9]))) = 6) := by
          by_cases e : c = y
          · exact .inl e
          · refine .inr ⟨fun h => e (UInt8.toNat_inj.1 (by omega)), ?_⟩
            rw [mid_set c hz32 hn2]
            exact (us_no (by rw [List.length_set]; exact hz32) (slot_other (by decide) hy e)).2.2
        have hzc : ((slL g [2, 3, 9]).length : Int) = 32 := by omega
        clear hSl hy
        generalize slL g [2, 3, 9] = Z at *
        go_wp2_with fail
        refine (hS.out w3).mono ?_; rintro e w4 ⟨rfl, hb4⟩
        have hb4' := Hid.intro ((hb3'.out.alloc hb3'.out.size _).trans (hb4.mono (Below.size (hb3'.out.alloc hb3'.out.size _))))
        clear hb4
        rcases hcy with rfl | ⟨hy1, hy2⟩
        · go_wp2
          go_ret
          exact ⟨rfl, hb4'.out⟩
        · have hcvA := byte_str (w := (w4.alloc (.cells #[.int .u8 (c.toNat : Int)] 5)).drew) (g := w4.heap.size) (c := c) (one_byte w4 c 5) 1
          go_wp2_with fail
          go_region_law (first
            | (go_simp; refine (unslot_any _ _).mono ?_; rintro e w5 ⟨v5, rfl, hv5, hb9⟩; clear hv5; have hB9 := Hid.intro ((below_al1 w4 c).trans (hb9.mono (below_al1 w4 c).size))))
          all_goals
            have hb5' := Hid.intro (hb4'.out.trans (hB9.out.mono hb4'.out.size))
            clear hB9 hb9 hcvA
            go_wp2
            go_ret
            exact ⟨rfl, hb5'.out⟩
      · rw [(slS_no hcn).1, (slS_no hcn).2] at hS
        go_wp2_with fail
        refine (hS.out w3).mono ?_; rintro e w4 ⟨rfl, hb4⟩
        have hb4' := Hid.intro ((hb3'.out.alloc hb3'.out.size _).trans (hb4.mono (Below.size (hb3'.out.alloc hb3'.out.size _))))
        clear hb4
        go_wp2
        go_ret
        exact ⟨rfl, hb4'.out⟩
      · rw [(slS_no hcn).1, (slS_no hcn).2] at hS
        go_wp2_with fail
        refine (hS.out w3).mono ?_; rintro e w4 ⟨rfl, hb4⟩
        have hb4' := Hid.intro ((hb3'.out.alloc hb3'.out.size _).trans (hb4.mono (Below.size (hb3'.out.alloc hb3'.out.size _))))
        clear hb4
        go_wp2
        go_ret
        exact ⟨rfl, hb4'.out⟩
theorem lchanged_any (S : List UInt8) (gen k : Int) {c : Int} (hc : 0 ≤ c ∧ c ≤ 255) (w : World) :
    Calls Try.prog 5 #[.string (str S), .int .i64 gen, .int .i64 k, .int .u8 c] w fun e w' => e = .returned (.bool true) ∧ Below w.heap.size w w' := by
  have h := lchanged_c S gen k (UInt8.ofNat c.toNat) w
  rw [u8_small (by omega), show ((c.toNat : Nat) : Int) = c by omega] at h
  exact h
end Go.Proofs.Ytgigpohfkppplaa
