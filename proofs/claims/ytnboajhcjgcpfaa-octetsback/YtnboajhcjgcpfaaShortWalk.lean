/-
  The walk of OctetsShort, for every input: it returns true; nothing that was there is written.
-/
import Derived.Test.YtnboajhcjgcpfaaNumsWalk
namespace Go.Proofs.Ytnboajhcjgcpfaa
open Go.ChangeShapes Go.WideShapes Go.ChangeAt Go.RowKit
attribute [local go_sem ↓] Go.wp_at_zero Go.wp_at_succ
attribute [local go_sem] str_size str_extract str_append str_toList

theorem txt_length (S : List UInt8) : (txt S).length = 1 + S.length := by simp [txt]; omega
theorem short_num (v : Nat) (hv : v < 4294967296) (S : List UInt8) (j : Nat) : nN (some ((num v 4 ++ txt S).take j)) 4 = if 4 ≤ j then v else 0 := by
  rw [nN_in (by decide)]
  unfold kN
  have hl := num_length 4 v
  have h4 : (4 : Int).toNat = 4 := rfl
  simp only [h4]
  by_cases h : 4 ≤ j
  · rw [if_pos (by rw [List.length_take, List.length_append, hl]; omega), if_pos h, List.take_take, Nat.min_eq_left h, List.take_append_of_le_length (by omega), List.take_of_length_le (by omega), vl_num _ _ hv]
  · rw [if_neg (by rw [List.length_take]; omega), if_neg h]; rfl
theorem short_st (v : Nat) (S : List UInt8) (j : Nat) : nS (some ((num v 4 ++ txt S).take j)) 4 = if 4 ≤ j then some ((txt S).take (j - 4)) else none := by
  rw [nS_in (by decide)]
  unfold kS
  have hl := num_length 4 v
  have h4 : (4 : Int).toNat = 4 := rfl
  simp only [h4]
  by_cases h : 4 ≤ j
  · rw [if_pos (by rw [List.length_take, List.length_append, hl]; omega), if_pos h, List.drop_take, List.drop_append_of_le_length (by omega), List.drop_of_length_le (by omega), List.nil_append]
  · rw [if_neg (by rw [List.length_take]; omega), if_neg h]
theorem short_text (S : List UInt8) (hS : S.length ≤ 255) (i : Nat) (hi : i < 1 + S.length) : tN (some ((txt S).take i)) = [] ∧ tS (some ((txt S).take i)) = none := by
  unfold tN tS
  rw [nN_in (by decide), nS_in (by decide)]
  have h1 : (1 : Int).toNat = 1 := rfl
  rw [h1]
  cases i with
  | zero =>
    rw [List.take_zero]
    exact ⟨rfl, rfl⟩
  | succ i =>
    have e : (txt S).take (i + 1) = UInt8.ofNat S.length :: S.take i := rfl
    rw [e]
    have hk : kN (some (UInt8.ofNat S.length :: S.take i)) 1 = [UInt8.ofNat S.length] := by simp [kN]
    have hs : kS (some (UInt8.ofNat S.length :: S.take i)) 1 = some (S.take i) := by simp [kS]
    have hv : vl [UInt8.ofNat S.length] = S.length := by rw [vl_one]; simp; omega
    rw [hk, hs, hv]
    unfold kN kS
    simp only
    rw [if_neg (by rw [List.length_take]; omega), if_neg (by rw [List.length_take]; omega)]
    exact ⟨rfl, rfl⟩
theorem short_all (v : Nat) (S : List UInt8) (hS : S.length ≤ 255) (j : Nat) (hj : j < 5 + S.length) : tN (nS (some ((num v 4 ++ txt S).take j)) 4) = [] ∧ tS (nS (some ((num v 4 ++ txt S).take j)) 4) = none := by
  rw [short_st]
  by_cases h : 4 ≤ j
  · rw [if_pos h]; exact short_text S hS _ (by omega)
  · rw [if_neg h]; exact ⟨rfl, rfl⟩
theorem none_all : nN none 1 = 0 ∧ nS none 1 = none ∧ dn none = 8 ∧ lft none = [] ∧ xN none = [] := ⟨rfl, rfl, rfl, rfl, by decide⟩
theorem place (k : Int) (L : Nat) (hL : 0 < L) (hL2 : L ≤ 1000) : ∃ j : Nat, (k.tmod L + L).tmod L = (j : Int) ∧ j < L ∧ -(L : Int) < k.tmod L ∧ k.tmod L < L := by
  have h0 : (0 : Int) < (L : Int) := by omega
  have h1 := Int.lt_tmod_of_pos k h0
  have h2 := Int.tmod_lt_of_pos k h0
  have h3 : 0 ≤ (k.tmod L + L).tmod L := Int.tmod_nonneg _ (by omega)
  have h4 : (k.tmod L + L).tmod L < L := Int.tmod_lt_of_pos _ h0
  exact ⟨((k.tmod L + L).tmod L).toNat, by omega, by omega, by omega, by omega⟩

set_option maxRecDepth 100000 in
theorem short_early (v k : Int) (S : List UInt8) (w : World) (h : v < 0 ∨ 4294967295 < v ∨ 255 < S.length) : Calls Try.prog 7 #[.int .i64 v, .int .i64 k, .string (str S)] w fun e w' => e = .returned (.bool true) ∧ Below w.heap.size w w' := by
  have hA := Hid.intro (alive_any w)
  by_cases h1 : v < 0
  · go_enter Try.func7, Try.ntmps7
    go_wp2_with fail
    refine hA.out.mono ?_; rintro e w1 ⟨rfl, c⟩
    go_wp2
    go_ret
    exact ⟨rfl, c⟩
  · by_cases h2 : 4294967295 < v
    · go_enter Try.func7, Try.ntmps7
      go_wp2_with fail
      refine hA.out.mono ?_; rintro e w1 ⟨rfl, c⟩
      go_wp2
      go_ret
      exact ⟨rfl, c⟩
    · have h3 : (255 : Int) < (S.length : Int) := by omega
      clear h
      go_enter Try.func7, Try.ntmps7
      go_wp2_with fail
      refine hA.out.mono ?_; rintro e w1 ⟨rfl, c⟩
      go_wp2
      go_ret
      exact ⟨rfl, c⟩

set_option maxRecDepth 100000 in
set_option maxHeartbeats 2000000 in
theorem short_any (v k : Int) (S : List UInt8) (w : World) : Calls Try.prog 7 #[.int .i64 v, .int .i64 k, .string (str S)] w fun e w' => e = .returned (.bool true) ∧ Below w.heap.size w w' := by
  by_cases hx : v < 0 ∨ 4294967295 < v ∨ 255 < S.length
  · exact short_early v k S w hx
  obtain ⟨u, rfl⟩ : ∃ u : Nat, v = (u : Int) := ⟨v.toNat, by omega⟩
  have h1 : ¬ (u : Int) < 0 := by omega
  have h2 : ¬ (4294967295 : Int) < (u : Int) := by omega
  have hS : S.length ≤ 255 := by omega
  have h3 : ¬ (255 : Int) < (S.length : Int) := by omega
  clear hx
  have hFit : Fit (u : Int) 4 := ⟨by decide, by decide, by omega, by show (u : Int) < 256 ^ 4; omega⟩
  have hA := Hid.intro (alive_any w)
  have h0 := Hid.intro (fun w1 => OutO.new w1 w1.heap.size)
  have hb0 := Hid.intro (fun w1 : World => show Below w1.heap.size w1 (w1.alloc (.cells #[.slice none 0 0, .int .i64 0] 29)) from (Below.refl _ _).alloc (Nat.le_refl _) _)
  have hN := Hid.intro (fun w1 => num_any (h0.out w1) (Nat.le_refl _) (by decide) (u : Int) 4 (by omega))
  have hw : wNum (some []) (u : Int) 4 = some (num u 4) := by unfold wNum; rw [if_pos hFit]; rfl
  rw [hw] at hN
  have hl4 := num_length 4 u
  have hT := Hid.intro (fun w' p base (g : OutO w' base p (some (num u 4))) (hp : base ≤ p) => text_any g hp (by show (num u 4).length ≤ _; omega) S)
  have hwt : wText (some (num u 4)) S = some (num u 4 ++ txt S) := by unfold wText; rw [if_pos hS]; rfl
  rw [hwt] at hT
  have hD := Hid.intro (fun w' p base (g : OutO w' base p (some (num u 4 ++ txt S))) => done_any g)
  change Hid (∀ w' p base, _ → Calls Try.prog 19 _ w' fun e w' => e = .returned (.tuple #[.string (str (num u 4 ++ txt S)), .int .i64 0]) ∧ _) at hD
  have hlen : (num u 4 ++ txt S).length = 5 + S.length := by rw [List.length_append, hl4, txt_length]; omega
  obtain ⟨j, hj, hjl, t1, t2⟩ := place k (5 + S.length) (by omega) (by omega)
  have hcast : ((5 + S.length : Nat) : Int) = 5 + (S.length : Int) := by omega
  rw [hcast] at hj t1 t2
  have hR4 := Hid.intro (fun w' p base (g : InO w' p (some ((num u 4 ++ txt S).take j))) (hp : base ≤ p) => inum_any g hp 4)
  rw [short_num u (by omega) S j] at hR4
  obtain ⟨X, hX⟩ : ∃ X : Nat, Hid ((if 4 ≤ j then u else 0) = X) := ⟨_, rfl⟩
  rw [hX.out] at hR4
  obtain ⟨m1, m2⟩ := short_all u S hS j hjl
  have hRT := Hid.intro (fun w' p base (g : InO w' p (nS (some ((num u 4 ++ txt S).take j)) 4)) (hp : base ≤ p) => itext_any g hp)
  rw [m1, m2] at hRT
  generalize nS (some ((num u 4 ++ txt S).take j)) 4 = st4 at *
  obtain ⟨n1, n2, n3, n4, n5⟩ := none_all
  have hE := Hid.intro (fun w' p (g : InO w' p none) => idone_any g)
  rw [n3] at hE
  have hR1 := Hid.intro (fun w' p base (g : InO w' p none) (hp : base ≤ p) => inum_any g hp 1)
  rw [n1, n2] at hR1
  have hL := Hid.intro (fun w' p (g : InO w' p none) => left_any g)
  rw [n4] at hL
  have hX2 := Hid.intro (fun w' p base (g : InO w' p none) (hp : base ≤ p) => dec_loop g hp)
  rw [n5] at hX2
  have htk : (num u 4 ++ txt S).take j = (num u 4 ++ txt S).take j := rfl
  clear hw hwt hl4 m1 m2 n1 n2 n3 n4 n5 htk hFit
  generalize num u 4 = N4 at *
  obtain ⟨B, hB⟩ : ∃ B, Hid (N4 ++ txt S = B) := ⟨_, rfl⟩
  rw [hB.out] at hT hD hlen hR4
  obtain ⟨Z, hZ⟩ : ∃ Z, Hid ((k.tmod (5 + (S.length : Int))) = Z) := ⟨_, rfl⟩
  rw [hZ.out] at hj t1 t2
  have hlenI : (B.length : Int) = 5 + (S.length : Int) := by omega
  go_enter Try.func7, Try.ntmps7
  go_wp2_with fail
  refine hA.out.mono ?_; rintro e w1 ⟨rfl, c1⟩
  have c1' := Hid.intro c1
  clear c1
  go_wp2_with fail
  refine (hN.out w1).mono ?_; rintro e w2 ⟨rfl, a, _, c⟩
  have c2 := Hid.intro (c1'.out.trans (((hb0.out w1).trans c).mono c1'.out.size))
  have hT' := Hid.intro (hT.out _ _ _ a (Nat.le_refl _))
  clear a c
  go_wp2_with fail
  refine hT'.out.mono ?_; rintro e w3 ⟨rfl, a, _, c⟩
  have c3 := Hid.intro (c2.out.trans (c.mono c1'.out.size))
  have hD' := Hid.intro (hD.out _ _ _ a)
  clear a c c1' c2
  go_wp2_with fail
  refine hD'.out.mono ?_; rintro e w4 ⟨rfl, c⟩
  have c4 := Hid.intro (c3.out.trans (c.mono c3.out.size))
  clear c c3
  have hZe := hZ.out
  have q0 : ¬ ((5 : Int) + (S.length : Int) = 0) := by omega
  have j0 : (0 : Int) ≤ (j : Int) := Int.natCast_nonneg _
  have j1 : (j : Int) ≤ 5 + (S.length : Int) := by omega
  have wz : IntKind.i64.wrap (Z + (5 + (S.length : Int))) = Z + (5 + (S.length : Int)) := IntWalk.i64_in _ (by omega)
  go_wp2_with fail
  refine (from_any (B.take j) _).mono ?_; rintro e w5 ⟨rfl, a, c, _⟩
  have hR4' := Hid.intro (hR4.out _ _ w.heap.size a c4.out.size)
  have c5 := Hid.intro (c4.out.trans (c.mono c4.out.size))
  have hsz4 := Hid.intro c4.out.size
  clear a c c4
  go_wp2_with fail
  refine hR4'.out.mono ?_; rintro e w6 ⟨rfl, a, _, c⟩
  have hRT' := Hid.intro (hRT.out _ _ w.heap.size a hsz4.out)
  have c6 := Hid.intro (c5.out.trans c)
  clear a c c5
  go_wp2_with fail
  refine hRT'.out.mono ?_; rintro e w7 ⟨rfl, a, _, c⟩
  have hE' := Hid.intro (hE.out _ _ a)
  have hR1' := Hid.intro (hR1.out _ _ w.heap.size a hsz4.out)
  have c7 := Hid.intro (c6.out.trans c)
  clear a c c6
  by_cases h4 : 4 ≤ j
  · have h4i : (4 : Int) ≤ (j : Int) := by omega
    have hXu : X = u := by rw [← hX.out, if_pos h4]
    clear hX
    subst hXu
    go_wp2_with fail
    refine hE'.out.mono ?_; rintro e w8 ⟨rfl, rfl⟩
    go_wp2_with fail
    refine hR1'.out.mono ?_; rintro e w9 ⟨rfl, a, _, c⟩
    have hL' := Hid.intro (hL.out _ _ a)
    have hX' := Hid.intro (hX2.out _ _ w.heap.size a hsz4.out)
    have c9 := Hid.intro (c7.out.trans c)
    clear a c c7
    go_wp2_with fail
    refine hL'.out.mono ?_; rintro e w10 ⟨rfl, rfl⟩
    go_wp2_with fail
    refine hX'.out.mono ?_; rintro e w11 ⟨vx, rfl, hox, _, _, c⟩
    obtain ⟨xa, xc, rfl⟩ := BkE.own_form hox
    have c11 := Hid.intro (c9.out.trans c)
    clear c c9 hox
    go_wp2
    go_ret
    exact ⟨rfl, c11.out⟩
  · have h4i : ¬ (4 : Int) ≤ (j : Int) := by omega
    have hXu : X = 0 := by rw [← hX.out, if_neg h4]
    clear hX
    subst hXu
    go_wp2_with fail
    refine hE'.out.mono ?_; rintro e w8 ⟨rfl, rfl⟩
    go_wp2_with fail
    refine hR1'.out.mono ?_; rintro e w9 ⟨rfl, a, _, c⟩
    have hL' := Hid.intro (hL.out _ _ a)
    have hX' := Hid.intro (hX2.out _ _ w.heap.size a hsz4.out)
    have c9 := Hid.intro (c7.out.trans c)
    clear a c c7
    go_wp2_with fail
    refine hL'.out.mono ?_; rintro e w10 ⟨rfl, rfl⟩
    go_wp2_with fail
    refine hX'.out.mono ?_; rintro e w11 ⟨vx, rfl, hox, _, _, c⟩
    obtain ⟨xa, xc, rfl⟩ := BkE.own_form hox
    have c11 := Hid.intro (c9.out.trans c)
    clear c c9 hox
    go_wp2
    go_ret
    exact ⟨rfl, c11.out⟩
end Go.Proofs.Ytnboajhcjgcpfaa
