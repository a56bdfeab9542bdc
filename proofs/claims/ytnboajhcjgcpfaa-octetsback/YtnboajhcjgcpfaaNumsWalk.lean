/-
  The walk of OctetsNums, for every input: it returns true; nothing that was there is written.
-/
import Derived.Test.YtnboajhcjgcpfaaOAlive
namespace Go.Proofs.Ytnboajhcjgcpfaa
open Go.ChangeShapes Go.WideShapes Go.ChangeAt Go.RowKit
attribute [local go_sem ↓] Go.wp_at_zero Go.wp_at_succ
attribute [local go_sem] str_size str_extract str_append str_toList

theorem fit_back {v n : Int} (h : Fit v n) : nN (some (num v.toNat n.toNat)) n = v.toNat ∧ nS (some (num v.toNat n.toNat)) n = some [] ∧ ((num v.toNat n.toNat).length : Int) = n := by
  obtain ⟨f1, f2, f3, f4, f5, f6⟩ := fit_lt h
  have hl := num_length n.toNat v.toNat
  rw [nN_in ⟨h.1, h.2.1⟩, nS_in ⟨h.1, h.2.1⟩]
  unfold kN kS
  simp only
  rw [if_pos (by omega), if_pos (by omega), List.take_of_length_le (by omega), List.drop_of_length_le (by omega), vl_num _ _ f1]
  exact ⟨rfl, rfl, by omega⟩
set_option maxRecDepth 100000 in
theorem nums_any (v n : Int) (hv : v ≤ 9223372036854775807) (w : World) : Calls Try.prog 6 #[.int .i64 v, .int .i64 n] w fun e w' => e = .returned (.bool true) ∧ Below w.heap.size w w' := by
  have hA := Hid.intro (alive_any w)
  have h0 := Hid.intro (fun w1 => OutO.new w1 w1.heap.size)
  have hb0 := Hid.intro (fun w1 : World => show Below w1.heap.size w1 (w1.alloc (.cells #[.slice none 0 0, .int .i64 0] 29)) from (Below.refl _ _).alloc (Nat.le_refl _) _)
  have hN := Hid.intro (fun w1 => num_any (h0.out w1) (Nat.le_refl _) (by decide) v n hv)
  have hf := Hid.intro (fits_any v n)
  by_cases hF : Fit v n
  · rw [decide_eq_true hF] at hf
    have hw : wNum (some []) v n = some (num v.toNat n.toNat) := by unfold wNum; rw [if_pos hF]; rfl
    have he : eNum v n = 0 := by unfold eNum; rw [if_pos hF]
    rw [hw, he] at hN
    obtain ⟨b1, b2, b3⟩ := fit_back hF
    have hv6 : ((v.toNat : Nat) : Int) = v := (fit_lt hF).2.2.2.2.2
    have hD := Hid.intro (fun w' p base (g : OutO w' base p (some (num v.toNat n.toNat))) => done_any g)
    have hR := Hid.intro (fun w' p base (g : InO w' p (some (num v.toNat n.toNat))) (hp : base ≤ p) => inum_any g hp n)
    rw [b1, b2, hv6] at hR
    have hE := Hid.intro (fun w' p (g : InO w' p (some [])) => idone_any g)
    change Hid (∀ w' p base, _ → Calls Try.prog 19 _ w' fun e w' => e = .returned (.tuple #[.string (str (num v.toNat n.toNat)), .int .i64 0]) ∧ _) at hD
    change Hid (∀ w' p, _ → Calls Try.prog 30 _ w' fun e w' => e = .returned (.int .i64 0) ∧ _) at hE
    generalize num v.toNat n.toNat = S at *
    clear hw he b1 b2 hv6
    go_enter Try.func6, Try.ntmps6
    go_wp2_with fail
    refine hA.out.mono ?_; rintro e w1 ⟨rfl, c1⟩
    have c1' := Hid.intro c1
    clear c1
    go_wp2_with fail
    refine (hN.out w1).mono ?_; rintro e w2 ⟨rfl, a, _, c⟩
    have c2 := Hid.intro (c1'.out.trans (((hb0.out w1).trans c).mono c1'.out.size))
    have hD' := Hid.intro (hD.out _ _ _ a)
    clear a c c1'
    go_wp2_with fail
    refine hD'.out.mono ?_; rintro e w3 ⟨rfl, c⟩
    have c3 := Hid.intro (c2.out.trans (c.mono c2.out.size))
    clear c c2 hD'
    go_wp2_with fail
    refine (hf.out _).mono ?_; rintro e w4 ⟨rfl, rfl⟩
    go_wp2_with fail
    refine (from_any S _).mono ?_; rintro e w5 ⟨rfl, a, c, _⟩
    have hR' := Hid.intro (hR.out _ _ w.heap.size a c3.out.size)
    have c5 := Hid.intro (c3.out.trans (c.mono c3.out.size))
    clear a c c3
    go_wp2_with fail
    refine hR'.out.mono ?_; rintro e w6 ⟨rfl, a, _, c⟩
    have hE' := Hid.intro (hE.out _ _ a)
    have c6 := Hid.intro (c5.out.trans c)
    clear a c c5
    go_wp2_with fail
    refine hE'.out.mono ?_; rintro e w7 ⟨rfl, rfl⟩
    go_wp2
    go_ret
    exact ⟨rfl, c6.out⟩
  · rw [decide_eq_false hF] at hf
    have hw : wNum (some []) v n = none := by unfold wNum; rw [if_neg hF]
    have he : eNum v n = 1 := by unfold eNum; rw [if_neg hF]
    rw [hw, he] at hN
    have hD := Hid.intro (fun w' p base (g : OutO w' base p none) => done_any g)
    change Hid (∀ w' p base, _ → Calls Try.prog 19 _ w' fun e w' => e = .returned (.tuple #[.string (str []), .int .i64 1]) ∧ _) at hD
    go_enter Try.func6, Try.ntmps6
    go_wp2_with fail
    refine hA.out.mono ?_; rintro e w1 ⟨rfl, c1⟩
    have c1' := Hid.intro c1
    clear c1
    go_wp2_with fail
    refine (hN.out w1).mono ?_; rintro e w2 ⟨rfl, a, _, c⟩
    have c2 := Hid.intro (c1'.out.trans (((hb0.out w1).trans c).mono c1'.out.size))
    have hD' := Hid.intro (hD.out _ _ _ a)
    clear a c c1'
    go_wp2_with fail
    refine hD'.out.mono ?_; rintro e w3 ⟨rfl, c⟩
    have c3 := Hid.intro (c2.out.trans (c.mono c2.out.size))
    clear c c2 hD'
    go_wp2_with fail
    refine (hf.out _).mono ?_; rintro e w4 ⟨rfl, rfl⟩
    go_wp2
    go_ret
    exact ⟨rfl, c3.out⟩
end Go.Proofs.Ytnboajhcjgcpfaa
