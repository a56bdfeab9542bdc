/-
  The walk of OctetsBack, for every input: it returns true; nothing that was there is written.
-/
import Derived.Test.YtnboajhcjgcpfaaBackA
import Derived.Lib.MinMax
namespace Go.Proofs.Ytnboajhcjgcpfaa
open Go.ChangeShapes Go.WideShapes Go.ChangeAt Go.RowKit
attribute [local go_sem ↓] Go.wp_at_zero Go.wp_at_succ
attribute [local go_sem] str_size str_extract str_append str_toList

theorem wires_len (os : List OpE) (h : os.length ≤ 40) (i : Nat) : (wires (os.take i)).length ≤ 12000 := by
  have hb : ∀ l : List OpE, (wires l).length ≤ 300 * l.length := fun l => by
    induction l with
    | nil => exact Nat.zero_le _
    | cons x r ih =>
      have e : wires (x :: r) = wire x ++ wires r := rfl
      rw [e, List.length_append, List.length_cons]
      have := wire_length x
      omega
  have h1 := hb (os.take i)
  rw [List.length_take] at h1
  omega
theorem wNum_fit {S : List UInt8} {v n : Nat} (h : Fit (v : Int) (n : Int)) : wNum (some S) (v : Int) (n : Int) = some (S ++ num v n) := by
  unfold wNum
  rw [if_pos h, Int.toNat_natCast, Int.toNat_natCast]; rfl
/-- A number that is read: what is left behind it. -/
theorem wire_num {v : Int} {R : List UInt8} : nN (some (wireN v ++ R)) 1 = lo v 8 ∧ nS (some (wireN v ++ R)) 1 = some (num (lo v 16) 2 ++ (num (lo v 32) 4 ++ R)) ∧ nN (some (num (lo v 16) 2 ++ (num (lo v 32) 4 ++ R))) 2 = lo v 16 ∧ nS (some (num (lo v 16) 2 ++ (num (lo v 32) 4 ++ R))) 2 = some (num (lo v 32) 4 ++ R) ∧ nN (some (num (lo v 32) 4 ++ R)) 4 = lo v 32 ∧ nS (some (num (lo v 32) 4 ++ R)) 4 = some R := by
  have e : wireN v ++ R = num (lo v 8) 1 ++ (num (lo v 16) 2 ++ (num (lo v 32) 4 ++ R)) := by
    unfold wireN; rw [List.append_assoc, List.append_assoc]
  have a := num_read (lo v 8) 1 (by decide) (by decide) (lo_lt v 8) (num (lo v 16) 2 ++ (num (lo v 32) 4 ++ R))
  have b := num_read (lo v 16) 2 (by decide) (by decide) (lo_lt v 16) (num (lo v 32) 4 ++ R)
  have c := num_read (lo v 32) 4 (by decide) (by decide) (lo_lt v 32) R
  rw [e]
  exact ⟨a.1, a.2, b.1, b.2, c.1, c.2⟩

set_option maxRecDepth 100000 in
set_option maxHeartbeats 4000000 in
theorem back_walk {W : World} {v : Value} {os : List OpE} (h : OpsAt W v os) (hL : LightB os = true) : Calls Try.prog 5 #[v] W fun e w' => e = .returned (.bool true) ∧ Below W.heap.size W w' := by
  have hl := Hid.intro (light_any h)
  rw [hL] at hl
  obtain ⟨h40, hLt⟩ := light_all hL
  have hLt' := Hid.intro hLt
  have hwl := Hid.intro (wires_len os h40)
  obtain ⟨a, c, rfl⟩ := h.slice
  have h' := Hid.intro h
  clear h hL hLt
  go_enter Try.func5, Try.ntmps5
  go_wp2_with fail
  refine hl.out.mono ?_; rintro e w1 ⟨rfl, rfl⟩
  go_wp2_with fail
  refine (alive_any _).mono ?_; rintro e w2 ⟨rfl, c2⟩
  have hp := Hid.intro c2.size
  have h0 := Hid.intro (OutO.new w2 w1.heap.size)
  have hb0 := Hid.intro (c2.trans ((show Below w2.heap.size w2 (w2.alloc (.cells #[.slice none 0 0, .int .i64 0] 29)) from (Below.refl _ _).alloc (Nat.le_refl _) _).mono c2.size))
  clear c2 hl
  go_wp2_with fail
  generalize w2.alloc (.cells #[.slice none 0 0, .int .i64 0] 29) = w3 at *
  generalize w2.heap.size = p at *
  go_loopw [4] (fun jv wr => ∃ i : Nat, i ≤ os.length ∧ jv = .int .i64 i ∧ OutO wr w1.heap.size p (some (wires (os.take i))) ∧ Below w1.heap.size w1 wr) (fun jv _ => os.length - (intOf jv).toNat)
  case atStart => exact ⟨0, Nat.zero_le _, rfl, h0.out, hb0.out⟩
  case round =>
    obtain ⟨i, hi, rfl, hO, hB⟩ := hrel
    have i0 : (0 : Int) ≤ (i : Int) := Int.natCast_nonneg _
    have hpp := hp.out
    by_cases hlt : i < os.length
    · have i1 : (i : Int) < (os.length : Int) := by omega
      obtain ⟨g, o, ⟨ek, ev, en, eb, elv, el⟩, rfl, hg, he, hop⟩ := op_at h'.out hlt
      obtain ⟨_, hl80⟩ := hLt'.out _ (List.mem_of_getElem? he)
      simp only at hl80
      have hC := Hid.intro (show ∀ w', Below w1.heap.size w1 w' → w'.cell? ⟨g, o + i * 5, none⟩ = some (.int .i64 ek) ∧ w'.cell? ⟨g, o + i * 5 + 1, none⟩ = some (.int .i64 ev) ∧ w'.cell? ⟨g, o + i * 5 + 2, none⟩ = some (.int .i64 en) ∧ w'.cell? ⟨g, o + i * 5 + 3, none⟩ = some (.string (str eb)) ∧ w'.cell? ⟨g, o + i * 5 + 4, none⟩ = some elv from fun w' hb => by
        have r := hop.below hb hg
        exact ⟨r.c0, r.c1, r.c2, r.c3, r.c4⟩)
      have hRow := Hid.intro (show BkE.Row w1 elv el from hop.row)
      have hwt := Hid.intro (wires_take he)
      have hlf := Hid.intro (hwl.out i)
      have hO' := Hid.intro hO
      have hB' := Hid.intro hB
      obtain ⟨d0, d1, d2, d3, d4⟩ := hC.out _ hB
      clear hop he hO hB
      by_cases hk1 : ek = 1
      · subst hk1
        have hwk : wire ⟨1, ev, en, eb, elv, el⟩ = wireN ev := by unfold wire; exact if_pos rfl
        rw [hwk] at hwt
        obtain ⟨F1, F2, F3⟩ := fit_lo ev
        have a8 := and_8 ev
        have a16 := and_16 ev
        have a32 := and_32 ev
        have hz : ∀ T : List UInt8, T = wires (os.take i) → T ++ num (lo ev 8) 1 ++ num (lo ev 16) 2 ++ num (lo ev 32) 4 = wires (os.take (i + 1)) := fun T hT => by
          rw [hwt.out, hT]; unfold wireN; simp
        have hz' := Hid.intro (hz _ rfl)
        obtain ⟨T, hT⟩ : ∃ T, Hid (wires (os.take i) = T) := ⟨_, rfl⟩
        rw [hT.out] at hO' hz' hlf
        have hl1 := num_length 1 (lo ev 8)
        have hl2 := num_length 2 (lo ev 16)
        have hTl := hlf.out
        have b8 := lo_lt ev 8
        have b16 := lo_lt ev 16
        have b32 := lo_lt ev 32
        have n1 := Hid.intro (num_any hO'.out hpp (by show T.length ≤ _; omega) ((lo ev 8 : Nat) : Int) ((1 : Nat) : Int) (by omega))
        rw [wNum_fit F1] at n1
        have n2 := Hid.intro (fun w' (g : OutO w' w1.heap.size p (some (T ++ num (lo ev 8) 1))) => num_any g hpp (by show (T ++ num (lo ev 8) 1).length ≤ _; rw [List.length_append]; omega) ((lo ev 16 : Nat) : Int) ((2 : Nat) : Int) (by omega))
        rw [wNum_fit F2] at n2
        have n3 := Hid.intro (fun w' (g : OutO w' w1.heap.size p (some (T ++ num (lo ev 8) 1 ++ num (lo ev 16) 2))) => num_any g hpp (by show (T ++ num (lo ev 8) 1 ++ num (lo ev 16) 2).length ≤ _; rw [List.length_append, List.length_append]; omega) ((lo ev 32 : Nat) : Int) ((4 : Nat) : Int) (by omega))
        rw [wNum_fit F3, hz'.out] at n3
        clear F1 F2 F3 hz hl1 hl2 hwk b8 b16 b32 hTl
        generalize T ++ num (lo ev 8) 1 ++ num (lo ev 16) 2 = T2 at *
        generalize T ++ num (lo ev 8) 1 = T1 at *
        generalize lo ev 8 = L8 at *
        generalize lo ev 16 = L16 at *
        generalize lo ev 32 = L32 at *
        go_wp2_with fail
        refine n1.out.mono ?_; rintro e w5 ⟨rfl, c1, _, c3⟩
        have hO5 := Hid.intro c1
        have hB5 := Hid.intro (hB'.out.trans c3)
        clear c1 c3 n1 d0 d1 d2 d3 d4
        obtain ⟨d0, d1, d2, d3, d4⟩ := hC.out _ hB5.out
        go_wp2_with fail
        refine (n2.out _ hO5.out).mono ?_; rintro e w6 ⟨rfl, c1, _, c3⟩
        have hO6 := Hid.intro c1
        have hB6 := Hid.intro (hB5.out.trans c3)
        clear c1 c3 n2 d0 d1 d2 d3 d4 hO5 hB5
        obtain ⟨d0, d1, d2, d3, d4⟩ := hC.out _ hB6.out
        go_wp2_with fail
        refine (n3.out _ hO6.out).mono ?_; rintro e w7 ⟨rfl, c1, _, c3⟩
        have hO7 := Hid.intro c1
        have hB7 := Hid.intro (hB6.out.trans c3)
        clear c1 c3 n3 d0 d1 d2 d3 d4 hO6 hB6
        go_wp2
        go_roundw
        case rel => exact ⟨i + 1, by omega, by go_num, hO7.out, hB7.out⟩
        case measure => simp [intOf]; omega
      · by_cases hk2 : ek = 2
        · subst hk2
          have hwk : wire ⟨2, ev, en, eb, elv, el⟩ = txt (eb.take 255) := by unfold wire; rw [if_neg (by simp), if_pos rfl]
          rw [hwk] at hwt
          obtain ⟨m, hm⟩ : ∃ m : Nat, m = min eb.length 255 := ⟨_, rfl⟩
          have hmi : min (eb.length : Int) 255 = (m : Int) := by omega
          have hm1 : (m : Int) ≤ (eb.length : Int) := by omega
          have hm0 : (0 : Int) ≤ (m : Int) := Int.natCast_nonneg _
          have htk : eb.take 255 = eb.take m := by
            rw [hm]
            by_cases h : eb.length ≤ 255
            · rw [Nat.min_eq_left h, List.take_of_length_le h, List.take_of_length_le (Nat.le_refl _)]
            · rw [Nat.min_eq_right (by omega)]
          rw [htk] at hwt
          have ht1 : (eb.take m).length ≤ 255 := by rw [List.length_take]; omega
          have hT := Hid.intro (text_any (hO'.out.below below_drw) hpp (by show (wires (os.take i)).length ≤ _; have := hlf.out; omega) (eb.take m))
          rw [show wText (some (wires (os.take i))) (eb.take m) = some (wires (os.take (i + 1))) by unfold wText; rw [if_pos ht1, hwt.out]; rfl] at hT
          have hst0 := Hid.intro (hB'.out.drew)
          clear htk ht1 hwk hm
          go_wp2_with fail
          clear d0 d1 d2 d3 d4
          refine wp_region_held_drew (S := fun w' => Below w1.heap.size w1 w') (by kernel_rfl) (hst0.out) (fun hHeld => ?_)
          refine wpAnyH_take (i := 0) (v := .pointer (some ⟨p, 0, none⟩)) rfl (by kernel_rfl) (by kernel_rfl) (by kernel_rfl) (fun _ _ _ h => h) (Or.inl ⟨by rfl, fun w' hSw => by clear hSw; go_simp⟩) hHeld ?_
          change wpAnyH _ _ _ _ _ _ _ (Act.put _ (some 66) _) _
          simp only [Act.put, List.setIfInBounds_toArray, List.set_cons_zero, List.set_cons_succ]
          refine wpAnyH_take (i := 1) (v := .slice (some ⟨g, o, none⟩) os.length c) rfl (by kernel_rfl) (by kernel_rfl) (by kernel_rfl) (fun _ _ _ h => h) (Or.inl ⟨by rfl, fun w' hSw => by clear hSw; go_simp⟩) hHeld ?_
          change wpAnyH _ _ _ _ _ _ _ (Act.put _ (some 67) _) _
          simp only [Act.put, List.setIfInBounds_toArray, List.set_cons_zero, List.set_cons_succ]
          refine wpAnyH_take (i := 2) (v := .int .i64 (i : Int)) rfl (by kernel_rfl) (by kernel_rfl) (by kernel_rfl) (fun _ _ _ h => h) (Or.inl ⟨by rfl, fun w' hSw => by clear hSw; go_simp⟩) hHeld ?_
          change wpAnyH _ _ _ _ _ _ _ (Act.put _ (some 68) _) _
          simp only [Act.put, List.setIfInBounds_toArray, List.set_cons_zero, List.set_cons_succ]
          refine wpAnyH_take (i := 3) (v := .pointer (some ⟨g, o + i * 5, none⟩)) rfl (by kernel_rfl) (by kernel_rfl) (by kernel_rfl) (fun _ _ _ h => h) (Or.inl ⟨by rfl, fun w' hSw => by clear hSw; go_simp⟩) hHeld ?_
          change wpAnyH _ _ _ _ _ _ _ (Act.put _ (some 69) _) _
          simp only [Act.put, List.setIfInBounds_toArray, List.set_cons_zero, List.set_cons_succ]
          refine wpAnyH_take (i := 4) (v := .pointer (some ⟨g, o + i * 5 + 3, none⟩)) rfl (by kernel_rfl) (by kernel_rfl) (by kernel_rfl) (fun _ _ _ h => h) (Or.inl ⟨by rfl, fun w' hSw => by clear hSw; go_simp⟩) hHeld ?_
          change wpAnyH _ _ _ _ _ _ _ (Act.put _ (some 70) _) _
          simp only [Act.put, List.setIfInBounds_toArray, List.set_cons_zero, List.set_cons_succ]
          refine wpAnyH_take (i := 5) (v := .string (str eb)) rfl (by kernel_rfl) (by kernel_rfl) (by kernel_rfl) (fun _ _ _ h => h) (Or.inl ⟨by rfl, fun w' hSw => by have hc := (hC.out w' hSw).2.2.2.1; clear hSw; go_simp⟩) hHeld ?_
          change wpAnyH _ _ _ _ _ _ _ (Act.put _ (some 71) _) _
          simp only [Act.put, List.setIfInBounds_toArray, List.set_cons_zero, List.set_cons_succ]
          refine wpAnyH_take (i := 6) (v := .slice (some ⟨g, o, none⟩) os.length c) rfl (by kernel_rfl) (by kernel_rfl) (by kernel_rfl) (fun _ _ _ h => h) (Or.inl ⟨by rfl, fun w' hSw => by clear hSw; go_simp⟩) hHeld ?_
          change wpAnyH _ _ _ _ _ _ _ (Act.put _ (some 72) _) _
          simp only [Act.put, List.setIfInBounds_toArray, List.set_cons_zero, List.set_cons_succ]
          refine wpAnyH_take (i := 7) (v := .int .i64 (i : Int)) rfl (by kernel_rfl) (by kernel_rfl) (by kernel_rfl) (fun _ _ _ h => h) (Or.inl ⟨by rfl, fun w' hSw => by clear hSw; go_simp⟩) hHeld ?_
          change wpAnyH _ _ _ _ _ _ _ (Act.put _ (some 73) _) _
          simp only [Act.put, List.setIfInBounds_toArray, List.set_cons_zero, List.set_cons_succ]
          refine wpAnyH_take (i := 8) (v := .pointer (some ⟨g, o + i * 5, none⟩)) rfl (by kernel_rfl) (by kernel_rfl) (by kernel_rfl) (fun _ _ _ h => h) (Or.inl ⟨by rfl, fun w' hSw => by clear hSw; go_simp⟩) hHeld ?_
          change wpAnyH _ _ _ _ _ _ _ (Act.put _ (some 74) _) _
          simp only [Act.put, List.setIfInBounds_toArray, List.set_cons_zero, List.set_cons_succ]
          refine wpAnyH_take (i := 9) (v := .pointer (some ⟨g, o + i * 5 + 3, none⟩)) rfl (by kernel_rfl) (by kernel_rfl) (by kernel_rfl) (fun _ _ _ h => h) (Or.inl ⟨by rfl, fun w' hSw => by clear hSw; go_simp⟩) hHeld ?_
          change wpAnyH _ _ _ _ _ _ _ (Act.put _ (some 75) _) _
          simp only [Act.put, List.setIfInBounds_toArray, List.set_cons_zero, List.set_cons_succ]
          refine wpAnyH_take (i := 10) (v := .string (str eb)) rfl (by kernel_rfl) (by kernel_rfl) (by kernel_rfl) (fun _ _ _ h => h) (Or.inl ⟨by rfl, fun w' hSw => by have hc := (hC.out w' hSw).2.2.2.1; clear hSw; go_simp⟩) hHeld ?_
          change wpAnyH _ _ _ _ _ _ _ (Act.put _ (some 76) _) _
          simp only [Act.put, List.setIfInBounds_toArray, List.set_cons_zero, List.set_cons_succ]
          refine wpAnyH_take (i := 11) (v := .int .i64 (eb.length : Int)) rfl (by kernel_rfl) (by kernel_rfl) (by kernel_rfl) (fun _ _ _ h => h) (Or.inl ⟨by rfl, fun w' hSw => by clear hSw; go_simp⟩) hHeld ?_
          change wpAnyH _ _ _ _ _ _ _ (Act.put _ (some 77) _) _
          simp only [Act.put, List.setIfInBounds_toArray, List.set_cons_zero, List.set_cons_succ]
          refine wpAnyH_take (i := 12) (v := .int .i64 (m : Int)) rfl (by kernel_rfl) (by kernel_rfl) (by kernel_rfl) (fun _ _ _ h => h) (Or.inl ⟨by rfl, fun w' hSw => by clear hSw; go_simp⟩) hHeld ?_
          change wpAnyH _ _ _ _ _ _ _ (Act.put _ (some 78) _) _
          simp only [Act.put, List.setIfInBounds_toArray, List.set_cons_zero, List.set_cons_succ]
          refine wpAnyH_take (i := 13) (v := .string (str (eb.take m))) rfl (by kernel_rfl) (by kernel_rfl) (by kernel_rfl) (fun _ _ _ h => h) (Or.inl ⟨by rfl, fun w' hSw => by clear hSw; go_simp⟩) hHeld ?_
          change wpAnyH _ _ _ _ _ _ _ (Act.put _ (some 79) _) _
          simp only [Act.put, List.setIfInBounds_toArray, List.set_cons_zero, List.set_cons_succ]
          refine wpAnyH_ready (rs := [14]) (by kernel_rfl) (by simp) ?_
          refine AllReadyH.cons rfl (fun K hK => ?_) AllReadyH.nil
          go_simp
          refine (hT.out).mono ?_; rintro e w5 ⟨rfl, c1, _, c3⟩
          refine hK.out _ _ (hst0.out.trans c3) (fun hHeld => ?_); clear hK K
          refine wpAnyH_done (by kernel_rfl) ?_ _
          have hO7 := Hid.intro c1
          have hB7 := Hid.intro hHeld
          clear c1 c3 hHeld hT hst0
          go_wp2
          go_roundw
          case rel => exact ⟨i + 1, by omega, by go_num, hO7.out, hB7.out⟩
          case measure => simp [intOf]; omega
        · have e1 : (ek == 1) = false := beq_false_of_ne hk1
          have e2 : (ek == 2) = false := beq_false_of_ne hk2
          have hwk : wire ⟨ek, ev, en, eb, elv, el⟩ = lay (tidL el) := by unfold wire; rw [if_neg hk1, if_neg hk2]
          rw [hwk] at hwt
          have hTd := Hid.intro (tidL_any (hRow.out.below hB'.out) (show el.length ≤ 1000000 by omega))
          have ht := tid_ti el
          have ht64 := ti_len ht
          have hX := Hid.intro (fun w' v' (g : OutO w' w1.heap.size p (some (wires (os.take i)))) (r : BkE.Row w' v' (tidL el)) => exts_any g hpp (by show (wires (os.take i)).length ≤ _; have := hlf.out; omega) r (fun x hx => by have := ti_by ht x hx; unfold By at this; omega) (by omega))
          rw [show wExt (some (wires (os.take i))) (tidL el) = some (wires (os.take (i + 1))) by unfold wExt; rw [if_pos ht, hwt.out]; rfl] at hX
          clear ht ht64 hwk
          go_wp2_with fail
          clear d0 d1 d2 d3 d4
          refine hTd.out.mono ?_; rintro e w5 ⟨tv, rfl, c1, c2⟩
          have hr5 := Hid.intro (BkE.own_row c1)
          have hO5 := Hid.intro (hO'.out.below c2)
          have hB5 := Hid.intro (hB'.out.trans (c2.mono hB'.out.size))
          clear c1 c2 hTd
          go_wp2_with fail
          refine (hX.out _ _ hO5.out hr5.out).mono ?_; rintro e w7 ⟨rfl, c1, _, c3⟩
          have hO7 := Hid.intro c1
          have hB7 := Hid.intro (hB5.out.trans c3)
          clear c1 c3 hX hO5 hB5
          go_wp2
          go_roundw
          case rel => exact ⟨i + 1, by omega, by go_num, hO7.out, hB7.out⟩
          case measure => simp [intOf]; omega
    · have i1 : ¬ (i : Int) < (os.length : Int) := by omega
      have hii : i = os.length := by omega
      subst hii
      rw [List.take_length] at hO
      have hD := Hid.intro (done_any hO)
      change Hid (Calls Try.prog 19 _ wr fun e w' => e = .returned (.tuple #[.string (str (wires os)), .int .i64 0]) ∧ _) at hD
      have hB' := Hid.intro hB
      clear hO hB
      have hdz : wires (os.drop 0) = wires os := by rw [List.drop_zero]
      rw [← hdz] at hD
      clear hdz
      go_wp2_with fail
      refine hD.out.mono ?_; rintro e w4 ⟨rfl, b⟩
      have hB4 := Hid.intro (hB'.out.trans (b.mono hB'.out.size))
      clear b hB' hD
      go_wp2_with fail
      refine (from_any (wires (os.drop 0)) w4).mono ?_; rintro e w5 ⟨rfl, a1, a2, _⟩
      have hI0 := Hid.intro a1
      have hqb := Hid.intro hB4.out.size
      have hB5 := Hid.intro (hB4.out.trans (a2.mono hqb.out))
      clear a1 a2 hB4
      generalize w4.heap.size = q at *
      go_wp2_with fail
      go_loopw [8] (fun jv wr => ∃ i : Nat, i ≤ os.length ∧ jv = .int .i64 i ∧ InO wr q (some (wires (os.drop i))) ∧ Below w1.heap.size w1 wr) (fun jv _ => os.length - (intOf jv).toNat)
      case atStart => exact ⟨0, Nat.zero_le _, rfl, hI0.out, hB5.out⟩
      case round =>
        obtain ⟨i, hi, rfl, hI, hB⟩ := hrel
        have i0 : (0 : Int) ≤ (i : Int) := Int.natCast_nonneg _
        have hqq := hqb.out
        by_cases hlt : i < os.length
        · have i1 : (i : Int) < (os.length : Int) := by omega
          obtain ⟨g, o, ⟨ek, ev, en, eb, elv, el⟩, rfl, hg, he, hop⟩ := op_at h'.out hlt
          obtain ⟨_, hl80⟩ := hLt'.out _ (List.mem_of_getElem? he)
          simp only at hl80
          have hC := Hid.intro (show ∀ w', Below w1.heap.size w1 w' → w'.cell? ⟨g, o + i * 5, none⟩ = some (.int .i64 ek) ∧ w'.cell? ⟨g, o + i * 5 + 1, none⟩ = some (.int .i64 ev) ∧ w'.cell? ⟨g, o + i * 5 + 2, none⟩ = some (.int .i64 en) ∧ w'.cell? ⟨g, o + i * 5 + 3, none⟩ = some (.string (str eb)) ∧ w'.cell? ⟨g, o + i * 5 + 4, none⟩ = some elv from fun w' hb => by
            have r := hop.below hb hg
            exact ⟨r.c0, r.c1, r.c2, r.c3, r.c4⟩)
          have hRow := Hid.intro (show BkE.Row w1 elv el from hop.row)
          have hwd := Hid.intro (wires_drop he)
          have hI' := Hid.intro hI
          have hB' := Hid.intro hB
          obtain ⟨d0, d1, d2, d3, d4⟩ := hC.out _ hB
          clear hop he hI hB
          by_cases hk1 : ek = 1
          · subst hk1
            have hwk : wire ⟨1, ev, en, eb, elv, el⟩ = wireN ev := by unfold wire; exact if_pos rfl
            rw [hwk] at hwd
            rw [hwd.out] at hI'
            obtain ⟨m1, m2, m3, m4, m5, m6⟩ := wire_num (v := ev) (R := wires (os.drop (i + 1)))
            have a8 := and_8 ev
            have a16 := and_16 ev
            have a32 := and_32 ev
            have n1 := Hid.intro (inum_any (hI'.out.below below_drw) hqq 1)
            rw [m1, m2] at n1
            have n2 := Hid.intro (fun w' (g : InO w' q (some (num (lo ev 16) 2 ++ (num (lo ev 32) 4 ++ wires (os.drop (i + 1)))))) => inum_any g hqq 2)
            rw [m3, m4] at n2
            have n3 := Hid.intro (fun w' (g : InO w' q (some (num (lo ev 32) 4 ++ wires (os.drop (i + 1))))) => inum_any g hqq 4)
            rw [m5, m6] at n3
            have hst0 := Hid.intro (hB'.out.drew)
            clear m1 m2 m3 m4 m5 m6 hwk hwd
            generalize num (lo ev 16) 2 ++ (num (lo ev 32) 4 ++ wires (os.drop (i + 1))) = T1 at *
            generalize num (lo ev 32) 4 ++ wires (os.drop (i + 1)) = T2 at *
            generalize lo ev 8 = L8 at *
            generalize lo ev 16 = L16 at *
            generalize lo ev 32 = L32 at *
            go_wp2_with fail
            clear d0 d1 d2 d3 d4
            refine wp_region_held_drew (S := fun w' => Below w1.heap.size w1 w') (by kernel_rfl) (hst0.out) (fun hHeld => ?_)
            refine wpAnyH_take (i := 0) (v := .pointer (some ⟨q, 0, none⟩)) rfl (by kernel_rfl) (by kernel_rfl) (by kernel_rfl) (fun _ _ _ h => h) (Or.inl ⟨by rfl, fun w' hSw => by clear hSw; go_simp⟩) hHeld ?_
            change wpAnyH _ _ _ _ _ _ _ (Act.put _ (some 113) _) _
            simp only [Act.put, List.setIfInBounds_toArray, List.set_cons_zero, List.set_cons_succ]
            refine wpAnyH_take (i := 2) (v := .slice (some ⟨g, o, none⟩) os.length c) rfl (by kernel_rfl) (by kernel_rfl) (by kernel_rfl) (fun _ _ _ h => h) (Or.inl ⟨by rfl, fun w' hSw => by clear hSw; go_simp⟩) hHeld ?_
            change wpAnyH _ _ _ _ _ _ _ (Act.put _ (some 115) _) _
            simp only [Act.put, List.setIfInBounds_toArray, List.set_cons_zero, List.set_cons_succ]
            refine wpAnyH_take (i := 3) (v := .int .i64 (i : Int)) rfl (by kernel_rfl) (by kernel_rfl) (by kernel_rfl) (fun _ _ _ h => h) (Or.inl ⟨by rfl, fun w' hSw => by clear hSw; go_simp⟩) hHeld ?_
            change wpAnyH _ _ _ _ _ _ _ (Act.put _ (some 116) _) _
            simp only [Act.put, List.setIfInBounds_toArray, List.set_cons_zero, List.set_cons_succ]
            refine wpAnyH_take (i := 4) (v := .pointer (some ⟨g, o + i * 5, none⟩)) rfl (by kernel_rfl) (by kernel_rfl) (by kernel_rfl) (fun _ _ _ h => h) (Or.inl ⟨by rfl, fun w' hSw => by clear hSw; go_simp⟩) hHeld ?_
            change wpAnyH _ _ _ _ _ _ _ (Act.put _ (some 117) _) _
            simp only [Act.put, List.setIfInBounds_toArray, List.set_cons_zero, List.set_cons_succ]
            refine wpAnyH_take (i := 5) (v := .pointer (some ⟨g, o + i * 5 + 1, none⟩)) rfl (by kernel_rfl) (by kernel_rfl) (by kernel_rfl) (fun _ _ _ h => h) (Or.inl ⟨by rfl, fun w' hSw => by clear hSw; go_simp⟩) hHeld ?_
            change wpAnyH _ _ _ _ _ _ _ (Act.put _ (some 118) _) _
            simp only [Act.put, List.setIfInBounds_toArray, List.set_cons_zero, List.set_cons_succ]
            refine wpAnyH_take (i := 6) (v := .int .i64 ev) rfl (by kernel_rfl) (by kernel_rfl) (by kernel_rfl) (fun _ _ _ h => h) (Or.inl ⟨by rfl, fun w' hSw => by have hc := (hC.out w' hSw).2.1; clear hSw; go_simp⟩) hHeld ?_
            change wpAnyH _ _ _ _ _ _ _ (Act.put _ (some 119) _) _
            simp only [Act.put, List.setIfInBounds_toArray, List.set_cons_zero, List.set_cons_succ]
            refine wpAnyH_take (i := 7) (v := .int .i64 (L8 : Int)) rfl (by kernel_rfl) (by kernel_rfl) (by kernel_rfl) (fun _ _ _ h => h) (Or.inl ⟨by rfl, fun w' hSw => by clear hSw; go_simp⟩) hHeld ?_
            change wpAnyH _ _ _ _ _ _ _ (Act.put _ (some 120) _) _
            simp only [Act.put, List.setIfInBounds_toArray, List.set_cons_zero, List.set_cons_succ]
            refine wpAnyH_ready (rs := [1]) (by kernel_rfl) (by simp) ?_
            refine AllReadyH.cons rfl (fun K hK => ?_) AllReadyH.nil
            go_simp
            refine (n1.out).mono ?_; rintro e w5 ⟨rfl, a1, _, a3⟩
            refine hK.out _ _ (hst0.out.trans a3) (fun hHeld => ?_); clear hK K
            refine wpAnyH_take (i := 8) (v := .bool false) rfl (by kernel_rfl) (by kernel_rfl) (by kernel_rfl) (fun _ _ _ h => h) (Or.inl ⟨by rfl, fun w' hSw => by clear hSw; go_simp⟩) hHeld ?_
            change wpAnyH _ _ _ _ _ _ _ (Act.put _ (some 121) _) _
            simp only [Act.put, List.setIfInBounds_toArray, List.set_cons_zero, List.set_cons_succ]
            refine wpAnyH_take (i := 9) (v := .bool false) rfl (by kernel_rfl) (by kernel_rfl) (by kernel_rfl) (fun _ _ _ h => h) (Or.inl ⟨by rfl, fun w' hSw => by clear hSw; go_simp⟩) hHeld ?_
            change wpAnyH _ _ _ _ _ _ _ (Act.put _ (some 122) _) _
            simp only [Act.put, List.setIfInBounds_toArray, List.set_cons_zero, List.set_cons_succ]
            refine wpAnyH_take (i := 10) (v := .pointer (some ⟨q, 0, none⟩)) rfl (by kernel_rfl) (by kernel_rfl) (by kernel_rfl) (fun _ _ _ h => h) (Or.inl ⟨by rfl, fun w' hSw => by clear hSw; go_simp⟩) hHeld ?_
            change wpAnyH _ _ _ _ _ _ _ (Act.put _ (some 123) _) _
            simp only [Act.put, List.setIfInBounds_toArray, List.set_cons_zero, List.set_cons_succ]
            refine wpAnyH_take (i := 12) (v := .slice (some ⟨g, o, none⟩) os.length c) rfl (by kernel_rfl) (by kernel_rfl) (by kernel_rfl) (fun _ _ _ h => h) (Or.inl ⟨by rfl, fun w' hSw => by clear hSw; go_simp⟩) hHeld ?_
            change wpAnyH _ _ _ _ _ _ _ (Act.put _ (some 125) _) _
            simp only [Act.put, List.setIfInBounds_toArray, List.set_cons_zero, List.set_cons_succ]
            refine wpAnyH_take (i := 13) (v := .int .i64 (i : Int)) rfl (by kernel_rfl) (by kernel_rfl) (by kernel_rfl) (fun _ _ _ h => h) (Or.inl ⟨by rfl, fun w' hSw => by clear hSw; go_simp⟩) hHeld ?_
            change wpAnyH _ _ _ _ _ _ _ (Act.put _ (some 126) _) _
            simp only [Act.put, List.setIfInBounds_toArray, List.set_cons_zero, List.set_cons_succ]
            refine wpAnyH_take (i := 14) (v := .pointer (some ⟨g, o + i * 5, none⟩)) rfl (by kernel_rfl) (by kernel_rfl) (by kernel_rfl) (fun _ _ _ h => h) (Or.inl ⟨by rfl, fun w' hSw => by clear hSw; go_simp⟩) hHeld ?_
            change wpAnyH _ _ _ _ _ _ _ (Act.put _ (some 127) _) _
            simp only [Act.put, List.setIfInBounds_toArray, List.set_cons_zero, List.set_cons_succ]
            refine wpAnyH_take (i := 15) (v := .pointer (some ⟨g, o + i * 5 + 1, none⟩)) rfl (by kernel_rfl) (by kernel_rfl) (by kernel_rfl) (fun _ _ _ h => h) (Or.inl ⟨by rfl, fun w' hSw => by clear hSw; go_simp⟩) hHeld ?_
            change wpAnyH _ _ _ _ _ _ _ (Act.put _ (some 128) _) _
            simp only [Act.put, List.setIfInBounds_toArray, List.set_cons_zero, List.set_cons_succ]
            refine wpAnyH_take (i := 16) (v := .int .i64 ev) rfl (by kernel_rfl) (by kernel_rfl) (by kernel_rfl) (fun _ _ _ h => h) (Or.inl ⟨by rfl, fun w' hSw => by have hc := (hC.out w' hSw).2.1; clear hSw; go_simp⟩) hHeld ?_
            change wpAnyH _ _ _ _ _ _ _ (Act.put _ (some 129) _) _
            simp only [Act.put, List.setIfInBounds_toArray, List.set_cons_zero, List.set_cons_succ]
            refine wpAnyH_take (i := 17) (v := .int .i64 (L16 : Int)) rfl (by kernel_rfl) (by kernel_rfl) (by kernel_rfl) (fun _ _ _ h => h) (Or.inl ⟨by rfl, fun w' hSw => by clear hSw; go_simp⟩) hHeld ?_
            change wpAnyH _ _ _ _ _ _ _ (Act.put _ (some 130) _) _
            simp only [Act.put, List.setIfInBounds_toArray, List.set_cons_zero, List.set_cons_succ]
            refine wpAnyH_ready (rs := [11]) (by kernel_rfl) (by simp) ?_
            refine AllReadyH.cons rfl (fun K hK => ?_) AllReadyH.nil
            go_simp
            refine (n2.out _ a1).mono ?_; rintro e w6 ⟨rfl, b1, _, b3⟩
            refine hK.out _ _ (hHeld.trans b3) (fun hHeld => ?_); clear hK K
            refine wpAnyH_take (i := 18) (v := .bool false) rfl (by kernel_rfl) (by kernel_rfl) (by kernel_rfl) (fun _ _ _ h => h) (Or.inl ⟨by rfl, fun w' hSw => by clear hSw; go_simp⟩) hHeld ?_
            change wpAnyH _ _ _ _ _ _ _ (Act.put _ (some 131) _) _
            simp only [Act.put, List.setIfInBounds_toArray, List.set_cons_zero, List.set_cons_succ]
            refine wpAnyH_take (i := 19) (v := .bool false) rfl (by kernel_rfl) (by kernel_rfl) (by kernel_rfl) (fun _ _ _ h => h) (Or.inl ⟨by rfl, fun w' hSw => by clear hSw; go_simp⟩) hHeld ?_
            change wpAnyH _ _ _ _ _ _ _ (Act.put _ (some 132) _) _
            simp only [Act.put, List.setIfInBounds_toArray, List.set_cons_zero, List.set_cons_succ]
            refine wpAnyH_take (i := 20) (v := .bool false) rfl (by kernel_rfl) (by kernel_rfl) (by kernel_rfl) (fun _ _ _ h => h) (Or.inl ⟨by rfl, fun w' hSw => by clear hSw; go_simp⟩) hHeld ?_
            change wpAnyH _ _ _ _ _ _ _ (Act.put _ (some 133) _) _
            simp only [Act.put, List.setIfInBounds_toArray, List.set_cons_zero, List.set_cons_succ]
            refine wpAnyH_take (i := 21) (v := .pointer (some ⟨q, 0, none⟩)) rfl (by kernel_rfl) (by kernel_rfl) (by kernel_rfl) (fun _ _ _ h => h) (Or.inl ⟨by rfl, fun w' hSw => by clear hSw; go_simp⟩) hHeld ?_
            change wpAnyH _ _ _ _ _ _ _ (Act.put _ (some 134) _) _
            simp only [Act.put, List.setIfInBounds_toArray, List.set_cons_zero, List.set_cons_succ]
            refine wpAnyH_take (i := 23) (v := .slice (some ⟨g, o, none⟩) os.length c) rfl (by kernel_rfl) (by kernel_rfl) (by kernel_rfl) (fun _ _ _ h => h) (Or.inl ⟨by rfl, fun w' hSw => by clear hSw; go_simp⟩) hHeld ?_
            change wpAnyH _ _ _ _ _ _ _ (Act.put _ (some 136) _) _
            simp only [Act.put, List.setIfInBounds_toArray, List.set_cons_zero, List.set_cons_succ]
            refine wpAnyH_take (i := 24) (v := .int .i64 (i : Int)) rfl (by kernel_rfl) (by kernel_rfl) (by kernel_rfl) (fun _ _ _ h => h) (Or.inl ⟨by rfl, fun w' hSw => by clear hSw; go_simp⟩) hHeld ?_
            change wpAnyH _ _ _ _ _ _ _ (Act.put _ (some 137) _) _
            simp only [Act.put, List.setIfInBounds_toArray, List.set_cons_zero, List.set_cons_succ]
            refine wpAnyH_take (i := 25) (v := .pointer (some ⟨g, o + i * 5, none⟩)) rfl (by kernel_rfl) (by kernel_rfl) (by kernel_rfl) (fun _ _ _ h => h) (Or.inl ⟨by rfl, fun w' hSw => by clear hSw; go_simp⟩) hHeld ?_
            change wpAnyH _ _ _ _ _ _ _ (Act.put _ (some 138) _) _
            simp only [Act.put, List.setIfInBounds_toArray, List.set_cons_zero, List.set_cons_succ]
            refine wpAnyH_take (i := 26) (v := .pointer (some ⟨g, o + i * 5 + 1, none⟩)) rfl (by kernel_rfl) (by kernel_rfl) (by kernel_rfl) (fun _ _ _ h => h) (Or.inl ⟨by rfl, fun w' hSw => by clear hSw; go_simp⟩) hHeld ?_
            change wpAnyH _ _ _ _ _ _ _ (Act.put _ (some 139) _) _
            simp only [Act.put, List.setIfInBounds_toArray, List.set_cons_zero, List.set_cons_succ]
            refine wpAnyH_take (i := 27) (v := .int .i64 ev) rfl (by kernel_rfl) (by kernel_rfl) (by kernel_rfl) (fun _ _ _ h => h) (Or.inl ⟨by rfl, fun w' hSw => by have hc := (hC.out w' hSw).2.1; clear hSw; go_simp⟩) hHeld ?_
            change wpAnyH _ _ _ _ _ _ _ (Act.put _ (some 140) _) _
            simp only [Act.put, List.setIfInBounds_toArray, List.set_cons_zero, List.set_cons_succ]
            refine wpAnyH_take (i := 28) (v := .int .i64 (L32 : Int)) rfl (by kernel_rfl) (by kernel_rfl) (by kernel_rfl) (fun _ _ _ h => h) (Or.inl ⟨by rfl, fun w' hSw => by clear hSw; go_simp⟩) hHeld ?_
            change wpAnyH _ _ _ _ _ _ _ (Act.put _ (some 141) _) _
            simp only [Act.put, List.setIfInBounds_toArray, List.set_cons_zero, List.set_cons_succ]
            refine wpAnyH_ready (rs := [22]) (by kernel_rfl) (by simp) ?_
            refine AllReadyH.cons rfl (fun K hK => ?_) AllReadyH.nil
            go_simp
            refine (n3.out _ b1).mono ?_; rintro e w7 ⟨rfl, c1, _, c3⟩
            refine hK.out _ _ (hHeld.trans c3) (fun hHeld => ?_); clear hK K
            refine wpAnyH_take (i := 29) (v := .bool false) rfl (by kernel_rfl) (by kernel_rfl) (by kernel_rfl) (fun _ _ _ h => h) (Or.inl ⟨by rfl, fun w' hSw => by clear hSw; go_simp⟩) hHeld ?_
            change wpAnyH _ _ _ _ _ _ _ (Act.put _ (some 142) _) _
            simp only [Act.put, List.setIfInBounds_toArray, List.set_cons_zero, List.set_cons_succ]
            refine wpAnyH_take (i := 30) (v := .bool false) rfl (by kernel_rfl) (by kernel_rfl) (by kernel_rfl) (fun _ _ _ h => h) (Or.inl ⟨by rfl, fun w' hSw => by clear hSw; go_simp⟩) hHeld ?_
            change wpAnyH _ _ _ _ _ _ _ (Act.put _ (some 143) _) _
            simp only [Act.put, List.setIfInBounds_toArray, List.set_cons_zero, List.set_cons_succ]
            refine wpAnyH_done (by kernel_rfl) ?_ _
            have hI7 := Hid.intro c1
            have hB7 := Hid.intro hHeld
            clear hHeld a1 a3 b1 b3 c1 c3 n1 n2 n3 hst0
            go_wp2
            go_roundw
            case rel => exact ⟨i + 1, by omega, by go_num, hI7.out, hB7.out⟩
            case measure => simp [intOf]; omega
          · by_cases hk2 : ek = 2
            · subst hk2
              have hwk : wire ⟨2, ev, en, eb, elv, el⟩ = txt (eb.take 255) := by unfold wire; rw [if_neg (by simp), if_pos rfl]
              rw [hwk] at hwd
              obtain ⟨m, hm⟩ : ∃ m : Nat, m = min eb.length 255 := ⟨_, rfl⟩
              have hmi : min (eb.length : Int) 255 = (m : Int) := by omega
              have hm1 : (m : Int) ≤ (eb.length : Int) := by omega
              have hm0 : (0 : Int) ≤ (m : Int) := Int.natCast_nonneg _
              have htk : eb.take 255 = eb.take m := by
                rw [hm]
                by_cases h : eb.length ≤ 255
                · rw [Nat.min_eq_left h, List.take_of_length_le h, List.take_of_length_le (Nat.le_refl _)]
                · rw [Nat.min_eq_right (by omega)]
              rw [htk] at hwd
              rw [hwd.out] at hI'
              obtain ⟨m2, m3⟩ := text_read (eb.take m) (wires (os.drop (i + 1))) (by rw [List.length_take]; omega)
              have n1 := Hid.intro (itext_any (hI'.out.below below_drw) hqq)
              rw [m2, m3] at n1
              have hst0 := Hid.intro (hB'.out.drew)
              clear m2 m3 hwk hwd htk hm
              go_wp2_with fail
              clear d0 d1 d2 d3 d4
              refine wp_region_held_drew (S := fun w' => Below w1.heap.size w1 w') (by kernel_rfl) (hst0.out) (fun hHeld => ?_)
              refine wpAnyH_take (i := 0) (v := .pointer (some ⟨q, 0, none⟩)) rfl (by kernel_rfl) (by kernel_rfl) (by kernel_rfl) (fun _ _ _ h => h) (Or.inl ⟨by rfl, fun w' hSw => by clear hSw; go_simp⟩) hHeld ?_
              change wpAnyH _ _ _ _ _ _ _ (Act.put _ (some 146) _) _
              simp only [Act.put, List.setIfInBounds_toArray, List.set_cons_zero, List.set_cons_succ]
              refine wpAnyH_take (i := 2) (v := .slice (some ⟨g, o, none⟩) os.length c) rfl (by kernel_rfl) (by kernel_rfl) (by kernel_rfl) (fun _ _ _ h => h) (Or.inl ⟨by rfl, fun w' hSw => by clear hSw; go_simp⟩) hHeld ?_
              change wpAnyH _ _ _ _ _ _ _ (Act.put _ (some 148) _) _
              simp only [Act.put, List.setIfInBounds_toArray, List.set_cons_zero, List.set_cons_succ]
              refine wpAnyH_take (i := 3) (v := .int .i64 (i : Int)) rfl (by kernel_rfl) (by kernel_rfl) (by kernel_rfl) (fun _ _ _ h => h) (Or.inl ⟨by rfl, fun w' hSw => by clear hSw; go_simp⟩) hHeld ?_
              change wpAnyH _ _ _ _ _ _ _ (Act.put _ (some 149) _) _
              simp only [Act.put, List.setIfInBounds_toArray, List.set_cons_zero, List.set_cons_succ]
              refine wpAnyH_take (i := 4) (v := .pointer (some ⟨g, o + i * 5, none⟩)) rfl (by kernel_rfl) (by kernel_rfl) (by kernel_rfl) (fun _ _ _ h => h) (Or.inl ⟨by rfl, fun w' hSw => by clear hSw; go_simp⟩) hHeld ?_
              change wpAnyH _ _ _ _ _ _ _ (Act.put _ (some 150) _) _
              simp only [Act.put, List.setIfInBounds_toArray, List.set_cons_zero, List.set_cons_succ]
              refine wpAnyH_take (i := 5) (v := .pointer (some ⟨g, o + i * 5 + 3, none⟩)) rfl (by kernel_rfl) (by kernel_rfl) (by kernel_rfl) (fun _ _ _ h => h) (Or.inl ⟨by rfl, fun w' hSw => by clear hSw; go_simp⟩) hHeld ?_
              change wpAnyH _ _ _ _ _ _ _ (Act.put _ (some 151) _) _
              simp only [Act.put, List.setIfInBounds_toArray, List.set_cons_zero, List.set_cons_succ]
              refine wpAnyH_take (i := 6) (v := .string (str eb)) rfl (by kernel_rfl) (by kernel_rfl) (by kernel_rfl) (fun _ _ _ h => h) (Or.inl ⟨by rfl, fun w' hSw => by have hc := (hC.out w' hSw).2.2.2.1; clear hSw; go_simp⟩) hHeld ?_
              change wpAnyH _ _ _ _ _ _ _ (Act.put _ (some 152) _) _
              simp only [Act.put, List.setIfInBounds_toArray, List.set_cons_zero, List.set_cons_succ]
              refine wpAnyH_take (i := 7) (v := .slice (some ⟨g, o, none⟩) os.length c) rfl (by kernel_rfl) (by kernel_rfl) (by kernel_rfl) (fun _ _ _ h => h) (Or.inl ⟨by rfl, fun w' hSw => by clear hSw; go_simp⟩) hHeld ?_
              change wpAnyH _ _ _ _ _ _ _ (Act.put _ (some 153) _) _
              simp only [Act.put, List.setIfInBounds_toArray, List.set_cons_zero, List.set_cons_succ]
              refine wpAnyH_take (i := 8) (v := .int .i64 (i : Int)) rfl (by kernel_rfl) (by kernel_rfl) (by kernel_rfl) (fun _ _ _ h => h) (Or.inl ⟨by rfl, fun w' hSw => by clear hSw; go_simp⟩) hHeld ?_
              change wpAnyH _ _ _ _ _ _ _ (Act.put _ (some 154) _) _
              simp only [Act.put, List.setIfInBounds_toArray, List.set_cons_zero, List.set_cons_succ]
              refine wpAnyH_take (i := 9) (v := .pointer (some ⟨g, o + i * 5, none⟩)) rfl (by kernel_rfl) (by kernel_rfl) (by kernel_rfl) (fun _ _ _ h => h) (Or.inl ⟨by rfl, fun w' hSw => by clear hSw; go_simp⟩) hHeld ?_
              change wpAnyH _ _ _ _ _ _ _ (Act.put _ (some 155) _) _
              simp only [Act.put, List.setIfInBounds_toArray, List.set_cons_zero, List.set_cons_succ]
              refine wpAnyH_take (i := 10) (v := .pointer (some ⟨g, o + i * 5 + 3, none⟩)) rfl (by kernel_rfl) (by kernel_rfl) (by kernel_rfl) (fun _ _ _ h => h) (Or.inl ⟨by rfl, fun w' hSw => by clear hSw; go_simp⟩) hHeld ?_
              change wpAnyH _ _ _ _ _ _ _ (Act.put _ (some 156) _) _
              simp only [Act.put, List.setIfInBounds_toArray, List.set_cons_zero, List.set_cons_succ]
              refine wpAnyH_take (i := 11) (v := .string (str eb)) rfl (by kernel_rfl) (by kernel_rfl) (by kernel_rfl) (fun _ _ _ h => h) (Or.inl ⟨by rfl, fun w' hSw => by have hc := (hC.out w' hSw).2.2.2.1; clear hSw; go_simp⟩) hHeld ?_
              change wpAnyH _ _ _ _ _ _ _ (Act.put _ (some 157) _) _
              simp only [Act.put, List.setIfInBounds_toArray, List.set_cons_zero, List.set_cons_succ]
              refine wpAnyH_take (i := 12) (v := .int .i64 (eb.length : Int)) rfl (by kernel_rfl) (by kernel_rfl) (by kernel_rfl) (fun _ _ _ h => h) (Or.inl ⟨by rfl, fun w' hSw => by clear hSw; go_simp⟩) hHeld ?_
              change wpAnyH _ _ _ _ _ _ _ (Act.put _ (some 158) _) _
              simp only [Act.put, List.setIfInBounds_toArray, List.set_cons_zero, List.set_cons_succ]
              refine wpAnyH_take (i := 13) (v := .int .i64 (m : Int)) rfl (by kernel_rfl) (by kernel_rfl) (by kernel_rfl) (fun _ _ _ h => h) (Or.inl ⟨by rfl, fun w' hSw => by clear hSw; go_simp⟩) hHeld ?_
              change wpAnyH _ _ _ _ _ _ _ (Act.put _ (some 159) _) _
              simp only [Act.put, List.setIfInBounds_toArray, List.set_cons_zero, List.set_cons_succ]
              refine wpAnyH_take (i := 14) (v := .string (str (eb.take m))) rfl (by kernel_rfl) (by kernel_rfl) (by kernel_rfl) (fun _ _ _ h => h) (Or.inl ⟨by rfl, fun w' hSw => by clear hSw; go_simp⟩) hHeld ?_
              change wpAnyH _ _ _ _ _ _ _ (Act.put _ (some 160) _) _
              simp only [Act.put, List.setIfInBounds_toArray, List.set_cons_zero, List.set_cons_succ]
              refine wpAnyH_ready (rs := [1]) (by kernel_rfl) (by simp) ?_
              refine AllReadyH.cons rfl (fun K hK => ?_) AllReadyH.nil
              go_simp
              refine (n1.out).mono ?_; rintro e w5 ⟨rfl, c1, _, c3⟩
              refine hK.out _ _ (hst0.out.trans c3) (fun hHeld => ?_); clear hK K
              refine wpAnyH_take (i := 15) (v := .bool false) rfl (by kernel_rfl) (by kernel_rfl) (by kernel_rfl) (fun _ _ _ h => h) (Or.inl ⟨by rfl, fun w' hSw => by clear hSw; go_simp⟩) hHeld ?_
              change wpAnyH _ _ _ _ _ _ _ (Act.put _ (some 161) _) _
              simp only [Act.put, List.setIfInBounds_toArray, List.set_cons_zero, List.set_cons_succ]
              refine wpAnyH_done (by kernel_rfl) ?_ _
              have hI7 := Hid.intro c1
              have hB7 := Hid.intro hHeld
              clear hHeld c1 c3 n1 hst0
              go_wp2
              go_roundw
              case rel => exact ⟨i + 1, by omega, by go_num, hI7.out, hB7.out⟩
              case measure => simp [intOf]; omega
            · have e1 : (ek == 1) = false := beq_false_of_ne hk1
              have e2 : (ek == 2) = false := beq_false_of_ne hk2
              have hwk : wire ⟨ek, ev, en, eb, elv, el⟩ = lay (tidL el) := by unfold wire; rw [if_neg hk1, if_neg hk2]
              rw [hwk] at hwd
              rw [hwd.out] at hI'
              have ht := tid_ti el
              have ht64 := ti_len ht
              obtain ⟨m2, m3⟩ := ext_read (tidL el) (wires (os.drop (i + 1))) ht
              have n1 := Hid.intro (dec_loop (hI'.out.below below_drw) hqq)
              rw [m2, m3] at n1
              have n2 := Hid.intro (fun w' (hb : Below w1.heap.size w1 w') => tidL_any (hRow.out.below hb) (show el.length ≤ 1000000 by omega))
              have hst0 := Hid.intro (hB'.out.drew)
              clear m2 m3 hwk hwd ht
              obtain ⟨la, lc, rfl⟩ := hRow.out.slice
              generalize tidL el = L at *
              go_wp2_with fail
              clear d0 d1 d2 d3 d4
              refine wp_region_held_drew (S := fun w' => Below w1.heap.size w1 w') (by kernel_rfl) (hst0.out) (fun hHeld => ?_)
              refine wpAnyH_take (i := 0) (v := .pointer (some ⟨q, 0, none⟩)) rfl (by kernel_rfl) (by kernel_rfl) (by kernel_rfl) (fun _ _ _ h => h) (Or.inl ⟨by rfl, fun w' hSw => by clear hSw; go_simp⟩) hHeld ?_
              change wpAnyH _ _ _ _ _ _ _ (Act.put _ (some 101) _) _
              simp only [Act.put, List.setIfInBounds_toArray, List.set_cons_zero, List.set_cons_succ]
              refine wpAnyH_take (i := 2) (v := .slice (some ⟨g, o, none⟩) os.length c) rfl (by kernel_rfl) (by kernel_rfl) (by kernel_rfl) (fun _ _ _ h => h) (Or.inl ⟨by rfl, fun w' hSw => by clear hSw; go_simp⟩) hHeld ?_
              change wpAnyH _ _ _ _ _ _ _ (Act.put _ (some 103) _) _
              simp only [Act.put, List.setIfInBounds_toArray, List.set_cons_zero, List.set_cons_succ]
              refine wpAnyH_take (i := 3) (v := .int .i64 (i : Int)) rfl (by kernel_rfl) (by kernel_rfl) (by kernel_rfl) (fun _ _ _ h => h) (Or.inl ⟨by rfl, fun w' hSw => by clear hSw; go_simp⟩) hHeld ?_
              change wpAnyH _ _ _ _ _ _ _ (Act.put _ (some 104) _) _
              simp only [Act.put, List.setIfInBounds_toArray, List.set_cons_zero, List.set_cons_succ]
              refine wpAnyH_take (i := 4) (v := .pointer (some ⟨g, o + i * 5, none⟩)) rfl (by kernel_rfl) (by kernel_rfl) (by kernel_rfl) (fun _ _ _ h => h) (Or.inl ⟨by rfl, fun w' hSw => by clear hSw; go_simp⟩) hHeld ?_
              change wpAnyH _ _ _ _ _ _ _ (Act.put _ (some 105) _) _
              simp only [Act.put, List.setIfInBounds_toArray, List.set_cons_zero, List.set_cons_succ]
              refine wpAnyH_take (i := 5) (v := .pointer (some ⟨g, o + i * 5 + 4, none⟩)) rfl (by kernel_rfl) (by kernel_rfl) (by kernel_rfl) (fun _ _ _ h => h) (Or.inl ⟨by rfl, fun w' hSw => by clear hSw; go_simp⟩) hHeld ?_
              change wpAnyH _ _ _ _ _ _ _ (Act.put _ (some 106) _) _
              simp only [Act.put, List.setIfInBounds_toArray, List.set_cons_zero, List.set_cons_succ]
              refine wpAnyH_take (i := 6) (v := .slice la el.length lc) rfl (by kernel_rfl) (by kernel_rfl) (by kernel_rfl) (fun _ _ _ h => h) (Or.inl ⟨by rfl, fun w' hSw => by have hc := (hC.out w' hSw).2.2.2.2; clear hSw; go_simp⟩) hHeld ?_
              change wpAnyH _ _ _ _ _ _ _ (Act.put _ (some 107) _) _
              simp only [Act.put, List.setIfInBounds_toArray, List.set_cons_zero, List.set_cons_succ]
              refine wpAnyH_ready (rs := [1]) (by kernel_rfl) (by simp) ?_
              refine AllReadyH.cons rfl (fun K hK => ?_) AllReadyH.nil
              go_simp
              refine (n1.out).mono ?_; rintro e w5 ⟨mv, rfl, a0, a1, _, a3⟩
              refine hK.out _ _ (hst0.out.trans a3) (fun hHeld => ?_); clear hK K
              refine wpAnyH_ready (rs := [7]) (by kernel_rfl) (by simp) ?_
              refine AllReadyH.cons rfl (fun K hK => ?_) AllReadyH.nil
              go_simp
              refine (n2.out _ hHeld).mono ?_; rintro e w6 ⟨tv, rfl, b0, b1⟩
              refine hK.out _ _ (hHeld.trans (b1.mono hHeld.size)) (fun hHeld => ?_); clear hK K
              refine wpAnyH_ready (rs := [8]) (by kernel_rfl) (by simp) ?_
              refine AllReadyH.cons rfl (fun K hK => ?_) AllReadyH.nil
              go_simp
              refine (BkE.same_rows ((BkE.own_row a0).below b1) (BkE.own_row b0) (by omega)).mono ?_; rintro e w7 ⟨rfl, c1⟩
              refine hK.out _ _ (hHeld.trans (c1.mono hHeld.size)) (fun hHeld => ?_); clear hK K
              refine wpAnyH_take (i := 9) (v := .bool false) rfl (by kernel_rfl) (by kernel_rfl) (by kernel_rfl) (fun _ _ _ h => h) (Or.inl ⟨by rfl, fun w' hSw => by clear hSw; go_simp⟩) hHeld ?_
              change wpAnyH _ _ _ _ _ _ _ (Act.put _ (some 110) _) _
              simp only [Act.put, List.setIfInBounds_toArray, List.set_cons_zero, List.set_cons_succ]
              refine wpAnyH_done (by kernel_rfl) ?_ _
              have hI7 := Hid.intro ((a1.below b1).below c1)
              have hB7 := Hid.intro hHeld
              clear hHeld a0 a1 a3 b0 b1 c1 n1 n2 hst0
              go_wp2
              go_roundw
              case rel => exact ⟨i + 1, by omega, by go_num, hI7.out, hB7.out⟩
              case measure => simp [intOf]; omega
        · have i1 : ¬ (i : Int) < (os.length : Int) := by omega
          have hii : i = os.length := by omega
          subst hii
          rw [List.drop_length] at hI
          have hI2 : InO wr q (some []) := hI
          have hDn := Hid.intro (idone_any hI2)
          have hLf := Hid.intro (left_any hI2)
          rw [show dn (some []) = 0 from rfl] at hDn
          rw [show lft (some []) = [] from rfl] at hLf
          have hB' := Hid.intro hB
          clear hI hI2 hB
          go_wp2_with fail
          refine hDn.out.mono ?_; rintro e w6 ⟨rfl, rfl⟩
          go_wp2_with fail
          refine hLf.out.mono ?_; rintro e w7 ⟨rfl, rfl⟩
          go_wp2
          go_ret
          exact ⟨rfl, hB'.out⟩
end Go.Proofs.Ytnboajhcjgcpfaa
