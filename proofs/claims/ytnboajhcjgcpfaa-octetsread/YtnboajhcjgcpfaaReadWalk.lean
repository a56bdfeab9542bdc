/-
  The walk of OctetsRead, for every input: it returns true; nothing that was there is written.
-/
import Derived.Test.YtnboajhcjgcpfaaReadA
namespace Go.Proofs.Ytnboajhcjgcpfaa
open Go.ChangeShapes Go.WideShapes Go.ChangeAt Go.RowKit
attribute [local go_sem ↓] Go.wp_at_zero Go.wp_at_succ
attribute [local go_sem] str_size str_extract str_append str_toList

set_option maxRecDepth 100000 in
set_option maxHeartbeats 4000000 in
theorem read_walk {W : World} {S : List UInt8} {v : Value} {os : List OpE} (h : OpsAt W v os) (h6 : S.length ≤ 600) (h60 : os.length ≤ 60) : Calls Try.prog 4 #[.string (str S), v] W fun e w' => e = .returned (.bool true) ∧ Below W.heap.size W w' := by
  have hA := Hid.intro (alive_any W)
  obtain ⟨a, c, rfl⟩ := h.slice
  have h' := Hid.intro h
  have z : ¬ (600 : Int) < (S.length : Int) := by omega
  have z2 : ¬ (60 : Int) < (os.length : Int) := by omega
  clear h h6
  go_enter Try.func4, Try.ntmps4
  go_wp2_with fail
  refine hA.out.mono ?_; rintro e w1 ⟨rfl, b⟩
  have hb1 := Hid.intro b
  clear b
  go_wp2_with fail
  refine (from_any S w1).mono ?_; rintro e w2 ⟨rfl, b1, b2, _⟩
  have hRS := Hid.intro (show RS W ((w2.alloc (.cells #[.string (str S), .bool false] 48)).alloc (.cells (BkE.bookCells (.slice none 0 0) (.slice none 0 0)) 58)) w1.heap.size w2.heap.size (w2.heap.size + 1) (some S) [] 0 from by
    have ba : Below w2.heap.size w2 (w2.alloc (.cells #[.string (str S), .bool false] 48)) := (Below.refl _ _).alloc (Nat.le_refl _) _
    have bc : Below (w2.alloc (.cells #[.string (str S), .bool false] 48)).heap.size (w2.alloc (.cells #[.string (str S), .bool false] 48)) ((w2.alloc (.cells #[.string (str S), .bool false] 48)).alloc (.cells (BkE.bookCells (.slice none 0 0) (.slice none 0 0)) 58)) := (Below.refl _ _).alloc (Nat.le_refl _) _
    have hk := BkE.kept_new (w2.alloc (.cells #[.string (str S), .bool false] 48)) (fun _ => True) W.heap.size trivial
    have hsz : (w2.alloc (.cells #[.string (str S), .bool false] 48)).heap.size = w2.heap.size + 1 := by simp
    rw [hsz] at hk
    exact ⟨(b1.below ba).below bc, (RInO.new w2 S).below bc, hk, Nat.le_refl _, (fun e he => by cases he), hb1.out.trans ((b2.trans ((below_step ba bc).mono b2.size)).mono hb1.out.size)⟩)
  have hps : Hid (W.heap.size ≤ w1.heap.size ∧ W.heap.size ≤ w2.heap.size ∧ W.heap.size ≤ w2.heap.size + 1) := Hid.intro (by have := hb1.out.size; have := b2.size; omega)
  clear b1 b2 hb1
  simp only [BkE.bookCells] at hRS
  go_wp2_with fail
  generalize (w2.alloc (.cells #[.string (str S), .bool false] 48)).alloc (.cells #[.slice none 0 0, .slice none 0 0, .slice none 0 0, .slice none 0 0, .slice none 0 0, .slice none 0 0, .slice none 0 0, .slice none 0 0, .slice none 0 0, .slice none 0 0, .slice none 0 0, .slice none 0 0, .slice none 0 0, .slice none 0 0] 58) = w3 at *
  generalize w2.heap.size + 1 = K at *
  generalize w2.heap.size = q at *
  generalize w1.heap.size = p at *
  go_loopw [8] (fun jv wr => ∃ (k : Nat) (st : St) (es : List BkE.Ent), k ≤ os.length ∧ jv = .int .i64 k ∧ RS W wr p q K st es k) (fun jv _ => os.length - (intOf jv).toNat)
  case atStart => exact ⟨0, some S, [], Nat.zero_le _, rfl, hRS.out⟩
  case round =>
    obtain ⟨k, st, es, hk, rfl, hI⟩ := hrel
    have k0 : (0 : Int) ≤ (k : Int) := Int.natCast_nonneg _
    by_cases hlt : k < os.length
    · have k1 : (k : Int) < (os.length : Int) := by omega
      obtain ⟨g, o, ⟨ek, ev, en, eb, elv, el⟩, rfl, hg, he, hop⟩ := op_at h'.out hlt
      have hC := Hid.intro (show ∀ w', Below W.heap.size W w' → w'.cell? ⟨g, o + k * 5, none⟩ = some (.int .i64 ek) ∧ w'.cell? ⟨g, o + k * 5 + 1, none⟩ = some (.int .i64 ev) ∧ w'.cell? ⟨g, o + k * 5 + 2, none⟩ = some (.int .i64 en) from fun w' hb => by
        have r := hop.below hb hg
        exact ⟨r.c0, r.c1, r.c2⟩)
      obtain ⟨d0, d1, d2⟩ := hC.out _ hI.below
      have hI' := Hid.intro hI
      clear hop he hI
      by_cases hk1 : ek = 1
      · subst hk1
        have hst0 := Hid.intro (hI'.out.below.drew)
        have hN := Hid.intro (inum_any (hI'.out.inp.below below_drw) hps.out.1 en)
        have hM := Hid.intro (fun w' (g : RInO w' q st) => rnum_read g hps.out.2.1 en)
        go_wp2_with fail
        clear d0 d1 d2
        refine wp_region_held_drew (S := fun w' => Below W.heap.size W w') (by kernel_rfl) (hst0.out) (fun hHeld => ?_)
        refine wpAnyH_take (i := 0) (v := .pointer (some ⟨p, 0, none⟩)) rfl (by kernel_rfl) (by kernel_rfl) (by kernel_rfl) (fun _ _ _ h => h) (Or.inl ⟨by rfl, fun w' hSw => by clear hSw; go_simp⟩) hHeld ?_
        change wpAnyH _ _ _ _ _ _ _ (Act.put _ (some 57) _) _
        simp only [Act.put, List.setIfInBounds_toArray, List.set_cons_zero, List.set_cons_succ]
        refine wpAnyH_take (i := 1) (v := .slice (some ⟨g, o, none⟩) os.length c) rfl (by kernel_rfl) (by kernel_rfl) (by kernel_rfl) (fun _ _ _ h => h) (Or.inl ⟨by rfl, fun w' hSw => by clear hSw; go_simp⟩) hHeld ?_
        change wpAnyH _ _ _ _ _ _ _ (Act.put _ (some 58) _) _
        simp only [Act.put, List.setIfInBounds_toArray, List.set_cons_zero, List.set_cons_succ]
        refine wpAnyH_take (i := 2) (v := .int .i64 (k : Int)) rfl (by kernel_rfl) (by kernel_rfl) (by kernel_rfl) (fun _ _ _ h => h) (Or.inl ⟨by rfl, fun w' hSw => by clear hSw; go_simp⟩) hHeld ?_
        change wpAnyH _ _ _ _ _ _ _ (Act.put _ (some 59) _) _
        simp only [Act.put, List.setIfInBounds_toArray, List.set_cons_zero, List.set_cons_succ]
        refine wpAnyH_take (i := 3) (v := .pointer (some ⟨g, o + k * 5, none⟩)) rfl (by kernel_rfl) (by kernel_rfl) (by kernel_rfl) (fun _ _ _ h => h) (Or.inl ⟨by rfl, fun w' hSw => by clear hSw; go_simp⟩) hHeld ?_
        change wpAnyH _ _ _ _ _ _ _ (Act.put _ (some 60) _) _
        simp only [Act.put, List.setIfInBounds_toArray, List.set_cons_zero, List.set_cons_succ]
        refine wpAnyH_take (i := 4) (v := .pointer (some ⟨g, o + k * 5 + 2, none⟩)) rfl (by kernel_rfl) (by kernel_rfl) (by kernel_rfl) (fun _ _ _ h => h) (Or.inl ⟨by rfl, fun w' hSw => by clear hSw; go_simp⟩) hHeld ?_
        change wpAnyH _ _ _ _ _ _ _ (Act.put _ (some 61) _) _
        simp only [Act.put, List.setIfInBounds_toArray, List.set_cons_zero, List.set_cons_succ]
        refine wpAnyH_take (i := 5) (v := .int .i64 en) rfl (by kernel_rfl) (by kernel_rfl) (by kernel_rfl) (fun _ _ _ h => h) (Or.inl ⟨by rfl, fun w' hSw => by have hc := (hC.out w' hSw).2.2; clear hSw; go_simp⟩) hHeld ?_
        change wpAnyH _ _ _ _ _ _ _ (Act.put _ (some 62) _) _
        simp only [Act.put, List.setIfInBounds_toArray, List.set_cons_zero, List.set_cons_succ]
        refine wpAnyH_take (i := 7) (v := .pointer (some ⟨q, 0, none⟩)) rfl (by kernel_rfl) (by kernel_rfl) (by kernel_rfl) (fun _ _ _ h => h) (Or.inl ⟨by rfl, fun w' hSw => by clear hSw; go_simp⟩) hHeld ?_
        change wpAnyH _ _ _ _ _ _ _ (Act.put _ (some 64) _) _
        simp only [Act.put, List.setIfInBounds_toArray, List.set_cons_zero, List.set_cons_succ]
        refine wpAnyH_take (i := 8) (v := .slice (some ⟨g, o, none⟩) os.length c) rfl (by kernel_rfl) (by kernel_rfl) (by kernel_rfl) (fun _ _ _ h => h) (Or.inl ⟨by rfl, fun w' hSw => by clear hSw; go_simp⟩) hHeld ?_
        change wpAnyH _ _ _ _ _ _ _ (Act.put _ (some 65) _) _
        simp only [Act.put, List.setIfInBounds_toArray, List.set_cons_zero, List.set_cons_succ]
        refine wpAnyH_take (i := 9) (v := .int .i64 (k : Int)) rfl (by kernel_rfl) (by kernel_rfl) (by kernel_rfl) (fun _ _ _ h => h) (Or.inl ⟨by rfl, fun w' hSw => by clear hSw; go_simp⟩) hHeld ?_
        change wpAnyH _ _ _ _ _ _ _ (Act.put _ (some 66) _) _
        simp only [Act.put, List.setIfInBounds_toArray, List.set_cons_zero, List.set_cons_succ]
        refine wpAnyH_take (i := 10) (v := .pointer (some ⟨g, o + k * 5, none⟩)) rfl (by kernel_rfl) (by kernel_rfl) (by kernel_rfl) (fun _ _ _ h => h) (Or.inl ⟨by rfl, fun w' hSw => by clear hSw; go_simp⟩) hHeld ?_
        change wpAnyH _ _ _ _ _ _ _ (Act.put _ (some 67) _) _
        simp only [Act.put, List.setIfInBounds_toArray, List.set_cons_zero, List.set_cons_succ]
        refine wpAnyH_take (i := 11) (v := .pointer (some ⟨g, o + k * 5 + 2, none⟩)) rfl (by kernel_rfl) (by kernel_rfl) (by kernel_rfl) (fun _ _ _ h => h) (Or.inl ⟨by rfl, fun w' hSw => by clear hSw; go_simp⟩) hHeld ?_
        change wpAnyH _ _ _ _ _ _ _ (Act.put _ (some 68) _) _
        simp only [Act.put, List.setIfInBounds_toArray, List.set_cons_zero, List.set_cons_succ]
        refine wpAnyH_take (i := 12) (v := .int .i64 en) rfl (by kernel_rfl) (by kernel_rfl) (by kernel_rfl) (fun _ _ _ h => h) (Or.inl ⟨by rfl, fun w' hSw => by have hc := (hC.out w' hSw).2.2; clear hSw; go_simp⟩) hHeld ?_
        change wpAnyH _ _ _ _ _ _ _ (Act.put _ (some 69) _) _
        simp only [Act.put, List.setIfInBounds_toArray, List.set_cons_zero, List.set_cons_succ]
        refine wpAnyH_ready (rs := [6]) (by kernel_rfl) (by simp) ?_
        refine AllReadyH.cons rfl (fun K hK => ?_) AllReadyH.nil
        go_simp
        refine (hN.out).mono ?_; rintro e w5 ⟨rfl, a1, a2, a3⟩
        refine hK.out _ _ (hst0.out.trans a3) (fun hHeld => ?_); clear hK K
        refine wpAnyH_ready (rs := [13]) (by kernel_rfl) (by simp) ?_
        refine AllReadyH.cons rfl (fun K hK => ?_) AllReadyH.nil
        go_simp
        refine (hM.out _ ((hI'.out.ref.below below_drw).stay a2 (by unfold TI; decide))).mono ?_; rintro e w6 ⟨rfl, c1, c2, c3⟩
        refine hK.out _ _ (hHeld.trans c3) (fun hHeld => ?_); clear hK K
        refine wpAnyH_take (i := 14) (v := .bool true) rfl (by kernel_rfl) (by kernel_rfl) (by kernel_rfl) (fun _ _ _ h => h) (Or.inl ⟨by rfl, fun w' hSw => by clear hSw; go_simp⟩) hHeld ?_
        change wpAnyH _ _ _ _ _ _ _ (Act.put _ (some 71) _) _
        simp only [Act.put, List.setIfInBounds_toArray, List.set_cons_zero, List.set_cons_succ]
        refine wpAnyH_take (i := 15) (v := .bool true) rfl (by kernel_rfl) (by kernel_rfl) (by kernel_rfl) (fun _ _ _ h => h) (Or.inl ⟨by rfl, fun w' hSw => by clear hSw; go_simp⟩) hHeld ?_
        change wpAnyH _ _ _ _ _ _ _ (Act.put _ (some 9) _) _
        simp only [Act.put, List.setIfInBounds_toArray, List.set_cons_zero, List.set_cons_succ]
        refine wpAnyH_done (by kernel_rfl) ?_ _
        have hJ := Hid.intro ((hI'.out.same below_drw).both a1 a2 a3 c1 c2 c3).next
        clear a1 a2 a3 c1 c2 c3 hHeld hst0 hN hM
        obtain ⟨q2, hq2⟩ : ∃ q2 : St, Hid (nS st en = q2) := ⟨_, rfl⟩
        rw [hq2.out] at hJ
        clear hq2
        obtain ⟨B, hRO⟩ := hJ.out.ref
        obtain ⟨u0, u1, _, _⟩ := box2 hRO.1
        have hql := lt_of_block hRO.1
        have hRO2 := Hid.intro hRO.2
        clear hRO
        have hL := Hid.intro (fun n => left_any (hJ.out.inp.below (below_drwM _ n)))
        have hD := Hid.intro (fun n => idone_any (hJ.out.inp.below (below_drwM _ n)))
        have hJn := Hid.intro (fun n => hJ.out.same (below_drwM _ n))
        rcases q2 with _ | S2
        · simp only [Option.isNone_none] at u1
          have e1 : lft none = [] := rfl
          have e2 : dn none = 8 := rfl
          rw [e1] at hL
          rw [e2] at hD
          clear e1 e2
          go_wp2_with fail
          go_quiet (first | (go_at_call 29; exact Calls.quiet_of_same (hL.out _)) | (go_at_call 30; exact Calls.quiet_of_same (hD.out _)))
          go_wp2
          go_roundw
          case rel => exact ⟨k + 1, _, _, by omega, by go_num, hJn.out _⟩
          case measure => simp [intOf]; omega
        · simp only [Option.isNone_some] at u1
          obtain rfl : B = S2 := hRO2.out S2 rfl
          have e1 : lft (some B) = B := rfl
          rw [e1] at hL
          clear e1
          cases B with
          | nil =>
            have e2 : dn (some []) = 0 := rfl
            rw [e2] at hD
            clear e2
            go_wp2_with fail
            go_quiet (first | (go_at_call 29; exact Calls.quiet_of_same (hL.out _)) | (go_at_call 30; exact Calls.quiet_of_same (hD.out _)))
            go_wp2
            go_roundw
            case rel => exact ⟨k + 1, _, _, by omega, by go_num, hJn.out _⟩
            case measure => simp [intOf]; omega
          | cons x r =>
            have e2 : dn (some (x :: r)) = 8 := by unfold dn; exact if_neg (by simp)
            rw [e2] at hD
            have hne : ¬ (x :: r) = [] := by simp
            have hne2 : (x :: r).isEmpty = false := rfl
            generalize hxr : x :: r = B at *
            clear e2 hxr
            go_wp2_with fail
            go_quiet (first | (go_at_call 29; exact Calls.quiet_of_same (hL.out _)) | (go_at_call 30; exact Calls.quiet_of_same (hD.out _)))
            go_wp2
            go_roundw
            case rel => exact ⟨k + 1, _, _, by omega, by go_num, hJn.out _⟩
            case measure => simp [intOf]; omega
      · by_cases hk2 : ek = 2
        · subst hk2
          have hN := Hid.intro (itext_any hI'.out.inp hps.out.1)
          have hM := Hid.intro (fun w' (g : RInO w' q st) => rtext_read g hps.out.2.1)
          go_wp2_with fail
          clear d0 d1 d2
          refine hN.out.mono ?_; rintro e w5 ⟨rfl, a1, a2, a3⟩
          have ha := Hid.intro (And.intro a1 (And.intro a2 a3))
          clear a1 a2 a3
          go_wp2_with fail
          refine (hM.out _ (hI'.out.ref.stay ha.out.2.1 (by unfold TI; decide))).mono ?_; rintro e w6 ⟨rfl, c1, c2, c3⟩
          have hJ := Hid.intro (hI'.out.both ha.out.1 ha.out.2.1 ha.out.2.2 c1 c2 c3).next
          clear ha c1 c2 c3 hN hM
          obtain ⟨q2, hq2⟩ : ∃ q2 : St, Hid (tS st = q2) := ⟨_, rfl⟩
          rw [hq2.out] at hJ
          clear hq2
          obtain ⟨B, hRO⟩ := hJ.out.ref
          obtain ⟨u0, u1, _, _⟩ := box2 hRO.1
          have hql := lt_of_block hRO.1
          have hRO2 := Hid.intro hRO.2
          clear hRO
          have hL := Hid.intro (fun n => left_any (hJ.out.inp.below (below_drwM _ n)))
          have hD := Hid.intro (fun n => idone_any (hJ.out.inp.below (below_drwM _ n)))
          have hJn := Hid.intro (fun n => hJ.out.same (below_drwM _ n))
          rcases q2 with _ | S2
          · simp only [Option.isNone_none] at u1
            have e1 : lft none = [] := rfl
            have e2 : dn none = 8 := rfl
            rw [e1] at hL
            rw [e2] at hD
            clear e1 e2
            go_wp2_with fail
            go_quiet (first | (go_at_call 29; exact Calls.quiet_of_same (hL.out _)) | (go_at_call 30; exact Calls.quiet_of_same (hD.out _)))
            go_wp2
            go_roundw
            case rel => exact ⟨k + 1, _, _, by omega, by go_num, hJn.out _⟩
            case measure => simp [intOf]; omega
          · simp only [Option.isNone_some] at u1
            obtain rfl : B = S2 := hRO2.out S2 rfl
            have e1 : lft (some B) = B := rfl
            rw [e1] at hL
            clear e1
            cases B with
            | nil =>
              have e2 : dn (some []) = 0 := rfl
              rw [e2] at hD
              clear e2
              go_wp2_with fail
              go_quiet (first | (go_at_call 29; exact Calls.quiet_of_same (hL.out _)) | (go_at_call 30; exact Calls.quiet_of_same (hD.out _)))
              go_wp2
              go_roundw
              case rel => exact ⟨k + 1, _, _, by omega, by go_num, hJn.out _⟩
              case measure => simp [intOf]; omega
            | cons x r =>
              have e2 : dn (some (x :: r)) = 8 := by unfold dn; exact if_neg (by simp)
              rw [e2] at hD
              have hne : ¬ (x :: r) = [] := by simp
              have hne2 : (x :: r).isEmpty = false := rfl
              generalize hxr : x :: r = B at *
              clear e2 hxr
              go_wp2_with fail
              go_quiet (first | (go_at_call 29; exact Calls.quiet_of_same (hL.out _)) | (go_at_call 30; exact Calls.quiet_of_same (hD.out _)))
              go_wp2
              go_roundw
              case rel => exact ⟨k + 1, _, _, by omega, by go_num, hJn.out _⟩
              case measure => simp [intOf]; omega
        · have e1 : (ek == 1) = false := beq_false_of_ne hk1
          have e2 : (ek == 2) = false := beq_false_of_ne hk2
          have hN := Hid.intro (dec_loop hI'.out.inp hps.out.1)
          have hM := Hid.intro (fun w' (g : RInO w' q st) => rexts_read g hps.out.2.1)
          have hXl : (xN st).length ≤ 64 := by
            unfold xN
            split
            · rename_i g; exact ti_len g
            · exact Nat.zero_le _
          go_wp2_with fail
          clear d0 d1 d2
          refine hN.out.mono ?_; rintro e w5 ⟨mv, rfl, a0, a1, a2, a3⟩
          have hk5 := Hid.intro (kept_stay hI'.out.book a2 (by unfold TI; decide) (by unfold TI; decide) (by unfold TI; decide))
          have hfr := Hid.intro (kept_fresh hI'.out.book a0)
          have hsz := Hid.intro hI'.out.below.size
          have hmv := Hid.intro (BkE.own_mono a0 hsz.out)
          have ha := Hid.intro (And.intro a1 (And.intro a2 a3))
          obtain ⟨ma, mc, rfl⟩ := BkE.own_form a0
          clear a0 a1 a2 a3
          go_wp2_with fail
          refine (BkE.book_more (G := fun _ => True) hk5.out (fun _ _ => trivial) (fun _ _ => trivial) hmv.out hfr.out (by have := hI'.out.many; omega) (by omega) hps.out.2.2).mono ?_; rintro e w6 ⟨rfl, c1, c2, c3⟩
          have hk6 := Hid.intro c1
          have hm6 := Hid.intro (BkE.own_row (BkE.own_stay hmv.out c2 (by unfold BkE.TN; decide)))
          have hc := Hid.intro (And.intro c2 c3)
          clear c1 c2 c3 hk5 hfr
          go_wp2_with fail
          refine (hM.out _ ((hI'.out.ref.stay ha.out.2.1 (by unfold TI; decide)).stay hc.out.1 (by unfold BkE.TN; decide))).mono ?_; rintro e w7 ⟨rv, rfl, b0, b1, b2, b3⟩
          have hrow := Hid.intro (BkE.own_row b0)
          have hJ7 := Hid.intro (show RS W w7 p q K (xS st) (es ++ [(.slice ma (xN st).length mc, xN st)]) (k + 1) from by
            obtain ⟨B0, hB0, _⟩ := (hI'.out.ref.stay ha.out.2.1 (by unfold TI; decide)).stay hc.out.1 (by unfold BkE.TN; decide)
            have s7 := BkE.Stay.but (T := TR) b2 hB0 notTR
            exact ⟨(ha.out.1.stay hc.out.1 (by unfold BkE.TN; decide)).stay s7 (by unfold TR; decide), b1, kept_stay hk6.out s7 (by unfold TR; decide) (by unfold TR; decide) (by unfold TR; decide), by rw [List.length_append]; have := hI'.out.many; simp; omega, fun e he => by
              rcases List.mem_append.1 he with he | he
              · exact hI'.out.short e he
              · rw [List.mem_singleton.1 he]; simp only; omega, ((hI'.out.below.trans ha.out.2.2).trans hc.out.2).trans b3⟩)
          have hm7 := Hid.intro (show BkE.Row w7 (.slice ma (xN st).length mc) (xN st) from by
            obtain ⟨B0, hB0, _⟩ := (hI'.out.ref.stay ha.out.2.1 (by unfold TI; decide)).stay hc.out.1 (by unfold BkE.TN; decide)
            exact BkE.own_row (BkE.own_stay (BkE.own_stay hmv.out hc.out.1 (by unfold BkE.TN; decide)) (BkE.Stay.but (T := TR) b2 hB0 notTR) (by unfold TR; decide)))
          obtain ⟨ra, rc, rfl⟩ := BkE.own_form b0
          clear b0 b1 b2 b3 hk6 hm6 hmv ha hc hN hM
          go_wp2_with fail
          refine (BkE.same_rows hm7.out hrow.out (by omega)).mono ?_; rintro e w8 ⟨rfl, b⟩
          have hJ := Hid.intro (hJ7.out.same b)
          clear b hJ7 hm7 hrow
          obtain ⟨q2, hq2⟩ : ∃ q2 : St, Hid (xS st = q2) := ⟨_, rfl⟩
          rw [hq2.out] at hJ
          clear hq2
          obtain ⟨B, hRO⟩ := hJ.out.ref
          obtain ⟨u0, u1, _, _⟩ := box2 hRO.1
          have hql := lt_of_block hRO.1
          have hRO2 := Hid.intro hRO.2
          clear hRO
          have hL := Hid.intro (fun n => left_any (hJ.out.inp.below (below_drwM _ n)))
          have hD := Hid.intro (fun n => idone_any (hJ.out.inp.below (below_drwM _ n)))
          have hJn := Hid.intro (fun n => hJ.out.same (below_drwM _ n))
          rcases q2 with _ | S2
          · simp only [Option.isNone_none] at u1
            have e1 : lft none = [] := rfl
            have e2 : dn none = 8 := rfl
            rw [e1] at hL
            rw [e2] at hD
            clear e1 e2
            go_wp2_with fail
            go_quiet (first | (go_at_call 29; exact Calls.quiet_of_same (hL.out _)) | (go_at_call 30; exact Calls.quiet_of_same (hD.out _)))
            go_wp2
            go_roundw
            case rel => exact ⟨k + 1, _, _, by omega, by go_num, hJn.out _⟩
            case measure => simp [intOf]; omega
          · simp only [Option.isNone_some] at u1
            obtain rfl : B = S2 := hRO2.out S2 rfl
            have e1 : lft (some B) = B := rfl
            rw [e1] at hL
            clear e1
            cases B with
            | nil =>
              have e2 : dn (some []) = 0 := rfl
              rw [e2] at hD
              clear e2
              go_wp2_with fail
              go_quiet (first | (go_at_call 29; exact Calls.quiet_of_same (hL.out _)) | (go_at_call 30; exact Calls.quiet_of_same (hD.out _)))
              go_wp2
              go_roundw
              case rel => exact ⟨k + 1, _, _, by omega, by go_num, hJn.out _⟩
              case measure => simp [intOf]; omega
            | cons x r =>
              have e2 : dn (some (x :: r)) = 8 := by unfold dn; exact if_neg (by simp)
              rw [e2] at hD
              have hne : ¬ (x :: r) = [] := by simp
              have hne2 : (x :: r).isEmpty = false := rfl
              generalize hxr : x :: r = B at *
              clear e2 hxr
              go_wp2_with fail
              go_quiet (first | (go_at_call 29; exact Calls.quiet_of_same (hL.out _)) | (go_at_call 30; exact Calls.quiet_of_same (hD.out _)))
              go_wp2
              go_roundw
              case rel => exact ⟨k + 1, _, _, by omega, by go_num, hJn.out _⟩
              case measure => simp [intOf]; omega
    · have k1 : ¬ (k : Int) < (os.length : Int) := by omega
      have hJ := Hid.intro hI
      clear hI
      go_wp2_with fail
      refine (inum_nil 1 _ (by decide)).mono ?_; rintro e w5 ⟨rfl, rfl⟩
      go_wp2_with fail
      refine (left_nil _).mono ?_; rintro e w5 ⟨rfl, rfl⟩
      go_wp2_with fail
      refine (iexts_nil _).mono ?_; rintro e w6 ⟨rfl, b⟩
      have hJ6 := Hid.intro (hJ.out.same b)
      clear b hJ
      go_wp2_with fail
      refine (itext_nil _).mono ?_; rintro e w7 ⟨rfl, rfl⟩
      go_wp2_with fail
      refine (idone_nil _).mono ?_; rintro e w7 ⟨rfl, rfl⟩
      go_wp2_with fail
      refine (BkE.book_apart hJ6.out.book (by have := hJ6.out.many; omega) hJ6.out.short hps.out.2.2).mono ?_; rintro e w8 ⟨rfl, b⟩
      have hb := Hid.intro (hJ6.out.below.trans b)
      clear b
      go_wp2
      go_ret
      exact ⟨rfl, hb.out⟩
end Go.Proofs.Ytnboajhcjgcpfaa
