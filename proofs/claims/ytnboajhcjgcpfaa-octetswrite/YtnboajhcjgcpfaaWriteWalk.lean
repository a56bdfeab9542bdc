/-
  The walk of OctetsWrite, for every input: it returns true; nothing that was there is written.
-/
import Derived.Test.YtnboajhcjgcpfaaWriteA
namespace Go.Proofs.Ytnboajhcjgcpfaa
open Go.ChangeShapes Go.WideShapes Go.ChangeAt Go.RowKit
attribute [local go_sem ↓] Go.wp_at_zero Go.wp_at_succ
attribute [local go_sem] str_size str_extract str_append str_toList

/-- What is written behind some bytes, or that they may not be. -/
def stW (st : St) : Option (List UInt8) → St
  | none => none
  | some B => st.map (· ++ B)
def bNum (v n : Int) : Option (List UInt8) := if Fit v n then some (num v.toNat n.toNat) else none
def bText (s : List UInt8) : Option (List UInt8) := if s.length ≤ 255 then some (txt s) else none
def bExt (l : List Ex) : Option (List UInt8) := if Ti l then some (lay l) else none
/-- What is known at the loop's head. -/
structure WI (W wr : World) (p : Nat) (st : St) (T : List UInt8) (i : Nat) : Prop where
  out : OutO wr W.heap.size p st
  same : ∀ S, st = some S → T = S
  len : T.length ≤ 400 * i
  below : Below W.heap.size W wr
theorem WI.next {W wr w' : World} {p i : Nat} {st : St} {T B : List UInt8} (h : WI W wr p st T i) (hB : B.length ≤ 400) (ho : OutO w' W.heap.size p (st.map (· ++ B))) (hb : Below W.heap.size W w') : WI W w' p (st.map (· ++ B)) (T ++ B) (i + 1) :=
  ⟨ho, fun S hs => by
    cases st with
    | none => cases hs
    | some S0 => rw [h.same S0 rfl]; exact Option.some.inj hs, by rw [List.length_append]; have := h.len; omega, hb⟩
theorem WI.bad {W wr w' : World} {p i : Nat} {st : St} {T : List UInt8} (h : WI W wr p st T i) (ho : OutO w' W.heap.size p none) (hb : Below W.heap.size W w') : WI W w' p none T (i + 1) :=
  ⟨ho, (fun S hs => by cases hs), (by have := h.len; omega), hb⟩
theorem WI.lft {W wr : World} {p i : Nat} {st : St} {T : List UInt8} (h : WI W wr p st T i) (hi : i ≤ 40) : (lft st).length ≤ 1000000 := by
  have hl := h.len
  cases st with
  | none => exact Nat.zero_le _
  | some S => rw [h.same S rfl] at hl; show S.length ≤ _; omega
theorem lay_length (l : List Ex) : (lay l).length = 1 + 3 * l.length := by simp [lay, body3_length]; omega
theorem str_nil_r (T : List UInt8) : str T ++ ⟨#[]⟩ = str T := by
  rw [show (⟨#[]⟩ : ByteArray) = str [] from rfl, str_append, List.append_nil]
theorem er_map (st : St) (B : List UInt8) : er (st.map (· ++ B)) = er st := by cases st <;> rfl

set_option maxRecDepth 100000 in
set_option maxHeartbeats 4000000 in
theorem write_walk {W : World} {v : Value} {os : List OpE} (h : OpsAt W v os) (hL : LightB os = true) : Calls Try.prog 3 #[v] W fun e w' => e = .returned (.bool true) ∧ Below W.heap.size W w' := by
  have hl := Hid.intro (light_any h)
  rw [hL] at hl
  obtain ⟨h40, hLt⟩ := light_all hL
  have hLt' := Hid.intro hLt
  obtain ⟨a, c, rfl⟩ := h.slice
  have h' := Hid.intro h
  clear h hL hLt
  go_enter Try.func3, Try.ntmps3
  go_wp2_with fail
  refine hl.out.mono ?_; rintro e w1 ⟨rfl, rfl⟩
  go_wp2_with fail
  refine (alive_any _).mono ?_; rintro e w2 ⟨rfl, c2⟩
  have c2' := Hid.intro c2
  have hp := Hid.intro c2.size
  have h0 := Hid.intro (OutO.new w2 w1.heap.size)
  have hb0 := Hid.intro (c2.trans ((show Below w2.heap.size w2 (w2.alloc (.cells #[.slice none 0 0, .int .i64 0] 29)) from (Below.refl _ _).alloc (Nat.le_refl _) _).mono c2.size))
  clear c2
  go_wp2_with fail
  generalize w2.alloc (.cells #[.slice none 0 0, .int .i64 0] 29) = w3 at *
  generalize w2.heap.size = p at *
  go_loopw [4, 5, 6] (fun tv fv jv wr => ∃ (i : Nat) (st : St) (T : List UInt8), i ≤ os.length ∧ jv = .int .i64 i ∧ tv = .string (str T) ∧ fv = .int .i64 (er st) ∧ WI w1 wr p st T i) (fun _ _ jv _ => os.length - (intOf jv).toNat)
  case atStart => exact ⟨0, some [], [], Nat.zero_le _, rfl, rfl, rfl, h0.out, fun S hs => by cases hs; rfl, Nat.zero_le _, hb0.out⟩
  case round =>
    obtain ⟨i, st, T, hi, rfl, rfl, rfl, hI⟩ := hrel
    have i0 : (0 : Int) ≤ (i : Int) := Int.natCast_nonneg _
    by_cases hlt : i < os.length
    · have i1 : (i : Int) < (os.length : Int) := by omega
      obtain ⟨g, o, ⟨ek, ev, en, es, elv, el⟩, rfl, hg, he, hop⟩ := op_at h'.out hlt
      obtain ⟨hs300, hl80⟩ := hLt'.out _ (List.mem_of_getElem? he)
      simp only at hs300 hl80
      have hC := Hid.intro (show ∀ w', Below w1.heap.size w1 w' → w'.cell? ⟨g, o + i * 5, none⟩ = some (.int .i64 ek) ∧ w'.cell? ⟨g, o + i * 5 + 1, none⟩ = some (.int .i64 ev) ∧ w'.cell? ⟨g, o + i * 5 + 2, none⟩ = some (.int .i64 en) ∧ w'.cell? ⟨g, o + i * 5 + 3, none⟩ = some (.string (str es)) ∧ w'.cell? ⟨g, o + i * 5 + 4, none⟩ = some elv from fun w' hb => by
        have q := hop.below hb hg
        exact ⟨q.c0, q.c1, q.c2, q.c3, q.c4⟩)
      have hRow := Hid.intro (show BkE.Row w1 elv el from hop.row)
      have hHi := Hid.intro (show Hi el from hop.hi)
      have hev : ev ≤ 9223372036854775807 := hop.hv
      obtain ⟨d0, d1, d2, d3, d4⟩ := hC.out _ hI.below
      have hI' := Hid.intro hI
      have hlf := Hid.intro (hI.lft (by omega))
      have hpp := hp.out
      have hTl : T.length ≤ 16000 := by have := hI.len; omega
      clear hop he hI
      by_cases hk1 : ek = 1
      · subst hk1
        by_cases hF : Fit ev en
        · rcases st with _ | S
          · rw [show er none = 1 from rfl]
            have hN := Hid.intro (num_any (hI'.out.out.below below_drw) hpp hlf.out ev en hev)
            have hf := Hid.intro (fits_any ev en)
            rw [decide_eq_true hF] at hf
            rw [show eNum ev en = 0 by unfold eNum; exact if_pos hF, show wNum none ev en = Option.map (· ++ num ev.toNat en.toNat) none by unfold wNum; exact if_pos hF] at hN
            obtain ⟨f1, f2, f3, f4, f5, f6⟩ := fit_lt hF
            have hrn := Hid.intro (fun w => rnum_any ev.toNat en.toNat w (by omega) f4)
            rw [f5, f6] at hrn
            have hBl : (num ev.toNat en.toNat).length ≤ 4 := by rw [num_length]; exact f4
            clear f1 f2 f3 f4 f5 f6 hF
            generalize num ev.toNat en.toNat = B at *
            have hcc : ¬ 9223372036854775807 < T.length + B.length := by omega
            have hst0 := Hid.intro (hI'.out.below.drew)
            go_wp2_with fail
            clear d0 d1 d2 d3 d4
            refine wp_region_held_drew (S := fun w' => Below w1.heap.size w1 w') (by kernel_rfl) (hst0.out) (fun hHeld => ?_)
            refine wpAnyH_take (i := 0) (v := .pointer (some ⟨p, 0, none⟩)) rfl (by kernel_rfl) (by kernel_rfl) (by kernel_rfl) (fun _ _ _ h => h) (Or.inl ⟨by rfl, fun w' hSw => by clear hSw; go_simp⟩) hHeld ?_
            change wpAnyH _ _ _ _ _ _ _ (Act.put _ (some 70) _) _
            simp only [Act.put, List.setIfInBounds_toArray, List.set_cons_zero, List.set_cons_succ]
            refine wpAnyH_take (i := 1) (v := .slice (some ⟨g, o, none⟩) os.length c) rfl (by kernel_rfl) (by kernel_rfl) (by kernel_rfl) (fun _ _ _ h => h) (Or.inl ⟨by rfl, fun w' hSw => by clear hSw; go_simp⟩) hHeld ?_
            change wpAnyH _ _ _ _ _ _ _ (Act.put _ (some 71) _) _
            simp only [Act.put, List.setIfInBounds_toArray, List.set_cons_zero, List.set_cons_succ]
            refine wpAnyH_take (i := 2) (v := .int .i64 (i : Int)) rfl (by kernel_rfl) (by kernel_rfl) (by kernel_rfl) (fun _ _ _ h => h) (Or.inl ⟨by rfl, fun w' hSw => by clear hSw; go_simp⟩) hHeld ?_
            change wpAnyH _ _ _ _ _ _ _ (Act.put _ (some 72) _) _
            simp only [Act.put, List.setIfInBounds_toArray, List.set_cons_zero, List.set_cons_succ]
            refine wpAnyH_take (i := 3) (v := .pointer (some ⟨g, o + i * 5, none⟩)) rfl (by kernel_rfl) (by kernel_rfl) (by kernel_rfl) (fun _ _ _ h => h) (Or.inl ⟨by rfl, fun w' hSw => by clear hSw; go_simp⟩) hHeld ?_
            change wpAnyH _ _ _ _ _ _ _ (Act.put _ (some 73) _) _
            simp only [Act.put, List.setIfInBounds_toArray, List.set_cons_zero, List.set_cons_succ]
            refine wpAnyH_take (i := 4) (v := .pointer (some ⟨g, o + i * 5 + 1, none⟩)) rfl (by kernel_rfl) (by kernel_rfl) (by kernel_rfl) (fun _ _ _ h => h) (Or.inl ⟨by rfl, fun w' hSw => by clear hSw; go_simp⟩) hHeld ?_
            change wpAnyH _ _ _ _ _ _ _ (Act.put _ (some 74) _) _
            simp only [Act.put, List.setIfInBounds_toArray, List.set_cons_zero, List.set_cons_succ]
            refine wpAnyH_take (i := 5) (v := .int .i64 ev) rfl (by kernel_rfl) (by kernel_rfl) (by kernel_rfl) (fun _ _ _ h => h) (Or.inl ⟨by rfl, fun w' hSw => by have hc := (hC.out w' hSw).2.1; clear hSw; go_simp⟩) hHeld ?_
            change wpAnyH _ _ _ _ _ _ _ (Act.put _ (some 75) _) _
            simp only [Act.put, List.setIfInBounds_toArray, List.set_cons_zero, List.set_cons_succ]
            refine wpAnyH_take (i := 6) (v := .slice (some ⟨g, o, none⟩) os.length c) rfl (by kernel_rfl) (by kernel_rfl) (by kernel_rfl) (fun _ _ _ h => h) (Or.inl ⟨by rfl, fun w' hSw => by clear hSw; go_simp⟩) hHeld ?_
            change wpAnyH _ _ _ _ _ _ _ (Act.put _ (some 76) _) _
            simp only [Act.put, List.setIfInBounds_toArray, List.set_cons_zero, List.set_cons_succ]
            refine wpAnyH_take (i := 7) (v := .int .i64 (i : Int)) rfl (by kernel_rfl) (by kernel_rfl) (by kernel_rfl) (fun _ _ _ h => h) (Or.inl ⟨by rfl, fun w' hSw => by clear hSw; go_simp⟩) hHeld ?_
            change wpAnyH _ _ _ _ _ _ _ (Act.put _ (some 77) _) _
            simp only [Act.put, List.setIfInBounds_toArray, List.set_cons_zero, List.set_cons_succ]
            refine wpAnyH_take (i := 8) (v := .pointer (some ⟨g, o + i * 5, none⟩)) rfl (by kernel_rfl) (by kernel_rfl) (by kernel_rfl) (fun _ _ _ h => h) (Or.inl ⟨by rfl, fun w' hSw => by clear hSw; go_simp⟩) hHeld ?_
            change wpAnyH _ _ _ _ _ _ _ (Act.put _ (some 78) _) _
            simp only [Act.put, List.setIfInBounds_toArray, List.set_cons_zero, List.set_cons_succ]
            refine wpAnyH_take (i := 9) (v := .pointer (some ⟨g, o + i * 5 + 2, none⟩)) rfl (by kernel_rfl) (by kernel_rfl) (by kernel_rfl) (fun _ _ _ h => h) (Or.inl ⟨by rfl, fun w' hSw => by clear hSw; go_simp⟩) hHeld ?_
            change wpAnyH _ _ _ _ _ _ _ (Act.put _ (some 79) _) _
            simp only [Act.put, List.setIfInBounds_toArray, List.set_cons_zero, List.set_cons_succ]
            refine wpAnyH_take (i := 10) (v := .int .i64 en) rfl (by kernel_rfl) (by kernel_rfl) (by kernel_rfl) (fun _ _ _ h => h) (Or.inl ⟨by rfl, fun w' hSw => by have hc := (hC.out w' hSw).2.2.1; clear hSw; go_simp⟩) hHeld ?_
            change wpAnyH _ _ _ _ _ _ _ (Act.put _ (some 80) _) _
            simp only [Act.put, List.setIfInBounds_toArray, List.set_cons_zero, List.set_cons_succ]
            refine wpAnyH_ready (rs := [11]) (by kernel_rfl) (by simp) ?_
            refine AllReadyH.cons rfl (fun K hK => ?_) AllReadyH.nil
            go_simp
            refine (hN.out).mono ?_; rintro e w5 ⟨rfl, a, _, c⟩
            refine hK.out _ _ (hst0.out.trans c) (fun hHeld => ?_); clear hK K
            refine wpAnyH_take (i := 12) (v := .int .i64 0) rfl (by kernel_rfl) (by kernel_rfl) (by kernel_rfl) (fun _ _ _ h => h) (Or.inl ⟨by rfl, fun w' hSw => by clear hSw; go_simp⟩) hHeld ?_
            change wpAnyH _ _ _ _ _ _ _ (Act.put _ (some 7) _) _
            simp only [Act.put, List.setIfInBounds_toArray, List.set_cons_zero, List.set_cons_succ]
            refine wpAnyH_done (by kernel_rfl) ?_ _
            have hO5 := Hid.intro a
            have hB5 := Hid.intro hHeld
            clear a c hHeld hN hst0
            go_wp2_with fail
            refine wp_region_held_drew (S := fun w' => Below w1.heap.size w1 w') (by kernel_rfl) (hB5.out.drew) (fun hHeld => ?_)
            refine wpAnyH_take (i := 0) (v := .slice (some ⟨g, o, none⟩) os.length c) rfl (by kernel_rfl) (by kernel_rfl) (by kernel_rfl) (fun _ _ _ h => h) (Or.inl ⟨by rfl, fun w' hSw => by clear hSw; go_simp⟩) hHeld ?_
            change wpAnyH _ _ _ _ _ _ _ (Act.put _ (some 82) _) _
            simp only [Act.put, List.setIfInBounds_toArray, List.set_cons_zero, List.set_cons_succ]
            refine wpAnyH_take (i := 1) (v := .int .i64 (i : Int)) rfl (by kernel_rfl) (by kernel_rfl) (by kernel_rfl) (fun _ _ _ h => h) (Or.inl ⟨by rfl, fun w' hSw => by clear hSw; go_simp⟩) hHeld ?_
            change wpAnyH _ _ _ _ _ _ _ (Act.put _ (some 83) _) _
            simp only [Act.put, List.setIfInBounds_toArray, List.set_cons_zero, List.set_cons_succ]
            refine wpAnyH_take (i := 2) (v := .pointer (some ⟨g, o + i * 5, none⟩)) rfl (by kernel_rfl) (by kernel_rfl) (by kernel_rfl) (fun _ _ _ h => h) (Or.inl ⟨by rfl, fun w' hSw => by clear hSw; go_simp⟩) hHeld ?_
            change wpAnyH _ _ _ _ _ _ _ (Act.put _ (some 84) _) _
            simp only [Act.put, List.setIfInBounds_toArray, List.set_cons_zero, List.set_cons_succ]
            refine wpAnyH_take (i := 3) (v := .pointer (some ⟨g, o + i * 5 + 1, none⟩)) rfl (by kernel_rfl) (by kernel_rfl) (by kernel_rfl) (fun _ _ _ h => h) (Or.inl ⟨by rfl, fun w' hSw => by clear hSw; go_simp⟩) hHeld ?_
            change wpAnyH _ _ _ _ _ _ _ (Act.put _ (some 85) _) _
            simp only [Act.put, List.setIfInBounds_toArray, List.set_cons_zero, List.set_cons_succ]
            refine wpAnyH_take (i := 4) (v := .int .i64 ev) rfl (by kernel_rfl) (by kernel_rfl) (by kernel_rfl) (fun _ _ _ h => h) (Or.inl ⟨by rfl, fun w' hSw => by have hc := (hC.out w' hSw).2.1; clear hSw; go_simp⟩) hHeld ?_
            change wpAnyH _ _ _ _ _ _ _ (Act.put _ (some 86) _) _
            simp only [Act.put, List.setIfInBounds_toArray, List.set_cons_zero, List.set_cons_succ]
            refine wpAnyH_take (i := 5) (v := .slice (some ⟨g, o, none⟩) os.length c) rfl (by kernel_rfl) (by kernel_rfl) (by kernel_rfl) (fun _ _ _ h => h) (Or.inl ⟨by rfl, fun w' hSw => by clear hSw; go_simp⟩) hHeld ?_
            change wpAnyH _ _ _ _ _ _ _ (Act.put _ (some 87) _) _
            simp only [Act.put, List.setIfInBounds_toArray, List.set_cons_zero, List.set_cons_succ]
            refine wpAnyH_take (i := 6) (v := .int .i64 (i : Int)) rfl (by kernel_rfl) (by kernel_rfl) (by kernel_rfl) (fun _ _ _ h => h) (Or.inl ⟨by rfl, fun w' hSw => by clear hSw; go_simp⟩) hHeld ?_
            change wpAnyH _ _ _ _ _ _ _ (Act.put _ (some 88) _) _
            simp only [Act.put, List.setIfInBounds_toArray, List.set_cons_zero, List.set_cons_succ]
            refine wpAnyH_take (i := 7) (v := .pointer (some ⟨g, o + i * 5, none⟩)) rfl (by kernel_rfl) (by kernel_rfl) (by kernel_rfl) (fun _ _ _ h => h) (Or.inl ⟨by rfl, fun w' hSw => by clear hSw; go_simp⟩) hHeld ?_
            change wpAnyH _ _ _ _ _ _ _ (Act.put _ (some 89) _) _
            simp only [Act.put, List.setIfInBounds_toArray, List.set_cons_zero, List.set_cons_succ]
            refine wpAnyH_take (i := 8) (v := .pointer (some ⟨g, o + i * 5 + 2, none⟩)) rfl (by kernel_rfl) (by kernel_rfl) (by kernel_rfl) (fun _ _ _ h => h) (Or.inl ⟨by rfl, fun w' hSw => by clear hSw; go_simp⟩) hHeld ?_
            change wpAnyH _ _ _ _ _ _ _ (Act.put _ (some 90) _) _
            simp only [Act.put, List.setIfInBounds_toArray, List.set_cons_zero, List.set_cons_succ]
            refine wpAnyH_take (i := 9) (v := .int .i64 en) rfl (by kernel_rfl) (by kernel_rfl) (by kernel_rfl) (fun _ _ _ h => h) (Or.inl ⟨by rfl, fun w' hSw => by have hc := (hC.out w' hSw).2.2.1; clear hSw; go_simp⟩) hHeld ?_
            change wpAnyH _ _ _ _ _ _ _ (Act.put _ (some 91) _) _
            simp only [Act.put, List.setIfInBounds_toArray, List.set_cons_zero, List.set_cons_succ]
            refine wpAnyH_ready (rs := [10]) (by kernel_rfl) (by simp) ?_
            refine AllReadyH.cons rfl (fun K hK => ?_) AllReadyH.nil
            go_simp
            refine (hf.out _).mono ?_; rintro e w6 ⟨rfl, hw6⟩
            refine hK.out _ _ ((by rw [hw6]; exact hHeld)) (fun hHeld => ?_); clear hK K
            refine wpAnyH_done (by kernel_rfl) ?_ _
            have hO6 := Hid.intro (hO5.out.below below_drw)
            rw [← hw6] at hO6
            have hB6 := Hid.intro hHeld
            clear hHeld hO5 hB5 hw6 hf
            go_wp2_with fail
            refine wp_region_held_drew (S := fun w' => Below w1.heap.size w1 w') (by kernel_rfl) (hB6.out.drew) (fun hHeld => ?_)
            refine wpAnyH_take (i := 0) (v := .slice (some ⟨g, o, none⟩) os.length c) rfl (by kernel_rfl) (by kernel_rfl) (by kernel_rfl) (fun _ _ _ h => h) (Or.inl ⟨by rfl, fun w' hSw => by clear hSw; go_simp⟩) hHeld ?_
            change wpAnyH _ _ _ _ _ _ _ (Act.put _ (some 93) _) _
            simp only [Act.put, List.setIfInBounds_toArray, List.set_cons_zero, List.set_cons_succ]
            refine wpAnyH_take (i := 1) (v := .int .i64 (i : Int)) rfl (by kernel_rfl) (by kernel_rfl) (by kernel_rfl) (fun _ _ _ h => h) (Or.inl ⟨by rfl, fun w' hSw => by clear hSw; go_simp⟩) hHeld ?_
            change wpAnyH _ _ _ _ _ _ _ (Act.put _ (some 94) _) _
            simp only [Act.put, List.setIfInBounds_toArray, List.set_cons_zero, List.set_cons_succ]
            refine wpAnyH_take (i := 2) (v := .pointer (some ⟨g, o + i * 5, none⟩)) rfl (by kernel_rfl) (by kernel_rfl) (by kernel_rfl) (fun _ _ _ h => h) (Or.inl ⟨by rfl, fun w' hSw => by clear hSw; go_simp⟩) hHeld ?_
            change wpAnyH _ _ _ _ _ _ _ (Act.put _ (some 95) _) _
            simp only [Act.put, List.setIfInBounds_toArray, List.set_cons_zero, List.set_cons_succ]
            refine wpAnyH_take (i := 3) (v := .pointer (some ⟨g, o + i * 5 + 1, none⟩)) rfl (by kernel_rfl) (by kernel_rfl) (by kernel_rfl) (fun _ _ _ h => h) (Or.inl ⟨by rfl, fun w' hSw => by clear hSw; go_simp⟩) hHeld ?_
            change wpAnyH _ _ _ _ _ _ _ (Act.put _ (some 96) _) _
            simp only [Act.put, List.setIfInBounds_toArray, List.set_cons_zero, List.set_cons_succ]
            refine wpAnyH_take (i := 4) (v := .int .i64 ev) rfl (by kernel_rfl) (by kernel_rfl) (by kernel_rfl) (fun _ _ _ h => h) (Or.inl ⟨by rfl, fun w' hSw => by have hc := (hC.out w' hSw).2.1; clear hSw; go_simp⟩) hHeld ?_
            change wpAnyH _ _ _ _ _ _ _ (Act.put _ (some 97) _) _
            simp only [Act.put, List.setIfInBounds_toArray, List.set_cons_zero, List.set_cons_succ]
            refine wpAnyH_take (i := 5) (v := .slice (some ⟨g, o, none⟩) os.length c) rfl (by kernel_rfl) (by kernel_rfl) (by kernel_rfl) (fun _ _ _ h => h) (Or.inl ⟨by rfl, fun w' hSw => by clear hSw; go_simp⟩) hHeld ?_
            change wpAnyH _ _ _ _ _ _ _ (Act.put _ (some 98) _) _
            simp only [Act.put, List.setIfInBounds_toArray, List.set_cons_zero, List.set_cons_succ]
            refine wpAnyH_take (i := 6) (v := .int .i64 (i : Int)) rfl (by kernel_rfl) (by kernel_rfl) (by kernel_rfl) (fun _ _ _ h => h) (Or.inl ⟨by rfl, fun w' hSw => by clear hSw; go_simp⟩) hHeld ?_
            change wpAnyH _ _ _ _ _ _ _ (Act.put _ (some 99) _) _
            simp only [Act.put, List.setIfInBounds_toArray, List.set_cons_zero, List.set_cons_succ]
            refine wpAnyH_take (i := 7) (v := .pointer (some ⟨g, o + i * 5, none⟩)) rfl (by kernel_rfl) (by kernel_rfl) (by kernel_rfl) (fun _ _ _ h => h) (Or.inl ⟨by rfl, fun w' hSw => by clear hSw; go_simp⟩) hHeld ?_
            change wpAnyH _ _ _ _ _ _ _ (Act.put _ (some 100) _) _
            simp only [Act.put, List.setIfInBounds_toArray, List.set_cons_zero, List.set_cons_succ]
            refine wpAnyH_take (i := 8) (v := .pointer (some ⟨g, o + i * 5 + 2, none⟩)) rfl (by kernel_rfl) (by kernel_rfl) (by kernel_rfl) (fun _ _ _ h => h) (Or.inl ⟨by rfl, fun w' hSw => by clear hSw; go_simp⟩) hHeld ?_
            change wpAnyH _ _ _ _ _ _ _ (Act.put _ (some 101) _) _
            simp only [Act.put, List.setIfInBounds_toArray, List.set_cons_zero, List.set_cons_succ]
            refine wpAnyH_take (i := 9) (v := .int .i64 en) rfl (by kernel_rfl) (by kernel_rfl) (by kernel_rfl) (fun _ _ _ h => h) (Or.inl ⟨by rfl, fun w' hSw => by have hc := (hC.out w' hSw).2.2.1; clear hSw; go_simp⟩) hHeld ?_
            change wpAnyH _ _ _ _ _ _ _ (Act.put _ (some 102) _) _
            simp only [Act.put, List.setIfInBounds_toArray, List.set_cons_zero, List.set_cons_succ]
            refine wpAnyH_ready (rs := [10]) (by kernel_rfl) (by simp) ?_
            refine AllReadyH.cons rfl (fun K hK => ?_) AllReadyH.nil
            go_simp
            refine (hrn.out _).mono ?_; rintro e w7 ⟨rfl, c⟩
            refine hK.out _ _ (hB6.out.drew.trans (c.mono hB6.out.size)) (fun hHeld => ?_); clear hK K
            refine wpAnyH_take (i := 11) (v := .string (str B)) rfl (by kernel_rfl) (by kernel_rfl) (by kernel_rfl) (fun _ _ _ h => h) (Or.inl ⟨by rfl, fun w' hSw => by clear hSw; go_simp⟩) hHeld ?_
            change wpAnyH _ _ _ _ _ _ _ (Act.put _ (some 8) _) _
            simp only [Act.put, List.setIfInBounds_toArray, List.set_cons_zero, List.set_cons_succ]
            refine wpAnyH_done (by kernel_rfl) ?_ _
            have hO7 := Hid.intro ((hO6.out.below below_drw).below c)
            have hB7 := Hid.intro hHeld
            clear hHeld c hO6 hB6 hrn
            have hIn := Hid.intro (hI'.out.next (by omega) hO7.out hB7.out)
            clear hO7 hB7
            go_wp2
            go_roundw
            case rel => exact ⟨i + 1, (Option.map (· ++ B) none), (T ++ B), by omega, by go_num, rfl, rfl, hIn.out⟩
            case measure => simp [intOf]; omega
          · rw [show er (some S) = 0 from rfl]
            have hN := Hid.intro (num_any (hI'.out.out.below below_drw) hpp hlf.out ev en hev)
            have hf := Hid.intro (fits_any ev en)
            rw [decide_eq_true hF] at hf
            rw [show eNum ev en = 0 by unfold eNum; exact if_pos hF, show wNum (some S) ev en = Option.map (· ++ num ev.toNat en.toNat) (some S) by unfold wNum; exact if_pos hF] at hN
            obtain ⟨f1, f2, f3, f4, f5, f6⟩ := fit_lt hF
            have hrn := Hid.intro (fun w => rnum_any ev.toNat en.toNat w (by omega) f4)
            rw [f5, f6] at hrn
            have hBl : (num ev.toNat en.toNat).length ≤ 4 := by rw [num_length]; exact f4
            clear f1 f2 f3 f4 f5 f6 hF
            generalize num ev.toNat en.toNat = B at *
            have hcc : ¬ 9223372036854775807 < T.length + B.length := by omega
            have hst0 := Hid.intro (hI'.out.below.drew)
            go_wp2_with fail
            clear d0 d1 d2 d3 d4
            refine wp_region_held_drew (S := fun w' => Below w1.heap.size w1 w') (by kernel_rfl) (hst0.out) (fun hHeld => ?_)
            refine wpAnyH_take (i := 0) (v := .pointer (some ⟨p, 0, none⟩)) rfl (by kernel_rfl) (by kernel_rfl) (by kernel_rfl) (fun _ _ _ h => h) (Or.inl ⟨by rfl, fun w' hSw => by clear hSw; go_simp⟩) hHeld ?_
            change wpAnyH _ _ _ _ _ _ _ (Act.put _ (some 70) _) _
            simp only [Act.put, List.setIfInBounds_toArray, List.set_cons_zero, List.set_cons_succ]
            refine wpAnyH_take (i := 1) (v := .slice (some ⟨g, o, none⟩) os.length c) rfl (by kernel_rfl) (by kernel_rfl) (by kernel_rfl) (fun _ _ _ h => h) (Or.inl ⟨by rfl, fun w' hSw => by clear hSw; go_simp⟩) hHeld ?_
            change wpAnyH _ _ _ _ _ _ _ (Act.put _ (some 71) _) _
            simp only [Act.put, List.setIfInBounds_toArray, List.set_cons_zero, List.set_cons_succ]
            refine wpAnyH_take (i := 2) (v := .int .i64 (i : Int)) rfl (by kernel_rfl) (by kernel_rfl) (by kernel_rfl) (fun _ _ _ h => h) (Or.inl ⟨by rfl, fun w' hSw => by clear hSw; go_simp⟩) hHeld ?_
            change wpAnyH _ _ _ _ _ _ _ (Act.put _ (some 72) _) _
            simp only [Act.put, List.setIfInBounds_toArray, List.set_cons_zero, List.set_cons_succ]
            refine wpAnyH_take (i := 3) (v := .pointer (some ⟨g, o + i * 5, none⟩)) rfl (by kernel_rfl) (by kernel_rfl) (by kernel_rfl) (fun _ _ _ h => h) (Or.inl ⟨by rfl, fun w' hSw => by clear hSw; go_simp⟩) hHeld ?_
            change wpAnyH _ _ _ _ _ _ _ (Act.put _ (some 73) _) _
            simp only [Act.put, List.setIfInBounds_toArray, List.set_cons_zero, List.set_cons_succ]
            refine wpAnyH_take (i := 4) (v := .pointer (some ⟨g, o + i * 5 + 1, none⟩)) rfl (by kernel_rfl) (by kernel_rfl) (by kernel_rfl) (fun _ _ _ h => h) (Or.inl ⟨by rfl, fun w' hSw => by clear hSw; go_simp⟩) hHeld ?_
            change wpAnyH _ _ _ _ _ _ _ (Act.put _ (some 74) _) _
            simp only [Act.put, List.setIfInBounds_toArray, List.set_cons_zero, List.set_cons_succ]
            refine wpAnyH_take (i := 5) (v := .int .i64 ev) rfl (by kernel_rfl) (by kernel_rfl) (by kernel_rfl) (fun _ _ _ h => h) (Or.inl ⟨by rfl, fun w' hSw => by have hc := (hC.out w' hSw).2.1; clear hSw; go_simp⟩) hHeld ?_
            change wpAnyH _ _ _ _ _ _ _ (Act.put _ (some 75) _) _
            simp only [Act.put, List.setIfInBounds_toArray, List.set_cons_zero, List.set_cons_succ]
            refine wpAnyH_take (i := 6) (v := .slice (some ⟨g, o, none⟩) os.length c) rfl (by kernel_rfl) (by kernel_rfl) (by kernel_rfl) (fun _ _ _ h => h) (Or.inl ⟨by rfl, fun w' hSw => by clear hSw; go_simp⟩) hHeld ?_
            change wpAnyH _ _ _ _ _ _ _ (Act.put _ (some 76) _) _
            simp only [Act.put, List.setIfInBounds_toArray, List.set_cons_zero, List.set_cons_succ]
            refine wpAnyH_take (i := 7) (v := .int .i64 (i : Int)) rfl (by kernel_rfl) (by kernel_rfl) (by kernel_rfl) (fun _ _ _ h => h) (Or.inl ⟨by rfl, fun w' hSw => by clear hSw; go_simp⟩) hHeld ?_
            change wpAnyH _ _ _ _ _ _ _ (Act.put _ (some 77) _) _
            simp only [Act.put, List.setIfInBounds_toArray, List.set_cons_zero, List.set_cons_succ]
            refine wpAnyH_take (i := 8) (v := .pointer (some ⟨g, o + i * 5, none⟩)) rfl (by kernel_rfl) (by kernel_rfl) (by kernel_rfl) (fun _ _ _ h => h) (Or.inl ⟨by rfl, fun w' hSw => by clear hSw; go_simp⟩) hHeld ?_
            change wpAnyH _ _ _ _ _ _ _ (Act.put _ (some 78) _) _
            simp only [Act.put, List.setIfInBounds_toArray, List.set_cons_zero, List.set_cons_succ]
            refine wpAnyH_take (i := 9) (v := .pointer (some ⟨g, o + i * 5 + 2, none⟩)) rfl (by kernel_rfl) (by kernel_rfl) (by kernel_rfl) (fun _ _ _ h => h) (Or.inl ⟨by rfl, fun w' hSw => by clear hSw; go_simp⟩) hHeld ?_
            change wpAnyH _ _ _ _ _ _ _ (Act.put _ (some 79) _) _
            simp only [Act.put, List.setIfInBounds_toArray, List.set_cons_zero, List.set_cons_succ]
            refine wpAnyH_take (i := 10) (v := .int .i64 en) rfl (by kernel_rfl) (by kernel_rfl) (by kernel_rfl) (fun _ _ _ h => h) (Or.inl ⟨by rfl, fun w' hSw => by have hc := (hC.out w' hSw).2.2.1; clear hSw; go_simp⟩) hHeld ?_
            change wpAnyH _ _ _ _ _ _ _ (Act.put _ (some 80) _) _
            simp only [Act.put, List.setIfInBounds_toArray, List.set_cons_zero, List.set_cons_succ]
            refine wpAnyH_ready (rs := [11]) (by kernel_rfl) (by simp) ?_
            refine AllReadyH.cons rfl (fun K hK => ?_) AllReadyH.nil
            go_simp
            refine (hN.out).mono ?_; rintro e w5 ⟨rfl, a, _, c⟩
            refine hK.out _ _ (hst0.out.trans c) (fun hHeld => ?_); clear hK K
            refine wpAnyH_take (i := 12) (v := .int .i64 0) rfl (by kernel_rfl) (by kernel_rfl) (by kernel_rfl) (fun _ _ _ h => h) (Or.inl ⟨by rfl, fun w' hSw => by clear hSw; go_simp⟩) hHeld ?_
            change wpAnyH _ _ _ _ _ _ _ (Act.put _ (some 7) _) _
            simp only [Act.put, List.setIfInBounds_toArray, List.set_cons_zero, List.set_cons_succ]
            refine wpAnyH_done (by kernel_rfl) ?_ _
            have hO5 := Hid.intro a
            have hB5 := Hid.intro hHeld
            clear a c hHeld hN hst0
            go_wp2_with fail
            refine wp_region_held_drew (S := fun w' => Below w1.heap.size w1 w') (by kernel_rfl) (hB5.out.drew) (fun hHeld => ?_)
            refine wpAnyH_take (i := 0) (v := .slice (some ⟨g, o, none⟩) os.length c) rfl (by kernel_rfl) (by kernel_rfl) (by kernel_rfl) (fun _ _ _ h => h) (Or.inl ⟨by rfl, fun w' hSw => by clear hSw; go_simp⟩) hHeld ?_
            change wpAnyH _ _ _ _ _ _ _ (Act.put _ (some 82) _) _
            simp only [Act.put, List.setIfInBounds_toArray, List.set_cons_zero, List.set_cons_succ]
            refine wpAnyH_take (i := 1) (v := .int .i64 (i : Int)) rfl (by kernel_rfl) (by kernel_rfl) (by kernel_rfl) (fun _ _ _ h => h) (Or.inl ⟨by rfl, fun w' hSw => by clear hSw; go_simp⟩) hHeld ?_
            change wpAnyH _ _ _ _ _ _ _ (Act.put _ (some 83) _) _
            simp only [Act.put, List.setIfInBounds_toArray, List.set_cons_zero, List.set_cons_succ]
            refine wpAnyH_take (i := 2) (v := .pointer (some ⟨g, o + i * 5, none⟩)) rfl (by kernel_rfl) (by kernel_rfl) (by kernel_rfl) (fun _ _ _ h => h) (Or.inl ⟨by rfl, fun w' hSw => by clear hSw; go_simp⟩) hHeld ?_
            change wpAnyH _ _ _ _ _ _ _ (Act.put _ (some 84) _) _
            simp only [Act.put, List.setIfInBounds_toArray, List.set_cons_zero, List.set_cons_succ]
            refine wpAnyH_take (i := 3) (v := .pointer (some ⟨g, o + i * 5 + 1, none⟩)) rfl (by kernel_rfl) (by kernel_rfl) (by kernel_rfl) (fun _ _ _ h => h) (Or.inl ⟨by rfl, fun w' hSw => by clear hSw; go_simp⟩) hHeld ?_
            change wpAnyH _ _ _ _ _ _ _ (Act.put _ (some 85) _) _
            simp only [Act.put, List.setIfInBounds_toArray, List.set_cons_zero, List.set_cons_succ]
            refine wpAnyH_take (i := 4) (v := .int .i64 ev) rfl (by kernel_rfl) (by kernel_rfl) (by kernel_rfl) (fun _ _ _ h => h) (Or.inl ⟨by rfl, fun w' hSw => by have hc := (hC.out w' hSw).2.1; clear hSw; go_simp⟩) hHeld ?_
            change wpAnyH _ _ _ _ _ _ _ (Act.put _ (some 86) _) _
            simp only [Act.put, List.setIfInBounds_toArray, List.set_cons_zero, List.set_cons_succ]
            refine wpAnyH_take (i := 5) (v := .slice (some ⟨g, o, none⟩) os.length c) rfl (by kernel_rfl) (by kernel_rfl) (by kernel_rfl) (fun _ _ _ h => h) (Or.inl ⟨by rfl, fun w' hSw => by clear hSw; go_simp⟩) hHeld ?_
            change wpAnyH _ _ _ _ _ _ _ (Act.put _ (some 87) _) _
            simp only [Act.put, List.setIfInBounds_toArray, List.set_cons_zero, List.set_cons_succ]
            refine wpAnyH_take (i := 6) (v := .int .i64 (i : Int)) rfl (by kernel_rfl) (by kernel_rfl) (by kernel_rfl) (fun _ _ _ h => h) (Or.inl ⟨by rfl, fun w' hSw => by clear hSw; go_simp⟩) hHeld ?_
            change wpAnyH _ _ _ _ _ _ _ (Act.put _ (some 88) _) _
            simp only [Act.put, List.setIfInBounds_toArray, List.set_cons_zero, List.set_cons_succ]
            refine wpAnyH_take (i := 7) (v := .pointer (some ⟨g, o + i * 5, none⟩)) rfl (by kernel_rfl) (by kernel_rfl) (by kernel_rfl) (fun _ _ _ h => h) (Or.inl ⟨by rfl, fun w' hSw => by clear hSw; go_simp⟩) hHeld ?_
            change wpAnyH _ _ _ _ _ _ _ (Act.put _ (some 89) _) _
            simp only [Act.put, List.setIfInBounds_toArray, List.set_cons_zero, List.set_cons_succ]
            refine wpAnyH_take (i := 8) (v := .pointer (some ⟨g, o + i * 5 + 2, none⟩)) rfl (by kernel_rfl) (by kernel_rfl) (by kernel_rfl) (fun _ _ _ h => h) (Or.inl ⟨by rfl, fun w' hSw => by clear hSw; go_simp⟩) hHeld ?_
            change wpAnyH _ _ _ _ _ _ _ (Act.put _ (some 90) _) _
            simp only [Act.put, List.setIfInBounds_toArray, List.set_cons_zero, List.set_cons_succ]
            refine wpAnyH_take (i := 9) (v := .int .i64 en) rfl (by kernel_rfl) (by kernel_rfl) (by kernel_rfl) (fun _ _ _ h => h) (Or.inl ⟨by rfl, fun w' hSw => by have hc := (hC.out w' hSw).2.2.1; clear hSw; go_simp⟩) hHeld ?_
            change wpAnyH _ _ _ _ _ _ _ (Act.put _ (some 91) _) _
            simp only [Act.put, List.setIfInBounds_toArray, List.set_cons_zero, List.set_cons_succ]
            refine wpAnyH_ready (rs := [10]) (by kernel_rfl) (by simp) ?_
            refine AllReadyH.cons rfl (fun K hK => ?_) AllReadyH.nil
            go_simp
            refine (hf.out _).mono ?_; rintro e w6 ⟨rfl, hw6⟩
            refine hK.out _ _ ((by rw [hw6]; exact hHeld)) (fun hHeld => ?_); clear hK K
            refine wpAnyH_done (by kernel_rfl) ?_ _
            have hO6 := Hid.intro (hO5.out.below below_drw)
            rw [← hw6] at hO6
            have hB6 := Hid.intro hHeld
            clear hHeld hO5 hB5 hw6 hf
            go_wp2_with fail
            refine wp_region_held_drew (S := fun w' => Below w1.heap.size w1 w') (by kernel_rfl) (hB6.out.drew) (fun hHeld => ?_)
            refine wpAnyH_take (i := 0) (v := .slice (some ⟨g, o, none⟩) os.length c) rfl (by kernel_rfl) (by kernel_rfl) (by kernel_rfl) (fun _ _ _ h => h) (Or.inl ⟨by rfl, fun w' hSw => by clear hSw; go_simp⟩) hHeld ?_
            change wpAnyH _ _ _ _ _ _ _ (Act.put _ (some 93) _) _
            simp only [Act.put, List.setIfInBounds_toArray, List.set_cons_zero, List.set_cons_succ]
            refine wpAnyH_take (i := 1) (v := .int .i64 (i : Int)) rfl (by kernel_rfl) (by kernel_rfl) (by kernel_rfl) (fun _ _ _ h => h) (Or.inl ⟨by rfl, fun w' hSw => by clear hSw; go_simp⟩) hHeld ?_
            change wpAnyH _ _ _ _ _ _ _ (Act.put _ (some 94) _) _
            simp only [Act.put, List.setIfInBounds_toArray, List.set_cons_zero, List.set_cons_succ]
            refine wpAnyH_take (i := 2) (v := .pointer (some ⟨g, o + i * 5, none⟩)) rfl (by kernel_rfl) (by kernel_rfl) (by kernel_rfl) (fun _ _ _ h => h) (Or.inl ⟨by rfl, fun w' hSw => by clear hSw; go_simp⟩) hHeld ?_
            change wpAnyH _ _ _ _ _ _ _ (Act.put _ (some 95) _) _
            simp only [Act.put, List.setIfInBounds_toArray, List.set_cons_zero, List.set_cons_succ]
            refine wpAnyH_take (i := 3) (v := .pointer (some ⟨g, o + i * 5 + 1, none⟩)) rfl (by kernel_rfl) (by kernel_rfl) (by kernel_rfl) (fun _ _ _ h => h) (Or.inl ⟨by rfl, fun w' hSw => by clear hSw; go_simp⟩) hHeld ?_
            change wpAnyH _ _ _ _ _ _ _ (Act.put _ (some 96) _) _
            simp only [Act.put, List.setIfInBounds_toArray, List.set_cons_zero, List.set_cons_succ]
            refine wpAnyH_take (i := 4) (v := .int .i64 ev) rfl (by kernel_rfl) (by kernel_rfl) (by kernel_rfl) (fun _ _ _ h => h) (Or.inl ⟨by rfl, fun w' hSw => by have hc := (hC.out w' hSw).2.1; clear hSw; go_simp⟩) hHeld ?_
            change wpAnyH _ _ _ _ _ _ _ (Act.put _ (some 97) _) _
            simp only [Act.put, List.setIfInBounds_toArray, List.set_cons_zero, List.set_cons_succ]
            refine wpAnyH_take (i := 5) (v := .slice (some ⟨g, o, none⟩) os.length c) rfl (by kernel_rfl) (by kernel_rfl) (by kernel_rfl) (fun _ _ _ h => h) (Or.inl ⟨by rfl, fun w' hSw => by clear hSw; go_simp⟩) hHeld ?_
            change wpAnyH _ _ _ _ _ _ _ (Act.put _ (some 98) _) _
            simp only [Act.put, List.setIfInBounds_toArray, List.set_cons_zero, List.set_cons_succ]
            refine wpAnyH_take (i := 6) (v := .int .i64 (i : Int)) rfl (by kernel_rfl) (by kernel_rfl) (by kernel_rfl) (fun _ _ _ h => h) (Or.inl ⟨by rfl, fun w' hSw => by clear hSw; go_simp⟩) hHeld ?_
            change wpAnyH _ _ _ _ _ _ _ (Act.put _ (some 99) _) _
            simp only [Act.put, List.setIfInBounds_toArray, List.set_cons_zero, List.set_cons_succ]
            refine wpAnyH_take (i := 7) (v := .pointer (some ⟨g, o + i * 5, none⟩)) rfl (by kernel_rfl) (by kernel_rfl) (by kernel_rfl) (fun _ _ _ h => h) (Or.inl ⟨by rfl, fun w' hSw => by clear hSw; go_simp⟩) hHeld ?_
            change wpAnyH _ _ _ _ _ _ _ (Act.put _ (some 100) _) _
            simp only [Act.put, List.setIfInBounds_toArray, List.set_cons_zero, List.set_cons_succ]
            refine wpAnyH_take (i := 8) (v := .pointer (some ⟨g, o + i * 5 + 2, none⟩)) rfl (by kernel_rfl) (by kernel_rfl) (by kernel_rfl) (fun _ _ _ h => h) (Or.inl ⟨by rfl, fun w' hSw => by clear hSw; go_simp⟩) hHeld ?_
            change wpAnyH _ _ _ _ _ _ _ (Act.put _ (some 101) _) _
            simp only [Act.put, List.setIfInBounds_toArray, List.set_cons_zero, List.set_cons_succ]
            refine wpAnyH_take (i := 9) (v := .int .i64 en) rfl (by kernel_rfl) (by kernel_rfl) (by kernel_rfl) (fun _ _ _ h => h) (Or.inl ⟨by rfl, fun w' hSw => by have hc := (hC.out w' hSw).2.2.1; clear hSw; go_simp⟩) hHeld ?_
            change wpAnyH _ _ _ _ _ _ _ (Act.put _ (some 102) _) _
            simp only [Act.put, List.setIfInBounds_toArray, List.set_cons_zero, List.set_cons_succ]
            refine wpAnyH_ready (rs := [10]) (by kernel_rfl) (by simp) ?_
            refine AllReadyH.cons rfl (fun K hK => ?_) AllReadyH.nil
            go_simp
            refine (hrn.out _).mono ?_; rintro e w7 ⟨rfl, c⟩
            refine hK.out _ _ (hB6.out.drew.trans (c.mono hB6.out.size)) (fun hHeld => ?_); clear hK K
            refine wpAnyH_take (i := 11) (v := .string (str B)) rfl (by kernel_rfl) (by kernel_rfl) (by kernel_rfl) (fun _ _ _ h => h) (Or.inl ⟨by rfl, fun w' hSw => by clear hSw; go_simp⟩) hHeld ?_
            change wpAnyH _ _ _ _ _ _ _ (Act.put _ (some 8) _) _
            simp only [Act.put, List.setIfInBounds_toArray, List.set_cons_zero, List.set_cons_succ]
            refine wpAnyH_done (by kernel_rfl) ?_ _
            have hO7 := Hid.intro ((hO6.out.below below_drw).below c)
            have hB7 := Hid.intro hHeld
            clear hHeld c hO6 hB6 hrn
            have hIn := Hid.intro (hI'.out.next (by omega) hO7.out hB7.out)
            clear hO7 hB7
            go_wp2
            go_roundw
            case rel => exact ⟨i + 1, (Option.map (· ++ B) (some S)), (T ++ B), by omega, by go_num, rfl, rfl, hIn.out⟩
            case measure => simp [intOf]; omega
        · rcases st with _ | S
          · rw [show er none = 1 from rfl]
            have hN := Hid.intro (num_any (hI'.out.out.below below_drw) hpp hlf.out ev en hev)
            have hf := Hid.intro (fits_any ev en)
            rw [decide_eq_false hF] at hf
            rw [show eNum ev en = 1 by unfold eNum; exact if_neg hF, show wNum none ev en = none by unfold wNum; exact if_neg hF] at hN
            clear hF
            have hcc : ¬ 9223372036854775807 < T.length + 0 := by omega
            have hst0 := Hid.intro (hI'.out.below.drew)
            go_wp2_with fail
            clear d0 d1 d2 d3 d4
            refine wp_region_held_drew (S := fun w' => Below w1.heap.size w1 w') (by kernel_rfl) (hst0.out) (fun hHeld => ?_)
            refine wpAnyH_take (i := 0) (v := .pointer (some ⟨p, 0, none⟩)) rfl (by kernel_rfl) (by kernel_rfl) (by kernel_rfl) (fun _ _ _ h => h) (Or.inl ⟨by rfl, fun w' hSw => by clear hSw; go_simp⟩) hHeld ?_
            change wpAnyH _ _ _ _ _ _ _ (Act.put _ (some 70) _) _
            simp only [Act.put, List.setIfInBounds_toArray, List.set_cons_zero, List.set_cons_succ]
            refine wpAnyH_take (i := 1) (v := .slice (some ⟨g, o, none⟩) os.length c) rfl (by kernel_rfl) (by kernel_rfl) (by kernel_rfl) (fun _ _ _ h => h) (Or.inl ⟨by rfl, fun w' hSw => by clear hSw; go_simp⟩) hHeld ?_
            change wpAnyH _ _ _ _ _ _ _ (Act.put _ (some 71) _) _
            simp only [Act.put, List.setIfInBounds_toArray, List.set_cons_zero, List.set_cons_succ]
            refine wpAnyH_take (i := 2) (v := .int .i64 (i : Int)) rfl (by kernel_rfl) (by kernel_rfl) (by kernel_rfl) (fun _ _ _ h => h) (Or.inl ⟨by rfl, fun w' hSw => by clear hSw; go_simp⟩) hHeld ?_
            change wpAnyH _ _ _ _ _ _ _ (Act.put _ (some 72) _) _
            simp only [Act.put, List.setIfInBounds_toArray, List.set_cons_zero, List.set_cons_succ]
            refine wpAnyH_take (i := 3) (v := .pointer (some ⟨g, o + i * 5, none⟩)) rfl (by kernel_rfl) (by kernel_rfl) (by kernel_rfl) (fun _ _ _ h => h) (Or.inl ⟨by rfl, fun w' hSw => by clear hSw; go_simp⟩) hHeld ?_
            change wpAnyH _ _ _ _ _ _ _ (Act.put _ (some 73) _) _
            simp only [Act.put, List.setIfInBounds_toArray, List.set_cons_zero, List.set_cons_succ]
            refine wpAnyH_take (i := 4) (v := .pointer (some ⟨g, o + i * 5 + 1, none⟩)) rfl (by kernel_rfl) (by kernel_rfl) (by kernel_rfl) (fun _ _ _ h => h) (Or.inl ⟨by rfl, fun w' hSw => by clear hSw; go_simp⟩) hHeld ?_
            change wpAnyH _ _ _ _ _ _ _ (Act.put _ (some 74) _) _
            simp only [Act.put, List.setIfInBounds_toArray, List.set_cons_zero, List.set_cons_succ]
            refine wpAnyH_take (i := 5) (v := .int .i64 ev) rfl (by kernel_rfl) (by kernel_rfl) (by kernel_rfl) (fun _ _ _ h => h) (Or.inl ⟨by rfl, fun w' hSw => by have hc := (hC.out w' hSw).2.1; clear hSw; go_simp⟩) hHeld ?_
            change wpAnyH _ _ _ _ _ _ _ (Act.put _ (some 75) _) _
            simp only [Act.put, List.setIfInBounds_toArray, List.set_cons_zero, List.set_cons_succ]
            refine wpAnyH_take (i := 6) (v := .slice (some ⟨g, o, none⟩) os.length c) rfl (by kernel_rfl) (by kernel_rfl) (by kernel_rfl) (fun _ _ _ h => h) (Or.inl ⟨by rfl, fun w' hSw => by clear hSw; go_simp⟩) hHeld ?_
            change wpAnyH _ _ _ _ _ _ _ (Act.put _ (some 76) _) _
            simp only [Act.put, List.setIfInBounds_toArray, List.set_cons_zero, List.set_cons_succ]
            refine wpAnyH_take (i := 7) (v := .int .i64 (i : Int)) rfl (by kernel_rfl) (by kernel_rfl) (by kernel_rfl) (fun _ _ _ h => h) (Or.inl ⟨by rfl, fun w' hSw => by clear hSw; go_simp⟩) hHeld ?_
            change wpAnyH _ _ _ _ _ _ _ (Act.put _ (some 77) _) _
            simp only [Act.put, List.setIfInBounds_toArray, List.set_cons_zero, List.set_cons_succ]
            refine wpAnyH_take (i := 8) (v := .pointer (some ⟨g, o + i * 5, none⟩)) rfl (by kernel_rfl) (by kernel_rfl) (by kernel_rfl) (fun _ _ _ h => h) (Or.inl ⟨by rfl, fun w' hSw => by clear hSw; go_simp⟩) hHeld ?_
            change wpAnyH _ _ _ _ _ _ _ (Act.put _ (some 78) _) _
            simp only [Act.put, List.setIfInBounds_toArray, List.set_cons_zero, List.set_cons_succ]
            refine wpAnyH_take (i := 9) (v := .pointer (some ⟨g, o + i * 5 + 2, none⟩)) rfl (by kernel_rfl) (by kernel_rfl) (by kernel_rfl) (fun _ _ _ h => h) (Or.inl ⟨by rfl, fun w' hSw => by clear hSw; go_simp⟩) hHeld ?_
            change wpAnyH _ _ _ _ _ _ _ (Act.put _ (some 79) _) _
            simp only [Act.put, List.setIfInBounds_toArray, List.set_cons_zero, List.set_cons_succ]
            refine wpAnyH_take (i := 10) (v := .int .i64 en) rfl (by kernel_rfl) (by kernel_rfl) (by kernel_rfl) (fun _ _ _ h => h) (Or.inl ⟨by rfl, fun w' hSw => by have hc := (hC.out w' hSw).2.2.1; clear hSw; go_simp⟩) hHeld ?_
            change wpAnyH _ _ _ _ _ _ _ (Act.put _ (some 80) _) _
            simp only [Act.put, List.setIfInBounds_toArray, List.set_cons_zero, List.set_cons_succ]
            refine wpAnyH_ready (rs := [11]) (by kernel_rfl) (by simp) ?_
            refine AllReadyH.cons rfl (fun K hK => ?_) AllReadyH.nil
            go_simp
            refine (hN.out).mono ?_; rintro e w5 ⟨rfl, a, _, c⟩
            refine hK.out _ _ (hst0.out.trans c) (fun hHeld => ?_); clear hK K
            refine wpAnyH_take (i := 12) (v := .int .i64 1) rfl (by kernel_rfl) (by kernel_rfl) (by kernel_rfl) (fun _ _ _ h => h) (Or.inl ⟨by rfl, fun w' hSw => by clear hSw; go_simp⟩) hHeld ?_
            change wpAnyH _ _ _ _ _ _ _ (Act.put _ (some 7) _) _
            simp only [Act.put, List.setIfInBounds_toArray, List.set_cons_zero, List.set_cons_succ]
            refine wpAnyH_done (by kernel_rfl) ?_ _
            have hO5 := Hid.intro a
            have hB5 := Hid.intro hHeld
            clear a c hHeld hN hst0
            go_wp2_with fail
            refine wp_region_held_drew (S := fun w' => Below w1.heap.size w1 w') (by kernel_rfl) (hB5.out.drew) (fun hHeld => ?_)
            refine wpAnyH_take (i := 0) (v := .slice (some ⟨g, o, none⟩) os.length c) rfl (by kernel_rfl) (by kernel_rfl) (by kernel_rfl) (fun _ _ _ h => h) (Or.inl ⟨by rfl, fun w' hSw => by clear hSw; go_simp⟩) hHeld ?_
            change wpAnyH _ _ _ _ _ _ _ (Act.put _ (some 82) _) _
            simp only [Act.put, List.setIfInBounds_toArray, List.set_cons_zero, List.set_cons_succ]
            refine wpAnyH_take (i := 1) (v := .int .i64 (i : Int)) rfl (by kernel_rfl) (by kernel_rfl) (by kernel_rfl) (fun _ _ _ h => h) (Or.inl ⟨by rfl, fun w' hSw => by clear hSw; go_simp⟩) hHeld ?_
            change wpAnyH _ _ _ _ _ _ _ (Act.put _ (some 83) _) _
            simp only [Act.put, List.setIfInBounds_toArray, List.set_cons_zero, List.set_cons_succ]
            refine wpAnyH_take (i := 2) (v := .pointer (some ⟨g, o + i * 5, none⟩)) rfl (by kernel_rfl) (by kernel_rfl) (by kernel_rfl) (fun _ _ _ h => h) (Or.inl ⟨by rfl, fun w' hSw => by clear hSw; go_simp⟩) hHeld ?_
            change wpAnyH _ _ _ _ _ _ _ (Act.put _ (some 84) _) _
            simp only [Act.put, List.setIfInBounds_toArray, List.set_cons_zero, List.set_cons_succ]
            refine wpAnyH_take (i := 3) (v := .pointer (some ⟨g, o + i * 5 + 1, none⟩)) rfl (by kernel_rfl) (by kernel_rfl) (by kernel_rfl) (fun _ _ _ h => h) (Or.inl ⟨by rfl, fun w' hSw => by clear hSw; go_simp⟩) hHeld ?_
            change wpAnyH _ _ _ _ _ _ _ (Act.put _ (some 85) _) _
            simp only [Act.put, List.setIfInBounds_toArray, List.set_cons_zero, List.set_cons_succ]
            refine wpAnyH_take (i := 4) (v := .int .i64 ev) rfl (by kernel_rfl) (by kernel_rfl) (by kernel_rfl) (fun _ _ _ h => h) (Or.inl ⟨by rfl, fun w' hSw => by have hc := (hC.out w' hSw).2.1; clear hSw; go_simp⟩) hHeld ?_
            change wpAnyH _ _ _ _ _ _ _ (Act.put _ (some 86) _) _
            simp only [Act.put, List.setIfInBounds_toArray, List.set_cons_zero, List.set_cons_succ]
            refine wpAnyH_take (i := 5) (v := .slice (some ⟨g, o, none⟩) os.length c) rfl (by kernel_rfl) (by kernel_rfl) (by kernel_rfl) (fun _ _ _ h => h) (Or.inl ⟨by rfl, fun w' hSw => by clear hSw; go_simp⟩) hHeld ?_
            change wpAnyH _ _ _ _ _ _ _ (Act.put _ (some 87) _) _
            simp only [Act.put, List.setIfInBounds_toArray, List.set_cons_zero, List.set_cons_succ]
            refine wpAnyH_take (i := 6) (v := .int .i64 (i : Int)) rfl (by kernel_rfl) (by kernel_rfl) (by kernel_rfl) (fun _ _ _ h => h) (Or.inl ⟨by rfl, fun w' hSw => by clear hSw; go_simp⟩) hHeld ?_
            change wpAnyH _ _ _ _ _ _ _ (Act.put _ (some 88) _) _
            simp only [Act.put, List.setIfInBounds_toArray, List.set_cons_zero, List.set_cons_succ]
            refine wpAnyH_take (i := 7) (v := .pointer (some ⟨g, o + i * 5, none⟩)) rfl (by kernel_rfl) (by kernel_rfl) (by kernel_rfl) (fun _ _ _ h => h) (Or.inl ⟨by rfl, fun w' hSw => by clear hSw; go_simp⟩) hHeld ?_
            change wpAnyH _ _ _ _ _ _ _ (Act.put _ (some 89) _) _
            simp only [Act.put, List.setIfInBounds_toArray, List.set_cons_zero, List.set_cons_succ]
            refine wpAnyH_take (i := 8) (v := .pointer (some ⟨g, o + i * 5 + 2, none⟩)) rfl (by kernel_rfl) (by kernel_rfl) (by kernel_rfl) (fun _ _ _ h => h) (Or.inl ⟨by rfl, fun w' hSw => by clear hSw; go_simp⟩) hHeld ?_
            change wpAnyH _ _ _ _ _ _ _ (Act.put _ (some 90) _) _
            simp only [Act.put, List.setIfInBounds_toArray, List.set_cons_zero, List.set_cons_succ]
            refine wpAnyH_take (i := 9) (v := .int .i64 en) rfl (by kernel_rfl) (by kernel_rfl) (by kernel_rfl) (fun _ _ _ h => h) (Or.inl ⟨by rfl, fun w' hSw => by have hc := (hC.out w' hSw).2.2.1; clear hSw; go_simp⟩) hHeld ?_
            change wpAnyH _ _ _ _ _ _ _ (Act.put _ (some 91) _) _
            simp only [Act.put, List.setIfInBounds_toArray, List.set_cons_zero, List.set_cons_succ]
            refine wpAnyH_ready (rs := [10]) (by kernel_rfl) (by simp) ?_
            refine AllReadyH.cons rfl (fun K hK => ?_) AllReadyH.nil
            go_simp
            refine (hf.out _).mono ?_; rintro e w6 ⟨rfl, hw6⟩
            refine hK.out _ _ ((by rw [hw6]; exact hHeld)) (fun hHeld => ?_); clear hK K
            refine wpAnyH_done (by kernel_rfl) ?_ _
            have hO6 := Hid.intro (hO5.out.below below_drw)
            rw [← hw6] at hO6
            have hB6 := Hid.intro hHeld
            clear hHeld hO5 hB5 hw6 hf
            have hIn := Hid.intro (hI'.out.bad hO6.out hB6.out)
            clear hO6 hB6
            go_wp2
            go_roundw
            case rel => exact ⟨i + 1, none, T, by omega, by go_num, congrArg Value.string (str_nil_r T), rfl, hIn.out⟩
            case measure => simp [intOf]; omega
          · rw [show er (some S) = 0 from rfl]
            have hN := Hid.intro (num_any (hI'.out.out.below below_drw) hpp hlf.out ev en hev)
            have hf := Hid.intro (fits_any ev en)
            rw [decide_eq_false hF] at hf
            rw [show eNum ev en = 1 by unfold eNum; exact if_neg hF, show wNum (some S) ev en = none by unfold wNum; exact if_neg hF] at hN
            clear hF
            have hcc : ¬ 9223372036854775807 < T.length + 0 := by omega
            have hst0 := Hid.intro (hI'.out.below.drew)
            go_wp2_with fail
            clear d0 d1 d2 d3 d4
            refine wp_region_held_drew (S := fun w' => Below w1.heap.size w1 w') (by kernel_rfl) (hst0.out) (fun hHeld => ?_)
            refine wpAnyH_take (i := 0) (v := .pointer (some ⟨p, 0, none⟩)) rfl (by kernel_rfl) (by kernel_rfl) (by kernel_rfl) (fun _ _ _ h => h) (Or.inl ⟨by rfl, fun w' hSw => by clear hSw; go_simp⟩) hHeld ?_
            change wpAnyH _ _ _ _ _ _ _ (Act.put _ (some 70) _) _
            simp only [Act.put, List.setIfInBounds_toArray, List.set_cons_zero, List.set_cons_succ]
            refine wpAnyH_take (i := 1) (v := .slice (some ⟨g, o, none⟩) os.length c) rfl (by kernel_rfl) (by kernel_rfl) (by kernel_rfl) (fun _ _ _ h => h) (Or.inl ⟨by rfl, fun w' hSw => by clear hSw; go_simp⟩) hHeld ?_
            change wpAnyH _ _ _ _ _ _ _ (Act.put _ (some 71) _) _
            simp only [Act.put, List.setIfInBounds_toArray, List.set_cons_zero, List.set_cons_succ]
            refine wpAnyH_take (i := 2) (v := .int .i64 (i : Int)) rfl (by kernel_rfl) (by kernel_rfl) (by kernel_rfl) (fun _ _ _ h => h) (Or.inl ⟨by rfl, fun w' hSw => by clear hSw; go_simp⟩) hHeld ?_
            change wpAnyH _ _ _ _ _ _ _ (Act.put _ (some 72) _) _
            simp only [Act.put, List.setIfInBounds_toArray, List.set_cons_zero, List.set_cons_succ]
            refine wpAnyH_take (i := 3) (v := .pointer (some ⟨g, o + i * 5, none⟩)) rfl (by kernel_rfl) (by kernel_rfl) (by kernel_rfl) (fun _ _ _ h => h) (Or.inl ⟨by rfl, fun w' hSw => by clear hSw; go_simp⟩) hHeld ?_
            change wpAnyH _ _ _ _ _ _ _ (Act.put _ (some 73) _) _
            simp only [Act.put, List.setIfInBounds_toArray, List.set_cons_zero, List.set_cons_succ]
            refine wpAnyH_take (i := 4) (v := .pointer (some ⟨g, o + i * 5 + 1, none⟩)) rfl (by kernel_rfl) (by kernel_rfl) (by kernel_rfl) (fun _ _ _ h => h) (Or.inl ⟨by rfl, fun w' hSw => by clear hSw; go_simp⟩) hHeld ?_
            change wpAnyH _ _ _ _ _ _ _ (Act.put _ (some 74) _) _
            simp only [Act.put, List.setIfInBounds_toArray, List.set_cons_zero, List.set_cons_succ]
            refine wpAnyH_take (i := 5) (v := .int .i64 ev) rfl (by kernel_rfl) (by kernel_rfl) (by kernel_rfl) (fun _ _ _ h => h) (Or.inl ⟨by rfl, fun w' hSw => by have hc := (hC.out w' hSw).2.1; clear hSw; go_simp⟩) hHeld ?_
            change wpAnyH _ _ _ _ _ _ _ (Act.put _ (some 75) _) _
            simp only [Act.put, List.setIfInBounds_toArray, List.set_cons_zero, List.set_cons_succ]
            refine wpAnyH_take (i := 6) (v := .slice (some ⟨g, o, none⟩) os.length c) rfl (by kernel_rfl) (by kernel_rfl) (by kernel_rfl) (fun _ _ _ h => h) (Or.inl ⟨by rfl, fun w' hSw => by clear hSw; go_simp⟩) hHeld ?_
            change wpAnyH _ _ _ _ _ _ _ (Act.put _ (some 76) _) _
            simp only [Act.put, List.setIfInBounds_toArray, List.set_cons_zero, List.set_cons_succ]
            refine wpAnyH_take (i := 7) (v := .int .i64 (i : Int)) rfl (by kernel_rfl) (by kernel_rfl) (by kernel_rfl) (fun _ _ _ h => h) (Or.inl ⟨by rfl, fun w' hSw => by clear hSw; go_simp⟩) hHeld ?_
            change wpAnyH _ _ _ _ _ _ _ (Act.put _ (some 77) _) _
            simp only [Act.put, List.setIfInBounds_toArray, List.set_cons_zero, List.set_cons_succ]
            refine wpAnyH_take (i := 8) (v := .pointer (some ⟨g, o + i * 5, none⟩)) rfl (by kernel_rfl) (by kernel_rfl) (by kernel_rfl) (fun _ _ _ h => h) (Or.inl ⟨by rfl, fun w' hSw => by clear hSw; go_simp⟩) hHeld ?_
            change wpAnyH _ _ _ _ _ _ _ (Act.put _ (some 78) _) _
            simp only [Act.put, List.setIfInBounds_toArray, List.set_cons_zero, List.set_cons_succ]
            refine wpAnyH_take (i := 9) (v := .pointer (some ⟨g, o + i * 5 + 2, none⟩)) rfl (by kernel_rfl) (by kernel_rfl) (by kernel_rfl) (fun _ _ _ h => h) (Or.inl ⟨by rfl, fun w' hSw => by clear hSw; go_simp⟩) hHeld ?_
            change wpAnyH _ _ _ _ _ _ _ (Act.put _ (some 79) _) _
            simp only [Act.put, List.setIfInBounds_toArray, List.set_cons_zero, List.set_cons_succ]
            refine wpAnyH_take (i := 10) (v := .int .i64 en) rfl (by kernel_rfl) (by kernel_rfl) (by kernel_rfl) (fun _ _ _ h => h) (Or.inl ⟨by rfl, fun w' hSw => by have hc := (hC.out w' hSw).2.2.1; clear hSw; go_simp⟩) hHeld ?_
            change wpAnyH _ _ _ _ _ _ _ (Act.put _ (some 80) _) _
            simp only [Act.put, List.setIfInBounds_toArray, List.set_cons_zero, List.set_cons_succ]
            refine wpAnyH_ready (rs := [11]) (by kernel_rfl) (by simp) ?_
            refine AllReadyH.cons rfl (fun K hK => ?_) AllReadyH.nil
            go_simp
            refine (hN.out).mono ?_; rintro e w5 ⟨rfl, a, _, c⟩
            refine hK.out _ _ (hst0.out.trans c) (fun hHeld => ?_); clear hK K
            refine wpAnyH_take (i := 12) (v := .int .i64 1) rfl (by kernel_rfl) (by kernel_rfl) (by kernel_rfl) (fun _ _ _ h => h) (Or.inl ⟨by rfl, fun w' hSw => by clear hSw; go_simp⟩) hHeld ?_
            change wpAnyH _ _ _ _ _ _ _ (Act.put _ (some 7) _) _
            simp only [Act.put, List.setIfInBounds_toArray, List.set_cons_zero, List.set_cons_succ]
            refine wpAnyH_done (by kernel_rfl) ?_ _
            have hO5 := Hid.intro a
            have hB5 := Hid.intro hHeld
            clear a c hHeld hN hst0
            go_wp2_with fail
            refine wp_region_held_drew (S := fun w' => Below w1.heap.size w1 w') (by kernel_rfl) (hB5.out.drew) (fun hHeld => ?_)
            refine wpAnyH_take (i := 0) (v := .slice (some ⟨g, o, none⟩) os.length c) rfl (by kernel_rfl) (by kernel_rfl) (by kernel_rfl) (fun _ _ _ h => h) (Or.inl ⟨by rfl, fun w' hSw => by clear hSw; go_simp⟩) hHeld ?_
            change wpAnyH _ _ _ _ _ _ _ (Act.put _ (some 82) _) _
            simp only [Act.put, List.setIfInBounds_toArray, List.set_cons_zero, List.set_cons_succ]
            refine wpAnyH_take (i := 1) (v := .int .i64 (i : Int)) rfl (by kernel_rfl) (by kernel_rfl) (by kernel_rfl) (fun _ _ _ h => h) (Or.inl ⟨by rfl, fun w' hSw => by clear hSw; go_simp⟩) hHeld ?_
            change wpAnyH _ _ _ _ _ _ _ (Act.put _ (some 83) _) _
            simp only [Act.put, List.setIfInBounds_toArray, List.set_cons_zero, List.set_cons_succ]
            refine wpAnyH_take (i := 2) (v := .pointer (some ⟨g, o + i * 5, none⟩)) rfl (by kernel_rfl) (by kernel_rfl) (by kernel_rfl) (fun _ _ _ h => h) (Or.inl ⟨by rfl, fun w' hSw => by clear hSw; go_simp⟩) hHeld ?_
            change wpAnyH _ _ _ _ _ _ _ (Act.put _ (some 84) _) _
            simp only [Act.put, List.setIfInBounds_toArray, List.set_cons_zero, List.set_cons_succ]
            refine wpAnyH_take (i := 3) (v := .pointer (some ⟨g, o + i * 5 + 1, none⟩)) rfl (by kernel_rfl) (by kernel_rfl) (by kernel_rfl) (fun _ _ _ h => h) (Or.inl ⟨by rfl, fun w' hSw => by clear hSw; go_simp⟩) hHeld ?_
            change wpAnyH _ _ _ _ _ _ _ (Act.put _ (some 85) _) _
            simp only [Act.put, List.setIfInBounds_toArray, List.set_cons_zero, List.set_cons_succ]
            refine wpAnyH_take (i := 4) (v := .int .i64 ev) rfl (by kernel_rfl) (by kernel_rfl) (by kernel_rfl) (fun _ _ _ h => h) (Or.inl ⟨by rfl, fun w' hSw => by have hc := (hC.out w' hSw).2.1; clear hSw; go_simp⟩) hHeld ?_
            change wpAnyH _ _ _ _ _ _ _ (Act.put _ (some 86) _) _
            simp only [Act.put, List.setIfInBounds_toArray, List.set_cons_zero, List.set_cons_succ]
            refine wpAnyH_take (i := 5) (v := .slice (some ⟨g, o, none⟩) os.length c) rfl (by kernel_rfl) (by kernel_rfl) (by kernel_rfl) (fun _ _ _ h => h) (Or.inl ⟨by rfl, fun w' hSw => by clear hSw; go_simp⟩) hHeld ?_
            change wpAnyH _ _ _ _ _ _ _ (Act.put _ (some 87) _) _
            simp only [Act.put, List.setIfInBounds_toArray, List.set_cons_zero, List.set_cons_succ]
            refine wpAnyH_take (i := 6) (v := .int .i64 (i : Int)) rfl (by kernel_rfl) (by kernel_rfl) (by kernel_rfl) (fun _ _ _ h => h) (Or.inl ⟨by rfl, fun w' hSw => by clear hSw; go_simp⟩) hHeld ?_
            change wpAnyH _ _ _ _ _ _ _ (Act.put _ (some 88) _) _
            simp only [Act.put, List.setIfInBounds_toArray, List.set_cons_zero, List.set_cons_succ]
            refine wpAnyH_take (i := 7) (v := .pointer (some ⟨g, o + i * 5, none⟩)) rfl (by kernel_rfl) (by kernel_rfl) (by kernel_rfl) (fun _ _ _ h => h) (Or.inl ⟨by rfl, fun w' hSw => by clear hSw; go_simp⟩) hHeld ?_
            change wpAnyH _ _ _ _ _ _ _ (Act.put _ (some 89) _) _
            simp only [Act.put, List.setIfInBounds_toArray, List.set_cons_zero, List.set_cons_succ]
            refine wpAnyH_take (i := 8) (v := .pointer (some ⟨g, o + i * 5 + 2, none⟩)) rfl (by kernel_rfl) (by kernel_rfl) (by kernel_rfl) (fun _ _ _ h => h) (Or.inl ⟨by rfl, fun w' hSw => by clear hSw; go_simp⟩) hHeld ?_
            change wpAnyH _ _ _ _ _ _ _ (Act.put _ (some 90) _) _
            simp only [Act.put, List.setIfInBounds_toArray, List.set_cons_zero, List.set_cons_succ]
            refine wpAnyH_take (i := 9) (v := .int .i64 en) rfl (by kernel_rfl) (by kernel_rfl) (by kernel_rfl) (fun _ _ _ h => h) (Or.inl ⟨by rfl, fun w' hSw => by have hc := (hC.out w' hSw).2.2.1; clear hSw; go_simp⟩) hHeld ?_
            change wpAnyH _ _ _ _ _ _ _ (Act.put _ (some 91) _) _
            simp only [Act.put, List.setIfInBounds_toArray, List.set_cons_zero, List.set_cons_succ]
            refine wpAnyH_ready (rs := [10]) (by kernel_rfl) (by simp) ?_
            refine AllReadyH.cons rfl (fun K hK => ?_) AllReadyH.nil
            go_simp
            refine (hf.out _).mono ?_; rintro e w6 ⟨rfl, hw6⟩
            refine hK.out _ _ ((by rw [hw6]; exact hHeld)) (fun hHeld => ?_); clear hK K
            refine wpAnyH_done (by kernel_rfl) ?_ _
            have hO6 := Hid.intro (hO5.out.below below_drw)
            rw [← hw6] at hO6
            have hB6 := Hid.intro hHeld
            clear hHeld hO5 hB5 hw6 hf
            have hIn := Hid.intro (hI'.out.bad hO6.out hB6.out)
            clear hO6 hB6
            go_wp2
            go_roundw
            case rel => exact ⟨i + 1, none, T, by omega, by go_num, congrArg Value.string (str_nil_r T), rfl, hIn.out⟩
            case measure => simp [intOf]; omega
      · by_cases hk2 : ek = 2
        · subst hk2
          by_cases hF : es.length ≤ 255
          · rcases st with _ | S
            · rw [show er none = 1 from rfl]
              have hT := Hid.intro (text_any hI'.out.out hpp hlf.out es)
              rw [show eText es = 0 by unfold eText; exact if_pos hF, show wText none es = Option.map (· ++ txt es) none by unfold wText; exact if_pos hF] at hT
              have hX := Hid.intro (rone_any (es.length : Int) (Int.natCast_nonneg _) (by omega))
              have hXe : [UInt8.ofNat (es.length : Int).toNat] ++ es = txt es := rfl
              have hBl : (txt es).length ≤ 256 := by simp [txt]; omega
              have hFi : (es.length : Int) ≤ 255 := by omega
              have lX : [UInt8.ofNat (es.length : Int).toNat].length = 1 := rfl
              generalize [UInt8.ofNat (es.length : Int).toNat] = X at *
              generalize txt es = B at *
              have hXB := Hid.intro hXe
              have hcc : ¬ 9223372036854775807 < T.length + B.length := by omega
              have hc2 : ¬ 9223372036854775807 < 1 + es.length := by omega
              clear hXe
              go_wp2_with fail
              refine hT.out.mono ?_; rintro e w5 ⟨rfl, b1, _, b2⟩
              have hO5 := Hid.intro b1
              have hB5 := Hid.intro (hI'.out.below.trans b2)
              clear b1 b2 hT d0 d1 d2 d3 d4
              obtain ⟨d0, d1, d2, d3, d4⟩ := hC.out _ hB5.out
              go_wp2_with fail
              clear d0 d1 d2 d3 d4
              refine wp_region_held_drew (S := fun w' => Below w1.heap.size w1 w') (by kernel_rfl) (hB5.out.drew) (fun hHeld => ?_)
              refine wpAnyH_take (i := 0) (v := .slice (some ⟨g, o, none⟩) os.length c) rfl (by kernel_rfl) (by kernel_rfl) (by kernel_rfl) (fun _ _ _ h => h) (Or.inl ⟨by rfl, fun w' hSw => by clear hSw; go_simp⟩) hHeld ?_
              change wpAnyH _ _ _ _ _ _ _ (Act.put _ (some 120) _) _
              simp only [Act.put, List.setIfInBounds_toArray, List.set_cons_zero, List.set_cons_succ]
              refine wpAnyH_take (i := 1) (v := .int .i64 (i : Int)) rfl (by kernel_rfl) (by kernel_rfl) (by kernel_rfl) (fun _ _ _ h => h) (Or.inl ⟨by rfl, fun w' hSw => by clear hSw; go_simp⟩) hHeld ?_
              change wpAnyH _ _ _ _ _ _ _ (Act.put _ (some 121) _) _
              simp only [Act.put, List.setIfInBounds_toArray, List.set_cons_zero, List.set_cons_succ]
              refine wpAnyH_take (i := 2) (v := .pointer (some ⟨g, o + i * 5, none⟩)) rfl (by kernel_rfl) (by kernel_rfl) (by kernel_rfl) (fun _ _ _ h => h) (Or.inl ⟨by rfl, fun w' hSw => by clear hSw; go_simp⟩) hHeld ?_
              change wpAnyH _ _ _ _ _ _ _ (Act.put _ (some 122) _) _
              simp only [Act.put, List.setIfInBounds_toArray, List.set_cons_zero, List.set_cons_succ]
              refine wpAnyH_take (i := 3) (v := .pointer (some ⟨g, o + i * 5 + 3, none⟩)) rfl (by kernel_rfl) (by kernel_rfl) (by kernel_rfl) (fun _ _ _ h => h) (Or.inl ⟨by rfl, fun w' hSw => by clear hSw; go_simp⟩) hHeld ?_
              change wpAnyH _ _ _ _ _ _ _ (Act.put _ (some 123) _) _
              simp only [Act.put, List.setIfInBounds_toArray, List.set_cons_zero, List.set_cons_succ]
              refine wpAnyH_take (i := 4) (v := .string (str es)) rfl (by kernel_rfl) (by kernel_rfl) (by kernel_rfl) (fun _ _ _ h => h) (Or.inl ⟨by rfl, fun w' hSw => by have hc := (hC.out w' hSw).2.2.2.1; clear hSw; go_simp⟩) hHeld ?_
              change wpAnyH _ _ _ _ _ _ _ (Act.put _ (some 124) _) _
              simp only [Act.put, List.setIfInBounds_toArray, List.set_cons_zero, List.set_cons_succ]
              refine wpAnyH_take (i := 5) (v := .int .i64 (es.length : Int)) rfl (by kernel_rfl) (by kernel_rfl) (by kernel_rfl) (fun _ _ _ h => h) (Or.inl ⟨by rfl, fun w' hSw => by clear hSw; go_simp⟩) hHeld ?_
              change wpAnyH _ _ _ _ _ _ _ (Act.put _ (some 125) _) _
              simp only [Act.put, List.setIfInBounds_toArray, List.set_cons_zero, List.set_cons_succ]
              refine wpAnyH_take (i := 7) (v := .slice (some ⟨g, o, none⟩) os.length c) rfl (by kernel_rfl) (by kernel_rfl) (by kernel_rfl) (fun _ _ _ h => h) (Or.inl ⟨by rfl, fun w' hSw => by clear hSw; go_simp⟩) hHeld ?_
              change wpAnyH _ _ _ _ _ _ _ (Act.put _ (some 127) _) _
              simp only [Act.put, List.setIfInBounds_toArray, List.set_cons_zero, List.set_cons_succ]
              refine wpAnyH_take (i := 8) (v := .int .i64 (i : Int)) rfl (by kernel_rfl) (by kernel_rfl) (by kernel_rfl) (fun _ _ _ h => h) (Or.inl ⟨by rfl, fun w' hSw => by clear hSw; go_simp⟩) hHeld ?_
              change wpAnyH _ _ _ _ _ _ _ (Act.put _ (some 128) _) _
              simp only [Act.put, List.setIfInBounds_toArray, List.set_cons_zero, List.set_cons_succ]
              refine wpAnyH_take (i := 9) (v := .pointer (some ⟨g, o + i * 5, none⟩)) rfl (by kernel_rfl) (by kernel_rfl) (by kernel_rfl) (fun _ _ _ h => h) (Or.inl ⟨by rfl, fun w' hSw => by clear hSw; go_simp⟩) hHeld ?_
              change wpAnyH _ _ _ _ _ _ _ (Act.put _ (some 129) _) _
              simp only [Act.put, List.setIfInBounds_toArray, List.set_cons_zero, List.set_cons_succ]
              refine wpAnyH_take (i := 10) (v := .pointer (some ⟨g, o + i * 5 + 3, none⟩)) rfl (by kernel_rfl) (by kernel_rfl) (by kernel_rfl) (fun _ _ _ h => h) (Or.inl ⟨by rfl, fun w' hSw => by clear hSw; go_simp⟩) hHeld ?_
              change wpAnyH _ _ _ _ _ _ _ (Act.put _ (some 130) _) _
              simp only [Act.put, List.setIfInBounds_toArray, List.set_cons_zero, List.set_cons_succ]
              refine wpAnyH_take (i := 11) (v := .string (str es)) rfl (by kernel_rfl) (by kernel_rfl) (by kernel_rfl) (fun _ _ _ h => h) (Or.inl ⟨by rfl, fun w' hSw => by have hc := (hC.out w' hSw).2.2.2.1; clear hSw; go_simp⟩) hHeld ?_
              change wpAnyH _ _ _ _ _ _ _ (Act.put _ (some 131) _) _
              simp only [Act.put, List.setIfInBounds_toArray, List.set_cons_zero, List.set_cons_succ]
              refine wpAnyH_ready (rs := [6]) (by kernel_rfl) (by simp) ?_
              refine AllReadyH.cons rfl (fun K hK => ?_) AllReadyH.nil
              go_simp
              refine (hX.out _).mono ?_; rintro e w7 ⟨rfl, c⟩
              refine hK.out _ _ (hB5.out.drew.trans (c.mono hB5.out.size)) (fun hHeld => ?_); clear hK K
              refine wpAnyH_take (i := 12) (v := .string (str B)) rfl (by kernel_rfl) (by kernel_rfl) (by kernel_rfl) (fun _ _ _ h => h) (Or.inl ⟨by rfl, fun w' hSw => by clear hSw; go_simp; rw [hXB.out]⟩) hHeld ?_
              change wpAnyH _ _ _ _ _ _ _ (Act.put _ (some 132) _) _
              simp only [Act.put, List.setIfInBounds_toArray, List.set_cons_zero, List.set_cons_succ]
              refine wpAnyH_take (i := 13) (v := .string (str B)) rfl (by kernel_rfl) (by kernel_rfl) (by kernel_rfl) (fun _ _ _ h => h) (Or.inl ⟨by rfl, fun w' hSw => by clear hSw; go_simp⟩) hHeld ?_
              change wpAnyH _ _ _ _ _ _ _ (Act.put _ (some 8) _) _
              simp only [Act.put, List.setIfInBounds_toArray, List.set_cons_zero, List.set_cons_succ]
              refine wpAnyH_done (by kernel_rfl) ?_ _
              have hO7 := Hid.intro ((hO5.out.below below_drw).below c)
              have hB7 := Hid.intro hHeld
              clear hHeld c hO5 hB5 hX
              have hIn := Hid.intro (hI'.out.next (by omega) hO7.out hB7.out)
              clear hO7 hB7
              go_wp2
              go_roundw
              case rel => exact ⟨i + 1, (Option.map (· ++ B) none), (T ++ B), by omega, by go_num, rfl, rfl, hIn.out⟩
              case measure => simp [intOf]; omega
            · rw [show er (some S) = 0 from rfl]
              have hT := Hid.intro (text_any hI'.out.out hpp hlf.out es)
              rw [show eText es = 0 by unfold eText; exact if_pos hF, show wText (some S) es = Option.map (· ++ txt es) (some S) by unfold wText; exact if_pos hF] at hT
              have hX := Hid.intro (rone_any (es.length : Int) (Int.natCast_nonneg _) (by omega))
              have hXe : [UInt8.ofNat (es.length : Int).toNat] ++ es = txt es := rfl
              have hBl : (txt es).length ≤ 256 := by simp [txt]; omega
              have hFi : (es.length : Int) ≤ 255 := by omega
              have lX : [UInt8.ofNat (es.length : Int).toNat].length = 1 := rfl
              generalize [UInt8.ofNat (es.length : Int).toNat] = X at *
              generalize txt es = B at *
              have hXB := Hid.intro hXe
              have hcc : ¬ 9223372036854775807 < T.length + B.length := by omega
              have hc2 : ¬ 9223372036854775807 < 1 + es.length := by omega
              clear hXe
              go_wp2_with fail
              refine hT.out.mono ?_; rintro e w5 ⟨rfl, b1, _, b2⟩
              have hO5 := Hid.intro b1
              have hB5 := Hid.intro (hI'.out.below.trans b2)
              clear b1 b2 hT d0 d1 d2 d3 d4
              obtain ⟨d0, d1, d2, d3, d4⟩ := hC.out _ hB5.out
              go_wp2_with fail
              clear d0 d1 d2 d3 d4
              refine wp_region_held_drew (S := fun w' => Below w1.heap.size w1 w') (by kernel_rfl) (hB5.out.drew) (fun hHeld => ?_)
              refine wpAnyH_take (i := 0) (v := .slice (some ⟨g, o, none⟩) os.length c) rfl (by kernel_rfl) (by kernel_rfl) (by kernel_rfl) (fun _ _ _ h => h) (Or.inl ⟨by rfl, fun w' hSw => by clear hSw; go_simp⟩) hHeld ?_
              change wpAnyH _ _ _ _ _ _ _ (Act.put _ (some 120) _) _
              simp only [Act.put, List.setIfInBounds_toArray, List.set_cons_zero, List.set_cons_succ]
              refine wpAnyH_take (i := 1) (v := .int .i64 (i : Int)) rfl (by kernel_rfl) (by kernel_rfl) (by kernel_rfl) (fun _ _ _ h => h) (Or.inl ⟨by rfl, fun w' hSw => by clear hSw; go_simp⟩) hHeld ?_
              change wpAnyH _ _ _ _ _ _ _ (Act.put _ (some 121) _) _
              simp only [Act.put, List.setIfInBounds_toArray, List.set_cons_zero, List.set_cons_succ]
              refine wpAnyH_take (i := 2) (v := .pointer (some ⟨g, o + i * 5, none⟩)) rfl (by kernel_rfl) (by kernel_rfl) (by kernel_rfl) (fun _ _ _ h => h) (Or.inl ⟨by rfl, fun w' hSw => by clear hSw; go_simp⟩) hHeld ?_
              change wpAnyH _ _ _ _ _ _ _ (Act.put _ (some 122) _) _
              simp only [Act.put, List.setIfInBounds_toArray, List.set_cons_zero, List.set_cons_succ]
              refine wpAnyH_take (i := 3) (v := .pointer (some ⟨g, o + i * 5 + 3, none⟩)) rfl (by kernel_rfl) (by kernel_rfl) (by kernel_rfl) (fun _ _ _ h => h) (Or.inl ⟨by rfl, fun w' hSw => by clear hSw; go_simp⟩) hHeld ?_
              change wpAnyH _ _ _ _ _ _ _ (Act.put _ (some 123) _) _
              simp only [Act.put, List.setIfInBounds_toArray, List.set_cons_zero, List.set_cons_succ]
              refine wpAnyH_take (i := 4) (v := .string (str es)) rfl (by kernel_rfl) (by kernel_rfl) (by kernel_rfl) (fun _ _ _ h => h) (Or.inl ⟨by rfl, fun w' hSw => by have hc := (hC.out w' hSw).2.2.2.1; clear hSw; go_simp⟩) hHeld ?_
              change wpAnyH _ _ _ _ _ _ _ (Act.put _ (some 124) _) _
              simp only [Act.put, List.setIfInBounds_toArray, List.set_cons_zero, List.set_cons_succ]
              refine wpAnyH_take (i := 5) (v := .int .i64 (es.length : Int)) rfl (by kernel_rfl) (by kernel_rfl) (by kernel_rfl) (fun _ _ _ h => h) (Or.inl ⟨by rfl, fun w' hSw => by clear hSw; go_simp⟩) hHeld ?_
              change wpAnyH _ _ _ _ _ _ _ (Act.put _ (some 125) _) _
              simp only [Act.put, List.setIfInBounds_toArray, List.set_cons_zero, List.set_cons_succ]
              refine wpAnyH_take (i := 7) (v := .slice (some ⟨g, o, none⟩) os.length c) rfl (by kernel_rfl) (by kernel_rfl) (by kernel_rfl) (fun _ _ _ h => h) (Or.inl ⟨by rfl, fun w' hSw => by clear hSw; go_simp⟩) hHeld ?_
              change wpAnyH _ _ _ _ _ _ _ (Act.put _ (some 127) _) _
              simp only [Act.put, List.setIfInBounds_toArray, List.set_cons_zero, List.set_cons_succ]
              refine wpAnyH_take (i := 8) (v := .int .i64 (i : Int)) rfl (by kernel_rfl) (by kernel_rfl) (by kernel_rfl) (fun _ _ _ h => h) (Or.inl ⟨by rfl, fun w' hSw => by clear hSw; go_simp⟩) hHeld ?_
              change wpAnyH _ _ _ _ _ _ _ (Act.put _ (some 128) _) _
              simp only [Act.put, List.setIfInBounds_toArray, List.set_cons_zero, List.set_cons_succ]
              refine wpAnyH_take (i := 9) (v := .pointer (some ⟨g, o + i * 5, none⟩)) rfl (by kernel_rfl) (by kernel_rfl) (by kernel_rfl) (fun _ _ _ h => h) (Or.inl ⟨by rfl, fun w' hSw => by clear hSw; go_simp⟩) hHeld ?_
              change wpAnyH _ _ _ _ _ _ _ (Act.put _ (some 129) _) _
              simp only [Act.put, List.setIfInBounds_toArray, List.set_cons_zero, List.set_cons_succ]
              refine wpAnyH_take (i := 10) (v := .pointer (some ⟨g, o + i * 5 + 3, none⟩)) rfl (by kernel_rfl) (by kernel_rfl) (by kernel_rfl) (fun _ _ _ h => h) (Or.inl ⟨by rfl, fun w' hSw => by clear hSw; go_simp⟩) hHeld ?_
              change wpAnyH _ _ _ _ _ _ _ (Act.put _ (some 130) _) _
              simp only [Act.put, List.setIfInBounds_toArray, List.set_cons_zero, List.set_cons_succ]
              refine wpAnyH_take (i := 11) (v := .string (str es)) rfl (by kernel_rfl) (by kernel_rfl) (by kernel_rfl) (fun _ _ _ h => h) (Or.inl ⟨by rfl, fun w' hSw => by have hc := (hC.out w' hSw).2.2.2.1; clear hSw; go_simp⟩) hHeld ?_
              change wpAnyH _ _ _ _ _ _ _ (Act.put _ (some 131) _) _
              simp only [Act.put, List.setIfInBounds_toArray, List.set_cons_zero, List.set_cons_succ]
              refine wpAnyH_ready (rs := [6]) (by kernel_rfl) (by simp) ?_
              refine AllReadyH.cons rfl (fun K hK => ?_) AllReadyH.nil
              go_simp
              refine (hX.out _).mono ?_; rintro e w7 ⟨rfl, c⟩
              refine hK.out _ _ (hB5.out.drew.trans (c.mono hB5.out.size)) (fun hHeld => ?_); clear hK K
              refine wpAnyH_take (i := 12) (v := .string (str B)) rfl (by kernel_rfl) (by kernel_rfl) (by kernel_rfl) (fun _ _ _ h => h) (Or.inl ⟨by rfl, fun w' hSw => by clear hSw; go_simp; rw [hXB.out]⟩) hHeld ?_
              change wpAnyH _ _ _ _ _ _ _ (Act.put _ (some 132) _) _
              simp only [Act.put, List.setIfInBounds_toArray, List.set_cons_zero, List.set_cons_succ]
              refine wpAnyH_take (i := 13) (v := .string (str B)) rfl (by kernel_rfl) (by kernel_rfl) (by kernel_rfl) (fun _ _ _ h => h) (Or.inl ⟨by rfl, fun w' hSw => by clear hSw; go_simp⟩) hHeld ?_
              change wpAnyH _ _ _ _ _ _ _ (Act.put _ (some 8) _) _
              simp only [Act.put, List.setIfInBounds_toArray, List.set_cons_zero, List.set_cons_succ]
              refine wpAnyH_done (by kernel_rfl) ?_ _
              have hO7 := Hid.intro ((hO5.out.below below_drw).below c)
              have hB7 := Hid.intro hHeld
              clear hHeld c hO5 hB5 hX
              have hIn := Hid.intro (hI'.out.next (by omega) hO7.out hB7.out)
              clear hO7 hB7
              go_wp2
              go_roundw
              case rel => exact ⟨i + 1, (Option.map (· ++ B) (some S)), (T ++ B), by omega, by go_num, rfl, rfl, hIn.out⟩
              case measure => simp [intOf]; omega
          · rcases st with _ | S
            · rw [show er none = 1 from rfl]
              have hT := Hid.intro (text_any hI'.out.out hpp hlf.out es)
              rw [show eText es = 1 by unfold eText; exact if_neg hF, show wText none es = none by unfold wText; exact if_neg hF] at hT
              have hcc : ¬ 9223372036854775807 < T.length + 0 := by omega
              have hFi : ¬ (es.length : Int) ≤ 255 := by omega
              go_wp2_with fail
              refine hT.out.mono ?_; rintro e w5 ⟨rfl, b1, _, b2⟩
              have hO5 := Hid.intro b1
              have hB5 := Hid.intro (hI'.out.below.trans b2)
              clear b1 b2 hT d0 d1 d2 d3 d4
              obtain ⟨d0, d1, d2, d3, d4⟩ := hC.out _ hB5.out
              have hIn := Hid.intro (hI'.out.bad hO5.out hB5.out)
              clear hO5 hB5
              go_wp2
              go_roundw
              case rel => exact ⟨i + 1, none, T, by omega, by go_num, congrArg Value.string (str_nil_r T), rfl, hIn.out⟩
              case measure => simp [intOf]; omega
            · rw [show er (some S) = 0 from rfl]
              have hT := Hid.intro (text_any hI'.out.out hpp hlf.out es)
              rw [show eText es = 1 by unfold eText; exact if_neg hF, show wText (some S) es = none by unfold wText; exact if_neg hF] at hT
              have hcc : ¬ 9223372036854775807 < T.length + 0 := by omega
              have hFi : ¬ (es.length : Int) ≤ 255 := by omega
              go_wp2_with fail
              refine hT.out.mono ?_; rintro e w5 ⟨rfl, b1, _, b2⟩
              have hO5 := Hid.intro b1
              have hB5 := Hid.intro (hI'.out.below.trans b2)
              clear b1 b2 hT d0 d1 d2 d3 d4
              obtain ⟨d0, d1, d2, d3, d4⟩ := hC.out _ hB5.out
              have hIn := Hid.intro (hI'.out.bad hO5.out hB5.out)
              clear hO5 hB5
              go_wp2
              go_roundw
              case rel => exact ⟨i + 1, none, T, by omega, by go_num, congrArg Value.string (str_nil_r T), rfl, hIn.out⟩
              case measure => simp [intOf]; omega
        · have e1 : (ek == 1) = false := beq_false_of_ne hk1
          have e2 : (ek == 2) = false := beq_false_of_ne hk2
          by_cases hF : Ti el
          · rcases st with _ | S
            · rw [show er none = 1 from rfl]
              have hLn := Hid.intro (lent_any (hRow.out.below hI'.out.below) (by omega))
              have hX := Hid.intro (fun w' gg cap (hb : Below w1.heap.size w1 w') (q : OutO w' w1.heap.size p none) (hl : Lent w' wr.heap.size gg cap el) => exts_any q hpp hlf.out hl.row hHi.out (by omega))
              have hV := Hid.intro (fun w' (hb : Below w1.heap.size w1 w') => rvalid_any (hRow.out.below hb) (show el.length ≤ 1000000 by omega))
              have hSt := Hid.intro (fun w' gg cap (hl : Lent w' wr.heap.size gg cap el) (hb : Below w1.heap.size w1 w') => stays_any hl (hRow.out.below hb) (by omega))
              rw [show eExt el = 0 by unfold eExt; exact if_pos hF, show wExt none el = Option.map (· ++ lay el) none by unfold wExt; exact if_pos hF] at hX
              rw [decide_eq_true hF] at hV
              have hLy := Hid.intro (fun w' (hb : Below w1.heap.size w1 w') => rlay_any (hRow.out.below hb) hF)
              have hBl : (lay el).length ≤ 250 := by rw [lay_length]; have := ti_len hF; omega
              generalize lay el = B at *
              have hcc : ¬ 9223372036854775807 < T.length + B.length := by omega
              clear hF
              go_wp2_with fail
              refine hLn.out.mono ?_; rintro e w5 ⟨gg, cap, rfl, b1, b2⟩
              have hL5 := Hid.intro b1
              have hwr := Hid.intro hI'.out.below.size
              have hB5 := Hid.intro (hI'.out.below.trans (b2.mono hwr.out))
              have hO5 := Hid.intro (hI'.out.out.below b2)
              clear b1 b2 hLn d0 d1 d2 d3 d4
              go_wp2_with fail
              refine (hX.out _ _ cap hB5.out hO5.out hL5.out).mono ?_; rintro e w6 ⟨rfl, b1, b2, b3⟩
              have hL6 := Hid.intro (show Lent w6 wr.heap.size gg cap el from BkE.own_stay hL5.out b2 (by unfold TO; decide))
              have hB6 := Hid.intro (hB5.out.trans b3)
              have hO6 := Hid.intro b1
              clear b1 b2 b3 hL5 hO5 hB5 hX
              obtain ⟨d0, d1, d2, d3, d4⟩ := hC.out _ hB6.out
              go_wp2_with fail
              refine (hV.out _ hB6.out).mono ?_; rintro e w7 ⟨rfl, b1⟩
              have hL7 := Hid.intro (hL6.out.below b1)
              have hO7 := Hid.intro (hO6.out.below b1)
              have hB7 := Hid.intro (hB6.out.trans (b1.mono hB6.out.size))
              clear b1 hL6 hO6 hB6 hV d0 d1 d2 d3 d4
              obtain ⟨d0, d1, d2, d3, d4⟩ := hC.out _ hB7.out
              go_wp2_with fail
              refine (hLy.out _ hB7.out).mono ?_; rintro e w8 ⟨rfl, b1⟩
              have hL8 := Hid.intro (hL7.out.below b1)
              have hO8 := Hid.intro (hO7.out.below b1)
              have hB8 := Hid.intro (hB7.out.trans (b1.mono hB7.out.size))
              clear b1 hL7 hO7 hB7 hLy d0 d1 d2 d3 d4
              obtain ⟨d0, d1, d2, d3, d4⟩ := hC.out _ hB8.out
              go_wp2_with fail
              refine (hSt.out _ _ cap hL8.out hB8.out).mono ?_; rintro e w9 ⟨rfl, b1⟩
              have hO9 := Hid.intro (hO8.out.below b1)
              have hB9 := Hid.intro (hB8.out.trans (b1.mono hB8.out.size))
              clear b1 hL8 hO8 hB8 hSt d0 d1 d2 d3 d4
              have hIn := Hid.intro (hI'.out.next (by omega) hO9.out hB9.out)
              clear hO9 hB9
              go_wp2
              go_roundw
              case rel => exact ⟨i + 1, (Option.map (· ++ B) none), (T ++ B), by omega, by go_num, rfl, rfl, hIn.out⟩
              case measure => simp [intOf]; omega
            · rw [show er (some S) = 0 from rfl]
              have hLn := Hid.intro (lent_any (hRow.out.below hI'.out.below) (by omega))
              have hX := Hid.intro (fun w' gg cap (hb : Below w1.heap.size w1 w') (q : OutO w' w1.heap.size p (some S)) (hl : Lent w' wr.heap.size gg cap el) => exts_any q hpp hlf.out hl.row hHi.out (by omega))
              have hV := Hid.intro (fun w' (hb : Below w1.heap.size w1 w') => rvalid_any (hRow.out.below hb) (show el.length ≤ 1000000 by omega))
              have hSt := Hid.intro (fun w' gg cap (hl : Lent w' wr.heap.size gg cap el) (hb : Below w1.heap.size w1 w') => stays_any hl (hRow.out.below hb) (by omega))
              rw [show eExt el = 0 by unfold eExt; exact if_pos hF, show wExt (some S) el = Option.map (· ++ lay el) (some S) by unfold wExt; exact if_pos hF] at hX
              rw [decide_eq_true hF] at hV
              have hLy := Hid.intro (fun w' (hb : Below w1.heap.size w1 w') => rlay_any (hRow.out.below hb) hF)
              have hBl : (lay el).length ≤ 250 := by rw [lay_length]; have := ti_len hF; omega
              generalize lay el = B at *
              have hcc : ¬ 9223372036854775807 < T.length + B.length := by omega
              clear hF
              go_wp2_with fail
              refine hLn.out.mono ?_; rintro e w5 ⟨gg, cap, rfl, b1, b2⟩
              have hL5 := Hid.intro b1
              have hwr := Hid.intro hI'.out.below.size
              have hB5 := Hid.intro (hI'.out.below.trans (b2.mono hwr.out))
              have hO5 := Hid.intro (hI'.out.out.below b2)
              clear b1 b2 hLn d0 d1 d2 d3 d4
              go_wp2_with fail
              refine (hX.out _ _ cap hB5.out hO5.out hL5.out).mono ?_; rintro e w6 ⟨rfl, b1, b2, b3⟩
              have hL6 := Hid.intro (show Lent w6 wr.heap.size gg cap el from BkE.own_stay hL5.out b2 (by unfold TO; decide))
              have hB6 := Hid.intro (hB5.out.trans b3)
              have hO6 := Hid.intro b1
              clear b1 b2 b3 hL5 hO5 hB5 hX
              obtain ⟨d0, d1, d2, d3, d4⟩ := hC.out _ hB6.out
              go_wp2_with fail
              refine (hV.out _ hB6.out).mono ?_; rintro e w7 ⟨rfl, b1⟩
              have hL7 := Hid.intro (hL6.out.below b1)
              have hO7 := Hid.intro (hO6.out.below b1)
              have hB7 := Hid.intro (hB6.out.trans (b1.mono hB6.out.size))
              clear b1 hL6 hO6 hB6 hV d0 d1 d2 d3 d4
              obtain ⟨d0, d1, d2, d3, d4⟩ := hC.out _ hB7.out
              go_wp2_with fail
              refine (hLy.out _ hB7.out).mono ?_; rintro e w8 ⟨rfl, b1⟩
              have hL8 := Hid.intro (hL7.out.below b1)
              have hO8 := Hid.intro (hO7.out.below b1)
              have hB8 := Hid.intro (hB7.out.trans (b1.mono hB7.out.size))
              clear b1 hL7 hO7 hB7 hLy d0 d1 d2 d3 d4
              obtain ⟨d0, d1, d2, d3, d4⟩ := hC.out _ hB8.out
              go_wp2_with fail
              refine (hSt.out _ _ cap hL8.out hB8.out).mono ?_; rintro e w9 ⟨rfl, b1⟩
              have hO9 := Hid.intro (hO8.out.below b1)
              have hB9 := Hid.intro (hB8.out.trans (b1.mono hB8.out.size))
              clear b1 hL8 hO8 hB8 hSt d0 d1 d2 d3 d4
              have hIn := Hid.intro (hI'.out.next (by omega) hO9.out hB9.out)
              clear hO9 hB9
              go_wp2
              go_roundw
              case rel => exact ⟨i + 1, (Option.map (· ++ B) (some S)), (T ++ B), by omega, by go_num, rfl, rfl, hIn.out⟩
              case measure => simp [intOf]; omega
          · rcases st with _ | S
            · rw [show er none = 1 from rfl]
              have hLn := Hid.intro (lent_any (hRow.out.below hI'.out.below) (by omega))
              have hX := Hid.intro (fun w' gg cap (hb : Below w1.heap.size w1 w') (q : OutO w' w1.heap.size p none) (hl : Lent w' wr.heap.size gg cap el) => exts_any q hpp hlf.out hl.row hHi.out (by omega))
              have hV := Hid.intro (fun w' (hb : Below w1.heap.size w1 w') => rvalid_any (hRow.out.below hb) (show el.length ≤ 1000000 by omega))
              have hSt := Hid.intro (fun w' gg cap (hl : Lent w' wr.heap.size gg cap el) (hb : Below w1.heap.size w1 w') => stays_any hl (hRow.out.below hb) (by omega))
              rw [show eExt el = 1 by unfold eExt; exact if_neg hF, show wExt none el = none by unfold wExt; exact if_neg hF] at hX
              rw [decide_eq_false hF] at hV
              have hcc : ¬ 9223372036854775807 < T.length + 0 := by omega
              clear hF
              go_wp2_with fail
              refine hLn.out.mono ?_; rintro e w5 ⟨gg, cap, rfl, b1, b2⟩
              have hL5 := Hid.intro b1
              have hwr := Hid.intro hI'.out.below.size
              have hB5 := Hid.intro (hI'.out.below.trans (b2.mono hwr.out))
              have hO5 := Hid.intro (hI'.out.out.below b2)
              clear b1 b2 hLn d0 d1 d2 d3 d4
              go_wp2_with fail
              refine (hX.out _ _ cap hB5.out hO5.out hL5.out).mono ?_; rintro e w6 ⟨rfl, b1, b2, b3⟩
              have hL6 := Hid.intro (show Lent w6 wr.heap.size gg cap el from BkE.own_stay hL5.out b2 (by unfold TO; decide))
              have hB6 := Hid.intro (hB5.out.trans b3)
              have hO6 := Hid.intro b1
              clear b1 b2 b3 hL5 hO5 hB5 hX
              obtain ⟨d0, d1, d2, d3, d4⟩ := hC.out _ hB6.out
              go_wp2_with fail
              refine (hV.out _ hB6.out).mono ?_; rintro e w7 ⟨rfl, b1⟩
              have hL7 := Hid.intro (hL6.out.below b1)
              have hO7 := Hid.intro (hO6.out.below b1)
              have hB7 := Hid.intro (hB6.out.trans (b1.mono hB6.out.size))
              clear b1 hL6 hO6 hB6 hV d0 d1 d2 d3 d4
              obtain ⟨d0, d1, d2, d3, d4⟩ := hC.out _ hB7.out
              go_wp2_with fail
              refine (hSt.out _ _ cap hL7.out hB7.out).mono ?_; rintro e w9 ⟨rfl, b1⟩
              have hO9 := Hid.intro (hO7.out.below b1)
              have hB9 := Hid.intro (hB7.out.trans (b1.mono hB7.out.size))
              clear b1 hL7 hO7 hB7 hSt d0 d1 d2 d3 d4
              have hIn := Hid.intro (hI'.out.bad hO9.out hB9.out)
              clear hO9 hB9
              go_wp2
              go_roundw
              case rel => exact ⟨i + 1, none, T, by omega, by go_num, congrArg Value.string (str_nil_r T), rfl, hIn.out⟩
              case measure => simp [intOf]; omega
            · rw [show er (some S) = 0 from rfl]
              have hLn := Hid.intro (lent_any (hRow.out.below hI'.out.below) (by omega))
              have hX := Hid.intro (fun w' gg cap (hb : Below w1.heap.size w1 w') (q : OutO w' w1.heap.size p (some S)) (hl : Lent w' wr.heap.size gg cap el) => exts_any q hpp hlf.out hl.row hHi.out (by omega))
              have hV := Hid.intro (fun w' (hb : Below w1.heap.size w1 w') => rvalid_any (hRow.out.below hb) (show el.length ≤ 1000000 by omega))
              have hSt := Hid.intro (fun w' gg cap (hl : Lent w' wr.heap.size gg cap el) (hb : Below w1.heap.size w1 w') => stays_any hl (hRow.out.below hb) (by omega))
              rw [show eExt el = 1 by unfold eExt; exact if_neg hF, show wExt (some S) el = none by unfold wExt; exact if_neg hF] at hX
              rw [decide_eq_false hF] at hV
              have hcc : ¬ 9223372036854775807 < T.length + 0 := by omega
              clear hF
              go_wp2_with fail
              refine hLn.out.mono ?_; rintro e w5 ⟨gg, cap, rfl, b1, b2⟩
              have hL5 := Hid.intro b1
              have hwr := Hid.intro hI'.out.below.size
              have hB5 := Hid.intro (hI'.out.below.trans (b2.mono hwr.out))
              have hO5 := Hid.intro (hI'.out.out.below b2)
              clear b1 b2 hLn d0 d1 d2 d3 d4
              go_wp2_with fail
              refine (hX.out _ _ cap hB5.out hO5.out hL5.out).mono ?_; rintro e w6 ⟨rfl, b1, b2, b3⟩
              have hL6 := Hid.intro (show Lent w6 wr.heap.size gg cap el from BkE.own_stay hL5.out b2 (by unfold TO; decide))
              have hB6 := Hid.intro (hB5.out.trans b3)
              have hO6 := Hid.intro b1
              clear b1 b2 b3 hL5 hO5 hB5 hX
              obtain ⟨d0, d1, d2, d3, d4⟩ := hC.out _ hB6.out
              go_wp2_with fail
              refine (hV.out _ hB6.out).mono ?_; rintro e w7 ⟨rfl, b1⟩
              have hL7 := Hid.intro (hL6.out.below b1)
              have hO7 := Hid.intro (hO6.out.below b1)
              have hB7 := Hid.intro (hB6.out.trans (b1.mono hB6.out.size))
              clear b1 hL6 hO6 hB6 hV d0 d1 d2 d3 d4
              obtain ⟨d0, d1, d2, d3, d4⟩ := hC.out _ hB7.out
              go_wp2_with fail
              refine (hSt.out _ _ cap hL7.out hB7.out).mono ?_; rintro e w9 ⟨rfl, b1⟩
              have hO9 := Hid.intro (hO7.out.below b1)
              have hB9 := Hid.intro (hB7.out.trans (b1.mono hB7.out.size))
              clear b1 hL7 hO7 hB7 hSt d0 d1 d2 d3 d4
              have hIn := Hid.intro (hI'.out.bad hO9.out hB9.out)
              clear hO9 hB9
              go_wp2
              go_roundw
              case rel => exact ⟨i + 1, none, T, by omega, by go_num, congrArg Value.string (str_nil_r T), rfl, hIn.out⟩
              case measure => simp [intOf]; omega
    · rcases st with _ | S
      · rw [show er none = 1 from rfl]
        have hB := Hid.intro hI.below
        have hO := Hid.intro hI.out
        have hD := Hid.intro (fun w' (q : OutO w' w1.heap.size p none) => done_any q)
        change Hid (∀ w', _ → Calls Try.prog 19 _ w' fun e w' => e = .returned (.tuple #[.string (str []), .int .i64 1]) ∧ _) at hD
        clear hI
        go_wp2_with fail
        refine (hD.out _ hO.out).mono ?_; rintro e w5 ⟨rfl, b⟩
        have hO5 := Hid.intro (hO.out.below b)
        have hB5 := Hid.intro (hB.out.trans (b.mono hB.out.size))
        clear b
        go_wp2_with fail
        refine (hD.out _ hO5.out).mono ?_; rintro e w6 ⟨rfl, b⟩
        have hB6 := Hid.intro (hB5.out.trans (b.mono hB5.out.size))
        clear b
        go_wp2_with fail
        refine (done_nil _).mono ?_; rintro e w7 ⟨rfl, rfl⟩
        go_wp2_with fail
        refine (num_nil _).mono ?_; rintro e w8 ⟨rfl, b⟩
        have hB8 := Hid.intro (hB6.out.trans (b.mono hB6.out.size))
        clear b
        go_wp2_with fail
        refine (text_nil _).mono ?_; rintro e w9 ⟨rfl, b⟩
        have hB9 := Hid.intro (hB8.out.trans (b.mono hB8.out.size))
        clear b
        go_wp2_with fail
        refine (exts_nil _).mono ?_; rintro e w10 ⟨rfl, b⟩
        have hBA := Hid.intro (hB9.out.trans (b.mono hB9.out.size))
        clear b
        go_wp2
        go_ret
        exact ⟨rfl, hBA.out⟩
      · rw [show er (some S) = 0 from rfl]
        obtain rfl : T = S := hI.same S rfl
        have hB := Hid.intro hI.below
        have hO := Hid.intro hI.out
        have hD := Hid.intro (fun w' (q : OutO w' w1.heap.size p (some T)) => done_any q)
        change Hid (∀ w', _ → Calls Try.prog 19 _ w' fun e w' => e = .returned (.tuple #[.string (str T), .int .i64 0]) ∧ _) at hD
        clear hI
        go_wp2_with fail
        refine (hD.out _ hO.out).mono ?_; rintro e w5 ⟨rfl, b⟩
        have hO5 := Hid.intro (hO.out.below b)
        have hB5 := Hid.intro (hB.out.trans (b.mono hB.out.size))
        clear b
        go_wp2_with fail
        refine (hD.out _ hO5.out).mono ?_; rintro e w6 ⟨rfl, b⟩
        have hB6 := Hid.intro (hB5.out.trans (b.mono hB5.out.size))
        clear b
        go_wp2_with fail
        refine (done_nil _).mono ?_; rintro e w7 ⟨rfl, rfl⟩
        go_wp2_with fail
        refine (num_nil _).mono ?_; rintro e w8 ⟨rfl, b⟩
        have hB8 := Hid.intro (hB6.out.trans (b.mono hB6.out.size))
        clear b
        go_wp2_with fail
        refine (text_nil _).mono ?_; rintro e w9 ⟨rfl, b⟩
        have hB9 := Hid.intro (hB8.out.trans (b.mono hB8.out.size))
        clear b
        go_wp2_with fail
        refine (exts_nil _).mono ?_; rintro e w10 ⟨rfl, b⟩
        have hBA := Hid.intro (hB9.out.trans (b.mono hB9.out.size))
        clear b
        go_wp2
        go_ret
        exact ⟨rfl, hBA.out⟩
end Go.Proofs.Ytnboajhcjgcpfaa
