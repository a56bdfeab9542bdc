/-
  The contract of the document's LayExtents, of every tidy list.
-/
import Derived.Test.YtnboajhcjgcpfaaRValid
import Derived.Test.YtnboajhcjgcpfaaOLeaf
namespace Go.Proofs.Ytnboajhcjgcpfaa
open Go.ChangeShapes Go.WideShapes Go.ChangeAt Go.RowKit
attribute [local go_sem ↓] Go.wp_at_zero Go.wp_at_succ
attribute [local go_sem] str_size str_extract str_append str_toList

theorem rone_any (x : Int) (h0 : 0 ≤ x) (h1 : x ≤ 255) (w : World) : Calls Try.prog 12 #[.int .i64 x, .int .i64 1] w fun e w' => e = .returned (.string (str [UInt8.ofNat x.toNat])) ∧ Below w.heap.size w w' := by
  have h := rnum_any x.toNat 1 w (by omega) (by decide)
  have e1 : ((x.toNat : Nat) : Int) = x := by omega
  have e2 : num x.toNat 1 = [UInt8.ofNat x.toNat] := by
    simp only [num]
    rw [Nat.mod_eq_of_lt (by omega)]
  rw [e1, e2] at h
  exact h
def layTo (l : List Ex) (i : Nat) : List UInt8 := UInt8.ofNat l.length :: body3 (l.take i)
theorem layTo_length {l : List Ex} {i : Nat} (h : i ≤ l.length) : (layTo l i).length = 1 + 3 * i := by
  simp [layTo, body3_length, List.length_take, Nat.min_eq_left h]; omega
theorem layTo_succ {l : List Ex} {i : Nat} {x : Ex} (h : l[i]? = some x) : layTo l (i + 1) = layTo l i ++ [UInt8.ofNat x.1.toNat] ++ [UInt8.ofNat x.2.1.toNat] ++ [UInt8.ofNat x.2.2.toNat] := by
  simp [layTo, body3_take h, one3]

set_option maxRecDepth 100000 in
set_option maxHeartbeats 1000000 in
theorem rlay_any {w : World} {v : Value} {l : List Ex} (hr : BkE.Row w v l) (ht : Ti l) :
    Calls Try.prog 17 #[v] w fun e w' => e = .returned (.string (str (lay l))) ∧ Below w.heap.size w w' := by
  obtain ⟨a, c, rfl⟩ := hr.slice
  have hl := ti_len ht
  have hr' := Hid.intro hr
  have ht' := Hid.intro ht
  have l0 : (0 : Int) ≤ (l.length : Int) := Int.natCast_nonneg _
  have h1 := Hid.intro (rone_any (l.length : Int) l0 (by omega) w)
  have e0 : [UInt8.ofNat (l.length : Int).toNat] = layTo l 0 := by simp [layTo, body3]
  rw [e0] at h1
  have hend : Hid (layTo l l.length = lay l) := Hid.intro (by unfold layTo lay; rw [List.take_length])
  clear hr ht e0
  go_enter Try.func17, Try.ntmps17
  go_wp2_with fail
  refine h1.out.mono ?_; rintro e w1 ⟨rfl, hb1⟩
  have hb1' := Hid.intro hb1
  clear hb1
  go_wp2_with fail
  go_loopw [3, 4] (fun sv jv wr => ∃ i : Nat, i ≤ l.length ∧ jv = .int .i64 i ∧ sv = .string (str (layTo l i)) ∧ Below w.heap.size w wr) (fun _ jv _ => l.length - (intOf jv).toNat)
  case atStart => exact ⟨0, Nat.zero_le _, rfl, rfl, hb1'.out⟩
  case round =>
    obtain ⟨i, hi, rfl, rfl, hB⟩ := hrel
    have i0 : (0 : Int) ≤ (i : Int) := Int.natCast_nonneg _
    by_cases hlt : i < l.length
    · obtain ⟨g, o, ⟨x, y, z⟩, rfl, hg, hp, d0, d1, d2⟩ := erow_at (hr'.out.below hB) hlt
      have i1 : (i : Int) < (l.length : Int) := by omega
      simp only at d0 d1 d2
      have hal : Al (x, y, z) := (tp_al ht'.out _ (List.mem_of_getElem? hp)).1
      obtain ⟨y1, y2, y3, y4, y5, y6⟩ := al_by hal
      simp only at y1 y2 y3 y4 y5 y6
      have hnx := Hid.intro (layTo_succ hp)
      have hTl := layTo_length hi
      have hT1 : (layTo l i).length ≤ 1000 := by omega
      have hX := Hid.intro (rone_any x y1 y2)
      have hY := Hid.intro (rone_any y y3 y4)
      have hZ := Hid.intro (rone_any z y5 y6)
      have hB' := Hid.intro hB
      clear hp hal hTl hB
      simp only at hnx
      have lX : [UInt8.ofNat x.toNat].length = 1 := rfl
      have lY : [UInt8.ofNat y.toNat].length = 1 := rfl
      have lZ : [UInt8.ofNat z.toNat].length = 1 := rfl
      generalize [UInt8.ofNat x.toNat] = X at *
      generalize [UInt8.ofNat y.toNat] = Y at *
      generalize [UInt8.ofNat z.toNat] = Z at *
      generalize layTo l i = T at *
      have n1 : ¬ 9223372036854775807 < T.length + 1 := by omega
      have n2 : ¬ 9223372036854775807 < T.length + 1 + 1 := by omega
      have n3 : ¬ 9223372036854775807 < T.length + 1 + 1 + 1 := by omega
      have hstart := Hid.intro (show wr.drew.cell? ⟨g, o + i * 3, none⟩ = some (.int .i64 x) ∧ wr.drew.cell? ⟨g, o + i * 3 + 1, none⟩ = some (.int .i64 y) ∧ wr.drew.cell? ⟨g, o + i * 3 + 2, none⟩ = some (.int .i64 z) ∧ Below wr.heap.size wr wr.drew from ⟨d0, d1, d2, below_drw⟩)
      go_wp2_with fail
      refine wp_region_held_drew (S := fun w' => w'.cell? ⟨g, o + i * 3, none⟩ = some (.int .i64 x) ∧ w'.cell? ⟨g, o + i * 3 + 1, none⟩ = some (.int .i64 y) ∧ w'.cell? ⟨g, o + i * 3 + 2, none⟩ = some (.int .i64 z) ∧ Below wr.heap.size wr w') (by kernel_rfl) (hstart.out) (fun hHeld => ?_)
      refine wpAnyH_take (i := 0) (v := .string (str T)) rfl (by kernel_rfl) (by kernel_rfl) (by kernel_rfl) (fun _ _ _ h => h) (Or.inl ⟨by rfl, fun w' hSw => by clear hSw; go_simp⟩) hHeld ?_
      change wpAnyH _ _ _ _ _ _ _ (Act.put _ (some 14) _) _
      simp only [Act.put, List.setIfInBounds_toArray, List.set_cons_zero, List.set_cons_succ]
      refine wpAnyH_take (i := 1) (v := .slice (some ⟨g, o, none⟩) l.length c) rfl (by kernel_rfl) (by kernel_rfl) (by kernel_rfl) (fun _ _ _ h => h) (Or.inl ⟨by rfl, fun w' hSw => by clear hSw; go_simp⟩) hHeld ?_
      change wpAnyH _ _ _ _ _ _ _ (Act.put _ (some 15) _) _
      simp only [Act.put, List.setIfInBounds_toArray, List.set_cons_zero, List.set_cons_succ]
      refine wpAnyH_take (i := 2) (v := .int .i64 (i : Int)) rfl (by kernel_rfl) (by kernel_rfl) (by kernel_rfl) (fun _ _ _ h => h) (Or.inl ⟨by rfl, fun w' hSw => by clear hSw; go_simp⟩) hHeld ?_
      change wpAnyH _ _ _ _ _ _ _ (Act.put _ (some 16) _) _
      simp only [Act.put, List.setIfInBounds_toArray, List.set_cons_zero, List.set_cons_succ]
      refine wpAnyH_take (i := 3) (v := .pointer (some ⟨g, o + i * 3, none⟩)) rfl (by kernel_rfl) (by kernel_rfl) (by kernel_rfl) (fun _ _ _ h => h) (Or.inl ⟨by rfl, fun w' hSw => by clear hSw; go_simp⟩) hHeld ?_
      change wpAnyH _ _ _ _ _ _ _ (Act.put _ (some 17) _) _
      simp only [Act.put, List.setIfInBounds_toArray, List.set_cons_zero, List.set_cons_succ]
      refine wpAnyH_take (i := 4) (v := .pointer (some ⟨g, o + i * 3, none⟩)) rfl (by kernel_rfl) (by kernel_rfl) (by kernel_rfl) (fun _ _ _ h => h) (Or.inl ⟨by rfl, fun w' hSw => by clear hSw; go_simp⟩) hHeld ?_
      change wpAnyH _ _ _ _ _ _ _ (Act.put _ (some 18) _) _
      simp only [Act.put, List.setIfInBounds_toArray, List.set_cons_zero, List.set_cons_succ]
      refine wpAnyH_take (i := 5) (v := .int .i64 x) rfl (by kernel_rfl) (by kernel_rfl) (by kernel_rfl) (fun _ _ _ h => h) (Or.inl ⟨by rfl, fun w' hSw => by obtain ⟨s0, s1, s2, _⟩ := hSw; go_simp⟩) hHeld ?_
      change wpAnyH _ _ _ _ _ _ _ (Act.put _ (some 19) _) _
      simp only [Act.put, List.setIfInBounds_toArray, List.set_cons_zero, List.set_cons_succ]
      refine wpAnyH_take (i := 8) (v := .slice (some ⟨g, o, none⟩) l.length c) rfl (by kernel_rfl) (by kernel_rfl) (by kernel_rfl) (fun _ _ _ h => h) (Or.inl ⟨by rfl, fun w' hSw => by clear hSw; go_simp⟩) hHeld ?_
      change wpAnyH _ _ _ _ _ _ _ (Act.put _ (some 22) _) _
      simp only [Act.put, List.setIfInBounds_toArray, List.set_cons_zero, List.set_cons_succ]
      refine wpAnyH_take (i := 9) (v := .int .i64 (i : Int)) rfl (by kernel_rfl) (by kernel_rfl) (by kernel_rfl) (fun _ _ _ h => h) (Or.inl ⟨by rfl, fun w' hSw => by clear hSw; go_simp⟩) hHeld ?_
      change wpAnyH _ _ _ _ _ _ _ (Act.put _ (some 23) _) _
      simp only [Act.put, List.setIfInBounds_toArray, List.set_cons_zero, List.set_cons_succ]
      refine wpAnyH_take (i := 10) (v := .pointer (some ⟨g, o + i * 3, none⟩)) rfl (by kernel_rfl) (by kernel_rfl) (by kernel_rfl) (fun _ _ _ h => h) (Or.inl ⟨by rfl, fun w' hSw => by clear hSw; go_simp⟩) hHeld ?_
      change wpAnyH _ _ _ _ _ _ _ (Act.put _ (some 24) _) _
      simp only [Act.put, List.setIfInBounds_toArray, List.set_cons_zero, List.set_cons_succ]
      refine wpAnyH_take (i := 11) (v := .pointer (some ⟨g, o + i * 3 + 1, none⟩)) rfl (by kernel_rfl) (by kernel_rfl) (by kernel_rfl) (fun _ _ _ h => h) (Or.inl ⟨by rfl, fun w' hSw => by clear hSw; go_simp⟩) hHeld ?_
      change wpAnyH _ _ _ _ _ _ _ (Act.put _ (some 25) _) _
      simp only [Act.put, List.setIfInBounds_toArray, List.set_cons_zero, List.set_cons_succ]
      refine wpAnyH_take (i := 12) (v := .int .i64 y) rfl (by kernel_rfl) (by kernel_rfl) (by kernel_rfl) (fun _ _ _ h => h) (Or.inl ⟨by rfl, fun w' hSw => by obtain ⟨s0, s1, s2, _⟩ := hSw; go_simp⟩) hHeld ?_
      change wpAnyH _ _ _ _ _ _ _ (Act.put _ (some 26) _) _
      simp only [Act.put, List.setIfInBounds_toArray, List.set_cons_zero, List.set_cons_succ]
      refine wpAnyH_take (i := 15) (v := .slice (some ⟨g, o, none⟩) l.length c) rfl (by kernel_rfl) (by kernel_rfl) (by kernel_rfl) (fun _ _ _ h => h) (Or.inl ⟨by rfl, fun w' hSw => by clear hSw; go_simp⟩) hHeld ?_
      change wpAnyH _ _ _ _ _ _ _ (Act.put _ (some 29) _) _
      simp only [Act.put, List.setIfInBounds_toArray, List.set_cons_zero, List.set_cons_succ]
      refine wpAnyH_take (i := 16) (v := .int .i64 (i : Int)) rfl (by kernel_rfl) (by kernel_rfl) (by kernel_rfl) (fun _ _ _ h => h) (Or.inl ⟨by rfl, fun w' hSw => by clear hSw; go_simp⟩) hHeld ?_
      change wpAnyH _ _ _ _ _ _ _ (Act.put _ (some 30) _) _
      simp only [Act.put, List.setIfInBounds_toArray, List.set_cons_zero, List.set_cons_succ]
      refine wpAnyH_take (i := 17) (v := .pointer (some ⟨g, o + i * 3, none⟩)) rfl (by kernel_rfl) (by kernel_rfl) (by kernel_rfl) (fun _ _ _ h => h) (Or.inl ⟨by rfl, fun w' hSw => by clear hSw; go_simp⟩) hHeld ?_
      change wpAnyH _ _ _ _ _ _ _ (Act.put _ (some 31) _) _
      simp only [Act.put, List.setIfInBounds_toArray, List.set_cons_zero, List.set_cons_succ]
      refine wpAnyH_take (i := 18) (v := .pointer (some ⟨g, o + i * 3 + 2, none⟩)) rfl (by kernel_rfl) (by kernel_rfl) (by kernel_rfl) (fun _ _ _ h => h) (Or.inl ⟨by rfl, fun w' hSw => by clear hSw; go_simp⟩) hHeld ?_
      change wpAnyH _ _ _ _ _ _ _ (Act.put _ (some 32) _) _
      simp only [Act.put, List.setIfInBounds_toArray, List.set_cons_zero, List.set_cons_succ]
      refine wpAnyH_take (i := 19) (v := .int .i64 z) rfl (by kernel_rfl) (by kernel_rfl) (by kernel_rfl) (fun _ _ _ h => h) (Or.inl ⟨by rfl, fun w' hSw => by obtain ⟨s0, s1, s2, _⟩ := hSw; go_simp⟩) hHeld ?_
      change wpAnyH _ _ _ _ _ _ _ (Act.put _ (some 33) _) _
      simp only [Act.put, List.setIfInBounds_toArray, List.set_cons_zero, List.set_cons_succ]
      refine wpAnyH_ready (rs := [6]) (by kernel_rfl) (by simp) ?_
      refine AllReadyH.cons rfl (fun K hK => ?_) AllReadyH.nil
      go_simp
      refine (hX.out _).mono ?_; rintro e x1 ⟨rfl, hx1⟩
      refine hK.out _ _ (keep3 hHeld hx1) (fun hHeld => ?_); clear hK K
      refine wpAnyH_take (i := 7) (v := .string (str (T ++ X))) rfl (by kernel_rfl) (by kernel_rfl) (by kernel_rfl) (fun _ _ _ h => h) (Or.inl ⟨by rfl, fun w' hSw => by clear hSw; go_simp⟩) hHeld ?_
      change wpAnyH _ _ _ _ _ _ _ (Act.put _ (some 21) _) _
      simp only [Act.put, List.setIfInBounds_toArray, List.set_cons_zero, List.set_cons_succ]
      refine wpAnyH_ready (rs := [13]) (by kernel_rfl) (by simp) ?_
      refine AllReadyH.cons rfl (fun K hK => ?_) AllReadyH.nil
      go_simp
      refine (hY.out _).mono ?_; rintro e x2 ⟨rfl, hx2⟩
      refine hK.out _ _ (keep3 hHeld hx2) (fun hHeld => ?_); clear hK K
      refine wpAnyH_take (i := 14) (v := .string (str (T ++ X ++ Y))) rfl (by kernel_rfl) (by kernel_rfl) (by kernel_rfl) (fun _ _ _ h => h) (Or.inl ⟨by rfl, fun w' hSw => by clear hSw; go_simp⟩) hHeld ?_
      change wpAnyH _ _ _ _ _ _ _ (Act.put _ (some 28) _) _
      simp only [Act.put, List.setIfInBounds_toArray, List.set_cons_zero, List.set_cons_succ]
      refine wpAnyH_ready (rs := [20]) (by kernel_rfl) (by simp) ?_
      refine AllReadyH.cons rfl (fun K hK => ?_) AllReadyH.nil
      go_simp
      refine (hZ.out _).mono ?_; rintro e x3 ⟨rfl, hx3⟩
      refine hK.out _ _ (keep3 hHeld hx3) (fun hHeld => ?_); clear hK K
      refine wpAnyH_take (i := 21) (v := .string (str (T ++ X ++ Y ++ Z))) rfl (by kernel_rfl) (by kernel_rfl) (by kernel_rfl) (fun _ _ _ h => h) (Or.inl ⟨by rfl, fun w' hSw => by clear hSw; go_simp⟩) hHeld ?_
      change wpAnyH _ _ _ _ _ _ _ (Act.put _ (some 35) _) _
      simp only [Act.put, List.setIfInBounds_toArray, List.set_cons_zero, List.set_cons_succ]
      refine wpAnyH_take (i := 22) (v := .string (str (T ++ X ++ Y ++ Z))) rfl (by kernel_rfl) (by kernel_rfl) (by kernel_rfl) (fun _ _ _ h => h) (Or.inl ⟨by rfl, fun w' hSw => by clear hSw; go_simp⟩) hHeld ?_
      change wpAnyH _ _ _ _ _ _ _ (Act.put _ (some 3) _) _
      simp only [Act.put, List.setIfInBounds_toArray, List.set_cons_zero, List.set_cons_succ]
      refine wpAnyH_done (by kernel_rfl) ?_ _
      have hB6 : Hid (Below w.heap.size w x3) := Hid.intro (hB'.out.trans ((held4 (W := x3) (W0 := wr) hHeld).mono hB'.out.size))
      go_wp2
      go_roundw
      case rel => exact ⟨i + 1, by omega, by go_num, by rw [hnx.out], hB6.out⟩
      case measure => simp [intOf]; omega
    · have hii : i = l.length := by omega
      subst hii
      have hend' := hend.out
      go_wp2
      go_ret
      exact ⟨by rw [hend']; rfl, hB⟩
end Go.Proofs.Ytnboajhcjgcpfaa
