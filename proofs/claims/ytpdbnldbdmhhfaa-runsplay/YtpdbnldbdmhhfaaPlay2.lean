/-
  Contracts for RunsPlay: runs' Has, and all calls of a nil *Runs.
-/
import Derived.Test.YtpdbnldbdmhhfaaPlay1
namespace Go.Proofs.Ytpdbnldbdmhhfaa
open Go.ChangeShapes Go.WideShapes Go.ChangeAt Go.RowKit
attribute [local go_sem ↓] Go.wp_at_zero Go.wp_at_succ

theorem spanHas_t (f n k : Int) (w : World) (h : hasW (f, n) k) :
    Calls Try.prog 36 #[.agg #[.int .i64 f, .int .i64 n], .int .i64 k] w fun e w' => e = .returned (.bool true) ∧ Below w.heap.size w w' := by
  obtain ⟨⟨h1, h2, h3⟩, h4, h5⟩ := h
  have := has_yes f n k w h1 h2 h3 h4
  rwa [decide_eq_true h5] at this
theorem spanHas_f (f n k : Int) (w : World) (hw : Wh (f, n)) (h : ¬ hasW (f, n) k) :
    Calls Try.prog 36 #[.agg #[.int .i64 f, .int .i64 n], .int .i64 k] w fun e w' => e = .returned (.bool false) ∧ Below w.heap.size w w' := by
  obtain ⟨h1, h2, h3⟩ := id hw
  by_cases h4 : f ≤ k
  · have := has_yes f n k w h1 h2 h3 h4
    rwa [decide_eq_false (fun h5 => h ⟨hw, h4, h5⟩)] at this
  · exact has_below f n k w h1 h2 h3 h4

set_option maxRecDepth 100000 in
theorem has_any {w : World} {b : Nat} {ps : List Sp} (h : RObj w b ps) (hc : Canon ps) (k : Int) :
    Calls Try.prog 24 #[.pointer (some ⟨b, 0, none⟩), .int .i64 k] w fun e w' => e = .returned (.bool (decide (In ps k))) ∧ Below w.heap.size w w' := by
  obtain ⟨v, hv, _, hr⟩ := h.cell
  obtain ⟨a, c, rfl⟩ := hr.slice
  have h64 := canon_64 hc
  have hw' : Hid (∀ p ∈ ps, Wh p) := canon_whole hc
  have hR := Hid.intro hr
  have hv' := Hid.intro hv
  clear h hc hr hv
  go_enter Try.func24, Try.ntmps24
  go_wp2_with fail
  refine (list_some b (.slice a ps.length c) _ hv'.out).mono ?_; rintro e w1 ⟨rfl, hw1⟩; obtain rfl : w = w1 := hw1.symm
  go_wp2_with fail
  go_loopw [10] (fun iv wr => ∃ i : Nat, i ≤ ps.length ∧ iv = .int .i64 i ∧ (In ps k ↔ In (ps.drop i) k) ∧ Below w.heap.size w wr) (fun iv _ => ps.length - (intOf iv).toNat)
  case atStart => exact ⟨0, Nat.zero_le _, rfl, Iff.rfl, Below.refl _ _⟩
  case round =>
    obtain ⟨i, hi, rfl, hiff, hB⟩ := hrel
    have i0' : (0 : Int) ≤ (i : Int) := Int.natCast_nonneg _
    by_cases hlt : i < ps.length
    · rcases hR.out with ⟨_, h0⟩ | ⟨g, o, cap, he, hg, hcs⟩
      · subst h0; simp at hlt
      cases he
      obtain ⟨⟨p, q⟩, hp⟩ : ∃ p, ps[i]? = some p := ⟨ps[i]'hlt, by simp [hlt]⟩
      have hd : ps.drop i = (p, q) :: ps.drop (i + 1) := by rw [List.drop_eq_getElem_cons hlt]; congr 1; simp [hlt] at hp; exact hp
      have hwp := Hid.intro (hw'.out _ (List.mem_of_getElem? hp))
      obtain ⟨d0, d1⟩ := (hcs.below hB hg) i _ hp
      have i1 : (i : Int) < (ps.length : Int) := by omega
      have hgr : g < wr.heap.size := Nat.lt_of_lt_of_le hg hB.size
      simp only at d0 d1
      rw [hd, in_cons] at hiff
      by_cases hh : hasW (p, q) k
      · have hin : Hid (In ps k) := hiff.2 (.inl hh)
        have hh' := Hid.intro hh
        clear hiff hh hd hp hcs
        go_wp2_with fail
        refine (spanHas_t _ _ _ _ hh'.out).mono ?_; rintro e w2 ⟨rfl, hb2⟩
        have hb2' : Below wr.heap.size wr w2 := ((Below.refl _ _).alloc (Nat.le_refl _) _).trans (hb2.mono (by simp))
        go_wp2
        go_ret
        exact ⟨by rw [decide_eq_true hin.out]; rfl, below_step hB hb2'⟩
      · have hin : Hid (In ps k ↔ In (ps.drop (i + 1)) k) := (show In ps k ↔ In (ps.drop (i + 1)) k from hiff.trans ⟨fun h => h.resolve_left hh, fun h => .inr h⟩)
        have hh' := Hid.intro hh
        clear hiff hh hd hp hcs
        go_wp2_with fail
        refine (spanHas_f _ _ _ _ hwp.out hh'.out).mono ?_; rintro e w2 ⟨rfl, hb2⟩
        have hb2' : Below wr.heap.size wr w2 := ((Below.refl _ _).alloc (Nat.le_refl _) _).trans (hb2.mono (by simp))
        go_wp2
        go_roundw
        case rel => exact ⟨i + 1, by omega, by go_num, hin.out, below_step hB hb2'⟩
        case measure => simp [intOf]; omega
    · have hd : ps.drop i = [] := List.drop_eq_nil_of_le (by omega)
      have i1 : ¬ (i : Int) < (ps.length : Int) := by omega
      rw [hd] at hiff
      have hno : Hid (¬ In ps k) := (show ¬ In ps k from fun h => in_nil k (hiff.1 h))
      clear hiff
      go_wp2
      go_ret
      exact ⟨by rw [decide_eq_false hno.out]; rfl, hB⟩

/-! ### A nil one. -/
theorem nil_next (w : World) :
    Calls Try.prog 21 #[.pointer none, .int .i64 0] w fun e w' => e = .returned (.tuple #[.agg #[.int .i64 0, .int .i64 0], .bool false]) ∧ Below w.heap.size w w' := by
  have hba : Below w.heap.size w (w.alloc (.cells #[.int .i64 0, .int .i64 0] 49)) := (Below.refl _ _).alloc (Nat.le_refl _) _
  obtain ⟨b0, b1, b2, b3⟩ := Box.new w (.int .i64 0) (.int .i64 0) 49
  go_enter Try.func21, Try.ntmps21
  go_wp2_with fail
  refine (list_nil _).mono ?_; rintro e w1 ⟨rfl, hw1⟩; subst hw1
  go_wp2_with fail
  go_loop [13] (fun iv => iv = .int .i64 0) (fun _ => 0)
  case atStart => rfl
  case round =>
    subst hrel
    go_wp2
    exact bodyPost_ret (v := .tuple #[.agg #[.int .i64 0, .int .i64 0], .bool false]) (by simp [results, Try.results21, go_sem]) rfl ⟨rfl, hba⟩
theorem nil_count (w : World) : Calls Try.prog 23 #[.pointer none] w fun e w' => e = .returned (.int .i64 0) ∧ Below w.heap.size w w' := by
  go_enter Try.func23, Try.ntmps23
  go_wp2_with fail
  refine (list_nil _).mono ?_; rintro e w1 ⟨rfl, hw1⟩; obtain rfl : w = w1 := hw1.symm
  go_wp2_with fail
  go_loop [3, 9] (fun nv iv => nv = .int .i64 0 ∧ iv = .int .i64 0) (fun _ _ => 0)
  case atStart => exact ⟨rfl, rfl⟩
  case round =>
    obtain ⟨rfl, rfl⟩ := hrel
    go_wp2
    go_ret
    exact ⟨rfl, Below.refl _ _⟩
theorem nil_has (w : World) : Calls Try.prog 24 #[.pointer none, .int .i64 0] w fun e w' => e = .returned (.bool false) ∧ Below w.heap.size w w' := by
  go_enter Try.func24, Try.ntmps24
  go_wp2_with fail
  refine (list_nil _).mono ?_; rintro e w1 ⟨rfl, hw1⟩; obtain rfl : w = w1 := hw1.symm
  go_wp2_with fail
  go_loop [10] (fun iv => iv = .int .i64 0) (fun _ => 0)
  case atStart => rfl
  case round =>
    subst hrel
    go_wp2
    go_ret
    exact ⟨rfl, Below.refl _ _⟩
theorem nil_put (v : Value) (w : World) : Calls Try.prog 14 #[.pointer none, v] w fun e w' => e = .returned (.int .i64 0) ∧ Below w.heap.size w w' := by
  go_enter Try.func14, Try.ntmps14
  go_wp2
  go_ret
  exact ⟨rfl, Below.refl _ _⟩
theorem nil_cut (v : Value) (w : World) : Calls Try.prog 15 #[.pointer none, v] w fun e w' => e = .returned (.int .i64 0) ∧ Below w.heap.size w w' := by
  go_enter Try.func15, Try.ntmps15
  go_wp2
  go_ret
  exact ⟨rfl, Below.refl _ _⟩
theorem nil_all (w : World) : Calls Try.prog 18 #[.pointer none] w fun e w' => e = .returned (.slice none 0 0) ∧ Below w.heap.size w w' := by
  go_enter Try.func18, Try.ntmps18
  go_wp2_with fail
  refine (list_nil _).mono ?_; rintro e w1 ⟨rfl, hw1⟩; obtain rfl : w = w1 := hw1.symm
  go_wp2_with fail
  refine (clone_nil 0 _).mono ?_; rintro e w1 ⟨rfl, hb⟩
  go_wp2
  go_ret
  exact ⟨rfl, hb⟩
theorem nil_copy (w : World) : Calls Try.prog 16 #[.pointer none] w fun e w' => ∃ c, e = .returned (.pointer (some ⟨c, 0, none⟩)) ∧ Hid (RObj w' c []) ∧ Below w.heap.size w w' := by
  go_enter Try.func16, Try.ntmps16
  go_wp2_with fail
  refine (nil_all _).mono ?_; rintro e w1 ⟨rfl, hb⟩
  go_wp2
  go_ret
  exact ⟨_, rfl, robj_new w1, hb.alloc hb.size _⟩
theorem nil_same {w : World} {b : Nat} (h : RObj w b []) : Calls Try.prog 17 #[.pointer none, .pointer (some ⟨b, 0, none⟩)] w fun e w' => e = .returned (.bool true) ∧ Below w.heap.size w w' := by
  obtain ⟨v, hv, _, hr⟩ := h.cell
  obtain ⟨a, c, rfl⟩ := hr.nil
  clear h hr
  go_enter Try.func17, Try.ntmps17
  go_wp2_with fail
  refine (list_nil _).mono ?_; rintro e w1 ⟨rfl, hw1⟩; obtain rfl : w = w1 := hw1.symm
  go_wp2_with fail
  refine (list_some _ _ _ hv).mono ?_; rintro e w1 ⟨rfl, hw2⟩; obtain rfl : w = w1 := hw2.symm
  go_wp2_with fail
  refine (equal_nil none a 0 c _).mono ?_; rintro e w1 ⟨rfl, hb⟩
  go_wp2
  go_ret
  exact ⟨rfl, hb⟩
end Go.Proofs.Ytpdbnldbdmhhfaa
