/-
  The contract of emulsionlaw10's alive and Tidy.
-/
import Derived.Test.YtfikkbmilhcahaaESet
import Derived.Test.YtfikkbmilhcahaaEValid
import Derived.Test.YtfikkbmilhcahaaRefD
namespace Go.Proofs.Ytfikkbmilhcahaa
open Go.ChangeShapes Go.WideShapes Go.ChangeAt Go.RowKit
attribute [local go_sem ↓] Go.wp_at_zero Go.wp_at_succ

theorem alive_list : setL [(0, 4, 1)] (1, 2, 0) = [(0, 1, 1), (1, 2, 0), (3, 1, 4)] := by decide
theorem alive_ti : Ti [(0, 4, 1)] := by unfold Ti Tp Tp e0 On Al; decide
theorem alive_ti3 : Ti [(0, 1, 1), (1, 2, 0), (3, 1, 4)] := by have := (setL_spec (x := (1, 2, 0)) alive_ti).1; rw [alive_list] at this; exact this
theorem one_row (w : World) : BkE.Row (w.alloc (.cells #[.int .i64 0, .int .i64 4, .int .i64 1] 24)) (.slice (some ⟨w.heap.size, 0, none⟩) 1 1) [(0, 4, 1)] := by
  refine .inr ⟨w.heap.size, 0, 1, rfl, by simp, fun i p hp => ?_⟩
  cases i with
  | zero => simp at hp; subst hp; simp [go_sem]
  | succ i => simp at hp

set_option maxRecDepth 100000 in
theorem alive_any (w : World) :
    Calls Try.prog 8 #[] w fun e w' => e = .returned (.bool true) ∧ Below w.heap.size w w' := by
  go_enter Try.func8, Try.ntmps8
  go_wp2_with fail
  have hba : Below w.heap.size w (w.alloc (.cells #[.int .i64 0, .int .i64 4, .int .i64 1] 24)) := (Below.refl _ _).alloc (Nat.le_refl _) _
  refine (set_any (one_row w) alive_ti (1, 2, 0) (by decide)).mono ?_; rintro e w2 ⟨v, rfl, hv, hb⟩
  rw [alive_list] at hv
  have hB2 := hba.trans (hb.mono hba.size)
  obtain ⟨g, cap, rfl, hgb, hgl⟩ := hv.form (by decide)
  have cc : ∀ j, j < 9 → w2.cell? ⟨g, j, none⟩ = (BkE.itemsV [(0, 1, 1), (1, 2, 0), (3, 1, 4)])[j]? := fun j hj => hv.cellAt j (by simpa using hj)
  have c0 := cc 0 (by decide)
  have c1 := cc 1 (by decide)
  have c2 := cc 2 (by decide)
  have c3 := cc 3 (by decide)
  have c4 := cc 4 (by decide)
  have c5 := cc 5 (by decide)
  have c6 := cc 6 (by decide)
  have c7 := cc 7 (by decide)
  have c8 := cc 8 (by decide)
  simp [BkE.itemsV] at c0 c1 c2 c3 c4 c5 c6 c7 c8
  have hro := Hid.intro (BkE.own_row hv)
  clear cc hv hb hba
  go_wp2_with fail
  refine (valid_row hro.out alive_ti3 4).mono ?_; rintro e w3 ⟨rfl, hb3⟩
  have hB3 := hB2.trans (hb3.mono hB2.size)
  rw [show fitsL 4 [(0, 1, 1), (1, 2, 0), (3, 1, 4)] = true by decide]
  go_wp2_with fail
  refine (valid_row (hro.out.below hb3) alive_ti3 3).mono ?_; rintro e w4 ⟨rfl, hb4⟩
  have hB4 := hB3.trans (hb4.mono hB3.size)
  rw [show fitsL 3 [(0, 1, 1), (1, 2, 0), (3, 1, 4)] = false by decide]
  clear c0 c1 c2 c3 c4 c5 c6 c7 c8
  go_wp2
  go_ret
  exact ⟨rfl, hB4⟩
/-- The law's Tidy: the tidy list of a list. -/
theorem lawTidy_any {w : World} {v : Value} {l : List Ex} (hr : BkE.Row w v l) (hl : l.length ≤ 1000000) :
    Calls Try.prog 32 #[v] w fun e w' => ∃ v L, e = .returned v ∧ w'.ownsRow w.heap.size 24 3 v L.length (BkE.itemsV L) ∧ Ti L ∧ (∀ k, val L k = mv (mOf l) k) ∧ Below w.heap.size w w' := by
  go_enter Try.func32, Try.ntmps32
  go_wp2_with fail
  refine (refOf_any hr hl).mono ?_; rintro e w1 ⟨rfl, hb⟩
  go_wp2_with fail
  refine (refExt_any (mOf l) (mOf_sane l) w1).mono ?_; rintro e w2 ⟨v2, L, rfl, ho, ht, hv, hb2⟩
  go_wp2
  go_ret
  exact ⟨_, L, rfl, BkE.own_mono ho hb.size, ht, hv, hb.trans (hb2.mono hb.size)⟩
end Go.Proofs.Ytfikkbmilhcahaa
