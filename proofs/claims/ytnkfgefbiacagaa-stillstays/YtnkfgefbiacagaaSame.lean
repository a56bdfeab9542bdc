/-
  The contracts of slices.Equal and slices.Clone (of spans), of runs' Same and All.
-/
import Derived.Test.YtnkfgefbiacagaaPuts
import Derived.Lib.LazyBuf
namespace Go.Proofs.Ytnkfgefbiacagaa
open Go.ChangeShapes Go.WideShapes Go.ChangeAt Go.RowKit
attribute [local go_sem ↓] Go.wp_at_zero Go.wp_at_succ

theorem take_same {ps qs : List Sp} {i : Nat} {p : Sp} (h : ps.take i = qs.take i) (hp : ps[i]? = some p) (hq : qs[i]? = some p) : ps.take (i + 1) = qs.take (i + 1) := by
  rw [List.take_add_one, List.take_add_one, h, hp, hq]

theorem eql22 (w : World) (a : Option Addr) (l c : Nat) : (binOp .eql 35 (.slice a l c) (.slice none 0 0)).run Try.prog w = .ok (.bool a.isNone) w := run_eql_slice_nil w 35 41 a l c Try.underlying35
attribute [local go_sem] eql22

theorem clone_nil (c : Nat) (w : World) :
    Calls Try.prog 32 #[.slice none 0 c] w fun e w' => e = .returned (.slice none 0 0) ∧ Below w.heap.size w w' := by
  go_enter Try.func32, Try.ntmps32
  go_wp2
  go_ret
  exact ⟨rfl, Below.refl _ _⟩

theorem own_empty (w : World) : (w.alloc (.cells #[] 41)).ownsRow w.heap.size 41 2 (.slice (some ⟨w.heap.size, 0, none⟩) 0 0) 0 [] :=
  ⟨rfl, .inr ⟨w.heap.size, 0, #[], rfl, Nat.le_refl _, by have := heap_alloc_new w (.cells #[] 41); simpa using this, Nat.le_refl _, Nat.zero_le _, rfl, rfl⟩⟩

set_option maxRecDepth 100000 in
theorem clone_some (ps : List Sp) (g o c : Nat) (w : World) (h0 : 0 < ps.length) (hl : ps.length ≤ 1000000) (h : Hid (Cells w g o ps)) (hg : g < w.heap.size) :
    Calls Try.prog 32 #[.slice (some ⟨g, o, none⟩) ps.length c] w fun e w' => ∃ v, e = .returned v ∧ w'.ownsRow w.heap.size 41 2 v ps.length (spansV ps) ∧ Below w.heap.size w w' := by
  obtain ⟨i0, hi0, hz0', hz1', hz2'⟩ := info_parts Try.info41
  have hba : Below w.heap.size w (w.alloc (.cells #[] 41)) := (Below.refl _ _).alloc (Nat.le_refl _) _
  have hcs : Hid (Cells (w.alloc (.cells #[] 41)) g o ps) := h.out.below hba hg
  go_enter Try.func32, Try.ntmps32
  go_wp2_with (at_builtin; refine wpList_append_lies _ rfl _ _ 35 rfl w.heap.size 41 i0 (.agg #[.int .i64 0, .int .i64 0]) 2 16 Try.underlying35 hi0 hz0' hz1' hz2' rfl (by decide) _ 0 [] rfl (own_empty w) ⟨g, o, none⟩ ps.length c (spansV ps) rfl (spansV_length ps) (row_news hcs.out) (spansV_one ps) h0 (by unfold maxLen; omega) (by omega) (by simp) (w.heap.size + 1) (by simp) ?_; intro g5 cap5 w5 hown5 hgrow5 hat5 hlt5)
  go_ret
  exact ⟨_, rfl, by simpa using hown5, hba.grown hgrow5 (by simp) (fun j hj => by cases hj; exact Nat.le_refl _)⟩

theorem clone_zero (a : Addr) (c : Nat) (w : World) :
    Calls Try.prog 32 #[.slice (some a) 0 c] w fun e w' => ∃ v, e = .returned v ∧ w'.ownsRow w.heap.size 41 2 v 0 [] ∧ Below w.heap.size w w' := by
  go_enter Try.func32, Try.ntmps32
  go_wp2
  go_ret
  exact ⟨_, rfl, own_empty w, (Below.refl _ _).alloc (Nat.le_refl _) _⟩

theorem clone_any {w : World} {v : Value} {ps : List Sp} (h : Row w v ps) (hl : ps.length ≤ 1000000) :
    Calls Try.prog 32 #[v] w fun e w' => ∃ v, e = .returned v ∧ w'.ownsRow w.heap.size 41 2 v ps.length (spansV ps) ∧ Below w.heap.size w w' := by
  rcases h with ⟨⟨a, c, rfl⟩, rfl⟩ | ⟨g, o, cap, rfl, hg, hc⟩
  · cases a with
    | none => exact (clone_nil c w).mono fun e w' ⟨he, hb⟩ => ⟨_, he, World.ownsRow_nil _ _ _ _, hb⟩
    | some a => exact clone_zero a c w
  · by_cases e : ps = []
    · subst e; exact clone_zero _ cap w
    · exact clone_some ps g o cap w (List.length_pos_iff.2 e) hl hc hg

theorem all_any {w : World} {b : Nat} {ps : List Sp} (h : RObj w b ps) (hl : ps.length ≤ 1000000) :
    Calls Try.prog 25 #[.pointer (some ⟨b, 0, none⟩)] w fun e w' => ∃ v, e = .returned v ∧ w'.ownsRow w.heap.size 41 2 v ps.length (spansV ps) ∧ Below w.heap.size w w' := by
  obtain ⟨v, hv, _, hr⟩ := h.cell
  have hr1 : Hid (Row w v ps) := hr
  clear h hr
  go_enter Try.func25, Try.ntmps25
  go_wp2_with fail
  refine (list_some _ _ _ hv).mono ?_; rintro e w1 ⟨rfl, hw1⟩; obtain rfl : w = w1 := hw1.symm
  go_wp2_with fail
  refine (clone_any hr1.out hl).mono ?_; rintro e w1 ⟨v', rfl, ho, hb⟩
  go_wp2
  go_ret
  exact ⟨_, rfl, ho, hb⟩
end Go.Proofs.Ytnkfgefbiacagaa
