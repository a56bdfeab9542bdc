/-
  A list that was lent, beside a Set.
-/
import Derived.Test.YtpdbnldbdmhhfaaPlay4
namespace Go.Proofs.Ytpdbnldbdmhhfaa
open Go.ChangeShapes Go.WideShapes Go.ChangeAt Go.RowKit

theorem Lent.butAt {w w' : World} {u : Value} {l : List Sp} {X : Nat} (h : Lent w u l) (hb : But X w w') (hne : ∀ b, u.ownBlock = some b → b ≠ X) : Lent w' u l := by
  obtain ⟨g, cap, hu, hl, hg, hc⟩ := h
  exact ⟨g, cap, hu, hl, Nat.lt_of_lt_of_le hg hb.size, hc.butArr hg (hne g (by rw [hu]; rfl)) hb⟩
theorem lent_arr {w : World} {u : Value} {l ps : List Sp} {X : Nat} (h : Lent w u l) (ha : Arr w X ps) (hl : l.length ≤ 20) : ∀ b, u.ownBlock = some b → b ≠ X := by
  intro b hb e
  subst e
  obtain ⟨g, cap, hu, _, _, hc⟩ := h
  rw [hu] at hb
  cases hb
  have h1 := (hc l.length (-77, 0) (by simp)).1
  rw [Nat.zero_add] at h1
  have h2 := bit_cell ha.2 (l.length * 2) (by omega)
  rw [h1] at h2
  cases h2
theorem fits03 : Fits [((0 : Int), (3 : Int))] := by intro p hp; simp at hp; subst hp; decide
/-- Put, whatever it answers. -/
theorem put_sym {w : World} {b : Nat} {ps l : List Sp} {v : Value} (hr : RObj w b ps) (hp : Canon ps) (hl : Row w v l) (hf : Fits l) (hn : l.length ≤ 1000000) :
    Calls Try.prog 14 #[.pointer (some ⟨b, 0, none⟩), v] w fun e w' => ∃ (z : Int) (qs : List Sp), e = .returned (.int .i64 z) ∧ Hid (Canon qs) ∧ Hid (RObj w' b qs) ∧ But b w w' :=
  (put_any hr hp hl hf hn).mono fun _ _ ⟨he, h1, h2⟩ => ⟨_, _, he, (put_spec l ps hp).1, h1, h2⟩
theorem cut_sym {w : World} {b : Nat} {ps l : List Sp} {v : Value} (hr : RObj w b ps) (hp : Canon ps) (hl : Row w v l) (hf : Fits l) (hn : l.length ≤ 1000000) :
    Calls Try.prog 15 #[.pointer (some ⟨b, 0, none⟩), v] w fun e w' => ∃ z : Int, e = .returned (.int .i64 z) ∧ But b w w' :=
  (cut_any hr hp hl hf hn).mono fun _ _ ⟨he, _, h2⟩ => ⟨_, he, h2⟩
end Go.Proofs.Ytpdbnldbdmhhfaa
