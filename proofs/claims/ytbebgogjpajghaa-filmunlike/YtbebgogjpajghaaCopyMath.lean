/-
  One byte written: what is unlike then.
-/
import Derived.Test.YtbebgogjpajghaaPartsWalk
namespace Go.Proofs.Ytbebgogjpajghaa
open Go.ChangeShapes Go.WideShapes Go.ChangeAt Go.RowKit

theorem remB (x : Int) (B : Nat) (h1 : 1 ≤ B) (h2 : B ≤ 64) : ∃ K : Nat, (wrap64 (x.tmod ((B : Int) * 8) + (B : Int) * 8)).tmod ((B : Int) * 8) = (K : Int) ∧ K < B * 8 := by
  have a := Int.tmod_lt_of_pos x (b := (B : Int) * 8) (by omega)
  have b := Int.lt_tmod_of_pos x (b := (B : Int) * 8) (by omega)
  have e1 : wrap64 (x.tmod ((B : Int) * 8) + (B : Int) * 8) = x.tmod ((B : Int) * 8) + (B : Int) * 8 := by unfold wrap64; omega
  rw [e1]
  have c := Int.tmod_nonneg ((B : Int) * 8) (a := x.tmod ((B : Int) * 8) + (B : Int) * 8) (by omega)
  have d := Int.tmod_lt_of_pos (x.tmod ((B : Int) * 8) + (B : Int) * 8) (b := (B : Int) * 8) (by omega)
  exact ⟨((x.tmod ((B : Int) * 8) + (B : Int) * 8).tmod ((B : Int) * 8)).toNat, by omega, by omega⟩
theorem blk_get (X : List UInt8) (j i : Nat) : (blk X j)[i]? = if i < 8 then X[j * 8 + i]? else none := by
  unfold blk
  rw [List.getElem?_take]
  split
  · rw [List.getElem?_drop]
  · rfl
theorem wr1_get {X : List UInt8} {K : Nat} {y : UInt8} (hK : K < X.length) (j : Nat) : (wrS X (K : Int) [y])[j]? = if j = K then some y else X[j]? := by
  rw [wrS_get (by simp; omega)]
  by_cases c1 : j < K
  · rw [if_pos c1, if_neg (by omega)]
  · rw [if_neg c1]
    by_cases c2 : j = K
    · subst c2; simp
    · rw [if_neg (by simp; omega), if_neg c2]
theorem wr1_same {X : List UInt8} {K : Nat} {x : UInt8} (hx : X[K]? = some x) : wrS X (K : Int) [x] = X := by
  have hK : K < X.length := (List.getElem?_eq_some_iff.1 hx).1
  apply List.ext_getElem?
  intro j
  rw [wr1_get hK]
  by_cases c : j = K
  · rw [if_pos c, c, hx]
  · rw [if_neg c]
theorem wr1_unlike {X : List UInt8} {K : Nat} {x y : UInt8} (hx : X[K]? = some x) (hne : x ≠ y) (j : Nat) : blk X j ≠ blk (wrS X (K : Int) [y]) j ↔ j = K / 8 := by
  have hK : K < X.length := (List.getElem?_eq_some_iff.1 hx).1
  constructor
  · intro h
    rcases Nat.decEq j (K / 8) with c | c
    · exfalso
      apply h
      apply List.ext_getElem?
      intro i
      rw [blk_get, blk_get]
      split
      · rw [wr1_get hK, if_neg (by omega)]
      · rfl
    · exact c
  · rintro rfl h
    have this : (blk X (K / 8))[K % 8]? = (blk (wrS X (K : Int) [y]) (K / 8))[K % 8]? := by rw [← h]
    rw [blk_get, blk_get, if_pos (by omega), if_pos (by omega), wr1_get hK, if_pos (by omega), show K / 8 * 8 + K % 8 = K by omega, hx] at this
    exact hne (by simpa using this)
theorem take1 {X : List UInt8} {K : Nat} {x : UInt8} (hx : X[K]? = some x) : (X.drop K).take 1 = [x] := by
  obtain ⟨h1, h2⟩ := List.getElem?_eq_some_iff.1 hx
  rw [List.drop_eq_getElem_cons h1, h2]
  rfl
theorem unlike_one {X : List UInt8} {K : Nat} {x y : UInt8} (hK : K < 512) (hx : X[K]? = some x) (hne : x ≠ y) {ps : List Sp} (hc : Canon ps) (hin : ∀ j : Int, In ps j ↔ 0 ≤ j ∧ j < 64 ∧ blk X j.toNat ≠ blk (wrS X (K : Int) [y]) j.toNat) : ps = [(((K / 8 : Nat) : Int), 1)] := by
  refine canon_ext hc ⟨⟨by simp only; omega, by simp only; omega, by simp only; omega⟩, by simp, trivial⟩ (fun k => ?_)
  rw [hin, In_one (K / 8) (by omega), wr1_unlike hx hne]
  omega
theorem unlike_self {X : List UInt8} {ps : List Sp} (hc : Canon ps) (hin : ∀ j : Int, In ps j ↔ 0 ≤ j ∧ j < 64 ∧ blk X j.toNat ≠ blk X j.toNat) : ps = [] :=
  canon_ext hc trivial (fun k => by rw [hin]; exact ⟨fun h => absurd rfl h.2.2, fun h => absurd h (in_nil k)⟩)
end Go.Proofs.Ytbebgogjpajghaa
