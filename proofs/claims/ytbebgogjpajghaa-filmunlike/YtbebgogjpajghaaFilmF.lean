/-
  The contracts of emulsionlaw4's alive and Light.
-/
import Derived.Test.YtbebgogjpajghaaFilmE
import Derived.Test.YtbebgogjpajghaaArgPuts
namespace Go.Proofs.Ytbebgogjpajghaa
open Go.ChangeShapes Go.WideShapes Go.ChangeAt Go.RowKit
attribute [local go_sem ↓] Go.wp_at_zero Go.wp_at_succ
attribute [local go_sem] str_size str_extract str_append str_toList

set_option maxRecDepth 100000 in
theorem alive_any (w : World) : Calls Try.prog 8 #[] w fun e w' => e = .returned (.bool true) ∧ Below w.heap.size w w' := by
  go_enter Try.func8, Try.ntmps8
  go_wp2_with fail
  refine (new_any 2 _ (by decide) (by decide)).mono ?_; rintro e w1 ⟨rfl, hF, hb⟩
  have hz1 := hF.lt
  generalize w.heap.size + 1 = b at *
  generalize hG : w.heap.size = g at hF hz1
  have hg : w.heap.size ≤ g := by omega
  go_wp2_with fail
  refine (write_any (B := 2) 7 [97, 98] hF rfl (by decide) (by decide) (by decide)).mono ?_; rintro e w2 ⟨rfl, hF2, hb2⟩
  rw [if_pos (by decide)]
  have hB2 : Below w.heap.size w w2 := hb.trans (hb2.low hg hb.size)
  clear hb hb2
  go_wp2_with fail
  refine (block_in (B := 2) 1 hF2 (by rw [wrS_length]; rfl) (by decide) (by decide)).mono ?_; rintro e w3 ⟨rfl, rfl⟩
  rw [show blk (wrS (List.replicate (2 * 8) 0) 7 [97, 98]) 1 = [98, 0, 0, 0, 0, 0, 0, 0] by decide]
  go_wp2_with fail
  refine (zeros_any 7 _ (by decide)).mono ?_; rintro e w4 ⟨rfl, hb4⟩
  have hF4 := hF2.below hb4
  have hB4 : Below w.heap.size w w4 := hB2.trans (hb4.mono hB2.size)
  have hcat : ((⟨#[98]⟩ : ByteArray) ++ str [0, 0, 0, 0, 0, 0, 0]).toList = [98, 0, 0, 0, 0, 0, 0, 0] := (congrArg ByteArray.toList (str_append [98] [0, 0, 0, 0, 0, 0, 0])).trans (str_toList _)
  go_wp2_with fail
  refine (fblocks_B (B := 2) hF4 (by rw [wrS_length]; rfl)).mono ?_; rintro e w5 ⟨rfl, rfl⟩
  go_wp2_with fail
  refine (zero_any [0] _ (by decide)).mono ?_; rintro e w6 ⟨rfl, rfl⟩
  rw [show allZ [0] = true by rfl]
  go_wp2
  go_ret
  exact ⟨rfl, hB4⟩

set_option maxRecDepth 100000 in
theorem light_any {w : World} {a : Option Addr} {c : Nat} {os : List FPut} (h : PutsAt w (.slice a os.length c) os) :
    Calls Try.prog 7 #[.slice a os.length c] w fun e w' => ∃ b : Bool, e = .returned (.bool b) ∧ (b = true → os.length ≤ 50) ∧ w' = w := by
  have hh := Hid.intro h
  clear h
  go_enter Try.func7, Try.ntmps7
  go_wp2_with fail
  go_loopw [3] (fun iv wr => ∃ i : Nat, i ≤ os.length ∧ iv = .int .i64 i ∧ wr = w) (fun iv _ => os.length - (intOf iv).toNat)
  case atStart => exact ⟨0, Nat.zero_le _, rfl, rfl⟩
  case round =>
    obtain ⟨i, hi, rfl, rfl⟩ := hrel
    have i0 : (0 : Int) ≤ (i : Int) := Int.natCast_nonneg _
    by_cases hl : i < os.length
    · obtain ⟨g, o, x, T, rfl, hg, _, c0, c1, _⟩ := hh.out.at (Below.refl _ _) i hl
      have i1 : (i : Int) < (os.length : Int) := by omega
      have d1 : decide ((i : Int) < (os.length : Int)) = true := decide_eq_true i1
      by_cases h6 : (i : Int) < 60
      · by_cases hT : (600 : Int) < (T.length : Int)
        · go_wp2
          go_ret
          exact ⟨false, rfl, nofun, rfl⟩
        · go_wp2
          go_roundw
          case rel => exact ⟨i + 1, by omega, by go_num, trivial⟩
          case measure => simp [intOf]; omega
      · have hlen : ¬ (os.length : Int) ≤ 50 := by omega
        go_wp2
        go_ret
        exact .inl ⟨rfl, rfl⟩
    · have hii : i = os.length := by omega
      subst hii
      have d1 : decide ((os.length : Int) < (os.length : Int)) = false := decide_eq_false (by omega)
      by_cases hlen : (os.length : Int) ≤ 50
      · go_wp2
        go_ret
        exact ⟨true, rfl, fun _ => by omega, rfl⟩
      · go_wp2
        go_ret
        exact .inl ⟨rfl, rfl⟩
end Go.Proofs.Ytbebgogjpajghaa
