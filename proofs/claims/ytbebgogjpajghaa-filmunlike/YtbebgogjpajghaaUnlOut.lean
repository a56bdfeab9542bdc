/-
  FilmUnlike, where it asks nothing.
-/
import Derived.Test.YtbebgogjpajghaaArrA
import Derived.Lib.MinMax
import Derived.Deep.CutRange
import Derived.Deep.CutBlock
namespace Go.Proofs.Ytbebgogjpajghaa
open Go.ChangeShapes Go.WideShapes Go.ChangeAt Go.RowKit
attribute [local go_sem ↓] Go.wp_at_zero Go.wp_at_succ
attribute [local go_sem] str_size str_extract str_append str_toList

set_option maxRecDepth 100000 in
set_option maxHeartbeats 16000000 in
theorem unl_out (A B : Int) (a b : Option Addr) (c d : Nat) (os ps : List FPut) (Z : List UInt8) (w : World) (hh : Hid (PutsAt w (.slice a os.length c) os)) (kk : Hid (PutsAt w (.slice b ps.length d) ps)) (h : A < 1 ∨ B < 1 ∨ 64 < A ∨ 64 < B ∨ 100 < (Z.length : Int)) :
    Calls Try.prog 3 #[.int .i64 A, .int .i64 B, .slice a os.length c, .slice b ps.length d, .string (str Z)] w fun e w' => e = .returned (.bool true) ∧ Below w.heap.size w w' := by
  by_cases h1 : A < 1
  · clear h
    go_enter Try.func3, Try.ntmps3
    go_wp2_with fail
    refine (light_any hh.out).mono ?_; rintro e w1 ⟨bb, rfl, _, rfl⟩
    cases bb with
    | false =>
      go_wp2_with fail
      refine (alive_any _).mono ?_; rintro e w1 ⟨rfl, hb⟩
      go_wp2
      go_ret
      exact ⟨rfl, hb⟩
    | true =>
      go_wp2_with fail
      refine (light_any kk.out).mono ?_; rintro e w1 ⟨bb, rfl, _, rfl⟩
      cases bb with
      | false =>
        go_wp2_with fail
        refine (alive_any _).mono ?_; rintro e w1 ⟨rfl, hb⟩
        go_wp2
        go_ret
        exact ⟨rfl, hb⟩
      | true =>
        go_wp2_with fail
        refine (alive_any _).mono ?_; rintro e w1 ⟨rfl, hb⟩
        go_wp2
        go_ret
        exact ⟨rfl, hb⟩
  by_cases h2 : B < 1
  · clear h
    go_enter Try.func3, Try.ntmps3
    go_wp2_with fail
    refine (light_any hh.out).mono ?_; rintro e w1 ⟨bb, rfl, _, rfl⟩
    cases bb with
    | false =>
      go_wp2_with fail
      refine (alive_any _).mono ?_; rintro e w1 ⟨rfl, hb⟩
      go_wp2
      go_ret
      exact ⟨rfl, hb⟩
    | true =>
      go_wp2_with fail
      refine (light_any kk.out).mono ?_; rintro e w1 ⟨bb, rfl, _, rfl⟩
      cases bb with
      | false =>
        go_wp2_with fail
        refine (alive_any _).mono ?_; rintro e w1 ⟨rfl, hb⟩
        go_wp2
        go_ret
        exact ⟨rfl, hb⟩
      | true =>
        go_wp2_with fail
        refine (alive_any _).mono ?_; rintro e w1 ⟨rfl, hb⟩
        go_wp2
        go_ret
        exact ⟨rfl, hb⟩
  by_cases h3 : 64 < A
  · clear h
    go_enter Try.func3, Try.ntmps3
    go_wp2_with fail
    refine (light_any hh.out).mono ?_; rintro e w1 ⟨bb, rfl, _, rfl⟩
    cases bb with
    | false =>
      go_wp2_with fail
      refine (alive_any _).mono ?_; rintro e w1 ⟨rfl, hb⟩
      go_wp2
      go_ret
      exact ⟨rfl, hb⟩
    | true =>
      go_wp2_with fail
      refine (light_any kk.out).mono ?_; rintro e w1 ⟨bb, rfl, _, rfl⟩
      cases bb with
      | false =>
        go_wp2_with fail
        refine (alive_any _).mono ?_; rintro e w1 ⟨rfl, hb⟩
        go_wp2
        go_ret
        exact ⟨rfl, hb⟩
      | true =>
        go_wp2_with fail
        refine (alive_any _).mono ?_; rintro e w1 ⟨rfl, hb⟩
        go_wp2
        go_ret
        exact ⟨rfl, hb⟩
  by_cases h4 : 64 < B
  · clear h
    go_enter Try.func3, Try.ntmps3
    go_wp2_with fail
    refine (light_any hh.out).mono ?_; rintro e w1 ⟨bb, rfl, _, rfl⟩
    cases bb with
    | false =>
      go_wp2_with fail
      refine (alive_any _).mono ?_; rintro e w1 ⟨rfl, hb⟩
      go_wp2
      go_ret
      exact ⟨rfl, hb⟩
    | true =>
      go_wp2_with fail
      refine (light_any kk.out).mono ?_; rintro e w1 ⟨bb, rfl, _, rfl⟩
      cases bb with
      | false =>
        go_wp2_with fail
        refine (alive_any _).mono ?_; rintro e w1 ⟨rfl, hb⟩
        go_wp2
        go_ret
        exact ⟨rfl, hb⟩
      | true =>
        go_wp2_with fail
        refine (alive_any _).mono ?_; rintro e w1 ⟨rfl, hb⟩
        go_wp2
        go_ret
        exact ⟨rfl, hb⟩
  have h5 : 100 < (Z.length : Int) := by omega
  clear h
  go_enter Try.func3, Try.ntmps3
  go_wp2_with fail
  refine (light_any hh.out).mono ?_; rintro e w1 ⟨bb, rfl, _, rfl⟩
  cases bb with
  | false =>
    go_wp2_with fail
    refine (alive_any _).mono ?_; rintro e w1 ⟨rfl, hb⟩
    go_wp2
    go_ret
    exact ⟨rfl, hb⟩
  | true =>
    go_wp2_with fail
    refine (light_any kk.out).mono ?_; rintro e w1 ⟨bb, rfl, _, rfl⟩
    cases bb with
    | false =>
      go_wp2_with fail
      refine (alive_any _).mono ?_; rintro e w1 ⟨rfl, hb⟩
      go_wp2
      go_ret
      exact ⟨rfl, hb⟩
    | true =>
      go_wp2_with fail
      refine (alive_any _).mono ?_; rintro e w1 ⟨rfl, hb⟩
      go_wp2
      go_ret
      exact ⟨rfl, hb⟩

end Go.Proofs.Ytbebgogjpajghaa
