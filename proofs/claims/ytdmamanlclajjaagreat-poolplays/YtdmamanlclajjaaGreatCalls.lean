/-
  The contracts of cmp's Compare and Or as the shelf uses them, of print.Bucket, and of the shelf's own compare, for every two items: what each returns; nothing that was there is written.
-/
import Derived.Test.YtdmamanlclajjaaGreatMath
import Derived.Outline
import Derived.Deep.RegionHeld3
namespace Go.Proofs.YtdmamanlclajjaaGreat
open Go.ChangeShapes Go.WideShapes Go.ChangeAt Go.RowKit

theorem nan32 (x : Int) (w : World) : Calls Tryz.prog 107 #[.int .u32 x] w fun e w' => e = .returned (.bool false) ∧ w' = w := by
  go_enter Tryz.func107, Tryz.ntmps107
  go_wp2
  go_ret
  exact ⟨rfl, rfl⟩
theorem nan64 (x : Int) (w : World) : Calls Tryz.prog 98 #[.int .i64 x] w fun e w' => e = .returned (.bool false) ∧ w' = w := by
  go_enter Tryz.func98, Tryz.ntmps98
  go_wp2
  go_ret
  exact ⟨rfl, rfl⟩
theorem cmp32 (x y : Int) (w : World) : Calls Tryz.prog 104 #[.int .u32 x, .int .u32 y] w fun e w' => e = .returned (.int .i64 (cmpZ x y)) ∧ w' = w := by
  by_cases h1 : x < y
  · have e1 : cmpZ x y = -1 := by unfold cmpZ; simp [h1]
    rw [e1]; clear e1
    go_enter Tryz.func104, Tryz.ntmps104
    go_wp2_with (go_at_call 107; refine (nan32 _ _).mono ?_; rintro e w1 ⟨rfl, rfl⟩)
    go_ret
    exact ⟨rfl, rfl⟩
  · by_cases h2 : y < x
    · have e1 : cmpZ x y = 1 := by unfold cmpZ; simp [h1, h2]
      rw [e1]; clear e1
      go_enter Tryz.func104, Tryz.ntmps104
      go_wp2_with (go_at_call 107; refine (nan32 _ _).mono ?_; rintro e w1 ⟨rfl, rfl⟩)
      go_ret
      exact ⟨rfl, rfl⟩
    · have e1 : cmpZ x y = 0 := by unfold cmpZ; simp [h1, h2]
      rw [e1]; clear e1
      go_enter Tryz.func104, Tryz.ntmps104
      go_wp2_with (go_at_call 107; refine (nan32 _ _).mono ?_; rintro e w1 ⟨rfl, rfl⟩)
      go_ret
      exact ⟨rfl, rfl⟩
theorem cmp64 (x y : Int) (w : World) : Calls Tryz.prog 76 #[.int .i64 x, .int .i64 y] w fun e w' => e = .returned (.int .i64 (cmpZ x y)) ∧ w' = w := by
  by_cases h1 : x < y
  · have e1 : cmpZ x y = -1 := by unfold cmpZ; simp [h1]
    rw [e1]; clear e1
    go_enter Tryz.func76, Tryz.ntmps76
    go_wp2_with (go_at_call 98; refine (nan64 _ _).mono ?_; rintro e w1 ⟨rfl, rfl⟩)
    go_ret
    exact ⟨rfl, rfl⟩
  · by_cases h2 : y < x
    · have e1 : cmpZ x y = 1 := by unfold cmpZ; simp [h1, h2]
      rw [e1]; clear e1
      go_enter Tryz.func76, Tryz.ntmps76
      go_wp2_with (go_at_call 98; refine (nan64 _ _).mono ?_; rintro e w1 ⟨rfl, rfl⟩)
      go_ret
      exact ⟨rfl, rfl⟩
    · have e1 : cmpZ x y = 0 := by unfold cmpZ; simp [h1, h2]
      rw [e1]; clear e1
      go_enter Tryz.func76, Tryz.ntmps76
      go_wp2_with (go_at_call 98; refine (nan64 _ _).mono ?_; rintro e w1 ⟨rfl, rfl⟩)
      go_ret
      exact ⟨rfl, rfl⟩

def orZ (a b : Int) : Int := if a = 0 then b else a
set_option maxRecDepth 100000 in
theorem or_any (a b : Int) (g c : Nat) (w : World) (h0 : w.cell? ⟨g, 0, none⟩ = some (.int .i64 a)) (h1 : w.cell? ⟨g, 1, none⟩ = some (.int .i64 b)) :
    Calls Tryz.prog 103 #[.slice (some ⟨g, 0, none⟩) 2 c] w fun e w' => e = .returned (.int .i64 (orZ a b)) ∧ w' = w := by
  go_enter Tryz.func103, Tryz.ntmps103
  go_wp2_with fail
  go_loopw [8] (fun kv wr => ∃ k : Nat, k ≤ 2 ∧ kv = .int .i64 (k : Int) ∧ (1 ≤ k → a = 0) ∧ (2 ≤ k → b = 0) ∧ wr = w) (fun kv _ => 2 - (intOf kv).toNat)
  case atStart => exact ⟨0, by omega, rfl, by omega, by omega, rfl⟩
  case round =>
    obtain ⟨k, hk, rfl, ha, hb, rfl⟩ := hrel
    have hk3 : k = 0 ∨ k = 1 ∨ k = 2 := by omega
    rcases hk3 with rfl | rfl | rfl
    · clear ha hb
      by_cases e : a = 0
      · have e' := Hid.intro e
        subst e
        go_wp2
        go_roundw
        case rel => exact ⟨1, by omega, rfl, by simp, by omega, by simp⟩
        case measure => simp [intOf]
      · go_wp2
        go_ret
        exact ⟨by simp [orZ, e], rfl⟩
    · have ha0 := ha (by omega)
      subst ha0
      clear ha hb
      by_cases e : b = 0
      · subst e
        go_wp2
        go_roundw
        case rel => exact ⟨2, by omega, rfl, by simp, by simp, by simp⟩
        case measure => simp [intOf]
      · go_wp2
        go_ret
        exact ⟨by simp [orZ], rfl⟩
    · have ha0 := ha (by omega)
      have hb0 := hb (by omega)
      subst ha0 hb0
      clear ha hb
      go_wp2
      go_ret
      exact ⟨by simp [orZ], rfl⟩

theorem bucket_yes (x : Int) (n : Int) (h0 : 0 ≤ x) (hx : x ≤ 4294967295) (h1 : 1 ≤ n) (h2 : n ≤ 9223372036854775807) (w : World) :
    Calls Tryz.prog 94 #[.int .u32 x, .int .i64 n] w fun e w' => e = .returned (.int .i64 (x % n)) ∧ w' = w := by
  have h3 : 0 ≤ x % n := Int.emod_nonneg _ (by omega)
  have h4 : x % n < n := Int.emod_lt_of_pos _ (by omega)
  go_enter Tryz.func94, Tryz.ntmps94
  go_wp2
  go_ret
  exact ⟨rfl, rfl⟩
end Go.Proofs.YtdmamanlclajjaaGreat
