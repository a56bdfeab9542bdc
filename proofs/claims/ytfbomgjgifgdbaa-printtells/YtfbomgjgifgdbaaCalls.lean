/-
  The contracts of package print's Turn, Mix, Bucket and of the document's Turn and Mix, for every input: what each returns; nothing that was there is written.
-/
import Derived.Test.YtfbomgjgifgdbaaTurnMath
import Derived.Outline
namespace Go.Proofs.Ytfbomgjgifgdbaa
open Go.ChangeShapes Go.WideShapes Go.ChangeAt Go.RowKit

theorem Hid.intro {p : Prop} (h : p) : Hid p := h

theorem turn_any (x : Nat) (n : Int) (hx : x < 4294967296) (w : World) :
    Calls Try.prog 13 #[.int .u32 (x : Int), .int .i64 n] w fun e w' => e = .returned (.int .u32 ((rot (low5 n) x : Nat) : Int)) ∧ w' = w := by
  have e1 := and31_u64 n
  have hk := low5_lt n
  generalize low5 n = k at e1 hk
  obtain ⟨A, e2, B, e3, e4⟩ : ∃ A : Nat, IntKind.u32.wrap ((x : Int) * 2 ^ k) = (A : Int) ∧ ∃ B : Nat, (x : Int) / 2 ^ (32 - k) = (B : Int) ∧ bits .or .u32 (A : Int) (B : Int) = ((rot k x : Nat) : Int) :=
    ⟨x * 2 ^ k % 4294967296, by rw [← wrap32]; simp, x / 2 ^ (32 - k), by simp, by
      rw [u32_or _ _ (Nat.mod_lt _ (by decide)) (Nat.lt_of_le_of_lt (Nat.div_le_self _ _) hx), rot_or x k hx hk]⟩
  generalize rot k x = R at e4
  go_enter Try.func13, Try.ntmps13
  go_wp2
  go_ret
  exact ⟨rfl, rfl⟩

theorem mix_any (a b : Nat) (ha : a < 4294967296) (hb : b < 4294967296) (w : World) :
    Calls Try.prog 11 #[.int .u32 (a : Int), .int .u32 (b : Int)] w fun e w' => e = .returned (.int .u32 ((mixN a b : Nat) : Int)) ∧ w' = w := by
  have e1 := u32_xor (rot 5 a) b (rot_lt 5 a ha) hb
  have e2 : IntKind.u32.wrap (((rot 5 a ^^^ b : Nat) : Int) * 2654435761) = ((mixN a b : Nat) : Int) := by
    rw [mixN, ← wrap32]; simp
  go_enter Try.func11, Try.ntmps11
  go_wp2_with (go_at_call 13; refine (turn_any _ _ ha _).mono ?_; rintro e w1 ⟨rfl, rfl⟩; rw [show low5 5 = 5 from rfl])
  go_ret
  exact ⟨rfl, rfl⟩

theorem bucket_yes (x : Nat) (n : Int) (hx : x < 4294967296) (h1 : 1 ≤ n) (h2 : n ≤ 9223372036854775807) (w : World) :
    Calls Try.prog 15 #[.int .u32 (x : Int), .int .i64 n] w fun e w' => e = .returned (.int .i64 ((x : Int) % n)) ∧ w' = w := by
  have h3 : 0 ≤ (x : Int) % n := Int.emod_nonneg _ (by omega)
  have h4 : (x : Int) % n < n := Int.emod_lt_of_pos _ (by omega)
  go_enter Try.func15, Try.ntmps15
  go_wp2
  go_ret
  exact ⟨rfl, rfl⟩
theorem bucket_no (x : Nat) (n : Int) (h1 : ¬ 1 ≤ n) (w : World) :
    Calls Try.prog 15 #[.int .u32 (x : Int), .int .i64 n] w fun e w' => e = .returned (.int .i64 0) ∧ w' = w := by
  go_enter Try.func15, Try.ntmps15
  go_wp2
  go_ret
  exact ⟨rfl, rfl⟩

set_option maxRecDepth 100000 in
theorem rturn_any (x : Nat) (n : Int) (hx : x < 4294967296) (w : World) :
    Calls Try.prog 14 #[.int .u32 (x : Int), .int .i64 n] w fun e w' => e = .returned (.int .u32 ((rot (low5 n) x : Nat) : Int)) ∧ w' = w := by
  have e1 := and31_i64 n
  have hk := low5_lt n
  generalize low5 n = k at e1 hk
  go_enter Try.func14, Try.ntmps14
  go_wp2_with fail
  go_loopw [0, 5] (fun xv kv wr => ∃ j y : Nat, j ≤ 31 ∧ y < 4294967296 ∧ xv = .int .u32 (y : Int) ∧ kv = .int .i64 (j : Int) ∧ rot j y = rot k x ∧ wr = w) (fun _ kv _ => (intOf kv).toNat)
  case atStart => exact ⟨k, x, by omega, hx, rfl, rfl, rfl, rfl⟩
  case round =>
    obtain ⟨j, y, hj, hy, rfl, rfl, hr, rfl⟩ := hrel
    have hr' := Hid.intro hr
    clear hr
    have hr1 := Hid.intro (r1_lt y hy)
    by_cases hl : 0 < j
    · have i1 : (0 : Int) < (j : Int) := by omega
      have hrr : rot (j - 1) (r1 y) = rot j y := by
        have := rot_add (j - 1) 1 y
        rwa [show j - 1 + 1 = j by omega] at this
      have hrr' := Hid.intro (hrr.trans hr'.out)
      clear hrr
      go_wp2
      go_roundw
      case rel => exact ⟨j - 1, r1 y, by omega, hr1.out, by unfold r1; go_num, by go_num, hrr'.out, trivial⟩
      case measure => simp [intOf]; omega
    · have hj0 : j = 0 := by omega
      subst hj0
      go_wp2
      go_ret
      exact ⟨by rw [← hr'.out]; rfl, rfl⟩

theorem rmix_any (a b : Nat) (ha : a < 4294967296) (hb : b < 4294967296) (w : World) :
    Calls Try.prog 12 #[.int .u32 (a : Int), .int .u32 (b : Int)] w fun e w' => e = .returned (.int .u32 ((mixN a b : Nat) : Int)) ∧ w' = w := by
  have e1 := u32_xor (rot 5 a) b (rot_lt 5 a ha) hb
  have e2 : IntKind.u32.wrap (((rot 5 a ^^^ b : Nat) : Int) * 2654435761) = ((mixN a b : Nat) : Int) := by
    rw [mixN, ← wrap32]; simp
  go_enter Try.func12, Try.ntmps12
  go_wp2_with (go_at_call 14; refine (rturn_any _ _ ha _).mono ?_; rintro e w1 ⟨rfl, rfl⟩; rw [show low5 5 = 5 from rfl])
  go_ret
  exact ⟨rfl, rfl⟩
end Go.Proofs.Ytfbomgjgifgdbaa
