/-
  The walk of TallyParts, for every input: it returns true; nothing that was there is written.
-/
import Derived.Test.YtgephcacmakjhaaTalAlive
import Derived.Deep.QuietTactic
namespace Go.Proofs.Ytgephcacmakjhaa
open Go.ChangeShapes Go.WideShapes Go.ChangeAt Go.RowKit
attribute [local go_sem] str_size str_extract str_append str_toList

/-- A place of bytes by any integer. -/
def plc (n : Nat) (a : Int) : Int := (a.tmod (n + 1) + n + 1).tmod (n + 1)
theorem tmod_in (a : Int) (n : Nat) (h : n ≤ 3000) : -(n + 1 : Int) < a.tmod (n + 1) ∧ a.tmod (n + 1) < n + 1 := by
  have h0 : (0 : Int) < (n : Int) + 1 := by omega
  have h1 := Int.lt_tmod_of_pos a h0
  have h2 := Int.tmod_lt_of_pos a h0
  omega
theorem plc_in (n : Nat) (a : Int) (h : n ≤ 3000) : ∃ k : Nat, plc n a = (k : Int) ∧ k ≤ n := by
  have h0 : (0 : Int) < (n : Int) + 1 := by omega
  have h1 := tmod_in a n h
  have h2 : 0 ≤ plc n a := Int.tmod_nonneg _ (by omega)
  have h3 : plc n a < n + 1 := Int.tmod_lt_of_pos _ h0
  exact ⟨(plc n a).toNat, by omega, by omega⟩

theorem below_drwN (w : World) (n : Nat) : Below w.heap.size w (w.drewN n) := ⟨rfl, rfl, rfl, Nat.le_refl _, fun _ _ => rfl⟩
set_option maxRecDepth 100000 in
set_option maxHeartbeats 4000000 in
theorem parts_any (S : List UInt8) (a b : Int) (w : World) :
    Calls Try.prog 5 #[.string (str S), .int .i64 a, .int .i64 b] w fun e w' => e = .returned (.bool true) ∧ Below w.heap.size w w' := by
  by_cases h1 : 3000 < S.length
  · have i1 : (3000 : Int) < (S.length : Int) := by omega
    go_enter Try.func5, Try.ntmps5
    go_wp2_with fail
    refine (alive_any _).mono ?_; rintro e w1 ⟨rfl, hb1⟩
    have hb1' := Hid.intro hb1
    go_wp2
    go_ret
    exact ⟨rfl, hb1'.out⟩
  have i1 : ¬ (3000 : Int) < (S.length : Int) := by omega
  obtain ⟨k, hk, hk'⟩ := plc_in S.length a (by omega)
  obtain ⟨m, hm, hm'⟩ := plc_in S.length b (by omega)
  obtain ⟨ta1, ta2⟩ := tmod_in a S.length (by omega)
  obtain ⟨tb1, tb2⟩ := tmod_in b S.length (by omega)
  have q0 : ¬ ((S.length : Int) + 1 = 0) := by omega
  unfold plc at hk hm
  generalize hA : a.tmod ((S.length : Int) + 1) = A at *
  generalize hB : b.tmod ((S.length : Int) + 1) = B at *
  have n0 : (0 : Int) ≤ (S.length : Int) := Int.natCast_nonneg _
  obtain ⟨lo, hi, hle, hhi, hcase⟩ : ∃ lo hi : Nat, lo ≤ hi ∧ hi ≤ S.length ∧ ((m < k ∧ lo = m ∧ hi = k) ∨ (¬ m < k ∧ lo = k ∧ hi = m)) := by
    by_cases c : m < k
    · exact ⟨m, k, by omega, by omega, Or.inl ⟨c, rfl, rfl⟩⟩
    · exact ⟨k, m, by omega, by omega, Or.inr ⟨c, rfl, rfl⟩⟩
  have l1 : (S.take lo).length ≤ 1000000 := by rw [List.length_take]; omega
  have l2 : ((S.drop lo).take (hi - lo)).length ≤ 1000000 := by rw [List.length_take, List.length_drop]; omega
  have l3 : (S.drop hi).length ≤ 1000000 := by rw [List.length_drop]; omega
  have c1 := Hid.intro (fun w => of_any (S.take lo) w l1)
  have c2 := Hid.intro (fun w => add_any (ofN (S.take lo)) ((S.drop lo).take (hi - lo)) w (ofN_lt _) l2)
  rw [ofN_append] at c2
  have c3 := Hid.intro (fun w => add_any (ofN (S.take lo ++ (S.drop lo).take (hi - lo))) (S.drop hi) w (ofN_lt _) l3)
  have hwhole : S.take lo ++ (S.drop lo).take (hi - lo) ++ S.drop hi = S := by
    have h2 : (S.drop lo).take (hi - lo) ++ S.drop hi = S.drop lo := by
      have := List.take_append_drop (hi - lo) (S.drop lo)
      rwa [List.drop_drop, show lo + (hi - lo) = hi by omega] at this
    rw [List.append_assoc, h2, List.take_append_drop]
  rw [ofN_append, hwhole] at c3
  have c4 := Hid.intro (fun w => of_any S w (by omega))
  have c5 := Hid.intro (fun w => add_any (ofN S) [] w (ofN_lt _) (by decide))
  rw [ofN_append, List.append_nil] at c5
  have t3 : (S.drop hi).take (S.length - hi) = S.drop hi := List.take_of_length_le (by rw [List.length_drop]; omega)
  generalize S.take lo ++ (S.drop lo).take (hi - lo) = T12 at *
  clear hwhole l1 l2 l3
  have k0 : (0 : Int) ≤ (lo : Int) := Int.natCast_nonneg _
  have k1 : (lo : Int) ≤ (hi : Int) := by omega
  have k2 : (hi : Int) ≤ (S.length : Int) := by omega
  have k3 : (0 : Int) ≤ (hi : Int) := Int.natCast_nonneg _
  have k4 : (lo : Int) ≤ (S.length : Int) := by omega
  generalize hs2 : (S.drop lo).take (hi - lo) = T2 at *
  generalize hs1 : S.take lo = T1 at *
  generalize hs3 : S.drop hi = T3 at *
  generalize ofN T1 = z1 at *
  generalize ofN T12 = z12 at *
  generalize ofN S = z at *
  generalize hL : (S.length : Int) = L at *
  have w0 : IntKind.i64.wrap (L + 1) = L + 1 := by rw [IntKind.wrap_i64]; omega
  have w1' : IntKind.i64.wrap (A + L) = A + L := by rw [IntKind.wrap_i64]; omega
  have w2 : IntKind.i64.wrap (A + L + 1) = A + L + 1 := by rw [IntKind.wrap_i64]; omega
  have w3 : IntKind.i64.wrap (B + L) = B + L := by rw [IntKind.wrap_i64]; omega
  have w4 : IntKind.i64.wrap (B + L + 1) = B + L + 1 := by rw [IntKind.wrap_i64]; omega
  go_enter Try.func5, Try.ntmps5
  go_wp2_with fail
  refine (alive_any _).mono ?_; rintro e w1 ⟨rfl, hb1⟩
  have hb1' := Hid.intro hb1
  go_wp2_with fail
  go_quiet (fail)
  have hb2' : Hid (Below w.heap.size w (w1.drewN nq)) := Hid.intro (hb1'.out.trans ((below_drwN _ _).mono hb1'.out.size))
  clear hb1 hb1'
  generalize w1.drewN nq = w5 at *
  rcases hcase with ⟨c, rfl, rfl⟩ | ⟨c, rfl, rfl⟩
  · have cI : (lo : Int) < (hi : Int) := by omega
    go_wp2_with fail
    refine wp_region_quiet_lit (by kernel_rfl) (by kernel_rfl) ?_
    iterate 3 (quiet_step (fail))
    quiet_step ((go_at_call 12; exact Calls.quiet_of_same (c1.out _)))
    iterate 4 (quiet_step (fail))
    quiet_step ((go_at_call 13; exact Calls.quiet_of_same (c2.out _)))
    iterate 3 (quiet_step (fail))
    quiet_step ((go_at_call 13; exact Calls.quiet_of_same (c3.out _)))
    iterate 1 (quiet_step (fail))
    quiet_step ((go_at_call 12; exact Calls.quiet_of_same (c4.out _)))
    iterate 3 (quiet_step (fail))
    quiet_step ((go_at_call 12; exact Calls.quiet_of_same (c4.out _)))
    quiet_step ((go_at_call 13; exact Calls.quiet_of_same (c5.out _)))
    iterate 1 (quiet_step (fail))
    quiet_step ((go_at_call 12; exact Calls.quiet_of_same (c4.out _)))
    iterate 3 (quiet_step (fail))
    refine wpQuiet_nil ?_
    intro _ hw9
    obtain ⟨nq2, rfl⟩ := hw9
    go_wp2
    go_ret
    exact ⟨rfl, hb2'.out.trans ((below_drwN _ _).mono hb2'.out.size)⟩
  · have cI : ¬ (hi : Int) < (lo : Int) := by omega
    go_wp2_with fail
    refine wp_region_quiet_lit (by kernel_rfl) (by kernel_rfl) ?_
    iterate 3 (quiet_step (fail))
    quiet_step ((go_at_call 12; exact Calls.quiet_of_same (c1.out _)))
    iterate 4 (quiet_step (fail))
    quiet_step ((go_at_call 13; exact Calls.quiet_of_same (c2.out _)))
    iterate 3 (quiet_step (fail))
    quiet_step ((go_at_call 13; exact Calls.quiet_of_same (c3.out _)))
    iterate 1 (quiet_step (fail))
    quiet_step ((go_at_call 12; exact Calls.quiet_of_same (c4.out _)))
    iterate 3 (quiet_step (fail))
    quiet_step ((go_at_call 12; exact Calls.quiet_of_same (c4.out _)))
    quiet_step ((go_at_call 13; exact Calls.quiet_of_same (c5.out _)))
    iterate 1 (quiet_step (fail))
    quiet_step ((go_at_call 12; exact Calls.quiet_of_same (c4.out _)))
    iterate 3 (quiet_step (fail))
    refine wpQuiet_nil ?_
    intro _ hw9
    obtain ⟨nq2, rfl⟩ := hw9
    go_wp2
    go_ret
    exact ⟨rfl, hb2'.out.trans ((below_drwN _ _).mono hb2'.out.size)⟩
end Go.Proofs.Ytgephcacmakjhaa
