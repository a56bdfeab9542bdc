/-
  The contract of the law's alive: true; nothing that was there is written.
-/
import Derived.Test.YtlcobpfighpobaaLen
namespace Go.Proofs.Ytlcobpfighpobaa
open Go.ChangeShapes Go.WideShapes Go.ChangeAt Go.RowKit

theorem Ints.below {w w' : World} {b : Nat} {v : Value} {l : List Int} (h : Ints w b v l) (hb : Below w.heap.size w w') : Ints w' b v l := by
  refine ⟨h.1, ?_⟩
  rcases h.2 with h | ⟨g, cap, cur, hv, hg, hc, hr⟩
  · exact .inl h
  · exact .inr ⟨g, cap, cur, hv, hg, by rw [hb.block g (lt_of_block hc)]; exact hc, hr⟩
theorem Ints.keep {w w' : World} {b c : Nat} {v : Value} {l : List Int} (h : Ints w b v l) (hb : Keep c w w') : Ints w' b v l := by
  refine ⟨h.1, ?_⟩
  rcases h.2 with h | ⟨g, cap, cur, hv, hg, hc, hr⟩
  · exact .inl h
  · exact .inr ⟨g, cap, cur, hv, hg, by rw [hb.block g (lt_of_block hc) (.inr ⟨_, _, _, hc, by decide, by decide⟩)]; exact hc, hr⟩

theorem al1 {w : World} {b s : Nat} (h : Sh w b s (List.replicate (nb 3) [])) :
    Calls Try.prog 6 #[.pointer (some ⟨s, 0, none⟩), .int .u32 9, .int .i64 2] w fun e w' => e = .returned (.bool true) ∧ Sh w' b s [[(9, 2)], [], []] ∧ Keep b w w' :=
  put_new (l := []) h 9 2 (by unfold Fits; omega) rfl (by simp) (by simp)
theorem al2 {w : World} {b s : Nat} (h : Sh w b s [[(9, 2)], [], []]) :
    Calls Try.prog 6 #[.pointer (some ⟨s, 0, none⟩), .int .u32 9, .int .i64 1] w fun e w' => e = .returned (.bool true) ∧ Sh w' b s [[(9, 1), (9, 2)], [], []] ∧ Keep b w w' :=
  put_new (l := [(9, 2)]) h 9 1 (by unfold Fits; omega) rfl (by simp) (by simp)
theorem al3 {w : World} {b s : Nat} (h : Sh w b s [[(9, 1), (9, 2)], [], []]) :
    Calls Try.prog 6 #[.pointer (some ⟨s, 0, none⟩), .int .u32 9, .int .i64 1] w fun e w' => e = .returned (.bool false) ∧ Sh w' b s [[(9, 1), (9, 2)], [], []] ∧ Below w.heap.size w w' :=
  put_old (l := [(9, 1), (9, 2)]) h 9 1 (by unfold Fits; omega) rfl (by simp) (by simp)
theorem al4 {w : World} {b s : Nat} (h : Sh w b s [[(9, 1), (9, 2)], [], []]) :
    Calls Try.prog 7 #[.pointer (some ⟨s, 0, none⟩), .int .u32 9] w fun e w' => ∃ v, e = .returned v ∧ Ints w' w.heap.size v [1, 2] ∧ Below w.heap.size w w' :=
  find_any (l := [(9, 1), (9, 2)]) h 9 (by omega) (by omega) rfl (by simp)
theorem al5 {w : World} {b s : Nat} (h : Sh w b s [[(9, 1), (9, 2)], [], []]) :
    Calls Try.prog 7 #[.pointer (some ⟨s, 0, none⟩), .int .u32 1] w fun e w' => ∃ v, e = .returned v ∧ Ints w' w.heap.size v [] ∧ Below w.heap.size w w' :=
  find_any (l := []) h 1 (by omega) (by omega) rfl (by simp)
theorem al6 {w : World} {b s : Nat} (h : Sh w b s [[(9, 1), (9, 2)], [], []]) :
    Calls Try.prog 8 #[.pointer (some ⟨s, 0, none⟩)] w fun e w' => e = .returned (.int .i64 2) ∧ Below w.heap.size w w' :=
  len_any h (by simp)

set_option maxHeartbeats 1000000 in
set_option maxRecDepth 100000 in
theorem alive_any (w : World) : Calls Try.prog 4 #[] w fun e w' => e = .returned (.bool true) ∧ Below w.heap.size w w' := by
  go_enter Try.func4, Try.ntmps4
  go_wp2_with fail
  refine (new_any 3 w (by omega) (by omega)).mono ?_; rintro e w1 ⟨s, rfl, h1, hb1⟩
  have hb1' := Hid.intro hb1
  have h1' := Hid.intro h1
  clear h1 hb1
  go_wp2_with fail
  refine (al1 h1'.out).mono ?_; rintro e w2 ⟨rfl, h2, hk2⟩
  have h2' := Hid.intro h2
  have hb2' := Hid.intro (hb1'.out.trans (hk2.below hb1'.out.size))
  clear h2 hk2
  go_wp2_with fail
  refine (al2 h2'.out).mono ?_; rintro e w3 ⟨rfl, h3, hk3⟩
  have h3' := Hid.intro h3
  have hb3' := Hid.intro (hb2'.out.trans (hk3.below hb2'.out.size))
  clear h3 hk3
  go_wp2_with fail
  refine (al3 h3'.out).mono ?_; rintro e w4 ⟨rfl, h4, hk4⟩
  have h4' := Hid.intro h4
  have hb4' := Hid.intro (hb3'.out.trans (hk4.mono hb3'.out.size))
  clear h4 hk4
  go_wp2_with fail
  refine (al4 h4'.out).mono ?_; rintro e w5 ⟨v, rfl, hi5, hk5⟩
  have h5' := Hid.intro (h4'.out.below hk5)
  have hb5' := Hid.intro (hb4'.out.trans (hk5.mono hb4'.out.size))
  clear hk5
  rcases ints_cells hi5 with ⟨_, hh⟩ | ⟨g, cap, rfl, _, hg, hc⟩
  · cases hh
  have c0 := hc 0 1 rfl
  have c1 := hc 1 2 rfl
  clear hi5 hc
  simp only [List.length_cons, List.length_nil, Nat.zero_add, Nat.reduceAdd]
  go_wp2_with fail
  refine (al5 h5'.out).mono ?_; rintro e w6 ⟨v6, rfl, hi6, hk6⟩
  have h6' := Hid.intro (h5'.out.below hk6)
  have hb6' := Hid.intro (hb5'.out.trans (hk6.mono hb5'.out.size))
  clear hk6
  obtain ⟨a6, q6, rfl⟩ : ∃ a q, v6 = .slice a 0 q := by
    rcases ints_cells hi6 with ⟨rfl, _⟩ | ⟨g, cap, rfl, _⟩
    · exact ⟨_, _, rfl⟩
    · exact ⟨_, _, rfl⟩
  clear hi6
  go_wp2_with fail
  refine (al6 h6'.out).mono ?_; rintro e w7 ⟨rfl, hk7⟩
  have hb7' := Hid.intro (hb6'.out.trans (hk7.mono hb6'.out.size))
  clear hk7
  go_wp2
  go_ret
  exact ⟨rfl, hb7'.out⟩
end Go.Proofs.Ytlcobpfighpobaa
