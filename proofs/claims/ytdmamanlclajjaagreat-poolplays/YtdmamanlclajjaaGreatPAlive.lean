/-
  The contract of the law's alive: true; nothing that was there is written.
-/
import Derived.Test.YtdmamanlclajjaaGreatPPut
namespace Go.Proofs.YtdmamanlclajjaaGreat
open Go.ChangeShapes Go.WideShapes Go.ChangeAt Go.RowKit

/-- From b on all is the pool's own. -/
abbrev Up (b : Nat) : Nat → Prop := fun k => b ≤ k
theorem up_put {w w' : World} {b p most : Nat} {L : List Bl} (hb : b ≤ w.heap.size) (h : Pl w' (Fr (Up b) w) p most L) (k : Keep (Up b) w w') : Pl w' (Up b) p most L ∧ Below b w w' :=
  ⟨h.mono fun k hk => hk.elim id (fun e => Nat.le_trans hb e), k.below hb fun k hk e => by have : b ≤ k := e; omega⟩
theorem few_nil (R : Int) : Few R [] := fun q hq => by cases hq

def abc : List UInt8 := [97, 98, 99, 100, 101, 102, 103, 104]
theorem al1 {w : World} {b p : Nat} (h : Pl w (Up b) p (mb 3) []) (hb : b ≤ w.heap.size) :
    Calls Tryz.prog 7 #[.pointer (some ⟨p, 0, none⟩), .string (str abc)] w fun e w' => e = .returned (.tuple #[.int .i64 1, .int .i64 0]) ∧ Pl w' (Up b) p (mb 3) [(1, 1, abc)] ∧ Below b w w' := by
  refine (pput_any h (few_nil _) abc).mono ?_
  rintro e w' ⟨rfl, h1, k1⟩
  exact ⟨rfl, up_put hb h1 k1⟩
theorem al2 {w : World} {b p : Nat} (h : Pl w (Up b) p (mb 3) [(1, 1, abc)]) (hb : b ≤ w.heap.size) :
    Calls Tryz.prog 7 #[.pointer (some ⟨p, 0, none⟩), .string (str abc)] w fun e w' => e = .returned (.tuple #[.int .i64 1, .int .i64 0]) ∧ Pl w' (Up b) p (mb 3) [(1, 2, abc)] ∧ Below b w w' := by
  refine (pput_any h (by unfold Few; simp) abc).mono ?_
  rintro e w' ⟨rfl, h1, k1⟩
  exact ⟨rfl, up_put hb h1 k1⟩
theorem al3 {w : World} {b p : Nat} (h : Pl w (Up b) p (mb 3) [(1, 2, abc)]) :
    Calls Tryz.prog 18 #[.pointer (some ⟨p, 0, none⟩), .int .i64 1] w fun e w' => e = .returned (.int .i64 2) ∧ Pl w' (Up b) p (mb 3) [(1, 2, abc)] ∧ Below w.heap.size w w' := by
  refine (refs_any h 1).mono ?_
  rintro e w' ⟨rfl, hb⟩
  exact ⟨rfl, h.below hb, hb⟩
theorem al4 {w : World} {b p : Nat} (h : Pl w (Up b) p (mb 3) [(1, 2, abc)]) (hb : b ≤ w.heap.size) :
    Calls Tryz.prog 10 #[.pointer (some ⟨p, 0, none⟩), .int .i64 1] w fun e w' => e = .returned (.int .i64 0) ∧ Pl w' (Up b) p (mb 3) [(1, 1, abc)] ∧ Below b w w' := by
  refine (drop_any h (by unfold Few; simp) 1).mono ?_
  rintro e w' ⟨rfl, h1, k1⟩
  exact ⟨rfl, up_put hb h1 k1⟩
theorem al5 {w : World} {b p : Nat} (h : Pl w (Up b) p (mb 3) [(1, 1, abc)]) (hb : b ≤ w.heap.size) :
    Calls Tryz.prog 10 #[.pointer (some ⟨p, 0, none⟩), .int .i64 1] w fun e w' => e = .returned (.int .i64 0) ∧ Pl w' (Up b) p (mb 3) [] ∧ Below b w w' := by
  refine (drop_any h (by unfold Few; simp) 1).mono ?_
  rintro e w' ⟨rfl, h1, k1⟩
  exact ⟨rfl, up_put hb h1 k1⟩
theorem al6 {w : World} {b p : Nat} (h : Pl w (Up b) p (mb 3) []) (hb : b ≤ w.heap.size) :
    Calls Tryz.prog 10 #[.pointer (some ⟨p, 0, none⟩), .int .i64 1] w fun e w' => e = .returned (.int .i64 2) ∧ Pl w' (Up b) p (mb 3) [] ∧ Below b w w' := by
  refine (drop_any h (few_nil _) 1).mono ?_
  rintro e w' ⟨rfl, h1, k1⟩
  exact ⟨rfl, up_put hb h1 k1⟩

set_option maxHeartbeats 1000000 in
set_option maxRecDepth 100000 in
theorem alive_any (w : World) : Calls Tryz.prog 4 #[] w fun e w' => e = .returned (.bool true) ∧ Below w.heap.size w w' := by
  go_enter Tryz.func4, Tryz.ntmps4
  go_wp2_with fail
  refine (pnew_any 3 w (by omega) (by omega)).mono ?_; rintro e w1 ⟨p, rfl, h1, hb1⟩
  have hB1 := Hid.intro hb1
  have h1' := Hid.intro h1
  have s1 := hb1.size
  clear h1 hb1
  go_wp2_with fail
  refine (al1 h1'.out s1).mono ?_; rintro e w2 ⟨rfl, h2, hb2⟩
  have hB2 := Hid.intro (hB1.out.trans hb2)
  have h2' := Hid.intro h2
  have s2 := hB2.out.size
  clear h2 hb2
  go_wp2_with fail
  refine (al2 h2'.out s2).mono ?_; rintro e w3 ⟨rfl, h3, hb3⟩
  have hB3 := Hid.intro (hB2.out.trans hb3)
  have h3' := Hid.intro h3
  have s3 := hB3.out.size
  clear h3 hb3
  go_wp2_with fail
  refine (al3 h3'.out).mono ?_; rintro e w4 ⟨rfl, h4, hb4⟩
  have hB4 := Hid.intro (hB3.out.trans (hb4.mono s3))
  have h4' := Hid.intro h4
  have s4 := hB4.out.size
  clear h4 hb4
  go_wp2_with fail
  refine (al4 h4'.out s4).mono ?_; rintro e w5 ⟨rfl, h5, hb5⟩
  have hB5 := Hid.intro (hB4.out.trans hb5)
  have h5' := Hid.intro h5
  have s5 := hB5.out.size
  clear h5 hb5
  go_wp2_with fail
  refine (al5 h5'.out s5).mono ?_; rintro e w6 ⟨rfl, h6, hb6⟩
  have hB6 := Hid.intro (hB5.out.trans hb6)
  have h6' := Hid.intro h6
  have s6 := hB6.out.size
  clear h6 hb6
  go_wp2_with fail
  refine (plen_any h6'.out).mono ?_; rintro e w7 ⟨rfl, rfl⟩
  go_wp2_with fail
  refine (al6 h6'.out s6).mono ?_; rintro e w8 ⟨rfl, h8, hb8⟩
  have hB8 := Hid.intro (hB6.out.trans hb8)
  clear hb8
  go_wp2
  go_ret
  exact ⟨rfl, hB8.out⟩
end Go.Proofs.YtdmamanlclajjaaGreat
