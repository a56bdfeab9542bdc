/-
  ExtentOvers' walk: to lay three maps over one another it is all the same which two are laid first; a map over itself is itself.
-/
import Derived.Test.YtfikkbmilhcahaaEAlive
import Derived.Test.YtfikkbmilhcahaaEOver
import Derived.Test.YtfikkbmilhcahaaBkELists
namespace Go.Proofs.Ytfikkbmilhcahaa
open Go.ChangeShapes Go.WideShapes Go.ChangeAt Go.RowKit
attribute [local go_sem ↓] Go.wp_at_zero Go.wp_at_succ

theorem over_assoc {X Y Z : List Ex} (hX : Ti X) (hY : Ti Y) (hZ : Ti Z) : overL (overL X Y) Z = overL X (overL Y Z) := by
  obtain ⟨a1, b1⟩ := overL_spec hX hY
  obtain ⟨a2, b2⟩ := overL_spec hY hZ
  refine ti_ext (overL_spec a1 hZ).1 (overL_spec hX a2).1 fun k => ?_
  rw [(overL_spec a1 hZ).2, (overL_spec hX a2).2]
  unfold overF
  rw [b1, b2]
  unfold overF
  by_cases h : 0 ≤ val Z k
  · rw [if_pos h, if_pos h, if_pos h]
  · rw [if_neg h, if_neg h]
theorem over_self {X : List Ex} (hX : Ti X) : overL X X = X := by
  refine ti_ext (overL_spec hX hX).1 hX fun k => ?_
  rw [(overL_spec hX hX).2]
  unfold overF
  split <;> rfl
theorem over_nil_l {X : List Ex} (hX : Ti X) : overL [] X = X := by
  refine ti_ext (overL_spec (l := []) trivial hX).1 hX fun k => ?_
  rw [(overL_spec (l := []) trivial hX).2]
  unfold overF
  rcases tp_val hX k with h | h
  · rw [if_neg (by omega), h]; rfl
  · rw [if_pos h.1]
theorem over_nil_r (X : List Ex) : overL X [] = X := rfl
theorem nil_row (w : World) : BkE.Row w (.slice none 0 0) [] := .inl ⟨⟨_, _, rfl⟩, rfl⟩

set_option maxRecDepth 100000 in
theorem overs_big {w : World} {a b c : Option Addr} {n m k x y z : Nat} (h : ¬ (n ≤ 60 ∧ m ≤ 60 ∧ k ≤ 60)) :
    Calls Try.prog 4 #[.slice a n x, .slice b m y, .slice c k z] w fun e w' => e = .returned (.bool true) ∧ Below w.heap.size w w' := by
  by_cases h1 : n ≤ 60
  · have h1' : ¬ (60 : Int) < (n : Int) := by omega
    by_cases h2 : m ≤ 60
    · have h2' : ¬ (60 : Int) < (m : Int) := by omega
      have h3' : (60 : Int) < (k : Int) := by omega
      clear h h1 h2
      go_enter Try.func4, Try.ntmps4
      go_wp2_with fail
      refine (alive_any _).mono ?_; rintro e w3 ⟨rfl, hb3⟩
      go_wp2
      go_ret
      exact ⟨rfl, hb3⟩
    · have h2' : (60 : Int) < (m : Int) := by omega
      clear h h1 h2
      go_enter Try.func4, Try.ntmps4
      go_wp2_with fail
      refine (alive_any _).mono ?_; rintro e w3 ⟨rfl, hb3⟩
      go_wp2
      go_ret
      exact ⟨rfl, hb3⟩
  · have h1' : (60 : Int) < (n : Int) := by omega
    clear h h1
    go_enter Try.func4, Try.ntmps4
    go_wp2_with fail
    refine (alive_any _).mono ?_; rintro e w3 ⟨rfl, hb3⟩
    go_wp2
    go_ret
    exact ⟨rfl, hb3⟩

set_option maxRecDepth 100000 in
set_option maxHeartbeats 4000000 in
theorem overs_any {w : World} {va vb vc : Value} {la lb lc : List Ex} (ha : BkE.Row w va la) (hb : BkE.Row w vb lb) (hc : BkE.Row w vc lc) :
    Calls Try.prog 4 #[va, vb, vc] w fun e w' => e = .returned (.bool true) ∧ Below w.heap.size w w' := by
  obtain ⟨aa, ca, rfl⟩ := ha.slice
  obtain ⟨ab, cb, rfl⟩ := hb.slice
  obtain ⟨ac, cc, rfl⟩ := hc.slice
  by_cases hl : la.length ≤ 60 ∧ lb.length ≤ 60 ∧ lc.length ≤ 60
  · obtain ⟨l1, l2, l3⟩ := hl
    have ha' := Hid.intro ha
    have hb' := Hid.intro hb
    have hc' := Hid.intro hc
    clear ha hb hc
    have n1 : ¬ (60 : Int) < (la.length : Int) := by omega
    have n2 : ¬ (60 : Int) < (lb.length : Int) := by omega
    have n3 : ¬ (60 : Int) < (lc.length : Int) := by omega
    go_enter Try.func4, Try.ntmps4
    go_wp2_with fail
    refine (alive_any _).mono ?_; rintro e w1 ⟨rfl, hB1⟩
    go_wp2_with fail
    refine (lawTidy_any (ha'.out.below hB1) (by omega)).mono ?_; rintro e w2 ⟨vx, X, rfl, ox, hX, hvx, hb2⟩
    clear hvx
    have hB2 := hB1.trans (hb2.mono hB1.size)
    have rx2 := BkE.own_row ox
    clear hb2 hB1 ox
    go_wp2_with fail
    refine (lawTidy_any (hb'.out.below hB2) (by omega)).mono ?_; rintro e w3 ⟨vy, Y, rfl, oy, hY, hvy, hb3⟩
    clear hvy
    have hB3 := hB2.trans (hb3.mono hB2.size)
    have rx3 := rx2.below hb3
    have ry3 := BkE.own_row oy
    clear hb3 hB2 oy rx2
    go_wp2_with fail
    refine (lawTidy_any (hc'.out.below hB3) (by omega)).mono ?_; rintro e w4 ⟨vz, Z, rfl, oz, hZ, hvz, hb4⟩
    clear hvz
    have hB4 := hB3.trans (hb4.mono hB3.size)
    have rx4 := rx3.below hb4
    have ry4 := ry3.below hb4
    have rz4 := BkE.own_row oz
    have hX' := Hid.intro hX
    have hY' := Hid.intro hY
    have hZ' := Hid.intro hZ
    have tXY := Hid.intro (overL_spec hX hY).1
    have tYZ := Hid.intro (overL_spec hY hZ).1
    have hlx := ti_len hX
    have has := Hid.intro (over_assoc hX hY hZ)
    have hlu := ti_len (overL_spec (overL_spec hX hY).1 hZ).1
    have hse := Hid.intro (over_self hX)
    have hnl := Hid.intro (over_nil_l hX)
    clear hb4 hB3 oz rx3 ry3 hX hY hZ
    go_wp2_with fail
    refine (over_tidy rx4 ry4 hX'.out hY'.out).mono ?_; rintro e w5 ⟨v5, rfl, o5, hb5⟩
    have hB5 := hB4.trans (hb5.mono hB4.size)
    have rx5 := rx4.below hb5
    have ry5 := ry4.below hb5
    have rz5 := rz4.below hb5
    have r5 := BkE.own_row o5
    clear hb5 hB4 o5 rx4 ry4 rz4
    go_wp2_with fail
    refine (over_tidy r5 rz5 tXY.out hZ'.out).mono ?_; rintro e w6 ⟨v6, rfl, o6, hb6⟩
    have hB6 := hB5.trans (hb6.mono hB5.size)
    have rx6 := rx5.below hb6
    have ry6 := ry5.below hb6
    have rz6 := rz5.below hb6
    have r6 := BkE.own_row o6
    clear hb6 hB5 o6 rx5 ry5 rz5 r5
    go_wp2_with fail
    refine (over_tidy ry6 rz6 hY'.out hZ'.out).mono ?_; rintro e w7 ⟨v7, rfl, o7, hb7⟩
    have hB7 := hB6.trans (hb7.mono hB6.size)
    have rx7 := rx6.below hb7
    have r67 := r6.below hb7
    have r7 := BkE.own_row o7
    clear hb7 hB6 o7 rx6 ry6 rz6 r6
    go_wp2_with fail
    refine (over_tidy rx7 r7 hX'.out tYZ.out).mono ?_; rintro e w8 ⟨v8, rfl, o8, hb8⟩
    have hB8 := hB7.trans (hb8.mono hB7.size)
    have rx8 := rx7.below hb8
    have r68 := r67.below hb8
    rw [← has.out] at o8
    have r8 := BkE.own_row o8
    clear hb8 hB7 o8 rx7 r67 r7
    go_wp2_with fail
    refine (BkE.same_rows r68 r8 (by omega)).mono ?_; rintro e w9 ⟨rfl, hb9⟩
    have hB9 := hB8.trans (hb9.mono hB8.size)
    have rx9 := rx8.below hb9
    clear hb9 hB8 rx8 r68 r8
    go_wp2_with fail
    refine (over_tidy rx9 rx9 hX'.out hX'.out).mono ?_; rintro e x1 ⟨u1, rfl, p1, hc1⟩
    have hC1 := hB9.trans (hc1.mono hB9.size)
    have rx10 := rx9.below hc1
    rw [hse.out] at p1
    have s1 := BkE.own_row p1
    clear hc1 hB9 p1 rx9
    go_wp2_with fail
    refine (BkE.same_rows s1 rx10 (by omega)).mono ?_; rintro e x2 ⟨rfl, hc2⟩
    have hC2 := hC1.trans (hc2.mono hC1.size)
    have rx11 := rx10.below hc2
    clear hc2 hC1 rx10 s1
    go_wp2_with fail
    refine (over_tidy (l := []) (nil_row _) rx11 trivial hX'.out).mono ?_; rintro e x3 ⟨u3, rfl, p3, hc3⟩
    have hC3 := hC2.trans (hc3.mono hC2.size)
    have rx12 := rx11.below hc3
    rw [hnl.out] at p3
    have s3 := BkE.own_row p3
    clear hc3 hC2 p3 rx11
    go_wp2_with fail
    refine (BkE.same_rows s3 rx12 (by omega)).mono ?_; rintro e x4 ⟨rfl, hc4⟩
    have hC4 := hC3.trans (hc4.mono hC3.size)
    have rx13 := rx12.below hc4
    clear hc4 hC3 rx12 s3
    go_wp2_with fail
    refine (over_tidy (m := []) rx13 (nil_row _) hX'.out trivial).mono ?_; rintro e x5 ⟨u5, rfl, p5, hc5⟩
    have hC5 := hC4.trans (hc5.mono hC4.size)
    have rx14 := rx13.below hc5
    rw [over_nil_r] at p5
    have s5 := BkE.own_row p5
    clear hc5 hC4 p5 rx13
    go_wp2_with fail
    refine (BkE.same_rows s5 rx14 (by omega)).mono ?_; rintro e x6 ⟨rfl, hc6⟩
    have hC6 := hC5.trans (hc6.mono hC5.size)
    clear hc6 hC5 rx14 s5
    go_wp2
    go_ret
    exact ⟨rfl, hC6⟩
  · exact overs_big hl
end Go.Proofs.Ytfikkbmilhcahaa
