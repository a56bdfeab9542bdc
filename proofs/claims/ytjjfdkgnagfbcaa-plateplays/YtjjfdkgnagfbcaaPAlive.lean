/-
  The contract of emulsionlaw14's alive: it returns true; nothing that was there is written.
-/
import Derived.Test.YtjjfdkgnagfbcaaPArg
namespace Go.Proofs.Ytjjfdkgnagfbcaa
open Go.ChangeShapes Go.WideShapes Go.ChangeAt Go.RowKit
attribute [local go_sem ↓] Go.wp_at_zero Go.wp_at_succ
attribute [local go_sem] str_size str_extract str_append str_toList

theorem PO.fresh {w w' : World} {p gl gf b : Nat} (h : Keep (Fp p gl gf) w w') (hb : b ≤ w.heap.size) (h1 : b ≤ p) (h2 : b ≤ gl) (h3 : b ≤ gf) : Below b w w' :=
  h.below hb fun k hk hf => by rcases hf with rfl | rfl | rfl <;> omega
def al1 : MS := (mLay (mNew 3) 0 (pgS [97])).2
def al2 : MS := (mLay al1 1 (pgS [98])).2
def al3 : MS := (mOff al2 [false, true]).2
def al4 : MS := mPower al3
theorem al_e1 : (mLay (mNew 3) 0 (pgS [97])).1 = 0 := by decide +kernel
theorem al_e2 : (mLay al1 1 (pgS [98])).1 = 0 := by decide +kernel
theorem al_l : (mOff al2 [false, true]).1 = [0] := by decide +kernel
theorem al_o : al3.on = false := by decide +kernel
theorem al_g0 : mGetS al4 0 = pgS [] ∧ mGetE al4 0 = 0 := by decide +kernel
theorem al_g1 : mGetS al4 1 = pgS [98] ∧ mGetE al4 1 = 0 := by decide +kernel
theorem own_one {w : World} {base : Nat} {u : Value} {k : Nat} (h : w.ownsRow base 3 1 u ([k] : List Nat).length (intsV [k])) : ∃ g cap, u = .slice (some ⟨g, 0, none⟩) 1 cap ∧ g < w.heap.size ∧ w.cell? ⟨g, 0, none⟩ = some (.int .i64 (k : Int)) := by
  obtain ⟨a, c, rfl⟩ := own_form h
  obtain ⟨g, rfl, hb, hc⟩ := own_int h (i := 0) (k := k) rfl
  exact ⟨g, c, rfl, own_lt h rfl, hc⟩
theorem bools_two (w : World) (a b : Bool) : BoolsAt (w.alloc (.cells #[.bool a, .bool b] 4)) (.slice (some ⟨w.heap.size, 0, none⟩) 2 2) [a, b] := by
  refine .inr ⟨w.heap.size, 0, 2, rfl, by simp, Nat.le_refl _, fun i x hx => ?_⟩
  have hn := heap_alloc_new w (.cells #[.bool a, .bool b] 4)
  unfold World.cell?
  simp only [hn]
  match i, hx with
  | 0, hx => cases hx; rfl
  | 1, hx => cases hx; rfl
set_option maxHeartbeats 4000000 in
set_option maxRecDepth 100000 in
theorem alive_any (w : World) : Calls Try.prog 8 #[] w fun e w' => e = .returned (.bool true) ∧ Below w.heap.size w w' := by
  have hN := Hid.intro (new_any 3 (by omega) w)
  have hPa := Hid.intro (page_any [97])
  have hPb := Hid.intro (page_any [98])
  have hP0 := Hid.intro (page_any [])
  have hL1 := Hid.intro (fun w' p gl gf (g : PO w' p gl gf (mNew 3)) => lay_any g 0 (pgS [97]))
  have hL2 := Hid.intro (fun w' p gl gf (g : PO w' p gl gf al1) => lay_any g 1 (pgS [98]))
  have hF := Hid.intro (fun w' p gl gf v (g : PO w' p gl gf al2) (hv : BoolsAt w' v [false, true]) => off_any g hv (by decide))
  have hO := Hid.intro (fun w' p gl gf (g : PO w' p gl gf al3) => on_any g)
  have hW := Hid.intro (fun w' p gl gf (g : PO w' p gl gf al3) => power_any g)
  have hG0 := Hid.intro (fun w' p gl gf (g : PO w' p gl gf al4) => get_any g 0)
  have hG1 := Hid.intro (fun w' p gl gf (g : PO w' p gl gf al4) => get_any g 1)
  rw [al_e1] at hL1
  rw [al_e2] at hL2
  rw [al_l] at hF
  rw [al_o] at hO hW
  rw [al_g0.1, al_g0.2] at hG0
  rw [al_g1.1, al_g1.2] at hG1
  change Hid (∀ w' p gl gf, _ → Calls Try.prog 13 _ w' fun e w'' => e = .returned (.int .i64 0) ∧ PO w'' p gl gf al1 ∧ _) at hL1
  change Hid (∀ w' p gl gf, _ → Calls Try.prog 13 _ w' fun e w'' => e = .returned (.int .i64 0) ∧ PO w'' p gl gf al2 ∧ _) at hL2
  change Hid (∀ w' p gl gf v, _ → _ → Calls Try.prog 16 _ w' fun e w'' => ∃ u, e = .returned u ∧ PO w'' p gl gf al3 ∧ w''.ownsRow w'.heap.size 3 1 u ([0] : List Nat).length (intsV [0]) ∧ Keep (Fp p gl gf) w' w'') at hF
  change Hid (∀ w' p gl gf, _ → Calls Try.prog 22 _ w' fun e w'' => e = .returned (.bool true) ∧ PO w'' p gl gf al4 ∧ _) at hW
  change Hid (Calls Try.prog 9 _ w fun e w' => ∃ p gl gf, e = .returned (.pointer (some ⟨p, 0, none⟩)) ∧ PO w' p gl gf (mNew 3) ∧ _) at hN
  generalize hq1 : mNew 3 = q1 at *
  generalize al1 = q2 at *
  generalize al2 = q3 at *
  generalize al3 = q4 at *
  generalize al4 = q5 at *
  generalize pgS [97] = Pa at *
  generalize pgS [98] = Pb at *
  generalize pgS [] = P0 at *
  clear hq1
  go_enter Try.func8, Try.ntmps8
  go_wp2_with fail
  refine hN.out.mono ?_; rintro e w1 ⟨p, gl, gf, rfl, a1, b1, b2, b3, c1⟩
  have hC1 := Hid.intro c1
  have hA1 := Hid.intro a1
  have s1 := c1.size
  clear a1 c1
  go_wp2_with fail
  refine (hPa.out _).mono ?_; rintro e w2 ⟨rfl, c⟩
  have hA2 := Hid.intro (hA1.out.below c)
  have hC2 := Hid.intro (hC1.out.trans (c.mono s1))
  have s2 := hC2.out.size
  clear c hA1 hC1
  go_wp2_with fail
  refine (hL1.out _ _ _ _ hA2.out).mono ?_; rintro e w3 ⟨rfl, a, c⟩
  have hA3 := Hid.intro a
  have hC3 := Hid.intro (hC2.out.trans (PO.fresh c s2 b1 b2 b3))
  have s3 := hC3.out.size
  clear a c hA2 hC2
  go_wp2_with fail
  refine (hPb.out _).mono ?_; rintro e w4 ⟨rfl, c⟩
  have hA4 := Hid.intro (hA3.out.below c)
  have hC4 := Hid.intro (hC3.out.trans (c.mono s3))
  have s4 := hC4.out.size
  clear c hA3 hC3
  go_wp2_with fail
  refine (hL2.out _ _ _ _ hA4.out).mono ?_; rintro e w5 ⟨rfl, a, c⟩
  have hC5 := Hid.intro (hC4.out.trans (PO.fresh c s4 b1 b2 b3))
  have s5 := hC5.out.size
  have hbe := Hid.intro (show Below w5.heap.size w5 (w5.alloc (.cells #[.bool false, .bool true] 4)) from (Below.refl _ _).alloc (Nat.le_refl _) _)
  have hA5 := Hid.intro (a.below hbe.out)
  have hbt := Hid.intro (bools_two w5 false true)
  clear a c hA4 hC4
  go_wp2_with fail
  have hC6 := Hid.intro (hC5.out.trans (hbe.out.mono s5))
  have s6 := hC6.out.size
  refine (hF.out _ _ _ _ _ hA5.out hbt.out).mono ?_; rintro e w7 ⟨u, rfl, a, o, c⟩
  have hA7 := Hid.intro a
  have hC7 := Hid.intro (hC6.out.trans (PO.fresh c s6 b1 b2 b3))
  have s7 := hC7.out.size
  obtain ⟨g, cap, rfl, hg, hc⟩ := own_one o
  have hc0 : w7.cell? ⟨g, 0, none⟩ = some (.int .i64 0) := hc
  clear a c hA5 hC5 hC6 o hc
  go_wp2_with fail
  refine (hO.out _ _ _ _ hA7.out).mono ?_; rintro e w8 ⟨rfl, rfl⟩
  go_wp2_with fail
  refine (hW.out _ _ _ _ hA7.out).mono ?_; rintro e w9 ⟨rfl, a, c⟩
  have hA9 := Hid.intro a
  have hC9 := Hid.intro (hC7.out.trans (PO.fresh c s7 b1 b2 b3))
  have s9 := hC9.out.size
  clear a c hA7 hC7 hc0
  go_wp2_with fail
  refine (hG0.out _ _ _ _ hA9.out).mono ?_; rintro e w10 ⟨rfl, rfl⟩
  go_wp2_with fail
  refine (hG1.out _ _ _ _ hA9.out).mono ?_; rintro e w11 ⟨rfl, rfl⟩
  go_wp2_with fail
  refine (hP0.out _).mono ?_; rintro e w12 ⟨rfl, c⟩
  have hC12 := Hid.intro (hC9.out.trans (c.mono s9))
  have s12 := hC12.out.size
  clear c
  go_wp2_with fail
  refine (hPb.out _).mono ?_; rintro e w13 ⟨rfl, c⟩
  have hC13 := Hid.intro (hC12.out.trans (c.mono s12))
  clear c
  go_wp2
  go_ret
  exact ⟨rfl, hC13.out⟩
end Go.Proofs.Ytjjfdkgnagfbcaa
