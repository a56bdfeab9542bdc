/-
  The walk of PlateSnags, for every input: it returns true; nothing that was there is written.
-/
import Derived.Test.YtjjfdkgnagfbcaaPAlive
namespace Go.Proofs.Ytjjfdkgnagfbcaa
open Go.ChangeShapes Go.WideShapes Go.ChangeAt Go.RowKit
attribute [local go_sem ↓] Go.wp_at_zero Go.wp_at_succ
attribute [local go_sem] str_size str_extract str_append str_toList

theorem write_ok {M : MS} (hl : 0 < M.left) : mWrite M = (0, { M with left := M.left - 1 }) := by
  unfold mWrite; rw [if_neg (by omega), if_pos hl]
theorem lay_ok {M : MS} (k : Nat) (S : List UInt8) (ho : M.on = true) (hl : 0 < M.left) (hk : k < M.L.length) (hS : S.length = 32) :
    (mLay M k S).1 = 0 ∧ (mLay M k S).2.on = true ∧ (mLay M k S).2.left = M.left - 1 ∧ (mLay M k S).2.L.length = M.L.length := by
  have hf : fitB M k S = true := fitB_iff.2 ⟨⟨by omega, by omega⟩, hS⟩
  unfold mLay
  rw [ho, hf]
  simp only [Bool.true_eq_false, if_false]
  rw [write_ok (M := mPut M _ S) (by exact hl)]
  exact ⟨rfl, ho, rfl, by simp [mPut]⟩
theorem fix_ok {M : MS} (ho : M.on = true) (hl : 0 < M.left) : (mFix M).1 = 0 ∧ (mFix M).2.on = true ∧ (mFix M).2.left = M.left - 1 ∧ (mFix M).2.L.length = M.L.length := by
  unfold mFix
  rw [ho, write_ok hl]
  exact ⟨rfl, ho, rfl, rfl⟩
theorem lay_falls {M : MS} (k : Nat) (S : List UInt8) (h : Ok M) (ho : M.on = true) (hl : M.left = 0) (hk : k < M.L.length) (hS : S.length = 32) :
    (mLay M k S).1 = 7 ∧ (mLay M k S).2.on = false ∧ (mLay M k S).2.left = -1 ∧ (mLay M k S).2.L.length = M.L.length ∧ (mLay M k S).2.W = 0 := by
  have hf : fitB M k S = true := fitB_iff.2 ⟨⟨by omega, by omega⟩, hS⟩
  have hlen := lay_len h (k : Int) S
  refine ⟨?_, ?_, ?_, hlen, ?_⟩
  all_goals
    unfold mLay mWrite
    rw [ho, hf]
    simp only [Bool.true_eq_false, if_false]
    (rw [if_neg (by simp only [mPut]; omega), if_neg (by simp only [mPut]; omega)]) <;> rfl
theorem off_lay {M : MS} (k : Int) (S : List UInt8) (ho : M.on = false) : mLay M k S = (7, M) := by unfold mLay; rw [if_pos ho]
theorem off_fix {M : MS} (ho : M.on = false) : mFix M = (7, M) := by unfold mFix; rw [if_pos ho]
theorem keptL_zero (n : Nat) : keptL 0 n = [] := by
  unfold keptL; rw [List.filter_eq_nil_iff]; simp
theorem lay_free {M : MS} (k : Nat) (S : List UInt8) (ho : M.on = true) (hl : M.left = -1) (hk : k < M.L.length) (hS : S.length = 32) :
    mLay M k S = (0, mPut M k S) := by
  have hf : fitB M k S = true := fitB_iff.2 ⟨⟨by omega, by omega⟩, hS⟩
  unfold mLay mWrite
  rw [ho, hf]
  simp only [Bool.true_eq_false, if_false]
  rw [if_pos (by exact hl)]
  rfl
theorem fix_free {M : MS} (ho : M.on = true) (hl : M.left = -1) : mFix M = (0, mFixed M) := by
  unfold mFix mWrite
  rw [ho, if_pos hl]
  rfl
theorem conv_one (x : UInt8) (W : World) : (convert 51 9 (.slice (some ⟨W.heap.size, 0, none⟩) 1 1)).run Try.prog (W.alloc (.cells #[.int .u8 (x.toNat : Int)] 5)) = .ok (.string (str [x])) (W.alloc (.cells #[.int .u8 (x.toNat : Int)] 5)) := by
  rw [← nums_str]
  refine run_convert_bytes_arg (P := Try.prog) _ 51 5 Try.underlying51 Try.underlying5 W.heap.size 0 1 1 _ rfl (fun j hj => ?_) 9 Try.underlying9
  have : j = 0 := by omega
  subst this
  have hn := heap_alloc_new W (.cells #[.int .u8 (x.toNat : Int)] 5)
  unfold World.cell?
  simp only [hn]
  rfl

theorem snags_early {v : Value} {l : List Bool} {n : Int} (w : World) (hv : BoolsAt w v l) (h : n < 0 ∨ 40 < n ∨ 20 < l.length) : Calls Try.prog 5 #[.int .i64 n, v] w fun e w' => e = .returned (.bool true) ∧ Below w.heap.size w w' := by
  have hA := Hid.intro (alive_any w)
  obtain ⟨a, c, rfl⟩ := hv.form
  clear hv
  by_cases h1 : n < 0
  · clear h
    go_enter Try.func5, Try.ntmps5
    go_wp2_with fail
    refine hA.out.mono ?_; rintro e w1 ⟨rfl, c⟩
    have c' := Hid.intro c
    clear c
    go_wp2
    go_ret
    exact ⟨rfl, c'.out⟩
  · by_cases h2 : 40 < n
    · clear h
      go_enter Try.func5, Try.ntmps5
      go_wp2_with fail
      refine hA.out.mono ?_; rintro e w1 ⟨rfl, c⟩
      have c' := Hid.intro c
      clear c
      go_wp2
      go_ret
      exact ⟨rfl, c'.out⟩
    · have h3 : (20 : Int) < (l.length : Int) := by omega
      clear h
      go_enter Try.func5, Try.ntmps5
      go_wp2_with fail
      refine hA.out.mono ?_; rintro e w1 ⟨rfl, c⟩
      have c' := Hid.intro c
      clear c
      go_wp2
      go_ret
      exact ⟨rfl, c'.out⟩
set_option maxHeartbeats 4000000 in
set_option maxRecDepth 100000 in
theorem snags_walk {v : Value} {l : List Bool} {m : Nat} (w : World) (hv : BoolsAt w v l) (hvb : l ≠ [] → ∀ g, v.ownBlock = some g → g < w.heap.size) (hm : m ≤ 40) (hl : l.length ≤ 20) : Calls Try.prog 5 #[.int .i64 (m : Int), v] w fun e w' => e = .returned (.bool true) ∧ Below w.heap.size w w' := by
  have hA := Hid.intro (alive_any w)
  have hN := Hid.intro (new_any 5 (by omega))
  have hP := Hid.intro page_any
  have m0 : (0 : Int) ≤ (m : Int) := Int.natCast_nonneg _
  have m1 : (m : Int) ≤ 40 := by omega
  have hl1 : ¬ (20 : Int) < (l.length : Int) := by omega
  have hSn := Hid.intro (fun w' p gl gf (g : PO w' p gl gf (mNew 5)) (hb : BoolsAt w' v l) (hap : l ≠ [] → ∀ g, v.ownBlock = some g → g ≠ p) => snag_any g (m : Int) (by omega) hb hap (by omega))
  have hM1 := Hid.intro (show (mSnag (mNew 5) m l).on = true ∧ (mSnag (mNew 5) m l).left = m ∧ (mSnag (mNew 5) m l).L.length = 5 from by
    unfold mSnag; rw [if_pos m0]; exact ⟨rfl, rfl, rfl⟩)
  change Hid (∀ w, Calls Try.prog 9 _ w fun e w' => ∃ p gl gf, e = .returned (.pointer (some ⟨p, 0, none⟩)) ∧ PO w' p gl gf (mNew 5) ∧ _) at hN
  generalize mSnag (mNew 5) m l = M1 at *
  generalize mNew 5 = M0 at *
  obtain ⟨a, c, rfl⟩ := hv.form
  have hv' := Hid.intro hv
  have hvb' := Hid.intro hvb
  clear hv hvb
  go_enter Try.func5, Try.ntmps5
  go_wp2_with fail
  refine hA.out.mono ?_; rintro e w1 ⟨rfl, c1⟩
  have hC1 := Hid.intro c1
  have s1 := c1.size
  clear c1
  go_wp2_with fail
  refine (hN.out _).mono ?_; rintro e w2 ⟨p, gl, gf, rfl, a1, b1, b2, b3, c2⟩
  have hC2 := Hid.intro (hC1.out.trans (c2.mono s1))
  have s2 := hC2.out.size
  have hA2 := Hid.intro a1
  clear a1 c2
  go_wp2_with fail
  refine (hSn.out _ _ _ _ hA2.out (hv'.out.below (hC2.out)) (fun h0 g hg => by have := hvb'.out h0 g hg; omega)).mono ?_; rintro e w3 ⟨rfl, a3, c3⟩
  have hC3 := Hid.intro (hC2.out.trans (PO.fresh c3 s2 (by omega) (by omega) (by omega)))
  have hA3 := Hid.intro a3
  have s3 := hC3.out.size
  clear a3 c3 hA2 hC2 hC1
  have p1 : w.heap.size ≤ p := by omega
  have p2 : w.heap.size ≤ gl := by omega
  have p3 : w.heap.size ≤ gf := by omega
  go_wp2_with fail
  go_loopw [6] (fun iv wr => ∃ (i : Nat) (M : MS), i ≤ m ∧ iv = .int .i64 (i : Int) ∧ PO wr p gl gf M ∧ M.on = true ∧ M.left = (m : Int) - i ∧ M.L.length = 5 ∧ Below w.heap.size w wr) (fun iv _ => m - (intOf iv).toNat)
  case atStart =>
    exact ⟨0, M1, Nat.zero_le _, rfl, hA3.out, hM1.out.1, by rw [hM1.out.2.1]; simp, hM1.out.2.2, hC3.out⟩
  case round =>
    obtain ⟨i, M, hi, rfl, hPO, hon, hleft, hlen, hB⟩ := hrel
    have i0 : (0 : Int) ≤ (i : Int) := Int.natCast_nonneg _
    have hPO' := Hid.intro hPO
    have hB' := Hid.intro hB
    have sB := hB.size
    have hon' := Hid.intro hon
    have hleft' := Hid.intro hleft
    have hlen' := Hid.intro hlen
    clear hPO hB hon hleft hlen
    by_cases hlt : i < m
    · have i1 : (i : Int) < (m : Int) := by omega
      have hr3 : (i : Int).tmod 3 = ((i % 3 : Nat) : Int) := by rw [Int.tmod_eq_emod_of_nonneg i0]; omega
      have hr5 : (i : Int).tmod 5 = ((i % 5 : Nat) : Int) := by rw [Int.tmod_eq_emod_of_nonneg i0]; omega
      have hl0 : 0 < M.left := by rw [hleft'.out]; omega
      by_cases h3 : i % 3 = 2
      · have h3i : ((i % 3 : Nat) : Int) = 2 := by omega
        have hF := Hid.intro (fix_any hPO'.out)
        obtain ⟨f1, f2, f3, f4⟩ := fix_ok hon'.out hl0
        rw [f1] at hF
        have hf := Hid.intro (And.intro f2 (And.intro f3 f4))
        clear f1 f2 f3 f4 hl0
        generalize (mFix M).2 = M2 at *
        go_wp2_with fail
        refine hF.out.mono ?_; rintro e w4 ⟨rfl, a4, c4⟩
        have hO := Hid.intro (on_any a4)
        rw [hf.out.1] at hO
        have hA4 := Hid.intro a4
        have hC4 := Hid.intro (hB'.out.trans (PO.fresh c4 sB p1 p2 p3))
        clear a4 c4
        go_wp2_with fail
        refine hO.out.mono ?_; rintro e w5 ⟨rfl, rfl⟩
        go_wp2
        go_roundw
        case rel => exact ⟨i + 1, M2, by omega, by go_num, hA4.out, hf.out.1, by rw [hf.out.2.1, hleft'.out]; omega, by rw [hf.out.2.2]; exact hlen'.out, hC4.out⟩
        case measure => simp [intOf]; omega
      · have h3i : ¬ ((i % 3 : Nat) : Int) = 2 := by omega
        have h3b : (((i % 3 : Nat) : Int) == 2) = false := beq_false_of_ne h3i
        have hw1 : IntKind.i64.wrap (65 + (i : Int)) = 65 + (i : Int) := by rw [IntKind.wrap_i64]; omega
        have hw2 : IntKind.u8.wrap (65 + (i : Int)) = ((UInt8.ofNat (65 + i)).toNat : Int) := by
          rw [show (65 + (i : Int)) = ((65 + i : Nat) : Int) by omega, wrap8]; simp
        have hcv := conv_one (UInt8.ofNat (65 + i)) wr
        generalize UInt8.ofNat (65 + i) = x at *
        have hbe := Hid.intro (show Below wr.heap.size wr (wr.alloc (.cells #[.int .u8 (x.toNat : Int)] 5)) from (Below.refl _ _).alloc (Nat.le_refl _) _)
        have hj5 : i % 5 < M.L.length := by rw [hlen'.out]; omega
        have hL := Hid.intro (fun w' (g : PO w' p gl gf M) => lay_any g ((i % 5 : Nat) : Int) (pgS [x]))
        obtain ⟨f1, f2, f3, f4⟩ := lay_ok (i % 5) (pgS [x]) hon'.out hl0 hj5 (pgS_length _)
        rw [f1] at hL
        have hf := Hid.intro (And.intro f2 (And.intro f3 f4))
        clear f1 f2 f3 f4 hl0
        change Hid (∀ w', _ → Calls Try.prog 13 _ w' fun e w'' => e = .returned (.int .i64 0) ∧ PO w'' p gl gf (mLay M ((i % 5 : Nat) : Int) (pgS [x])).2 ∧ Keep (Fp p gl gf) w' w'') at hL
        generalize (mLay M ((i % 5 : Nat) : Int) (pgS [x])).2 = M2 at *
        have hPx := Hid.intro (hP.out [x])
        generalize pgS [x] = X at *
        go_wp2_with fail
        refine (hPx.out _).mono ?_; rintro e w4 ⟨rfl, c4⟩
        have hA4 := Hid.intro ((hPO'.out.below hbe.out).below c4)
        have hC4 := Hid.intro ((hB'.out.trans (hbe.out.mono sB)).trans (c4.mono (Nat.le_trans sB hbe.out.size)))
        have s4 := hC4.out.size
        clear c4
        go_wp2_with fail
        refine (hL.out _ hA4.out).mono ?_; rintro e w5 ⟨rfl, a5, c5⟩
        have hO := Hid.intro (on_any a5)
        rw [hf.out.1] at hO
        have hA5 := Hid.intro a5
        have hC5 := Hid.intro (hC4.out.trans (PO.fresh c5 s4 p1 p2 p3))
        clear a5 c5
        go_wp2_with fail
        refine hO.out.mono ?_; rintro e w6 ⟨rfl, rfl⟩
        go_wp2
        go_roundw
        case rel => exact ⟨i + 1, M2, by omega, by go_num, hA5.out, hf.out.1, by rw [hf.out.2.1, hleft'.out]; omega, by rw [hf.out.2.2]; exact hlen'.out, hC5.out⟩
        case measure => simp [intOf]; omega
    · have him : i = m := by omega
      subst him
      have i1 : ¬ (i : Int) < (i : Int) := by omega
      have hl0 : M.left = 0 := by rw [hleft'.out]; omega
      have hL := Hid.intro (fun w' (g : PO w' p gl gf M) => lay_any g 4 (pgS [122]))
      obtain ⟨f1, f2, f3, f4, f5⟩ := lay_falls 4 (pgS [122]) hPO'.out.ok hon'.out hl0 (by rw [hlen'.out]; decide) (pgS_length _)
      change (mLay M 4 (pgS [122])).1 = 7 at f1
      change (mLay M 4 (pgS [122])).2.on = false at f2
      change (mLay M 4 (pgS [122])).2.left = -1 at f3
      change (mLay M 4 (pgS [122])).2.L.length = M.L.length at f4
      change (mLay M 4 (pgS [122])).2.W = 0 at f5
      rw [f1] at hL
      change Hid (∀ w', _ → Calls Try.prog 13 _ w' fun e w'' => e = .returned (.int .i64 7) ∧ PO w'' p gl gf (mLay M 4 (pgS [122])).2 ∧ Keep (Fp p gl gf) w' w'') at hL
      generalize (mLay M 4 (pgS [122])).2 = M2 at *
      have hf2 := Hid.intro f2
      have hf3 := Hid.intro f3
      have hf4 := Hid.intro (f4.trans hlen'.out)
      have hf5 := Hid.intro f5
      clear f1 f2 f3 f4 f5 hl0
      have hPz := Hid.intro (hP.out [122])
      have hPy := Hid.intro (hP.out [121])
      have hyl := Hid.intro (pgS_length [121])
      generalize pgS [122] = Z at *
      generalize pgS [121] = Y at *
      go_wp2_with fail
      refine (hPz.out _).mono ?_; rintro e w4 ⟨rfl, c4⟩
      have hA4 := Hid.intro (hPO'.out.below c4)
      have hC4 := Hid.intro (hB'.out.trans (c4.mono sB))
      have s4 := hC4.out.size
      clear c4 hPO' hB'
      go_wp2_with fail
      refine (hL.out _ hA4.out).mono ?_; rintro e w5 ⟨rfl, a5, c5⟩
      have hO := Hid.intro (on_any a5)
      have hF := Hid.intro (fix_any a5)
      rw [hf2.out] at hO
      rw [off_fix hf2.out] at hF
      have hA5 := Hid.intro a5
      have hC5 := Hid.intro (hC4.out.trans (PO.fresh c5 s4 p1 p2 p3))
      have s5 := hC5.out.size
      clear a5 c5 hA4 hC4
      go_wp2_with fail
      refine hO.out.mono ?_; rintro e w6 ⟨rfl, rfl⟩
      go_wp2_with fail
      refine hF.out.mono ?_; rintro e w7 ⟨rfl, a7, c7⟩
      have hA7 := Hid.intro a7
      have hC7 := Hid.intro (hC5.out.trans (PO.fresh c7 s5 p1 p2 p3))
      have s7 := hC7.out.size
      clear a7 c7 hA5 hC5 hO hF
      go_wp2_with fail
      refine (hPy.out _).mono ?_; rintro e w8 ⟨rfl, c8⟩
      have hA8 := Hid.intro (hA7.out.below c8)
      have hC8 := Hid.intro (hC7.out.trans (c8.mono s7))
      have s8 := hC8.out.size
      have hLy := Hid.intro (lay_any hA8.out 0 Y)
      rw [off_lay _ _ hf2.out] at hLy
      clear c8 hA7 hC7
      go_wp2_with fail
      refine hLy.out.mono ?_; rintro e w9 ⟨rfl, a9, c9⟩
      have hA9 := Hid.intro a9
      have hC9 := Hid.intro (hC8.out.trans (PO.fresh c9 s8 p1 p2 p3))
      have s9 := hC9.out.size
      have hWt := Hid.intro (wet_any a9)
      simp only [hf5.out, keptL_zero] at hWt
      clear a9 c9 hA8 hC8 hLy
      go_wp2_with fail
      refine hWt.out.mono ?_; rintro e w10 ⟨vw, rfl, o10, c10⟩
      obtain ⟨aw, cw, rfl⟩ := own_form o10
      have hA10 := Hid.intro (hA9.out.below c10)
      have hC10 := Hid.intro (hC9.out.trans (c10.mono s9))
      have s10 := hC10.out.size
      have hG := Hid.intro (get_any hA10.out 0)
      unfold mGetE mGetS at hG
      rw [if_pos hf2.out, if_pos hf2.out] at hG
      have hPw := Hid.intro (power_any hA10.out)
      rw [hf2.out] at hPw
      clear o10 c10 hA9 hC9 hWt
      go_wp2_with fail
      refine hG.out.mono ?_; rintro e w11 ⟨rfl, rfl⟩
      go_wp2_with fail
      refine hPw.out.mono ?_; rintro e w12 ⟨rfl, a12, c12⟩
      have hA12 := Hid.intro a12
      have hC12 := Hid.intro (hC10.out.trans (PO.fresh c12 s10 p1 p2 p3))
      have s12 := hC12.out.size
      have hPw2 := Hid.intro (power_any a12)
      change Hid (Calls Try.prog 22 _ w12 fun e w' => e = .returned (.bool false) ∧ _ ∧ _) at hPw2
      clear a12 c12 hA10 hC10 hG hPw
      go_wp2_with fail
      refine hPw2.out.mono ?_; rintro e w13 ⟨rfl, a13, c13⟩
      have hA13 := Hid.intro a13
      have hC13 := Hid.intro (hC12.out.trans (PO.fresh c13 s12 p1 p2 p3))
      have s13 := hC13.out.size
      clear a13 c13 hA12 hC12 hPw2
      go_wp2_with fail
      refine (hPy.out _).mono ?_; rintro e w14 ⟨rfl, c14⟩
      have hA14 := Hid.intro (hA13.out.below c14)
      have hC14 := Hid.intro (hC13.out.trans (c14.mono s13))
      have s14 := hC14.out.size
      have hL4 := Hid.intro (lay_any hA14.out 0 Y)
      have hfr := lay_free (M := mPower (mPower M2)) 0 Y rfl hf3.out (by show 0 < M2.L.length; rw [hf4.out]; decide) hyl.out
      change mLay (mPower (mPower M2)) 0 Y = _ at hfr
      rw [hfr] at hL4
      clear c14 hA13 hC13 hfr
      go_wp2_with fail
      refine hL4.out.mono ?_; rintro e w15 ⟨rfl, a15, c15⟩
      have hC15 := Hid.intro (hC14.out.trans (PO.fresh c15 s14 p1 p2 p3))
      have s15 := hC15.out.size
      have hF5 := Hid.intro (fix_any a15)
      rw [fix_free (M := mPut (mPower (mPower M2)) 0 Y) rfl hf3.out] at hF5
      clear a15 c15 hA14 hC14 hL4
      go_wp2_with fail
      refine hF5.out.mono ?_; rintro e w16 ⟨rfl, a16, c16⟩
      have hC16 := Hid.intro (hC15.out.trans (PO.fresh c16 s15 p1 p2 p3))
      clear a16 c16
      go_wp2
      go_ret
      exact ⟨rfl, hC16.out⟩
theorem snags_any {v : Value} {l : List Bool} {n : Int} {w : World} (hv : BoolsAt w v l) : Calls Try.prog 5 #[.int .i64 n, v] w fun e w' => e = .returned (.bool true) ∧ Below w.heap.size w w' := by
  by_cases h : n < 0 ∨ 40 < n ∨ 20 < l.length
  · exact snags_early w hv h
  · obtain ⟨m, rfl⟩ : ∃ m : Nat, n = m := ⟨n.toNat, by omega⟩
    exact snags_walk w hv (fun h0 g hg => hv.lt h0 hg) (by omega) (by omega)
end Go.Proofs.Ytjjfdkgnagfbcaa
