/-
  The walk of PlatePlays, for every input: it returns true; nothing that was there is written.
-/
import Derived.Test.YtjjfdkgnagfbcaaRL
namespace Go.Proofs.Ytjjfdkgnagfbcaa
open Go.ChangeShapes Go.WideShapes Go.ChangeAt Go.RowKit
attribute [local go_sem ↓] Go.wp_at_zero Go.wp_at_succ
attribute [local go_sem] str_size str_extract str_append str_toList

theorem size32 : (Try.prog.info? 32).map (·.size) = some 4 := by kernel_rfl
theorem op_range {W : World} {g o i : Nat} {k n : Int} {s : List UInt8} {kv : Value} {l : List Bool} (h : OpAt W g o i ⟨k, n, s, kv, l⟩) : W.rangeAt g (o + i * 4) (oC k n s kv) := by
  intro j v hj
  match j, hj with
  | 0, hj => cases hj; exact h.c0
  | 1, hj => cases hj; exact h.c1
  | 2, hj => cases hj; exact h.c2
  | 3, hj => cases hj; exact h.c3
theorem keep_below {b : Nat} {w w' : World} (h : Keep (fun k => ¬ k < b) w w') : Below (min b w.heap.size) w w' :=
  h.below (Nat.min_le_right _ _) fun _ hk hn => hn (Nat.lt_of_lt_of_le hk (Nat.min_le_left _ _))
theorem two_new {b : Nat} {w2 w3 : World} {p gl gf r : Nat} {M : MS} (h1 : PO w2 p gl gf M) (p1 : b ≤ p) (p2 : b ≤ gl) (p3 : b ≤ gf) (h2 : RO w3 (fun k => w2.heap.size ≤ k) r M) (hb : Below w2.heap.size w2 w3) (hs : b ≤ w2.heap.size) : Two (fun k => k < b) w3 p gl gf r M M :=
  ⟨h1.below hb, fun k hk hp => by rcases hp with rfl | rfl | rfl <;> omega, fun k hk => Nat.lt_of_lt_of_le hk (Nat.le_trans hs hb.size), _, h2.fit, fun k hp hf => by have := h1.inside hp; have := hf.1; omega, fun k hk hf => by have := hf.1; omega, fun k hf => hf.2⟩
theorem two_twin {G : Nat → Prop} {w w' : World} {p gl gf p' gl' gf' r : Nat} {M : MS} (h : Two G w p gl gf r M M) (h' : PO w' p' gl' gf' M) (p1 : w.heap.size ≤ p') (p2 : w.heap.size ≤ gl') (p3 : w.heap.size ≤ gf') (hb : Below w.heap.size w w') :
    Two (fun k => G k ∨ Fp p gl gf k) w' p' gl' gf' r M M ∧ Two (fun k => G k ∨ Fp p' gl' gf' k) w' p gl gf r M M := by
  have hm := h.more hb
  have hi : ∀ k, Fp p' gl' gf' k → w.heap.size ≤ k := fun k hk => by rcases hk with rfl | rfl | rfl <;> assumption
  refine ⟨?_, hm.less fun k hk => hk.elim .inl fun hk => .inr ⟨hi k hk, h'.inside hk⟩⟩
  obtain ⟨h0, h1, h2, F, g0, g1, g2, g3⟩ := h
  refine ⟨h', fun k hk hp => ?_, fun k hk => Nat.lt_of_lt_of_le (hk.elim (h2 k) h0.inside) hb.size, F, g0.below hb, fun k hp hf => ?_, fun k hk hf => hk.elim (fun hk => g2 k hk hf) (fun hk => g1 k hk hf), fun k hf => Nat.lt_of_lt_of_le (g3 k hf) hb.size⟩
  · have := hi k hp
    have : k < w.heap.size := hk.elim (h2 k) h0.inside
    omega
  · have := hi k hp
    have := g3 k hf
    omega
theorem lay_ex {w : World} {p gl gf : Nat} {M : MS} (h : PO w p gl gf M) (k : Int) (S : List UInt8) :
    Calls Try.prog 13 #[.pointer (some ⟨p, 0, none⟩), .int .i64 k, .string (str S)] w fun e w' => ∃ (x : Int) (M' : MS), e = .returned (.int .i64 x) ∧ PO w' p gl gf M' ∧ Keep (Fp p gl gf) w w' := (lay_any h k S).mono fun _ _ ⟨a, b, c⟩ => ⟨_, _, a, b, c⟩
theorem fix_ex {w : World} {p gl gf : Nat} {M : MS} (h : PO w p gl gf M) :
    Calls Try.prog 15 #[.pointer (some ⟨p, 0, none⟩)] w fun e w' => ∃ (x : Int) (M' : MS), e = .returned (.int .i64 x) ∧ PO w' p gl gf M' ∧ Keep (Fp p gl gf) w w' := (fix_any h).mono fun _ _ ⟨a, b, c⟩ => ⟨_, _, a, b, c⟩
theorem off_ex {w : World} {p gl gf : Nat} {M : MS} (h : PO w p gl gf M) :
    Calls Try.prog 16 #[.pointer (some ⟨p, 0, none⟩), .slice none 0 0] w fun e w' => ∃ u, e = .returned u ∧ Keep (Fp p gl gf) w w' := (off_any (l := []) h (.inl ⟨rfl, _, _, rfl⟩) (by simp)).mono fun _ _ ⟨u, a, _, _, c⟩ => ⟨u, a, c⟩
set_option maxRecDepth 100000 in
theorem plays_early {n : Int} {v : Value} {l : List OpE} {w : World} (hv : OpsAt w v l) (h : LightB l = false ∨ 30 < n) : Calls Try.prog 3 #[.int .i64 n, v] w fun e w' => e = .returned (.bool true) ∧ Below w.heap.size w w' := by
  have hA := Hid.intro (alive_any w)
  have hL := Hid.intro (light_any hv)
  clear hv
  cases h1 : LightB l with
  | false =>
    rw [h1] at hL
    clear h h1
    go_enter Try.func3, Try.ntmps3
    go_wp2_with fail
    refine hL.out.mono ?_; rintro e w0 ⟨rfl, rfl⟩
    go_wp2_with fail
    refine hA.out.mono ?_; rintro e w1 ⟨rfl, c⟩
    have c' := Hid.intro c
    clear c
    go_wp2
    go_ret
    exact ⟨rfl, c'.out⟩
  | true =>
    rw [h1] at hL
    have h3 : 30 < n := by
      rcases h with h | h
      · rw [h1] at h; cases h
      · exact h
    clear h h1
    go_enter Try.func3, Try.ntmps3
    go_wp2_with fail
    refine hL.out.mono ?_; rintro e w0 ⟨rfl, rfl⟩
    go_wp2_with fail
    refine hA.out.mono ?_; rintro e w1 ⟨rfl, c⟩
    have c' := Hid.intro c
    clear c
    go_wp2
    go_ret
    exact ⟨rfl, c'.out⟩
set_option maxHeartbeats 8000000 in
set_option maxRecDepth 100000 in
theorem plays_walk {n : Int} {v : Value} {l : List OpE} {w : World} (hv : OpsAt w v l) (hli : LightB l = true) (hn30 : ¬ 30 < n) : Calls Try.prog 3 #[.int .i64 n, v] w fun e w' => e = .returned (.bool true) ∧ Below w.heap.size w w' := by
  have hA := Hid.intro (alive_any w)
  have hL := Hid.intro (light_any hv)
  rw [hli] at hL
  have hN := Hid.intro (new_any n (by omega))
  have hR := Hid.intro (rnew_any n (by omega))
  have hPo := Hid.intro (page_any [111, 116, 104, 101, 114])
  have hP0 := Hid.intro (page_any [])
  have hll := Hid.intro (light_all hli)
  generalize mNew n.toNat = M0 at *
  generalize pgS [111, 116, 104, 101, 114] = So at *
  generalize pgS [] = S0 at *
  obtain ⟨av, cv, rfl⟩ := hv.slice
  have hv' := Hid.intro hv
  have hn60 := hll.out.1
  clear hv hli
  generalize hn1 : l.length = n1 at *
  have hn1' := Hid.intro hn1
  clear hn1
  go_enter Try.func3, Try.ntmps3
  go_wp2_with fail
  refine hL.out.mono ?_; rintro e w0 ⟨rfl, rfl⟩
  go_wp2_with fail
  refine hA.out.mono ?_; rintro e w1 ⟨rfl, c1⟩
  have hC1 := Hid.intro c1
  clear c1 hL hA
  go_wp2_with fail
  refine (hN.out _).mono ?_; rintro e w2 ⟨p0, gl0, gf0, rfl, a2, q1, q2, q3, c2⟩
  have hC2 := Hid.intro (hC1.out.trans (c2.mono hC1.out.size))
  have hA2 := Hid.intro a2
  have hq := Hid.intro (show w0.heap.size ≤ p0 ∧ w0.heap.size ≤ gl0 ∧ w0.heap.size ≤ gf0 from by have := hC1.out.size; omega)
  clear a2 c2 q1 q2 q3 hC1
  go_wp2_with fail
  refine (hR.out _).mono ?_; rintro e w3 ⟨r, rfl, a3, c3⟩
  have hT3 := Hid.intro (two_new hA2.out hq.out.1 hq.out.2.1 hq.out.2.2 a3 c3 hC2.out.size)
  have hC3 := Hid.intro (hC2.out.trans (c3.mono hC2.out.size))
  clear a3 c3 hA2 hC2 hq
  go_wp2_with fail
  refine (t_is hT3.out).mono ?_; rintro e w4 ⟨rfl, a4, k4⟩
  have hT4 := Hid.intro a4
  have hC4 := Hid.intro (hC3.out.trans ((keep_below k4).mono (Nat.le_min.2 ⟨Nat.le_refl _, hC3.out.size⟩)))
  clear a4 k4 hT3 hC3
  go_wp2_with fail
  go_loopw [5, 7] (fun pv iv wr => ∃ (i p gl gf : Nat) (M : MS), i ≤ n1 ∧ pv = .pointer (some ⟨p, 0, none⟩) ∧ iv = .int .i64 (i : Int) ∧ Two (fun k => k < w0.heap.size) wr p gl gf r M M ∧ Below w0.heap.size w0 wr) (fun _ iv _ => n1 - (intOf iv).toNat)
  case atStart => exact ⟨0, p0, gl0, gf0, M0, Nat.zero_le _, rfl, rfl, hT4.out, hC4.out⟩
  case round =>
    obtain ⟨i, p, gl, gf, M, hi, rfl, rfl, hT, hB⟩ := hrel
    have i0 : (0 : Int) ≤ (i : Int) := Int.natCast_nonneg _
    have hT' := Hid.intro hT
    have hB' := Hid.intro hB
    have hb0 := Hid.intro (show w0.heap.size ≤ min w0.heap.size wr.heap.size from Nat.le_min.2 ⟨Nat.le_refl _, hB.size⟩)
    clear hT hB hT4 hC4
    by_cases hlt : i < n1
    · have i1 : (i : Int) < (n1 : Int) := by omega
      obtain ⟨g, o, ⟨ek, en, es, ekv, el⟩, rfl, hg, he, hop⟩ := op_at hv'.out (i := i) (by have := hn1'.out; omega)
      have hel := Hid.intro (hll.out.2 _ (List.mem_of_getElem? he))
      have hop' := Hid.intro hop
      have hat := Hid.intro (fun (W : World) (hb : Below w0.heap.size w0 W) => hop.below hb hg)
      have d0 : wr.cell? ⟨g, o + i * 4, none⟩ = some (.int .i64 ek) := (hat.out wr hB'.out).c0
      clear he hop
      by_cases hk8 : ek = 8
      · subst hk8
        go_wp2_with fail
        refine (twin_any hT'.out.1).mono ?_; rintro e w5 ⟨p', gl', gf', rfl, a5, q1, q2, q3, b5⟩
        obtain ⟨T1, T2⟩ := two_twin hT'.out a5 q1 q2 q3 b5
        have T1' := Hid.intro T1
        have T2' := Hid.intro T2
        have Tp := Hid.intro (hT'.out.1.below b5)
        have Tn := Hid.intro a5
        have hB5 := Hid.intro (hB'.out.trans (b5.mono hB'.out.size))
        have K5 := Hid.intro (Keep.of (F := fun k => ¬ k < w0.heap.size) b5)
        have hnp := Hid.intro (show ∀ k, Fp p gl gf k → ¬ k < w0.heap.size from fun k h hk => hT'.out.2.1 k hk h)
        have hnt := Hid.intro (show ∀ k, Fp p' gl' gf' k → ¬ k < w0.heap.size from fun k h hk => by have := hB'.out.size; rcases h with rfl | rfl | rfl <;> omega)
        have d1 : w5.cell? ⟨g, o + i * 4 + 1, none⟩ = some (.int .i64 en) := (hat.out w5 hB5.out).c1
        clear a5 b5 T1 T2 d0 q1 q2 q3
        go_wp2_with fail
        refine (is_any Tn.out T1'.out.2.2.2.choose_spec.1).mono ?_; rintro e w55 ⟨rfl, b55⟩
        have TA := Hid.intro (T1'.out.below b55)
        have TB := Hid.intro (T2'.out.below b55)
        have PA := Hid.intro (Tn.out.below b55)
        have PB := Hid.intro (Tp.out.below b55)
        have K55 := Hid.intro (K5.out.then (Keep.of b55))
        have d2 : w55.cell? ⟨g, o + i * 4 + 1, none⟩ = some (.int .i64 en) := (hat.out w55 (hB5.out.trans (b55.mono hB5.out.size))).c1
        clear b55 T1' T2' Tp Tn K5 d1
        go_wp2_with fail
        · have A5 := TA
          have PB5 := PB
          have hnB := hnp
          have K5 := K55
          clear TA TB PA PB hnp hnt K55 d2
          go_wp2_with fail
          refine (hPo.out _).mono ?_; rintro e w6 ⟨rfl, b6⟩
          have A6 := Hid.intro (A5.out.below b6)
          have PB6 := Hid.intro (PB5.out.below b6)
          have K6 := Hid.intro (K5.out.then (Keep.of b6))
          clear b6
          go_wp2_with fail
          refine (lay_ex PB6.out 0 So).mono ?_; rintro e w7 ⟨x7, M7, rfl, a7, k7⟩
          have A7 := Hid.intro (A6.out.write (k7.mono fun _ _ h => .inr h))
          have PB7 := Hid.intro a7
          have K7 := Hid.intro (K6.out.then (k7.mono fun k _ h => hnB.out k h))
          clear a7 k7
          go_wp2_with fail
          refine (fix_ex PB7.out).mono ?_; rintro e w8 ⟨x8, M8, rfl, a8, k8⟩
          have A8 := Hid.intro (A7.out.write (k8.mono fun _ _ h => .inr h))
          have PB8 := Hid.intro a8
          have K8 := Hid.intro (K7.out.then (k8.mono fun k _ h => hnB.out k h))
          clear a8 k8
          go_wp2_with fail
          refine (off_ex PB8.out).mono ?_; rintro e w9 ⟨u9, rfl, k9⟩
          have A9 := Hid.intro ((A8.out.write (k9.mono fun _ _ h => .inr h)).less fun _ h => .inl h)
          have K9 := Hid.intro (K8.out.then (k9.mono fun k _ h => hnB.out k h))
          clear k9
          go_wp2_with fail
          refine (t_is A9.out).mono ?_; rintro e w10 ⟨rfl, a10, k10⟩
          have A10 := Hid.intro a10
          have B10 := Hid.intro (hB'.out.trans ((keep_below (K9.out.then k10)).mono hb0.out))
          clear a10 k10
          go_wp2
          go_roundw
          case rel => exact ⟨i + 1, p', gl', gf', M, by omega, rfl, by go_num, A10.out, B10.out⟩
          case measure => simp [intOf]; omega
        · have A5 := TB
          have PB5 := PA
          have hnB := hnt
          have K5 := K55
          clear TA TB PA PB hnp hnt K55 d2
          go_wp2_with fail
          refine (hPo.out _).mono ?_; rintro e w6 ⟨rfl, b6⟩
          have A6 := Hid.intro (A5.out.below b6)
          have PB6 := Hid.intro (PB5.out.below b6)
          have K6 := Hid.intro (K5.out.then (Keep.of b6))
          clear b6
          go_wp2_with fail
          refine (lay_ex PB6.out 0 So).mono ?_; rintro e w7 ⟨x7, M7, rfl, a7, k7⟩
          have A7 := Hid.intro (A6.out.write (k7.mono fun _ _ h => .inr h))
          have PB7 := Hid.intro a7
          have K7 := Hid.intro (K6.out.then (k7.mono fun k _ h => hnB.out k h))
          clear a7 k7
          go_wp2_with fail
          refine (fix_ex PB7.out).mono ?_; rintro e w8 ⟨x8, M8, rfl, a8, k8⟩
          have A8 := Hid.intro (A7.out.write (k8.mono fun _ _ h => .inr h))
          have PB8 := Hid.intro a8
          have K8 := Hid.intro (K7.out.then (k8.mono fun k _ h => hnB.out k h))
          clear a8 k8
          go_wp2_with fail
          refine (off_ex PB8.out).mono ?_; rintro e w9 ⟨u9, rfl, k9⟩
          have A9 := Hid.intro ((A8.out.write (k9.mono fun _ _ h => .inr h)).less fun _ h => .inl h)
          have K9 := Hid.intro (K8.out.then (k9.mono fun k _ h => hnB.out k h))
          clear k9
          go_wp2_with fail
          refine (t_is A9.out).mono ?_; rintro e w10 ⟨rfl, a10, k10⟩
          have A10 := Hid.intro a10
          have B10 := Hid.intro (hB'.out.trans ((keep_below (K9.out.then k10)).mono hb0.out))
          clear a10 k10
          go_wp2
          go_roundw
          case rel => exact ⟨i + 1, p, gl, gf, M, by omega, rfl, by go_num, A10.out, B10.out⟩
          case measure => simp [intOf]; omega
      · have h8 : (ek == 8) = false := beq_false_of_ne hk8
        have hr := Hid.intro (op_range (hat.out wr hB'.out))
        go_wp2_with (refine wpList_load_mid rfl 32 _ rfl g (o + i * 4) rfl (oC ek en es ekv) _ hr.out Try.underlying32 rfl size32 ?_)
        refine (do_any hT'.out ek en hop'.out.hn0 hop'.out.hn es (hat.out wr hB'.out).row (fun h0 g hg => BoolsAt.lt hop'.out.row h0 hg) hel.out.2).mono ?_; rintro e w5 ⟨rfl, ⟨M', a5⟩, k5⟩
        have A5 := Hid.intro a5
        have K5 := Hid.intro k5
        clear a5 k5 hr d0
        go_wp2_with fail
        refine (t_is A5.out).mono ?_; rintro e w6 ⟨rfl, a6, k6⟩
        have A6 := Hid.intro a6
        have B6 := Hid.intro (hB'.out.trans ((keep_below (K5.out.then k6)).mono hb0.out))
        clear a6 k6
        go_wp2
        go_roundw
        case rel => exact ⟨i + 1, p, gl, gf, M', by omega, rfl, by go_num, A6.out, B6.out⟩
        case measure => simp [intOf]; omega
    · have him : i = n1 := by omega
      subst him
      have i1 : ¬ (i : Int) < (i : Int) := by omega
      go_wp2_with fail
      refine (snag_nil _ _ _).mono ?_; rintro e z1 ⟨rfl, rfl⟩
      go_wp2_with fail
      refine (get_nil _ _).mono ?_; rintro e z2 ⟨rfl, rfl⟩
      go_wp2_with fail
      refine (hP0.out _).mono ?_; rintro e z3 ⟨rfl, y3⟩
      have Y3 := Hid.intro (hB'.out.trans (y3.mono hB'.out.size))
      clear y3
      go_wp2_with fail
      refine (lay_nil _ _ _).mono ?_; rintro e z4 ⟨rfl, rfl⟩
      go_wp2_with fail
      refine (fix_nil _).mono ?_; rintro e z5 ⟨rfl, rfl⟩
      go_wp2_with fail
      refine (off_nil (v := .slice none 0 0)).mono ?_; rintro e z6 ⟨rfl, rfl⟩
      go_wp2_with fail
      refine (wet_nil _).mono ?_; rintro e z7 ⟨rfl, rfl⟩
      go_wp2_with fail
      refine (pages_nil _).mono ?_; rintro e z8 ⟨rfl, rfl⟩
      go_wp2_with fail
      refine (power_nil _).mono ?_; rintro e z9 ⟨rfl, rfl⟩
      go_wp2_with fail
      refine (hP0.out _).mono ?_; rintro e z10 ⟨rfl, y10⟩
      have Y10 := Hid.intro (Y3.out.trans (y10.mono Y3.out.size))
      clear y10
      go_wp2_with fail
      refine (rot_nil _ _ _).mono ?_; rintro e z11 ⟨rfl, rfl⟩
      go_wp2_with fail
      refine (on_nil _).mono ?_; rintro e z12 ⟨rfl, rfl⟩
      go_wp2_with fail
      refine (twin_nil _).mono ?_; rintro e z13 ⟨rfl, rfl⟩
      go_wp2
      go_ret
      exact ⟨rfl, Y10.out⟩
theorem plays_any {v : Value} {l : List OpE} {w : World} (n : Int) (_hn : n ≤ 9223372036854775807) (hv : OpsAt w v l) : Calls Try.prog 3 #[.int .i64 n, v] w fun e w' => e = .returned (.bool true) ∧ Below w.heap.size w w' := by
  cases h1 : LightB l with
  | false => exact plays_early hv (.inl h1)
  | true =>
    by_cases h2 : 30 < n
    · exact plays_early hv (.inr h2)
    · exact plays_walk hv h1 h2
end Go.Proofs.Ytjjfdkgnagfbcaa
