/-
  FilmUnlike, walked.
-/
import Derived.Test.YtbebgogjpajghaaArrA
import Derived.Lib.MinMax
import Derived.Deep.CutRange
import Derived.Deep.CutBlock
namespace Go.Proofs.Ytbebgogjpajghaa
open Go.ChangeShapes Go.WideShapes Go.ChangeAt Go.RowKit
attribute [local go_sem ↓] Go.wp_at_zero Go.wp_at_succ
attribute [local go_sem] str_size str_extract str_append str_toList

theorem unlike_nil {X : List UInt8} {A : Nat} {ps : List Sp} (hc : Canon ps) (h1 : 1 ≤ A) (h2 : A ≤ 64) (o1 : ∀ k, A ≤ k → blk X k = []) (p1 : ∀ k, k < A → (blk X k).length = 8) (hin : ∀ j : Int, In ps j ↔ 0 ≤ j ∧ j < 64 ∧ blk [] j.toNat ≠ blk X j.toNat) : ps = [(0, (A : Int))] := by
  refine canon_ext hc ⟨⟨by simp, by simp only; omega, by simp only; omega⟩, by simp, trivial⟩ (fun k => ?_)
  rw [hin, in_cons]
  have e : blk [] k.toNat = [] := by simp [blk]
  rw [e]
  constructor
  · rintro ⟨p, q, r⟩
    refine .inl ⟨⟨by simp, by simp only; omega, by simp only; omega⟩, p, ?_⟩
    by_cases c : k.toNat < A
    · simp only; omega
    · exact absurd (o1 _ (by omega)).symm r
  · rintro (⟨_, p, q⟩ | h)
    · simp only at p q
      refine ⟨p, by omega, fun h => ?_⟩
      have := p1 k.toNat (by omega)
      rw [← h] at this; simp at this
    · exact absurd h (in_nil k)
set_option maxRecDepth 1000000 in
set_option maxHeartbeats 16000000 in
theorem unl_walk (A B : Nat) (a b : Option Addr) (c d : Nat) (os ps : List FPut) (Z : List UInt8) (w : World) (hh : Hid (PutsAt w (.slice a os.length c) os)) (kk : Hid (PutsAt w (.slice b ps.length d) ps)) (h1 : 1 ≤ A) (h2 : A ≤ 64) (h3 : 1 ≤ B) (h4 : B ≤ 64) (h5 : Z.length ≤ 100) :
    Calls Try.prog 3 #[.int .i64 (A : Int), .int .i64 (B : Int), .slice a os.length c, .slice b ps.length d, .string (str Z)] w fun e w' => e = .returned (.bool true) ∧ Below w.heap.size w w' := by
  have q1 : ¬ (A : Int) < 1 := by omega
  have q2 : ¬ (64 : Int) < (A : Int) := by omega
  have q3 : ¬ (B : Int) < 1 := by omega
  have q4 : ¬ (64 : Int) < (B : Int) := by omega
  have q5 : ¬ (100 : Int) < (Z.length : Int) := by omega
  have e1 : decide ((A : Int) < 1) = false := decide_eq_false q1
  have e2 : decide ((64 : Int) < (A : Int)) = false := decide_eq_false q2
  have e3 : decide ((B : Int) < 1) = false := decide_eq_false q3
  have e4 : decide ((64 : Int) < (B : Int)) = false := decide_eq_false q4
  have e5 : decide ((100 : Int) < (Z.length : Int)) = false := decide_eq_false q5
  go_enter Try.func3, Try.ntmps3
  go_wp2_with fail
  refine (light_any hh.out).mono ?_; rintro e w1 ⟨bb, rfl, hl1, rfl⟩
  cases bb with
  | false =>
    go_wp2_with fail
    refine (alive_any _).mono ?_; rintro e w1 ⟨rfl, hb⟩
    go_wp2
    go_ret
    exact ⟨rfl, hb⟩
  | true =>
  have l1 := hl1 rfl
  clear hl1
  go_wp2_with fail
  refine (light_any kk.out).mono ?_; rintro e w1 ⟨bb, rfl, hl2, rfl⟩
  cases bb with
  | false =>
    go_wp2_with fail
    refine (alive_any _).mono ?_; rintro e w1 ⟨rfl, hb⟩
    go_wp2
    go_ret
    exact ⟨rfl, hb⟩
  | true =>
  have l2 := hl2 rfl
  clear hl2
  go_wp2_with fail
  refine (alive_any _).mono ?_; rintro e w2 ⟨rfl, hb⟩
  go_wp2_with fail
  refine (new_any A _ h1 h2).mono ?_; rintro e w3 ⟨rfl, hX, hb2⟩
  have hX' := Hid.intro hX
  have hlX := Hid.intro hX.lt
  have hz1 := hb.size
  have hB2 := below_step hb hb2
  clear hb hb2 hX
  generalize hx1 : w2.heap.size = gx at *
  clear hx1
  generalize hx2 : gx + 1 = bx at *
  have hx2' := Hid.intro hx2
  clear hx2
  go_wp2_with fail
  refine (new_any B _ h3 h4).mono ?_; rintro e w4 ⟨rfl, hY, hb3⟩
  have hX4 := Hid.intro (hX'.out.below hb3)
  have hY4 := Hid.intro hY
  have hz2 := hB2.size
  have hB4 := Hid.intro (below_step hB2 hb3)
  clear hX' hB2 hb3 hY
  generalize hy1 : w3.heap.size = gy at *
  generalize hy2 : gy + 1 = byy at *
  have hne : Hid (bx ≠ byy ∧ bx ≠ gy ∧ gx ≠ byy ∧ gx ≠ gy ∧ byy ≠ gx ∧ gy ≠ gx ∧ w1.heap.size ≤ gx ∧ w1.heap.size ≤ gy) := Hid.intro (by have := hlX.out; have := hx2'.out; omega)
  clear hlX hx2' hy2 hz2 hy1 hz1
  go_wp2_with fail
  go_loopw [15] (fun iv wr => ∃ (i : Nat) (X Y : List UInt8), i ≤ os.length ∧ iv = .int .i64 i ∧ FObj wr bx gx X ∧ X.length = A * 8 ∧ FObj wr byy gy Y ∧ Y.length = B * 8 ∧ Below w1.heap.size w1 wr) (fun iv _ => os.length - (intOf iv).toNat)
  case atStart => exact ⟨0, _, _, Nat.zero_le _, rfl, hX4.out, by simp, hY4.out, by simp, hB4.out⟩
  case round =>
    clear hX4 hY4 hB4
    obtain ⟨i, X, Y, hi, rfl, hX, hXl, hY, hYl, hBw⟩ := hrel
    have i0 : (0 : Int) ≤ (i : Int) := Int.natCast_nonneg _
    have hX' := Hid.intro hX
    have hXl' := Hid.intro hXl
    have hY' := Hid.intro hY
    have hYl' := Hid.intro hYl
    have hBw' := Hid.intro hBw
    clear hX hXl hY hYl hBw
    by_cases hl : i < os.length
    · obtain ⟨g, o, x, T, rfl, hg, _, c0, c1, hx⟩ := hh.out.at hBw'.out i hl
      have hgr : g < wr.heap.size := Nat.lt_of_lt_of_le hg hBw'.out.size
      have i1 : (i : Int) < (os.length : Int) := by omega
      go_wp2_with fail
      go_region_with (go_at_call 10; refine (write_er x T (hX'.out.below below_drw) hXl'.out h1 h2 hx).mono ?_; rintro e w5 ⟨er, rfl, hF5, hb5⟩)
      all_goals
        go_wp2
        go_roundw
        case rel => exact ⟨i + 1, _, Y, by omega, by go_num, hF5, (wrS_length _ _ _).trans hXl'.out, (hY'.out.below below_drw).but hb5 hne.out.2.2.2.2.1 hne.out.2.2.2.2.2.1, hYl'.out, hBw'.out.trans ((below_drw.mono hBw'.out.size).trans (hb5.low hne.out.2.2.2.2.2.2.1 hBw'.out.size))⟩
        case measure => simp [intOf]; omega
    · have i1 : ¬ (i : Int) < (os.length : Int) := by omega
      go_wp2_with fail
      go_loopw [16] (fun iv wq => ∃ (i : Nat) (X Y : List UInt8), i ≤ ps.length ∧ iv = .int .i64 i ∧ FObj wq bx gx X ∧ X.length = A * 8 ∧ FObj wq byy gy Y ∧ Y.length = B * 8 ∧ Below w1.heap.size w1 wq) (fun iv _ => ps.length - (intOf iv).toNat)
      case atStart => exact ⟨0, _, _, Nat.zero_le _, rfl, hX'.out, hXl'.out, hY'.out, hYl'.out, hBw'.out⟩
      case round =>
        clear hX' hXl' hY' hYl' hBw' i1 i0 hi hl
        clear X Y
        obtain ⟨i, X, Y, hi, rfl, hX, hXl, hY, hYl, hBw⟩ := hrel
        have i0 : (0 : Int) ≤ (i : Int) := Int.natCast_nonneg _
        have hX' := Hid.intro hX
        have hXl' := Hid.intro hXl
        have hY' := Hid.intro hY
        have hYl' := Hid.intro hYl
        have hBw' := Hid.intro hBw
        clear hX hXl hY hYl hBw
        by_cases hl : i < ps.length
        · obtain ⟨g, o, x, T, rfl, hg, _, c0, c1, hx⟩ := kk.out.at hBw'.out i hl
          have hgr : g < wr.heap.size := Nat.lt_of_lt_of_le hg hBw'.out.size
          have i1 : (i : Int) < (ps.length : Int) := by omega
          go_wp2_with fail
          go_region_with (go_at_call 10; refine (write_er x T (hY'.out.below below_drw) hYl'.out h3 h4 hx).mono ?_; rintro e w5 ⟨er, rfl, hF5, hb5⟩)
          all_goals
            go_wp2
            go_roundw
            case rel => exact ⟨i + 1, X, _, by omega, by go_num, (hX'.out.below below_drw).but hb5 hne.out.2.1 hne.out.2.2.2.1, hXl'.out, hF5, (wrS_length _ _ _).trans hYl'.out, hBw'.out.trans ((below_drw.mono hBw'.out.size).trans (hb5.low hne.out.2.2.2.2.2.2.2 hBw'.out.size))⟩
            case measure => simp [intOf]; omega
        · have i1 : ¬ (i : Int) < (ps.length : Int) := by omega
          have xA : (X.length : Int) = (A : Int) * 8 := by have := hXl'.out; omega
          have yB : (Y.length : Int) = (B : Int) * 8 := by have := hYl'.out; omega
          go_wp2_with fail
          refine (fbytes_any hX'.out).mono ?_; rintro e w5 ⟨rfl, rfl⟩
          go_wp2_with fail
          refine (fbytes_any hY'.out).mono ?_; rintro e w6 ⟨rfl, rfl⟩
          have hth : Hid ((w6.alloc (.cells (List.replicate 64 (Value.bool false)).toArray 34)).there w6.heap.size 0 (List.replicate 64 (Value.bool false)).toArray.size) := Hid.intro (there_new (by simp))
          go_upto_region 19 with (first
            | (refine wpList_store_mid rfl 34 _ _ rfl w6.heap.size 0 (List.replicate 64 (Value.bool false)).toArray rfl rfl hth.out zs_size zs_one ?_))
          refine gen_world _ (fun w7 => Arr w7 w6.heap.size [] ∧ Below w6.heap.size w6 w7) (zs_arr w6) ?_
          rintro w7 ⟨hS, hb7⟩
          have hS7 := Hid.intro hS
          have hX7 := Hid.intro (hX'.out.below hb7)
          have hY7 := Hid.intro (hY'.out.below hb7)
          have hB7 := Hid.intro (below_step hBw'.out hb7)
          have hlX := Hid.intro (show bx < w6.heap.size ∧ gx < w6.heap.size ∧ byy < w6.heap.size ∧ gy < w6.heap.size ∧ w1.heap.size ≤ w6.heap.size from ⟨hX'.out.lt.1, hX'.out.lt.2.1, hY'.out.lt.1, hY'.out.lt.2.1, hBw'.out.size⟩)
          clear hth hS hb7 hX' hY' hBw'
          generalize w6.heap.size = Q at *
          obtain ⟨M, hM, hM1⟩ : ∃ M : Nat, max (A : Int) (B : Int) = (M : Int) ∧ Hid (A ≤ M ∧ B ≤ M ∧ M ≤ 64 ∧ (M = A ∨ M = B)) := ⟨max A B, by omega, Hid.intro (by omega)⟩
          have o1 : Hid (∀ k, A ≤ k → blk X k = []) := Hid.intro (fun k hk => by rw [blk, List.drop_eq_nil_of_le (by have := hXl'.out; omega)]; rfl)
          have o2 : Hid (∀ k, B ≤ k → blk Y k = []) := Hid.intro (fun k hk => by rw [blk, List.drop_eq_nil_of_le (by have := hYl'.out; omega)]; rfl)
          have p1 : Hid (∀ k, k < A → (blk X k).length = 8) := Hid.intro (fun k hk => blk_length hXl'.out hk)
          have p2 : Hid (∀ k, k < B → (blk Y k).length = 8) := Hid.intro (fun k hk => blk_length hYl'.out hk)
          go_wp2_with fail
          go_loopw [20] (fun kv wk => ∃ (k : Nat) (cur : List Sp), k ≤ M ∧ kv = .int .i64 k ∧ Arr wk Q cur ∧ Canon cur ∧ (∀ j : Int, In cur j ↔ 0 ≤ j ∧ j < k ∧ blk X j.toNat ≠ blk Y j.toNat) ∧ FObj wk bx gx X ∧ FObj wk byy gy Y ∧ Below w1.heap.size w1 wk) (fun kv _ => M - (intOf kv).toNat)
          case atStart => exact ⟨0, [], Nat.zero_le _, rfl, hS7.out, trivial, fun j => ⟨fun h => absurd h (in_nil j), fun h => by have := h.1; have := h.2.1; omega⟩, hX7.out, hY7.out, hB7.out⟩
          case round =>
            clear hS7 hX7 hY7 hB7
            obtain ⟨k, cur, hk, rfl, hS, hcc, hin, hX, hY, hBw⟩ := hrel
            have k0 : (0 : Int) ≤ (k : Int) := Int.natCast_nonneg _
            have hS' := Hid.intro hS
            have hcc' := Hid.intro hcc
            have hin' := Hid.intro hin
            have hX' := Hid.intro hX
            have hY' := Hid.intro hY
            have hBw' := Hid.intro hBw
            clear hS hcc hin hX hY hBw
            by_cases hl : k < M
            · have k1 : (k : Int) < (M : Int) := by omega
              have k64 : (k : Int) < 64 := by have := hM1.out; omega
              have k64' : k < 64 := by omega
              have c0 := bit_cell hS'.out.2 k k64'
              obtain ⟨_, f0⟩ := hS'.out.there k k64'
              rw [Nat.zero_add] at f0
              have hnext : Hid (∀ z, Below wr.heap.size wr z → blk X k ≠ blk Y k → ∃ cur : List Sp, Arr (z.setCell ⟨Q, k, none⟩ (.bool true)) Q cur ∧ Canon cur ∧ (∀ j : Int, In cur j ↔ 0 ≤ j ∧ j < ((k + 1 : Nat) : Int) ∧ blk X j.toNat ≠ blk Y j.toNat) ∧ FObj (z.setCell ⟨Q, k, none⟩ (.bool true)) bx gx X ∧ FObj (z.setCell ⟨Q, k, none⟩ (.bool true)) byy gy Y ∧ Below w1.heap.size w1 (z.setCell ⟨Q, k, none⟩ (.bool true))) := Hid.intro (fun z hz h => by
                have hst := unlike_step k64' hcc'.out hin'.out h
                have hq := hlX.out
                have hB := hBw'.out.trans (hz.mono hBw'.out.size)
                have hbt : But Q z (z.setCell ⟨Q, k, none⟩ (.bool true)) := (But.of (Below.refl _ _)).setCell k _
                exact ⟨_, (hS'.out.below hz).put hcc'.out k k64', hst.1, hst.2, (hX'.out.below hz).but hbt (by omega) (by omega), (hY'.out.below hz).but hbt (by omega) (by omega), hB.trans (hbt.low hq.2.2.2.2 hB.size)⟩)
              have hskip : Hid (∀ z, Below wr.heap.size wr z → blk X k = blk Y k → Arr z Q cur ∧ Canon cur ∧ (∀ j : Int, In cur j ↔ 0 ≤ j ∧ j < ((k + 1 : Nat) : Int) ∧ blk X j.toNat ≠ blk Y j.toNat) ∧ FObj z bx gx X ∧ FObj z byy gy Y ∧ Below w1.heap.size w1 z) := Hid.intro (fun z hz h =>
                ⟨hS'.out.below hz, hcc'.out, unlike_skip hin'.out h, hX'.out.below hz, hY'.out.below hz, hBw'.out.trans (hz.mono hBw'.out.size)⟩)
              by_cases ca : A ≤ k
              · have d1 : decide ((A : Int) ≤ (k : Int)) = true := decide_eq_true (by omega)
                have hne2 : Hid (blk X k ≠ blk Y k) := Hid.intro (fun h => by
                  have e1 := o1.out k ca
                  have e2 := p2.out k (by have := hM1.out; omega)
                  rw [← h, e1] at e2; simp at e2)
                go_wp2_with fail
                go_quiet (fail)
                go_wp2
                go_roundw
                case rel =>
                  obtain ⟨cur2, g1, g2, g3, g4, g5, g6⟩ := hnext.out (wr.drewN nq) ⟨rfl, rfl, rfl, Nat.le_refl _, fun _ _ => rfl⟩ hne2.out
                  exact ⟨k + 1, cur2, by omega, by go_num, g1, g2, g3, g4, g5, g6⟩
                case measure => simp [intOf]; omega
              · have d1 : decide ((A : Int) ≤ (k : Int)) = false := decide_eq_false (by omega)
                by_cases cb : B ≤ k
                · have d2 : decide ((B : Int) ≤ (k : Int)) = true := decide_eq_true (by omega)
                  have hne2 : Hid (blk X k ≠ blk Y k) := Hid.intro (fun h => by
                    have e1 := o2.out k cb
                    have e2 := p1.out k (by omega)
                    rw [h, e1] at e2; simp at e2)
                  go_wp2_with fail
                  go_quiet (fail)
                  go_wp2
                  go_roundw
                  case rel =>
                    obtain ⟨cur2, g1, g2, g3, g4, g5, g6⟩ := hnext.out (wr.drewN nq) ⟨rfl, rfl, rfl, Nat.le_refl _, fun _ _ => rfl⟩ hne2.out
                    exact ⟨k + 1, cur2, by omega, by go_num, g1, g2, g3, g4, g5, g6⟩
                  case measure => simp [intOf]; omega
                · have d2 : decide ((B : Int) ≤ (k : Int)) = false := decide_eq_false (by omega)
                  have xk : ((k : Int) + 1) * 8 ≤ (X.length : Int) := by omega
                  have yk : ((k : Int) + 1) * 8 ≤ (Y.length : Int) := by omega
                  have sX : List.take ((k + 1) * 8 - k * 8) (List.drop (k * 8) X) = blk X k := by rw [blk, show (k + 1) * 8 - k * 8 = 8 by omega]
                  have sY : List.take ((k + 1) * 8 - k * 8) (List.drop (k * 8) Y) = blk Y k := by rw [blk, show (k + 1) * 8 - k * 8 = 8 by omega]
                  by_cases hbk : blk X k = blk Y k
                  · have hq : (List.take ((k + 1) * 8 - k * 8) (List.drop (k * 8) X) == List.take ((k + 1) * 8 - k * 8) (List.drop (k * 8) Y)) = true := by rw [sX, sY, hbk]; simp
                    have hbk' := Hid.intro hbk
                    clear sX sY hbk
                    go_wp2_with fail
                    go_quiet (fail)
                    go_wp2
                    go_roundw
                    case rel =>
                      obtain ⟨g1, g2, g3, g4, g5, g6⟩ := hskip.out (wr.drewN nq) ⟨rfl, rfl, rfl, Nat.le_refl _, fun _ _ => rfl⟩ hbk'.out
                      exact ⟨k + 1, cur, by omega, by go_num, g1, g2, g3, g4, g5, g6⟩
                    case measure => simp [intOf]; omega
                  · have hq : (List.take ((k + 1) * 8 - k * 8) (List.drop (k * 8) X) == List.take ((k + 1) * 8 - k * 8) (List.drop (k * 8) Y)) = false := by rw [sX, sY]; simpa using hbk
                    have hbk' := Hid.intro hbk
                    clear sX sY hbk
                    go_wp2_with fail
                    go_quiet (fail)
                    go_wp2
                    go_roundw
                    case rel =>
                      obtain ⟨cur2, g1, g2, g3, g4, g5, g6⟩ := hnext.out (wr.drewN nq) ⟨rfl, rfl, rfl, Nat.le_refl _, fun _ _ => rfl⟩ hbk'.out
                      exact ⟨k + 1, cur2, by omega, by go_num, g1, g2, g3, g4, g5, g6⟩
                    case measure => simp [intOf]; omega
            · have hkM : k = M := by omega
              have k1 : ¬ (k : Int) < (M : Int) := by omega
              have hfin : Hid (∀ j : Int, In cur j ↔ 0 ≤ j ∧ j < 64 ∧ blk X j.toNat ≠ blk Y j.toNat) := Hid.intro (fun j => by
                rw [hin'.out]
                constructor
                · rintro ⟨p, q, r⟩; exact ⟨p, by have := hM1.out; omega, r⟩
                · rintro ⟨p, q, r⟩
                  refine ⟨p, ?_, r⟩
                  by_cases e : j.toNat < M
                  · omega
                  · exact absurd ((o1.out j.toNat (by have := hM1.out; omega)).trans (o2.out j.toNat (by have := hM1.out; omega)).symm) r)
              clear hin' o2 p2 hM1
              have hk0 : Hid (Kept (wr.alloc (.cells (bookCells (.slice none 0 0) (.slice none 0 0)) 44)) wr.heap.size wr.heap.size []) := Hid.intro (kept_new wr wr.heap.size)
              have hba : Below wr.heap.size wr (wr.alloc (.cells (bookCells (.slice none 0 0) (.slice none 0 0)) 44)) := (Below.refl _ _).alloc (Nat.le_refl _) _
              have hQ := hS'.out.lt
              have hq := Hid.intro (show bx < wr.heap.size ∧ gx < wr.heap.size ∧ byy < wr.heap.size ∧ gy < wr.heap.size ∧ Q < wr.heap.size ∧ w1.heap.size ≤ wr.heap.size from by have := hlX.out; omega)
              have hX0 := Hid.intro (hX'.out.below hba)
              have hY0 := Hid.intro (hY'.out.below hba)
              have hS0 := Hid.intro (hS'.out.below hba)
              have hB0 := Hid.intro (below_step hBw'.out hba)
              have hz0 : wr.heap.size < (wr.alloc (.cells (bookCells (.slice none 0 0) (.slice none 0 0)) 44)).heap.size := by simp
              clear hba hS' hX' hY' hBw' hlX hQ
              have hlen := Hid.intro (canon_64 hcc'.out)
              go_wp2_with fail
              refine (unlike_any (.inr ⟨_, _, A, rfl, hX0.out, hXl'.out, h1, h2⟩) (.inr ⟨_, _, B, rfl, hY0.out, hYl'.out, h3, h4⟩)).mono ?_; rintro e z1 ⟨u, pu, rfl, hcu, hiu, ⟨bu, hbu, hou⟩, hb1⟩
              obtain rfl : pu = cur := canon_ext hcu hcc'.out (fun j => (hiu j).trans (hfin.out j).symm)
              have hX1 := Hid.intro (hX0.out.below hb1)
              have hY1 := Hid.intro (hY0.out.below hb1)
              have hS1 := Hid.intro (hS0.out.below hb1)
              have hk1 := Hid.intro (hk0.out.below hb1)
              have hB1 := Hid.intro (below_step hB0.out hb1)
              have hou1 := Hid.intro (own_mono hou (base' := wr.heap.size) (by omega))
              have hz1 := Nat.lt_of_lt_of_le hz0 hb1.size
              clear hcu hiu hbu hou hb1 hX0 hY0 hS0 hk0 hB0 hz0
              obtain ⟨ua, uc, rfl⟩ := own_slice hou1.out
              generalize wr.heap.size = K at *
              go_wp2_with fail
              refine (unlike_any (.inr ⟨_, _, B, rfl, hY1.out, hYl'.out, h3, h4⟩) (.inr ⟨_, _, A, rfl, hX1.out, hXl'.out, h1, h2⟩)).mono ?_; rintro e z2 ⟨v, pv, rfl, hcv, hiv, ⟨bv2, hbv, hov⟩, hb2⟩
              obtain rfl : pv = pu := canon_ext hcv hcc'.out (fun j => by rw [hiv, hfin.out]; exact ⟨fun h => ⟨h.1, h.2.1, fun e => h.2.2 e.symm⟩, fun h => ⟨h.1, h.2.1, fun e => h.2.2 e.symm⟩⟩)
              have hX2 := Hid.intro (hX1.out.below hb2)
              have hS2 := Hid.intro (hS1.out.below hb2)
              have hk2 := Hid.intro (hk1.out.below hb2)
              have hB2 := Hid.intro (below_step hB1.out hb2)
              have hou2 := Hid.intro (own_stay (T := fun _ => True) hou1.out (Stay.of hb2) trivial)
              have hov2 := Hid.intro (own_mono hov (base' := K) (by omega))
              obtain ⟨va, vc, rfl⟩ := own_slice hov
              have hfr : Hid (∀ b, (Value.slice ua pv.length uc).ownBlock = some b → (Value.slice va pv.length vc).ownBlock ≠ some b) := Hid.intro (fun b hb hv => by
                have h1 := (hou1.out.lt b hb).2
                have h2 := (hov.lt b hv).1
                omega)
              have hz2 := Nat.lt_of_lt_of_le hz1 hb2.size
              clear hcv hiv hbv hov hb2 hX1 hY1 hS1 hk1 hB1 hou1 hz1
              go_wp2_with fail
              refine (book_spans hk2.out hou2.out (fun e he => by simp at he) (by simp) (by have := hlen.out; omega) (Nat.le_refl _)).mono ?_; rintro e z3 ⟨rfl, hk3, hst3, hb3⟩
              have hk3' := Hid.intro hk3
              have hq3 := hq.out
              have hX3 := Hid.intro (hX2.out.low hb3 hq3.1 hq3.2.1)
              have hS3 := Hid.intro (hS2.out.same (hb3.block Q hq3.2.2.2.2.1))
              have hov3 := Hid.intro (own_stay hov2.out hst3 TN49)
              have hB3 := Hid.intro (hB2.out.trans (hb3.mono hq3.2.2.2.2.2))
              clear hk3 hst3 hb3 hX2 hS2 hk2 hB2 hou2 hov2 hq3 hz2
              go_wp2_with fail
              refine (book_spans hk3'.out hov3.out (fun e he => by simp at he; subst he; exact hfr.out) (by simp) (by have := hlen.out; omega) (Nat.le_refl _)).mono ?_; rintro e z4 ⟨rfl, hk4, hst4, hb4⟩
              have hk4' := Hid.intro hk4
              have hq4 := hq.out
              have hX4 := Hid.intro (hX3.out.low hb4 hq4.1 hq4.2.1)
              have hS4 := Hid.intro (hS3.out.same (hb4.block Q hq4.2.2.2.2.1))
              have hB4 := Hid.intro (hB3.out.trans (hb4.mono hq4.2.2.2.2.2))
              clear hk4 hst4 hb4 hX3 hS3 hk3' hB3 hov3 hq4 hfr
              go_wp2_with fail
              refine (unlike_any (.inl ⟨rfl, rfl⟩) (.inr ⟨_, _, A, rfl, hX4.out, hXl'.out, h1, h2⟩)).mono ?_; rintro e z5 ⟨t, pt, rfl, hct, hit, ⟨bt, hbt, hot⟩, hb5⟩
              obtain rfl : pt = [(0, (A : Int))] := unlike_nil hct h1 h2 o1.out p1.out hit
              have hX5 := Hid.intro (hX4.out.below hb5)
              have hS5 := Hid.intro (hS4.out.below hb5)
              have hk5 := Hid.intro (hk4'.out.below hb5)
              have hB5 := Hid.intro (below_step hB4.out hb5)
              rcases own_room hot with ⟨_, h0⟩ | ⟨gt, ct, rfl, _⟩
              · simp at h0
              have hcl5 := Hid.intro (row_cells hot 0 _ rfl)
              have hgt5 : gt < z5.heap.size := World.block_lt_of_cell? z5 ⟨gt, 0 * 2, none⟩ hcl5.out.1
              clear hct hit hbt hot hb5 hX4 hS4 hk4' hB4 o1 p1
              have rS := hS5.out.2
              have hinf := (bv_facts pv).2.1
              go_wp2_with (first | (refine wpList_load_mid rfl 34 _ rfl Q 0 rfl (bv (bitsOf pv)) _ rS Try.underlying34 rfl hinf ?_))
              refine (refSpans_any pv _ hcc').mono ?_; rintro e z6 ⟨r, rfl, hor, hb6⟩
              have rR := Hid.intro (own_row hor)
              have hk6 := Hid.intro (hk5.out.below hb6)
              have hX6 := Hid.intro (hX5.out.below hb6)
              have hB6 := Hid.intro (below_step hB5.out hb6)
              have hT6 := hb6
              clear hor hk5 hX5 hS5 rS hB5 hinf
              obtain ⟨ra, rc, rfl⟩ := rR.out.slice
              go_wp2_with fail
              refine (same_rows (kept_row hk6.out 0 rfl) rR.out (by have := hlen.out; omega)).mono ?_; rintro e z7 ⟨rfl, hb7⟩
              have hk7 := Hid.intro (hk6.out.below hb7)
              have hX7 := Hid.intro (hX6.out.below hb7)
              have hB7 := Hid.intro (below_step hB6.out hb7)
              have hT7 := below_step hT6 hb7
              clear hb6 hk6 hX6 hB6 hT6 hb7 rR
              go_wp2_with fail
              refine (same_rows (kept_row hk7.out 1 rfl) (kept_row hk7.out 0 rfl) (by have := hlen.out; omega)).mono ?_; rintro e z8 ⟨rfl, hb8⟩
              have hk8 := Hid.intro (hk7.out.below hb8)
              have hX8 := Hid.intro (hX7.out.below hb8)
              have hB8 := Hid.intro (below_step hB7.out hb8)
              have hT8 := below_step hT7 hb8
              clear hk7 hX7 hB7 hT7 hb8
              go_wp2_with fail
              refine (unlike_any (.inr ⟨_, _, A, rfl, hX8.out, hXl'.out, h1, h2⟩) (.inr ⟨_, _, A, rfl, hX8.out, hXl'.out, h1, h2⟩)).mono ?_; rintro e z9 ⟨s0, p0, rfl, hcs, his, ⟨bs, hbs, hos⟩, hb9⟩
              obtain rfl : p0 = [] := unlike_self hcs his
              obtain ⟨sa, sc, rfl⟩ := own_slice hos
              have hk9 := Hid.intro (hk8.out.below hb9)
              have hB9 := Hid.intro (below_step hB8.out hb9)
              have hT9 := below_step hT8 hb9
              have c0 : z9.cell? ⟨gt, 0, none⟩ = some (.int .i64 0) := by rw [hT9.cell (p := ⟨gt, 0, none⟩) hgt5]; exact hcl5.out.1
              have c1 : z9.cell? ⟨gt, 1, none⟩ = some (.int .i64 (A : Int)) := by rw [hT9.cell (p := ⟨gt, 1, none⟩) hgt5]; exact hcl5.out.2
              have hg9 : gt < z9.heap.size := Nat.lt_of_lt_of_le hgt5 hT9.size
              clear hcs his hbs hos hb9 hk8 hX8 hB8 hT8 hT9 hcl5 hgt5
              go_wp2_with fail
              refine (zero_any Z _ (by omega)).mono ?_; rintro e z10 ⟨rfl, rfl⟩
              go_wp2_with fail
              refine (refZero_any Z _ (by omega)).mono ?_; rintro e z11 ⟨rfl, rfl⟩
              generalize allZ Z = zb
              go_wp2_with fail
              refine (book_apart hk9.out (by simp) (fun e he => by simp at he; have := hlen.out; rcases he with rfl | rfl <;> (simp only; omega)) (Nat.le_refl _)).mono ?_; rintro e z12 ⟨rfl, hb12⟩
              go_wp2
              go_ret
              exact ⟨rfl, hB9.out.trans (hb12.mono hq.out.2.2.2.2.2)⟩
end Go.Proofs.Ytbebgogjpajghaa
