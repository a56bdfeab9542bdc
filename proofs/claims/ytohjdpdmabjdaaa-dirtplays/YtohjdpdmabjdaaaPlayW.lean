/-
  DirtPlays' walk.
-/
import Derived.Test.YtohjdpdmabjdaaaPlayJ
import Derived.Test.YtohjdpdmabjdaaaArgDOps
import Derived.Test.YtohjdpdmabjdaaaSame
import Derived.Deep.CutRange
import Derived.Deep.CutBlock
namespace Go.Proofs.Ytohjdpdmabjdaaa
open Go.ChangeShapes Go.WideShapes Go.ChangeAt Go.RowKit
attribute [local go_sem ↓] Go.wp_at_zero Go.wp_at_succ
set_option linter.unusedVariables false


theorem zs_arr (w : World) : let z := (w.alloc (.cells (List.replicate 64 (Value.bool false)).toArray 27)).setCells w.heap.size 0 (List.replicate 64 (Value.bool false)).toArray.toList
    Arr z w.heap.size [] ∧ Below w.heap.size w z := by
  intro z
  have h1 := Arr.new w [] (List.replicate 64 (Value.bool false)).toArray (by simp)
  have h2 := (set_facts w [] (List.replicate 64 (Value.bool false)).toArray (by simp)).2.2.2
  rw [← zs_list] at h1 h2
  exact ⟨h1, h2⟩
set_option maxRecDepth 1000000 in
theorem plays_out (b ask : Int) (a : Option Addr) (n c : Nat) (w : World) (h : (60 : Int) < (n : Int)) :
    Calls Try.prog 3 #[.int .i64 b, .slice a n c, .int .i64 ask] w fun e w' => e = .returned (.bool true) ∧ Below w.heap.size w w' := by
  have hd : decide ((60 : Int) < (n : Int)) = true := decide_eq_true h
  go_enter Try.func3, Try.ntmps3
  go_wp2_with fail
  refine (alive_any _).mono ?_; rintro e w1 ⟨rfl, hb1⟩
  go_wp2
  go_ret
  exact ⟨rfl, hb1⟩
theorem upS_len (W B : Nat) (h : B ≤ 64) : (upS W B).length ≤ 64 := canon_64 (upS_spec W B h).1

set_option maxRecDepth 1000000 in
set_option maxHeartbeats 16000000 in
theorem plays_walk (b ask : Int) (os : List DOp) (n c : Nat) (a : Option Addr) (w : World) (hn : os.length = n) (h60 : n ≤ 60) (ho : Hid (DOpsAt w (.slice a n c) os)) :
    Calls Try.prog 3 #[.int .i64 b, .slice a n c, .int .i64 ask] w fun e w' => e = .returned (.bool true) ∧ Below w.heap.size w w' := by
  have j2 : (n : Int) ≤ 60 := by omega
  have j3 : decide ((60 : Int) < (n : Int)) = false := decide_eq_false (by omega)
  have hn' := Hid.intro hn
  clear hn
  obtain ⟨B, hcl⟩ : ∃ B, Hid (clamp b = B) := ⟨_, rfl⟩
  have hB : B ≤ 64 := by rw [← hcl.out]; exact clamp_le b
  go_enter Try.func3, Try.ntmps3
  go_wp2_with fail
  refine (alive_any _).mono ?_; rintro e w1 ⟨rfl, hb1⟩
  go_wp2_with fail
  refine (new_any b w1).mono ?_; rintro e w2 ⟨rfl, hD, hb2⟩
  rw [hcl.out] at hD
  have hD2 := Hid.intro hD
  have zD := hD.lt
  have hB2 := below_step hb1 hb2
  have hwD := hb1.size
  clear hb1 hb2 hD
  generalize w1.heap.size = D at *
  go_upto_region 6 with fail
  refine pl6_walk hcl ?_
  intro d34 d35 d36
  have hth : Hid ((w2.alloc (.cells (List.replicate 64 (Value.bool false)).toArray 27)).there w2.heap.size 0 (List.replicate 64 (Value.bool false)).toArray.size) := Hid.intro (there_new (by simp))
  go_upto_region 8 with (first
    | (refine wpList_store_mid rfl 27 _ _ rfl w2.heap.size 0 (List.replicate 64 (Value.bool false)).toArray rfl rfl hth.out zs_size zs_one ?_))
  refine gen_world _ (fun w3 => Arr w3 w2.heap.size [] ∧ Below w2.heap.size w2 w3) (zs_arr w2) ?_
  rintro w3 ⟨hX, hb3⟩
  rw [← upS_zero B] at hX
  have hD3 := Hid.intro (hD2.out.stay hb3)
  have hX3 := Hid.intro hX
  have zX := hX.lt
  have hB3 := below_step hB2 hb3
  clear hth hX hb3 hD2 hB2
  generalize w2.heap.size = X at *
  have hst : Hid (St (w3.alloc (.cells (bookCells (.slice none 0 0) (.slice none 0 0)) 37)) D X w3.heap.size w3.heap.size B 0 []) := Hid.intro ⟨hD3.out.stay ((Below.refl _ _).alloc (Nat.le_refl _) _), hX3.out.below ((Below.refl _ _).alloc (Nat.le_refl _) _), kept_new w3 w3.heap.size⟩
  have hB4 : Hid (Below w.heap.size w (w3.alloc (.cells (bookCells (.slice none 0 0) (.slice none 0 0)) 37))) := Hid.intro (below_step hB3 ((Below.refl _ _).alloc (Nat.le_refl _) _))
  have hwK := hB3.size
  go_wp2_with fail
  refine gen_world _ (fun w4 => St w4 D X w3.heap.size w3.heap.size B 0 [] ∧ Below w.heap.size w w4 ∧ w3.heap.size < w4.heap.size) ⟨hst.out, hB4.out, by simp⟩ ?_
  rintro w4 ⟨hst4, hb4, hz4⟩
  have hst4' := Hid.intro hst4
  clear hst hB4 hD3 hX3 hB3 hst4
  generalize w3.heap.size = K at *
  go_loopw [10] (fun iv wr => ∃ (i W : Nat) (es : List Ent), i ≤ n ∧ iv = .int .i64 i ∧ W < 2 ^ B ∧ St wr D X K K B W es ∧ es.length = i ∧ Short es ∧ Below w.heap.size w wr ∧ K < wr.heap.size) (fun iv _ => n - (intOf iv).toNat)
  case atStart => exact ⟨0, 0, [], Nat.zero_le _, rfl, Nat.two_pow_pos B, hst4'.out, rfl, fun e he => by simp at he, hb4, hz4⟩
  case round =>
    clear hst4' hb4 hz4
    obtain ⟨i, W, es, hi, rfl, hWB, hst, hel, hsh, hBw, hzK⟩ := hrel
    have i0 : (0 : Int) ≤ (i : Int) := Int.natCast_nonneg _
    have hst' := Hid.intro hst
    have hel' := Hid.intro hel
    have hsh' := Hid.intro hsh
    clear hst hel hsh
    have HL := Hid.intro (bv_facts (upS W B))
    obtain ⟨P, hP⟩ : ∃ P, Hid (pop W = P) := ⟨_, rfl⟩
    have hc := Hid.intro (upS_spec W B hB).1
    have hcnt : Hid (cnt (upS W B) = (P : Int)) := Hid.intro (by rw [cnt_upS W B hB hWB, hP.out])
    by_cases hlt : i < n
    · have i1 : (i : Int) < (n : Int) := by omega
      obtain ⟨g, o, kd, nn, f, m, rfl, hg, c0, c1, c2, c3, hfit⟩ := ho.out.at hBw i (by rw [hn'.out]; exact hlt)
      have hgr : g < wr.heap.size := Nat.lt_of_lt_of_le hg hBw.size
      go_upto_region 13 with fail
      have hba : Below wr.heap.size wr (wr.alloc (.cells #[.int .i64 kd, .int .i64 nn, .int .i64 f, .int .i64 m] 41)) := (Below.refl _ _).alloc (Nat.le_refl _) _
      refine gen_world _ (fun w5 => St w5 D X K K B W es ∧ Box4 w5 wr.heap.size (.int .i64 kd) (.int .i64 nn) (.int .i64 f) (.int .i64 m) ∧ Below w.heap.size w w5 ∧ wr.heap.size < w5.heap.size) ⟨hst'.out.below hba, heap_alloc_new wr _, below_step hBw hba, by simp⟩ ?_
      rintro w5 ⟨hs5, hO5, hB5, hz5⟩
      have hrX5 := hs5.x.2
      have hs5' := Hid.intro hs5
      have hO5' := Hid.intro hO5
      clear hba hst' c0 c1 c2 c3 hBw hs5 hO5
      have hzO : K < wr.heap.size := hzK
      generalize wr.heap.size = O at *
      go_wp2_with (first | (refine wpList_load_mid rfl 27 _ rfl X 0 rfl (bv (bitsOf (upS W B))) _ hrX5 Try.underlying27 rfl HL.out.2.1 ?_))
      refine (refCount_any (upS W B) _ hc).mono ?_; rintro e w6 ⟨rfl, hb6⟩
      rw [hcnt.out]
      have hs6 := Hid.intro (hs5'.out.below hb6)
      have hO6 := Hid.intro (hO5'.out.below hb6 hz5)
      have hB6 := below_step hB5 hb6
      have hz6 := hb6.size
      have hw6 : w.heap.size ≤ w6.heap.size := hB6.size
      clear hs5' hO5' hB5 hb6 hrX5
      obtain ⟨o0, o1, o2, o3⟩ := hO6.out.cells
      go_upto_block 2 with fail
      clear o0 o1 o2 o3
      refine sw_walk (n0 := w.heap.size) hB hWB hP hfit hwD (by omega) hw6 hs6 hO6 ?_
      clear hs6 hO6 hc hcnt HL hP hWB
      intro s14 s15 s16 s17 s54 s55 s56 s57 s58 s59 s60 s61 s62 s63 s64 s65 s66 s67 s68 s69 s70 s71 s72 s73 s74 s75 s76 s77 s78 s79 s80 s81 s82 s83 s84 s85 s86 s87 s88 s89 s90 s91 s92 s93 s94 s95 s96 s97 s98 s99 s100 s101 s102 s103 s104 s105 W' P' ws z hWB hP h0 h1 hstz hbz
      have hBz : Below w.heap.size w z := hB6.trans hbz
      have hzz := hbz.size
      have hstz' := Hid.intro hstz
      have hP' := Hid.intro hP
      have hW64 : W' < 18446744073709551616 := Nat.lt_of_lt_of_le hWB (two64 B hB)
      have hc := Hid.intro (upS_spec W' B hB).1
      have hcnt : Hid (cnt (upS W' B) = (P' : Int)) := Hid.intro (by rw [cnt_upS W' B hB hWB, hP])
      have hlen := upS_len W' B hB
      clear hstz hbz hB6 hP
      go_wp2_with fail
      refine (runs_any hstz'.out.d hB hW64).mono ?_; rintro e z1 ⟨rfl, hR1, hb1⟩
      have hs1 := Hid.intro (hstz'.out.below hb1)
      have hB1 := below_step hBz hb1
      have hR1' := Hid.intro hR1
      have zR := hR1.lt
      have hzz1 := hb1.size
      clear hstz' hBz hb1 hR1
      have hKR : K < z.heap.size := by omega
      generalize z.heap.size = R at *
      go_wp2_with fail
      refine (all_any hR1'.out (by omega)).mono ?_; rintro e z2 ⟨av, rfl, ho2, hb2⟩
      have hs2 := Hid.intro (hs1.out.below hb2)
      have hR2 := Hid.intro (hR1'.out.below hb2)
      have hB2 := below_step hB1 hb2
      have hfr : Hid (∀ e ∈ es, ∀ b, e.1.ownBlock = some b → av.ownBlock ≠ some b) := Hid.intro (fun e he b hb hv => by
        have h1 := kept_fresh hs1.out.k e he b hb
        have h2 := (own_block ho2 b hv).1
        omega)
      have how := Hid.intro (own_mono ho2 (by omega : K ≤ z1.heap.size))
      have hzz2 := hb2.size
      clear hs1 hR1' hB1 ho2 hb2
      go_wp2_with fail
      refine (book_spans hs2.out.k how.out hfr.out (by have := hel'.out; omega) (by omega) (Nat.le_refl _)).mono ?_; rintro e z3 ⟨rfl, hk3, hst3, hb3⟩
      have hD3 := Hid.intro (hs2.out.d.below hb3 (by omega))
      have hX3 := Hid.intro (hs2.out.x.same (hb3.block X (by omega)))
      have hR3 := Hid.intro (hR2.out.stay hst3 TN60 TN49)
      have hA3 := Hid.intro (kept_last hk3)
      have hB3 := hB2.trans (hb3.mono hwK)
      have hk3' := Hid.intro hk3
      have hzz3 := hb3.size
      clear hs2 hR2 hB2 hfr how hk3 hst3 hb3
      go_upto_region 39 with fail
      refine pl39_walk hB hWB hP' h0 h1 hD3 hX3 hA3 (fun _ a D v z h => by cases D <;> exact h) ?_
      intro s115 s116 s117 s118 s119 s120 s121 s122 s123 s124 s125 s126 s127 s128 s129 s130 s131 s132 s133 s134 s135 s136 s137 s138 s139 s140 s141 s142 s143 s144 s145 s146 s147 s148 s149 s150 s151 s152 s153 s154 s155 s156 s157 s158 s159 s160 s161 s162 s163 s164 s165 z4 hb4
      have hs4 : Hid (St z4 D X K K B W' (es ++ [(av, upS W' B)])) := Hid.intro ⟨hD3.out.stay hb4, hX3.out.below hb4, hk3'.out.below hb4⟩
      have hR4 := Hid.intro (hR3.out.below hb4)
      have hB4 := below_step hB3 hb4
      have hzz4 := hb4.size
      clear hD3 hX3 hk3' hR3 hA3 hB3 hb4
      go_wp2_with fail
      have hba : Below z4.heap.size z4 (z4.alloc (.cells #[.int .i64 0, .int .i64 9] 39)) := (Below.refl _ _).alloc (Nat.le_refl _) _
      refine (put_any (l := [(0, 9)]) (hR4.out.below hba) hc.out (row_one z4 0 9) (by intro p hp; simp at hp; subst hp; decide) (by simp)).mono ?_; rintro e z5 ⟨rfl, hR5, hb5⟩
      have hs5 := Hid.intro ((hs4.out.below hba).butR (hR4.out.below hba) hb5)
      have hB5 : Below w.heap.size w z5 := (below_step hB4 hba).trans (hb5.low (by omega) (by simp; omega))
      have hzz5 : z4.heap.size ≤ z5.heap.size := Nat.le_trans hba.size hb5.size
      have hD5 := Hid.intro hs5.out.d
      have hX5 := Hid.intro hs5.out.x
      clear hs4 hR4 hB4 hba hb5 hR5
      go_upto_region 42 with fail
      refine pl42_walk hW64 hP' hD5 hX5 hc hcnt (fun _ a D v z h => by cases D <;> exact h) ?_
      intro q171 q172 q173 q174 z6 hb6
      have hs6 := Hid.intro (hs5.out.below hb6)
      have hB6 := below_step hB5 hb6
      have hzz6 := hb6.size
      clear hs5 hD5 hX5 hB5 hb6
      go_wp2
      go_roundw
      case rel => exact ⟨i + 1, W', es ++ [(av, upS W' B)], by omega, by go_num, hWB, hs6.out, by simp [hel'.out], short_more hsh'.out hlen, hB6, by omega⟩
      case measure => simp [intOf]; omega
    · have i1 : ¬ (i : Int) < (n : Int) := by omega
      have hD0 := hst'.out.d
      go_wp2_with fail
      refine (wipe_none _).mono ?_; rintro e y1 ⟨rfl, rfl⟩
      go_wp2_with fail
      refine (runs_none _).mono ?_; rintro e y2 ⟨rfl, hR, hb2⟩
      have hR' := Hid.intro hR
      have hs2 := Hid.intro (hst'.out.below hb2)
      have hB2 := below_step hBw hb2
      clear hR hb2 hst' hBw hD0
      generalize y1.heap.size = R at *
      go_wp2_with fail
      refine (mark_none (0, 1) _).mono ?_; rintro e y3 ⟨rfl, hb3⟩
      have hR3 := Hid.intro (hR'.out.below hb3)
      have hs3 := Hid.intro (hs2.out.below hb3)
      have hB3 := below_step hB2 hb3
      clear hb3 hR' hs2 hB2
      go_wp2_with fail
      refine (count_none _).mono ?_; rintro e y4 ⟨rfl, rfl⟩
      go_wp2_with fail
      refine (or_nil1 _ _).mono ?_; rintro e y5 ⟨rfl, rfl⟩
      go_wp2_with fail
      refine (blocks_none _).mono ?_; rintro e y6 ⟨rfl, rfl⟩
      go_wp2_with fail
      refine (has_none 0 _).mono ?_; rintro e y7 ⟨rfl, rfl⟩
      go_wp2_with fail
      refine (dbytes_none _).mono ?_; rintro e y8 ⟨rfl, hb8⟩
      have hR8 := Hid.intro (hR3.out.below hb8)
      have hs8 := Hid.intro (hs3.out.below hb8)
      have hB8 := below_step hB3 hb8
      clear hb8 hR3 hs3 hB3
      rw [show strOfNums [] = (⟨#[]⟩ : ByteArray) from rfl]
      go_wp2_with fail
      refine (count_any hR8.out trivial).mono ?_; rintro e y9 ⟨rfl, hb9⟩
      have hs9 := Hid.intro (hs8.out.below hb9)
      have hB9 := below_step hB8 hb9
      clear hb9 hR8 hs8 hB8
      rw [show cnt [] = 0 from rfl]
      go_wp2_with fail
      refine (or_nil2 _ _).mono ?_; rintro e y10 ⟨rfl, rfl⟩
      go_wp2_with fail
      refine (book_apart hs9.out.k (by have := hel'.out; omega) hsh'.out (Nat.le_refl _)).mono ?_; rintro e y11 ⟨rfl, hb11⟩
      go_wp2
      go_ret
      exact ⟨rfl, hB9.trans (hb11.mono hwK)⟩
end Go.Proofs.Ytohjdpdmabjdaaa
