/-
  RunsPlay's walk.
-/
import Derived.Test.YtpdbnldbdmhhfaaRegA
import Derived.Test.YtpdbnldbdmhhfaaRegB
import Derived.Test.YtpdbnldbdmhhfaaRegC
import Derived.Test.YtpdbnldbdmhhfaaIfA
import Derived.Test.YtpdbnldbdmhhfaaIfB
import Derived.Test.YtpdbnldbdmhhfaaIfC
import Derived.Deep.CutRange
import Derived.Deep.CutBlock
namespace Go.Proofs.Ytpdbnldbdmhhfaa
open Go.ChangeShapes Go.WideShapes Go.ChangeAt Go.RowKit
attribute [local go_sem ↓] Go.wp_at_zero Go.wp_at_succ

set_option maxRecDepth 100000 in
set_option maxHeartbeats 16000000 in
theorem play_walk (l : List Sp) (os : List OpE) (n m c d : Nat) (a0 a1 : Option Addr) (x : Int) (w : World) (hn : l.length = n) (hm : os.length = m) (h40 : n ≤ 40) (h50 : m ≤ 50) (hx : Hid (Row w (.slice a0 n c) l)) (hf : Hid (Fits l)) (ho : Hid (OpsAt w (.slice a1 m d) os)) :
    Calls Try.prog 3 #[.slice a0 n c, .slice a1 m d, .int .i64 x] w fun e w' => e = .returned (.bool true) ∧ Below w.heap.size w w' := by
  have j1 : (n : Int) ≤ 40 := by omega
  have j2 : (m : Int) ≤ 50 := by omega
  have j3 : decide ((40 : Int) < (n : Int)) = false := decide_eq_false (by omega)
  have j4 : decide ((50 : Int) < (m : Int)) = false := decide_eq_false (by omega)
  obtain ⟨P0, hP0⟩ : ∃ P, Hid (putR [] l = P) := ⟨_, rfl⟩
  have cP0 : Hid (Canon P0) := Hid.intro (by rw [← hP0.out]; exact of_canon l)
  have HP := Hid.intro (bv_facts P0)
  have sP : Hid ((bv (bitsOf P0)).toArray.size = 64) := Hid.intro (by simp [HP.out.1])
  go_enter Try.func3, Try.ntmps3
  go_wp2_with fail
  refine (alive_any _).mono ?_; rintro e w1 ⟨rfl, hb1⟩
  go_wp2_with fail
  refine (lent_any (hx.out.below hb1) (by omega)).mono ?_; rintro e w2 ⟨mv, rfl, hm2, hb2⟩
  have hm2' := Hid.intro hm2
  have hB2 := below_step hb1 hb2
  clear hm2
  go_wp2_with fail
  refine (of_any hm2'.out.row hf.out (by omega)).mono ?_; rintro e w3 ⟨rfl, hr3, hb3⟩
  rw [hP0.out] at hr3
  have hr3' := Hid.intro hr3
  have hB3 := below_step hB2 hb3
  have hR := hB2.size
  have zR := hr3.lt
  have hm3 := Hid.intro (hm2'.out.below hb3)
  clear hr3
  generalize w2.heap.size = R0 at *
  go_wp2_with fail
  refine (stays_any hm3.out (hx.out.below hB3) (by omega)).mono ?_; rintro e w4 ⟨rfl, hb4⟩
  have hr4 := Hid.intro (hr3'.out.below hb4)
  have hB4 := below_step hB3 hb4
  clear hm2' hm3 hr3' hb1 hb2 hb3 hb4 hB2 hB3
  go_wp2_with fail
  refine (refZero_row (hx.out.below hB4) (by omega)).mono ?_; rintro e w5 ⟨rfl, hb5⟩
  rw [hP0.out]
  have hr5 := Hid.intro (hr4.out.below hb5)
  have hB5 := below_step hB4 hb5
  have hXw := hB5.size
  have zR5 := hr5.out.lt
  clear hr4 hB4 hb5
  go_wp2_with (first
    | (refine wpList_store_mid rfl 30 _ _ rfl w5.heap.size 0 (bv (bitsOf P0)).toArray rfl rfl (by rw [sP.out]; exact there_new (by decide)) HP.out.2.2.2 HP.out.2.2.1 ?_; refine gen_list _ (fun w6 => Arr w6 w5.heap.size P0 ∧ Below w5.heap.size w5 w6) ⟨Arr.new w5 P0 _ rfl, (set_facts w5 P0 _ rfl).2.2.2⟩ ?_; rintro w6 ⟨ha6, hb6⟩; have ha6' := Hid.intro ha6; clear ha6))
  have hr6 := Hid.intro (hr5.out.below hb6)
  have hB6 := below_step hB5 hb6
  have zX6 := ha6'.out.lt
  clear hr5 hB5 hb6
  generalize w5.heap.size = X at *
  have hKn := Hid.intro (kept_new w6 w6.heap.size)
  have hbb : Below w6.heap.size w6 (w6.alloc (.cells (bookCells (.slice none 0 0) (.slice none 0 0)) 41)) := (Below.refl _ _).alloc (Nat.le_refl _) _
  have hr7 := Hid.intro (hr6.out.below hbb)
  have ha7 := Hid.intro (ha6'.out.below hbb)
  have hB7 := below_step hB6 hbb
  have hKw := hB6.size
  clear hr6 ha6' hbb hB6
  refine gen_world _ (fun w7 => RObj w7 R0 P0 ∧ Arr w7 X P0 ∧ Kept w7 w6.heap.size w6.heap.size [] ∧ Below w.heap.size w w7) ⟨hr7.out, ha7.out, hKn.out, hB7⟩ ?_
  clear hr7 ha7 hKn hB7
  rintro w7 ⟨hr7, ha7, hk7, hB7⟩
  have S0 := Hid.intro (And.intro hr7 (And.intro ha7 hk7))
  have hKX : X < w6.heap.size := zX6
  clear hr7 ha7 hk7
  generalize w6.heap.size = K at *
  go_loopw [8, 11] (fun rv iv wr => ∃ (i R : Nat) (ps : List Sp) (es : List Ent), i ≤ m + 1 ∧ iv = .int .i64 i ∧ rv = .pointer (some ⟨R, 0, none⟩) ∧ w.heap.size ≤ R ∧ RObj wr R ps ∧ Canon ps ∧ Arr wr X ps ∧ Kept wr K K es ∧ es.length = i ∧ Short es ∧ Below w.heap.size w wr) (fun _ iv _ => m + 1 - (intOf iv).toNat)
  case atStart => exact ⟨0, R0, P0, [], by omega, rfl, rfl, hR, S0.out.1, cP0.out, S0.out.2.1, S0.out.2.2, rfl, fun e he => by simp at he, hB7⟩
  case round =>
    clear S0 hB7 zX6 HP sP cP0 hP0
    obtain ⟨i, R, ps, es, hi, rfl, rfl, hRw, hrr, hcc, haa, hkk, hel, hsh, hB⟩ := hrel
    have i0 : (0 : Int) ≤ (i : Int) := Int.natCast_nonneg _
    have hrr' := Hid.intro hrr
    have hcc' := Hid.intro hcc
    have haa' := Hid.intro haa
    have hkk' := Hid.intro hkk
    have hel' := Hid.intro hel
    have hsh' := Hid.intro hsh
    clear hrr hcc haa hkk hel hsh
    by_cases hlt : i ≤ m
    · have i1 : (i : Int) ≤ (m : Int) := by omega
      go_upto_if 66 with fail
      go_cut [8, 12, 13, 14, 15] from 59 to 222 (fun rv s12 s13 s14 s15 wx => ∃ (R' : Nat) (qs : List Sp), rv = .pointer (some ⟨R', 0, none⟩) ∧ w.heap.size ≤ R' ∧ RObj wx R' qs ∧ Canon qs ∧ Arr wx X qs ∧ Kept wx K K es ∧ Below w.heap.size w wx)
      case first =>
        rcases Nat.eq_zero_or_pos i with hi0 | hi0
        · subst hi0
          go_wp2_with fail
          go_meet
          exact ⟨R, ps, rfl, hRw, hrr'.out, hcc'.out, haa'.out, hkk'.out, hB⟩
        · obtain ⟨j, rfl⟩ : ∃ j, i = j + 1 := ⟨i - 1, by omega⟩
          have jm : j < os.length := by omega
          obtain ⟨g, o, cap, kd, lv, L, hv, e0, e1, hH⟩ := ho.out.at hB j jm
          have ha1 : a1 = some ⟨g, o, none⟩ := by cases hv; rfl
          subst ha1
          obtain ⟨hLr0, hLf0, aL, cL, rfl, _, _⟩ := hH
          have hLr := Hid.intro hLr0
          have hLf := Hid.intro hLf0
          have j0 : (0 : Int) ≤ (j : Int) := Int.natCast_nonneg _
          have jm' : (j : Int) < (m : Int) := by omega
          clear hLr0 hLf0 hv
          have h66 : decide ((0 : Int) < ((j + 1 : Nat) : Int)) = true := decide_eq_true (by omega)
          by_cases hL20 : L.length ≤ 20
          · have h66n : decide (0 < j + 1) = true := decide_eq_true (Nat.succ_pos j)
            first | rw [h66n] | rw [h66] | (simp only [h66n]) 
            by_cases hk1 : kd = 1
            · subst hk1
              refine if_put hRw hXw hL20 jm' j2 e0 e1 hLr hLf hrr' hcc' haa' hkk' hB (Hid.intro (fun _ a D v z h => by cases D <;> exact h)) (Hid.intro ?_)
              intro R2 q2 d12 d13 d14 d15 d67 d68 d69 d70 d71 d72 d73 d74 d75 d76 d77 d78 d79 d80 d81 d82 d83 d84 d85 d86 d87 d88 d89 d90 d91 d92 d93 d94 d95 d96 d97 d98 d99 d100 d101 d102 d103 d104 d105 d106 d107 d108 d109 d110 d111 d112 d113 d114 d115 d116 d117 d118 d119 d120 d121 d122 d123 d124 d125 d126 d127 d128 d129 d130 d131 d132 d133 d134 wx h1 h2 h3 h4 h5 h6
              have H := Hid.intro (And.intro h1 (And.intro h2 (And.intro h3 (And.intro h4 (And.intro h5 h6)))))
              clear h1 h2 h3 h4 h5 h6
              go_wp2_with fail
              go_meet
              exact ⟨R2, q2, rfl, H.out.1, H.out.2.1, H.out.2.2.1, H.out.2.2.2.1, H.out.2.2.2.2.1, H.out.2.2.2.2.2⟩
            · by_cases hk2' : kd = 2
              · subst hk2'
                refine if_cut hRw hXw hL20 jm' j2 e0 e1 hLr hLf hrr' hcc' haa' hkk' hB (Hid.intro (fun _ a D v z h => by cases D <;> exact h)) (Hid.intro ?_)
                intro R2 q2 d12 d13 d14 d15 d67 d68 d69 d70 d71 d72 d73 d74 d75 d76 d77 d78 d79 d80 d81 d82 d83 d84 d85 d86 d87 d88 d89 d90 d91 d92 d93 d94 d95 d96 d97 d98 d99 d100 d101 d102 d103 d104 d105 d106 d107 d108 d109 d110 d111 d112 d113 d114 d115 d116 d117 d118 d119 d120 d121 d122 d123 d124 d125 d126 d127 d128 d129 d130 d131 d132 d133 d134 wx h1 h2 h3 h4 h5 h6
                have H := Hid.intro (And.intro h1 (And.intro h2 (And.intro h3 (And.intro h4 (And.intro h5 h6)))))
                clear h1 h2 h3 h4 h5 h6
                go_wp2_with fail
                go_meet
                exact ⟨R2, q2, rfl, H.out.1, H.out.2.1, H.out.2.2.1, H.out.2.2.2.1, H.out.2.2.2.2.1, H.out.2.2.2.2.2⟩
              · refine if_copy hk1 hk2' hRw hXw hL20 jm' j2 e0 e1 hLr hLf hrr' hcc' haa' hkk' hB (Hid.intro (fun _ a D v z h => by cases D <;> exact h)) (Hid.intro ?_)
                intro R2 q2 d12 d13 d14 d15 d67 d68 d69 d70 d71 d72 d73 d74 d75 d76 d77 d78 d79 d80 d81 d82 d83 d84 d85 d86 d87 d88 d89 d90 d91 d92 d93 d94 d95 d96 d97 d98 d99 d100 d101 d102 d103 d104 d105 d106 d107 d108 d109 d110 d111 d112 d113 d114 d115 d116 d117 d118 d119 d120 d121 d122 d123 d124 d125 d126 d127 d128 d129 d130 d131 d132 d133 d134 wx h1 h2 h3 h4 h5 h6
                have H := Hid.intro (And.intro h1 (And.intro h2 (And.intro h3 (And.intro h4 (And.intro h5 h6)))))
                clear h1 h2 h3 h4 h5 h6
                go_wp2_with fail
                go_meet
                exact ⟨R2, q2, rfl, H.out.1, H.out.2.1, H.out.2.2.1, H.out.2.2.2.1, H.out.2.2.2.2.1, H.out.2.2.2.2.2⟩
          · have l20 : ¬ ((L.length : Nat) : Int) ≤ 20 := by omega
            go_wp2_with fail
            go_ret
            exact ⟨rfl, hB.alloc hB.size _⟩
      case rest =>
        obtain ⟨R', qs, rfl, hRw', hrt0, hct0, hat0, hkt0, hBt⟩ := hcut
        have hrt := Hid.intro hrt0
        have hct := Hid.intro hct0
        have hat := Hid.intro hat0
        have hkt := Hid.intro hkt0
        clear hrt0 hct0 hat0 hkt0 hrr' hcc' haa' hkk' hB hRw
        go_wp2_with fail
        have CT := hct
        have HL := Hid.intro (bv_facts qs)
        have hl64 := canon_64 hct.out
        have zK := kept_lt hkt.out
        refine (all_any hrt.out (by omega)).mono ?_; rintro e t1 ⟨v1, rfl, ho1, tb1⟩
        have own1 := Hid.intro (own_mono ho1 (Nat.le_of_lt zK))
        have fr1 : Hid (∀ e ∈ es, ∀ b, e.1.ownBlock = some b → v1.ownBlock ≠ some b) := Hid.intro (fun e he b hb hc => by have h1 := kept_fresh hkt.out e he b hb; have h2 := (ho1.lt b hc).1; omega)
        have kt1 := Hid.intro (hkt.out.below tb1)
        have rt1 := Hid.intro (hrt.out.below tb1)
        have at1 := Hid.intro (hat.out.below tb1)
        have BB1 := below_step hBt tb1
        clear ho1 tb1 hkt hrt hat hBt
        go_wp2_with fail
        refine (book_spans kt1.out own1.out fr1.out (by have := hel'.out; omega) (by omega) (Nat.le_refl _)).mono ?_; rintro e t2 ⟨rfl, hk2, hst2, tb2⟩
        have kt2 := Hid.intro hk2
        have rt2 := Hid.intro (rt1.out.stay hst2 TN60 TN49)
        have at2 := Hid.intro (at1.out.stay hst2)
        have BB2 : Below w.heap.size w t2 := BB1.trans (tb2.mono hKw)
        have r2 := at2.out.2
        clear hk2 hst2 tb2 kt1 rt1 at1 BB1 own1 fr1
        go_wp2_with (first | (refine wpList_load_mid rfl 30 _ rfl X 0 rfl (bv (bitsOf qs)) _ r2 Try.underlying30 rfl HL.out.2.1 ?_))
        refine (refSpans_any qs _ CT).mono ?_; rintro e t3 ⟨v2, rfl, ho2, tb3⟩
        obtain ⟨a2, c2, rfl⟩ := own_slice ho2
        have ho2' := Hid.intro ho2
        have kt3 := Hid.intro (kt2.out.below tb3)
        have rt3 := Hid.intro (rt2.out.below tb3)
        have at3 := Hid.intro (at2.out.below tb3)
        have BB3 := below_step BB2 tb3
        clear ho2 r2 tb3 kt2 rt2 at2 BB2
        go_wp2_with fail
        refine (next_sym rt3.out CT.out x).mono ?_; rintro e t4 ⟨bN, nf, nn, rfl, hnx, tb4⟩
        have hb1 : Below t4.heap.size t4 (t4.alloc (.cells #[.int .i64 nf, .int .i64 nn] 49)) := (Below.refl _ _).alloc (Nat.le_refl _) _
        obtain ⟨T4, hT4⟩ : ∃ T4, Hid (t4.alloc (.cells #[.int .i64 nf, .int .i64 nn] 49) = T4) := ⟨_, rfl⟩
        have hzT : Hid (T4.heap.size = t4.heap.size + 1) := Hid.intro (by rw [← hT4.out]; simp)
        have hbT : Below t3.heap.size t3 T4 := by rw [← hT4.out]; exact below_step tb4 hb1
        have kt4 := Hid.intro (kt3.out.below hbT)
        have rt4 := Hid.intro (rt3.out.below hbT)
        have at4 := Hid.intro (at3.out.below hbT)
        have BB4 := below_step BB3 hbT
        have ow4 := Hid.intro (own_below ho2'.out hbT)
        have bn4 : Hid (Box T4 t4.heap.size (.int .i64 nf) (.int .i64 nn)) := Hid.intro (by rw [← hT4.out]; exact Box.new t4 _ _ 49)
        have bw5 : Hid (Box ((t4.alloc (.cells #[.int .i64 nf, .int .i64 nn] 49)).alloc (.cells #[.int .i64 0, .int .i64 0] 49)) (t4.heap.size + 1) (.int .i64 0) (.int .i64 0)) := Hid.intro (by have := Box.new (t4.alloc (.cells #[.int .i64 nf, .int .i64 nn] 49)) (.int .i64 0) (.int .i64 0) 49; simpa using this)
        have hb45 : Hid (Below (t4.heap.size + 1) T4 ((t4.alloc (.cells #[.int .i64 nf, .int .i64 nn] 49)).alloc (.cells #[.int .i64 0, .int .i64 0] 49))) := Hid.intro (by rw [hT4.out, ← hzT.out]; exact (Below.refl _ _).alloc (Nat.le_refl _) _)
        clear hb1 hbT kt3 rt3 at3 BB3 ho2' tb4
        go_upto_block 3 with fail
        refine gen_world _ (fun t5 => Box t5 (t4.heap.size + 1) (.int .i64 0) (.int .i64 0) ∧ Below (t4.heap.size + 1) T4 t5) ⟨bw5.out, hb45.out⟩ ?_
        clear bw5 hb45 hT4
        rintro t5 ⟨bw5, hb45⟩
        have S5 := Hid.intro (And.intro bw5 hb45)
        clear bw5 hb45
        generalize t4.heap.size = N1 at *
        generalize hW1 : N1 + 1 = W1 at *
        clear hW1
        go_cut [21, 22, 23, 24] from 59 to 222 (fun s21 s22 s23 s24 wx => s21 = .bool bN ∧ Box wx W1 (.int .i64 nf) (.int .i64 nn) ∧ Below W1 T4 wx)
        case first =>
          go_wp2_with fail
          go_loopw [21, 22] (fun isv kv wk => ∃ (k : Nat) (b : Bool) (wf wn : Int), k ≤ qs.length ∧ kv = .int .i64 k ∧ isv = .bool b ∧ Box wk W1 (.int .i64 wf) (.int .i64 wn) ∧ (b = false → wf = 0 ∧ wn = 0 ∧ nextR (qs.drop k) x = nextR qs x) ∧ (b = true → nextR qs x = some (wf, wn)) ∧ Below W1 T4 wk) (fun _ kv _ => qs.length - (intOf kv).toNat)
          case atStart => exact ⟨0, false, 0, 0, Nat.zero_le _, rfl, rfl, S5.out.1, fun _ => ⟨rfl, rfl, rfl⟩, (fun h => by cases h), S5.out.2⟩
          case round =>
            clear S5
            obtain ⟨k, b, wf, wn, hk, rfl, rfl, hbw, hbf, hbt, hBw⟩ := hrel
            have k0 : (0 : Int) ≤ (k : Int) := Int.natCast_nonneg _
            have B4 : Below T4.heap.size T4 wr := by rw [hzT.out]; exact hBw
            have ow := Hid.intro (own_below ow4.out B4)
            have bw := Hid.intro hbw
            have hbf' := Hid.intro hbf
            have hbt' := Hid.intro hbt
            clear B4 hbf hbt hbw
            cases b with
            | true =>
              have hend := Hid.intro (next_end_t hnx (hbt'.out rfl))
              by_cases hkl : k < qs.length
              · have k1 : (k : Int) < (qs.length : Int) := by omega
                go_wp2_with fail
                go_meet
                exact ⟨by rw [hend.out.1], by rw [hend.out.2.1, hend.out.2.2]; exact bw.out, hBw⟩
              · have k1 : ¬ (k : Int) < (qs.length : Int) := by omega
                go_wp2_with fail
                go_meet
                exact ⟨by rw [hend.out.1], by rw [hend.out.2.1, hend.out.2.2]; exact bw.out, hBw⟩
            | false =>
              obtain ⟨rfl, rfl, hdr⟩ := hbf'.out rfl
              by_cases hkl : k < qs.length
              · have k1 : (k : Int) < (qs.length : Int) := by omega
                obtain ⟨g2, c2', hvf, _, hg2⟩ := ow.out.form (by omega)
                cases hvf
                obtain ⟨⟨p, q⟩, hp⟩ : ∃ p, qs[k]? = some p := ⟨qs[k]'hkl, by simp [hkl]⟩
                have hd : qs.drop k = (p, q) :: qs.drop (k + 1) := by rw [List.drop_eq_getElem_cons hkl]; congr 1; simp [hkl] at hp; exact hp
                have hwp := canon_whole CT.out _ (List.mem_of_getElem? hp)
                obtain ⟨p0, p1, p2⟩ := hwp
                simp only at p0 p1 p2
                obtain ⟨e0, e1⟩ := row_cells ow.out k _ hp
                simp only at e0 e1
                rw [hd, nextR_cons] at hdr
                simp only at hdr
                obtain ⟨b0, b1, b2, b3⟩ := bw.out
                by_cases hend : x < p + q
                · rw [if_pos hend] at hdr
                  by_cases hxp : x < p
                  · rw [if_pos hxp] at hdr
                    have hdr' := Hid.intro hdr
                    clear hdr hd hp
                    go_wp2_with fail
                    go_quiet (fail)
                    go_wp2
                    go_roundw
                    case rel => exact ⟨k + 1, true, p, p + q - p, by omega, by go_num, rfl, Box.set (w := wr.drewN nq) ⟨b0, b1, b2, b3⟩ _ _, (fun h => by cases h), fun _ => hdr'.out.symm, below_set2 hBw (Nat.le_refl _)⟩
                    case measure => simp [intOf]; omega
                  · rw [if_neg hxp] at hdr
                    by_cases hpx : p < x
                    · have hdr' := Hid.intro hdr
                      clear hdr hd hp
                      go_wp2_with fail
                      go_quiet (fail)
                      go_wp2
                      go_roundw
                      case rel => exact ⟨k + 1, true, x, p + q - x, by omega, by go_num, rfl, Box.set (w := wr.drewN nq) ⟨b0, b1, b2, b3⟩ _ _, (fun h => by cases h), fun _ => hdr'.out.symm, below_set2 hBw (Nat.le_refl _)⟩
                      case measure => simp [intOf]; omega
                    · have hpe : p = x := by omega
                      subst hpe
                      have hdr' := Hid.intro hdr
                      clear hdr hd hp
                      go_wp2_with fail
                      go_quiet (fail)
                      go_wp2
                      go_roundw
                      case rel => exact ⟨k + 1, true, p, p + q - p, by omega, by go_num, rfl, Box.set (w := wr.drewN nq) ⟨b0, b1, b2, b3⟩ _ _, (fun h => by cases h), fun _ => hdr'.out.symm, below_set2 hBw (Nat.le_refl _)⟩
                      case measure => simp [intOf]; omega
                · rw [if_neg hend] at hdr
                  have hdr' := Hid.intro hdr
                  have hend' : p + q ≤ x := by omega
                  clear hdr hd hp
                  go_wp2_with fail
                  go_quiet (fail)
                  go_wp2
                  go_roundw
                  case rel => exact ⟨k + 1, false, 0, 0, by omega, by go_num, rfl, Box.same bw.out rfl, fun _ => ⟨rfl, rfl, hdr'.out⟩, (fun h => by cases h), hBw.trans ⟨rfl, rfl, rfl, Nat.le_refl _, fun _ _ => rfl⟩⟩
                  case measure => simp [intOf]; omega
              · have k1 : ¬ (k : Int) < (qs.length : Int) := by omega
                have hd : qs.drop k = [] := List.drop_eq_nil_of_le (by omega)
                rw [hd] at hdr
                have hend := Hid.intro (next_end_f hnx hdr.symm)
                clear hdr hd
                go_wp2_with fail
                go_meet
                exact ⟨by rw [hend.out.1], by rw [hend.out.2.1, hend.out.2.2]; exact bw.out, hBw⟩
        case rest =>
          obtain ⟨rfl, hbw, hBw⟩ := hcut
          have B4 : Below T4.heap.size T4 wc := by rw [hzT.out]; exact hBw
          have kt := Hid.intro (kt4.out.below B4)
          have rr := Hid.intro (rt4.out.below B4)
          have ar := Hid.intro (at4.out.below B4)
          have BB := below_step BB4 B4
          have bn := Hid.intro (bn4.out.below B4 bn4.out.lt)
          have bw := Hid.intro hbw
          have zN := bn.out.lt
          have zW := hbw.lt
          have row1 := Hid.intro (kept_last kt.out)
          have row2 := Hid.intro (own_row (own_below ow4.out B4))
          clear B4 hbw hBw kt4 rt4 at4 BB4 ow4 bn4 S5 hzT hnx
          go_upto_region 47 with fail
          rcases mode_of x with hneg | hbig | ⟨xN, xlt, hxN⟩
          · refine reg47_neg hneg CT rr ar bn bw row1 row2 (fun _ a D v z h => by cases D <;> exact h) ?_
            intro d185 d186 d187 d188 d189 d190 d191 d192 d193 d194 d195 d196 d197 d198 d199 d200 d201 d202 d203 d204 d205 d206 d207 d208 d209 d210 d211 d212 d213 d214 d215 d216 d217 d218 d219 d220 d221 z g4'
            go_wp2
            go_roundw
            case rel => exact ⟨i + 1, R', qs, es ++ [(v1, qs)], by omega, by go_num, rfl, hRw', rr.out.below g4', CT.out, ar.out.below g4', kt.out.below g4', by rw [List.length_append, hel'.out]; rfl, short_more hsh'.out (canon_64 CT.out), below_step BB g4'⟩
            case measure => simp [intOf]; omega
          · refine reg47_big hbig CT rr ar bn bw row1 row2 (fun _ a D v z h => by cases D <;> exact h) ?_
            intro d185 d186 d187 d188 d189 d190 d191 d192 d193 d194 d195 d196 d197 d198 d199 d200 d201 d202 d203 d204 d205 d206 d207 d208 d209 d210 d211 d212 d213 d214 d215 d216 d217 d218 d219 d220 d221 z g4'
            go_wp2
            go_roundw
            case rel => exact ⟨i + 1, R', qs, es ++ [(v1, qs)], by omega, by go_num, rfl, hRw', rr.out.below g4', CT.out, ar.out.below g4', kt.out.below g4', by rw [List.length_append, hel'.out]; rfl, short_more hsh'.out (canon_64 CT.out), below_step BB g4'⟩
            case measure => simp [intOf]; omega
          · subst hxN
            refine reg47_in xlt CT rr ar bn bw row1 row2 (fun _ a D v z h => by cases D <;> exact h) ?_
            intro d185 d186 d187 d188 d189 d190 d191 d192 d193 d194 d195 d196 d197 d198 d199 d200 d201 d202 d203 d204 d205 d206 d207 d208 d209 d210 d211 d212 d213 d214 d215 d216 d217 d218 d219 d220 d221 z g4'
            go_wp2
            go_roundw
            case rel => exact ⟨i + 1, R', qs, es ++ [(v1, qs)], by omega, by go_num, rfl, hRw', rr.out.below g4', CT.out, ar.out.below g4', kt.out.below g4', by rw [List.length_append, hel'.out]; rfl, short_more hsh'.out (canon_64 CT.out), below_step BB g4'⟩
            case measure => simp [intOf]; omega
    · have i1 : ¬ (i : Int) ≤ (m : Int) := by omega
      go_wp2_with fail
      refine (nil_next _).mono ?_; rintro e x1 ⟨rfl, hb1⟩
      have hba : Below x1.heap.size x1 (x1.alloc (.cells #[.int .i64 0, .int .i64 0] 49)) := (Below.refl _ _).alloc (Nat.le_refl _) _
      have hb01 := below_step hb1 hba
      clear hb1 hba
      go_wp2_with fail
      refine (nil_copy _).mono ?_; rintro e x2 ⟨cb, rfl, hc2, hb2⟩
      have hb02 := below_step hb01 hb2
      clear hb01 hb2
      have hn1 : Below x2.heap.size x2 (x2.alloc (.cells #[.int .i64 0, .int .i64 1] 49)) := (Below.refl _ _).alloc (Nat.le_refl _) _
      go_wp2_with fail
      refine (nil_put _ _).mono ?_; rintro e x3 ⟨rfl, hb3⟩
      have hb03 := below_step hb02 (below_step hn1 hb3)
      have hc3 := Hid.intro (hc2.out.below (below_step hn1 hb3))
      have hn2 : Below x3.heap.size x3 (x3.alloc (.cells #[.int .i64 0, .int .i64 1] 49)) := (Below.refl _ _).alloc (Nat.le_refl _) _
      clear hb02 hn1 hb3 hc2
      go_wp2_with fail
      refine (nil_cut _ _).mono ?_; rintro e x4 ⟨rfl, hb4⟩
      have hb04 := below_step hb03 (below_step hn2 hb4)
      have hc4 := Hid.intro (hc3.out.below (below_step hn2 hb4))
      clear hb03 hn2 hb4 hc3
      go_wp2_with fail
      refine (nil_count _).mono ?_; rintro e x5 ⟨rfl, hb5⟩
      have hb05 := below_step hb04 hb5
      have hc5 := Hid.intro (hc4.out.below hb5)
      clear hb04 hb5 hc4
      go_wp2_with fail
      refine (nil_all _).mono ?_; rintro e x6 ⟨rfl, hb6⟩
      have hb06 := below_step hb05 hb6
      have hc6 := Hid.intro (hc5.out.below hb6)
      clear hb05 hb6 hc5
      go_wp2_with fail
      refine (nil_has _).mono ?_; rintro e x7 ⟨rfl, hb7⟩
      have hb07 := below_step hb06 hb7
      have hc7 := Hid.intro (hc6.out.below hb7)
      clear hb06 hb7 hc6
      go_wp2_with fail
      refine (count_zero hc7.out).mono ?_; rintro e x8 ⟨rfl, hb8⟩
      have hb08 := below_step hb07 hb8
      have hc8 := Hid.intro (hc7.out.below hb8)
      clear hb07 hb8 hc7
      go_wp2_with fail
      refine (nil_same hc8.out).mono ?_; rintro e x9 ⟨rfl, hb9⟩
      have hb09 := below_step hb08 hb9
      clear hb08 hb9 hc8
      go_wp2_with fail
      refine (book_apart (hkk'.out.below hb09) (by have := hel'.out; omega) hsh'.out (Nat.le_refl _)).mono ?_; rintro e x10 ⟨rfl, hb10⟩
      go_wp2
      go_ret
      exact ⟨rfl, (below_step hB hb09).trans (hb10.mono hKw)⟩
end Go.Proofs.Ytpdbnldbdmhhfaa
