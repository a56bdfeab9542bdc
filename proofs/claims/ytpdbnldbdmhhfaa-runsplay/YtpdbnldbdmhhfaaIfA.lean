/-
  RunsPlay: a Put, apart.
-/
import Derived.Test.YtpdbnldbdmhhfaaPlay6
namespace Go.Proofs.Ytpdbnldbdmhhfaa
open Go.ChangeShapes Go.WideShapes Go.ChangeAt Go.RowKit
attribute [local go_sem ↓] Go.wp_at_zero Go.wp_at_succ
set_option linter.unusedVariables false

set_option maxRecDepth 1000000 in
set_option maxHeartbeats 8000000 in
theorem if_put {Q : Exit → Act → World → Prop} {k0 k2 k3 k4 k5 k6 k7 k10 k12 k13 k14 k15 k16 k17 k18 k19 k20 k21 k22 k23 k24 k25 k26 k27 k28 k29 k30 k31 k32 k33 k34 k35 k36 k37 k38 k39 k40 k41 k42 k43 k44 k45 k46 k47 k48 k49 k50 k51 k52 k53 k54 k55 k56 k57 k58 k59 k60 k61 k62 k63 k64 k65 k67 k68 k69 k70 k71 k72 k73 k74 k75 k76 k77 k78 k79 k80 k81 k82 k83 k84 k85 k86 k87 k88 k89 k90 k91 k92 k93 k94 k95 k96 k97 k98 k99 k100 k101 k102 k103 k104 k105 k106 k107 k108 k109 k110 k111 k112 k113 k114 k115 k116 k117 k118 k119 k120 k121 k122 k123 k124 k125 k126 k127 k128 k129 k130 k131 k132 k133 k134 k135 k136 k137 k138 k139 k140 k141 k142 k143 k144 k145 k146 k147 k148 k149 k150 k151 k152 k153 k154 k155 k156 k157 k158 k159 k160 k161 k162 k163 k164 k165 k166 k167 k168 k169 k170 k171 k172 k173 k174 k175 k176 k177 k178 k179 k180 k181 k182 k183 k184 k185 k186 k187 k188 k189 k190 k191 k192 k193 k194 k195 k196 k197 k198 k199 k200 k201 k202 k203 k204 k205 k206 k207 k208 k209 k210 k211 k212 k213 k214 k215 k216 k217 k218 k219 k220 k221 k222 k223 k224 k225 k226 k227 k228 k229 k230 k231 k232 k233 k234 k235 k236 k237 k238 k239 k240 k241 k242 k243 k244 k245 k246 k247 k248 k249 k250 k251 k252 k253 k254 k255 k256 k257 k258 k259 k260 k261 k262 k263 k264 k265 k266 k267 k268 k269 k270 k271 k272 k273 : Value} {w wr : World} {X K R j m d g o cL : Nat} {aL : Option Addr} {L ps : List Sp} {es : List Ent}  (hRw : w.heap.size ≤ R) (hXw : w.heap.size ≤ X) (hL20 : L.length ≤ 20) (jm' : (j : Int) < (m : Int)) (hm50 : (m : Int) ≤ 50)
    (e0 : wr.cell? ⟨g, o + j * 2, none⟩ = some (.int .i64 1)) (e1 : wr.cell? ⟨g, o + j * 2 + 1, none⟩ = some (.slice aL L.length cL)) (hLr : Hid (Row w (.slice aL L.length cL) L)) (hLf : Hid (Fits L))
    (hrr' : Hid (RObj wr R ps)) (hcc' : Hid (Canon ps)) (haa' : Hid (Arr wr X ps)) (hkk' : Hid (Kept wr K K es)) (hB : Below w.heap.size w wr)
    (hp : Hid (∀ p (a : Act) (D : Option Tmp) (v : Value) (z : World), Q (Exit.panic p) (a.put D v) z → Q (Exit.panic p) a z))
    (hM : Hid (∀ (R2 : Nat) (q2 : List Sp) (d12 d13 d14 d15 d67 d68 d69 d70 d71 d72 d73 d74 d75 d76 d77 d78 d79 d80 d81 d82 d83 d84 d85 d86 d87 d88 d89 d90 d91 d92 d93 d94 d95 d96 d97 d98 d99 d100 d101 d102 d103 d104 d105 d106 d107 d108 d109 d110 d111 d112 d113 d114 d115 d116 d117 d118 d119 d120 d121 d122 d123 d124 d125 d126 d127 d128 d129 d130 d131 d132 d133 d134 : Value) (wx : World), w.heap.size ≤ R2 → RObj wx R2 q2 → Canon q2 → Arr wx X q2 → Kept wx K K es → Below w.heap.size w wx → Q .normal ⟨#[k0, .slice (some ⟨g, o, none⟩) m d, k2, k3, k4, k5, k6, k7, .pointer (some ⟨R2, 0, none⟩), .pointer (some ⟨X, 0, none⟩), k10, .int .i64 ((j + 1 : Nat) : Int), d12, d13, d14, d15, k16, k17, k18, k19, k20, k21, k22, k23, k24, k25, k26, k27, k28, k29, k30, k31, k32, k33, k34, k35, k36, k37, k38, k39, k40, k41, k42, k43, k44, k45, k46, k47, k48, k49, k50, k51, k52, k53, k54, k55, k56, k57, k58, k59, k60, k61, k62, k63, k64, k65, .bool true, d67, d68, d69, d70, d71, d72, d73, d74, d75, d76, d77, d78, d79, d80, d81, d82, d83, d84, d85, d86, d87, d88, d89, d90, d91, d92, d93, d94, d95, d96, d97, d98, d99, d100, d101, d102, d103, d104, d105, d106, d107, d108, d109, d110, d111, d112, d113, d114, d115, d116, d117, d118, d119, d120, d121, d122, d123, d124, d125, d126, d127, d128, d129, d130, d131, d132, d133, d134, k135, k136, k137, k138, k139, k140, k141, k142, k143, k144, k145, k146, k147, k148, k149, k150, k151, k152, k153, k154, k155, k156, k157, k158, k159, k160, k161, k162, k163, k164, k165, k166, k167, k168, k169, k170, k171, k172, k173, k174, k175, k176, k177, k178, k179, k180, k181, k182, k183, k184, k185, k186, k187, k188, k189, k190, k191, k192, k193, k194, k195, k196, k197, k198, k199, k200, k201, k202, k203, k204, k205, k206, k207, k208, k209, k210, k211, k212, k213, k214, k215, k216, k217, k218, k219, k220, k221, k222, k223, k224, k225, k226, k227, k228, k229, k230, k231, k232, k233, k234, k235, k236, k237, k238, k239, k240, k241, k242, k243, k244, k245, k246, k247, k248, k249, k250, k251, k252, k253, k254, k255, k256, k257, k258, k259, k260, k261, k262, k263, k264, k265, k266, k267, k268, k269, k270, k271, k272, k273], []⟩ wx)) :
    Code.wp Try.prog if66 Q ⟨#[k0, .slice (some ⟨g, o, none⟩) m d, k2, k3, k4, k5, k6, k7, .pointer (some ⟨R, 0, none⟩), .pointer (some ⟨X, 0, none⟩), k10, .int .i64 ((j + 1 : Nat) : Int), k12, k13, k14, k15, k16, k17, k18, k19, k20, k21, k22, k23, k24, k25, k26, k27, k28, k29, k30, k31, k32, k33, k34, k35, k36, k37, k38, k39, k40, k41, k42, k43, k44, k45, k46, k47, k48, k49, k50, k51, k52, k53, k54, k55, k56, k57, k58, k59, k60, k61, k62, k63, k64, k65, .bool true, k67, k68, k69, k70, k71, k72, k73, k74, k75, k76, k77, k78, k79, k80, k81, k82, k83, k84, k85, k86, k87, k88, k89, k90, k91, k92, k93, k94, k95, k96, k97, k98, k99, k100, k101, k102, k103, k104, k105, k106, k107, k108, k109, k110, k111, k112, k113, k114, k115, k116, k117, k118, k119, k120, k121, k122, k123, k124, k125, k126, k127, k128, k129, k130, k131, k132, k133, k134, k135, k136, k137, k138, k139, k140, k141, k142, k143, k144, k145, k146, k147, k148, k149, k150, k151, k152, k153, k154, k155, k156, k157, k158, k159, k160, k161, k162, k163, k164, k165, k166, k167, k168, k169, k170, k171, k172, k173, k174, k175, k176, k177, k178, k179, k180, k181, k182, k183, k184, k185, k186, k187, k188, k189, k190, k191, k192, k193, k194, k195, k196, k197, k198, k199, k200, k201, k202, k203, k204, k205, k206, k207, k208, k209, k210, k211, k212, k213, k214, k215, k216, k217, k218, k219, k220, k221, k222, k223, k224, k225, k226, k227, k228, k229, k230, k231, k232, k233, k234, k235, k236, k237, k238, k239, k240, k241, k242, k243, k244, k245, k246, k247, k248, k249, k250, k251, k252, k253, k254, k255, k256, k257, k258, k259, k260, k261, k262, k263, k264, k265, k266, k267, k268, k269, k270, k271, k272, k273], []⟩ wr := by
  have j0 : (0 : Int) ≤ (j : Int) := Int.natCast_nonneg _
  have HPs := Hid.intro (bv_facts ps)
  have l20 : ((L.length : Nat) : Int) ≤ 20 := by omega
  have hbO : Below wr.heap.size wr (wr.alloc (.cells #[.int .i64 1, .slice aL L.length cL] 43)) := (Below.refl _ _).alloc (Nat.le_refl _) _
  have bO1 := Hid.intro (Box.new wr (.int .i64 1) (.slice aL L.length cL) 43)
  have zO := haa'.out.lt
  have zR := hrr'.out.lt
  conv => arg 2; whnf
  go_wp2_with fail
  refine (lent_any (hLr.out.below (below_step hB hbO)) (by omega)).mono ?_; rintro e w2 ⟨nv, rfl, hn2, hb2⟩
  have hb02 := below_step hbO hb2
  have ha2 := Hid.intro (haa'.out.below hb02)
  have hr2 := Hid.intro (hrr'.out.below hb02)
  have hk2 := Hid.intro (hkk'.out.below hb02)
  have bO2 := Hid.intro (bO1.out.below hb2 bO1.out.lt)
  have hB2 := below_step hB hb02
  have hOX : wr.heap.size ≠ X := by omega
  have hOR : wr.heap.size ≠ R := by omega
  have hn2' := Hid.intro hn2
  have r2 := ha2.out.2
  clear hn2 hb2 hb02 bO1 hbO e0 e1 haa' hrr' hkk' hB
  generalize wr.heap.size = O at *
  go_wp2_with (first | (refine wpList_load_mid rfl 30 _ rfl X 0 rfl (bv (bitsOf ps)) _ r2 Try.underlying30 rfl HPs.out.2.1 ?_))
  refine (refCount_any ps _ hcc').mono ?_; rintro e w3 ⟨rfl, hb3⟩
  have ha3 := Hid.intro (ha2.out.below hb3)
  have hr3 := Hid.intro (hr2.out.below hb3)
  have hk3 := Hid.intro (hk2.out.below hb3)
  have hn3 := Hid.intro (hn2'.out.below hb3)
  have bO3 := Hid.intro (bO2.out.below hb3 bO2.out.lt)
  have hB3 := below_step hB2 hb3
  clear ha2 hr2 hk2 hn2' bO2 hB2 hb3 r2
  obtain ⟨o0, o1, o2, o3⟩ := bO3.out
  have hone : True := trivial
  clear hone
  obtain ⟨qs, hQ⟩ : ∃ qs, Hid (putR ps L = qs) := ⟨_, rfl⟩
  have cQ : Hid (Canon qs) := Hid.intro (by rw [← hQ.out]; exact (put_spec L ps hcc'.out).1)
  have HQ := Hid.intro (bv_facts qs)
  have sQ : Hid ((bv (bitsOf qs)).toArray.size = 64) := Hid.intro (by simp [HQ.out.1])
  obtain ⟨cq0, cq1⟩ := cnt_bound cQ.out
  obtain ⟨cp0, cp1⟩ := cnt_bound hcc'.out
  have hwr : IntKind.i64.wrap (cnt qs - cnt ps) = cnt qs - cnt ps := by rw [IntKind.wrap_i64]; omega
  have r3 := ha3.out.2
  go_wp2_with (first | (refine wpList_load_mid rfl 30 _ rfl X 0 rfl (bv (bitsOf ps)) _ r3 Try.underlying30 rfl HPs.out.2.1 ?_))
  refine (refOn_row (hLr.out.below hB3) (by omega) hcc'.out).mono ?_; rintro e w4 ⟨rfl, hb4⟩
  rw [hQ.out]
  have ha4 := Hid.intro (ha3.out.below hb4)
  have hr4 := Hid.intro (hr3.out.below hb4)
  have hk4 := Hid.intro (hk3.out.below hb4)
  have hn4 := Hid.intro (hn3.out.below hb4)
  have bO4 := Hid.intro (bO3.out.below hb4 bO3.out.lt)
  have hB4 := below_step hB3 hb4
  clear ha3 hr3 hk3 hn3 bO3 hB3 hb4 r3 o0 o1 o2 o3
  go_wp2_with (first | (refine wpList_store_mid rfl 30 _ _ rfl X 0 (bv (bitsOf qs)).toArray rfl rfl (by rw [sQ.out]; exact ha4.out.there) HQ.out.2.2.2 HQ.out.2.2.1 ?_; refine gen_list _ (fun w5 => Arr w5 X qs ∧ But X w4 w5) ⟨ha4.out.set qs, set_but w4 X _⟩ ?_; rintro w5 ⟨ha5, hbX⟩; have ha5' := Hid.intro ha5; clear ha5))
  have ha5 := ha5'
  have hr5 := Hid.intro (hr4.out.butArr ha4.out hbX)
  have hk5 := Hid.intro (hk4.out.butArr ha4.out hbX)
  have hn5 := Hid.intro (hn4.out.butAt hbX (lent_arr hn4.out ha4.out hL20))
  have bO5 := Hid.intro (bO4.out.butAt hbX hOX)
  have hB5 : Below w.heap.size w w5 := hB4.trans (hbX.belowAt hXw hB4.size)
  clear ha4 hr4 hk4 hn4 bO4 hB4 hbX ha5'
  refine wp_region_held_drew (S := fun w' => w'.rangeAt X 0 (bv (bitsOf qs))) (by kernel_rfl) ha5.out.2 (fun hHeld => ?_)
  refine wpAnyH_take (i := 0) (v := .pointer (some ⟨R, 0, none⟩)) rfl (by kernel_rfl) (by kernel_rfl) (by kernel_rfl) (fun p a z h => hp.out p a _ _ z h) (Or.inl ⟨by rfl, fun w' hSw => by clear hSw; go_simp⟩) hHeld ?_
  change wpAnyH _ _ _ _ _ _ _ (Act.put _ (some 108) _) _
  simp only [Act.put, List.setIfInBounds_toArray, List.set_cons_zero, List.set_cons_succ]
  refine wpAnyH_take (i := 1) (v := nv) rfl (by kernel_rfl) (by kernel_rfl) (by kernel_rfl) (fun p a z h => hp.out p a _ _ z h) (Or.inl ⟨by rfl, fun w' hSw => by clear hSw; go_simp⟩) hHeld ?_
  change wpAnyH _ _ _ _ _ _ _ (Act.put _ (some 109) _) _
  simp only [Act.put, List.setIfInBounds_toArray, List.set_cons_zero, List.set_cons_succ]
  refine wpAnyH_take (i := 3) (v := .agg (bv (bitsOf qs)).toArray) rfl (by kernel_rfl) (by kernel_rfl) (by kernel_rfl) (fun p a z h => hp.out p a _ _ z h) (yieldsIf_load_mid (by rfl) 30 _ rfl (X) 0 rfl (bv (bitsOf qs)) _ (fun w h => h) Try.underlying30 rfl HQ.out.2.1) hHeld ?_
  change wpAnyH _ _ _ _ _ _ _ (Act.put _ (some 111) _) _
  simp only [Act.put, List.setIfInBounds_toArray, List.set_cons_zero, List.set_cons_succ]
  refine wpAnyH_take (i := 5) (v := .int .i64 (cnt ps)) rfl (by kernel_rfl) (by kernel_rfl) (by kernel_rfl) (fun p a z h => hp.out p a _ _ z h) (Or.inl ⟨by rfl, fun w' hSw => by clear hSw; go_simp⟩) hHeld ?_
  change wpAnyH _ _ _ _ _ _ _ (Act.put _ (some 113) _) _
  simp only [Act.put, List.setIfInBounds_toArray, List.set_cons_zero, List.set_cons_succ]
  refine wpAnyH_ready (rs := [2]) (by kernel_rfl) (by simp) ?_
  refine AllReadyH.cons rfl (fun K hK => ?_) AllReadyH.nil
  go_simp
  refine (put_any (hr5.out.below below_drw) hcc'.out (hn5.out.row.below below_drw) hLf.out (by omega)).mono ?_; rintro e z1 ⟨rfl, hr6, hb6⟩
  rw [hQ.out] at hr6 ⊢
  have g1 : But R w5 z1 := (But.of below_drw).trans hb6
  have ha6 := Hid.intro (ha5.out.but hr5.out g1)
  have hk6 := Hid.intro (hk5.out.but hr5.out g1)
  have hn6 := Hid.intro (hn5.out.but hr5.out g1)
  have hr6' := Hid.intro hr6
  have bO6 := Hid.intro (bO5.out.butAt g1 hOR)
  have hB6 : Below w.heap.size w z1 := hB5.trans (g1.belowAt hRw (hB5.size))
  refine hK.out _ _ ha6.out.2 (fun hHeld => ?_); clear hK K
  refine wpAnyH_ready (rs := [4]) (by kernel_rfl) (by simp) ?_
  refine AllReadyH.cons rfl (fun K hK => ?_) AllReadyH.nil
  go_simp
  refine (refCount_any qs _ cQ).mono ?_; rintro e z2 ⟨rfl, g2⟩
  refine hK.out _ _ (range_below g2 ha6.out.lt ha6.out.2) (fun hHeld => ?_); clear hK K
  refine wpAnyH_take (i := 6) (v := .int .i64 (cnt qs - cnt ps)) rfl (by kernel_rfl) (by kernel_rfl) (by kernel_rfl) (fun p a z h => hp.out p a _ _ z h) (Or.inl ⟨by rfl, fun w' hSw => by clear hSw; go_simp⟩) hHeld ?_
  change wpAnyH _ _ _ _ _ _ _ (Act.put _ (some 114) _) _
  simp only [Act.put, List.setIfInBounds_toArray, List.set_cons_zero, List.set_cons_succ]
  refine wpAnyH_take (i := 7) (v := .bool false) rfl (by kernel_rfl) (by kernel_rfl) (by kernel_rfl) (fun p a z h => hp.out p a _ _ z h) (Or.inl ⟨by rfl, fun w' hSw => by clear hSw; go_simp⟩) hHeld ?_
  change wpAnyH _ _ _ _ _ _ _ (Act.put _ (some 115) _) _
  simp only [Act.put, List.setIfInBounds_toArray, List.set_cons_zero, List.set_cons_succ]
  refine wpAnyH_done (by kernel_rfl) ?_ _
  clear hHeld
  obtain ⟨o0, o1, o2, o3⟩ := bO6.out.below g2 bO6.out.lt
  have hB7 := below_step hB6 g2
  go_wp2_with fail
  refine (stays_any (hn6.out.below g2) (hLr.out.below hB7) (by omega)).mono ?_; rintro e z3 ⟨rfl, g3⟩
  have g23 := below_step g2 g3
  go_wp2_with fail
  exact hM.out R qs _ _ _ _ _ _ _ _ _ _ _ _ _ _ _ _ _ _ _ _ _ _ _ _ _ _ _ _ _ _ _ _ _ _ _ _ _ _ _ _ _ _ _ _ _ _ _ _ _ _ _ _ _ _ _ _ _ _ _ _ _ _ _ _ _ _ _ _ _ _ _ _ _ hRw (hr6'.out.below g23) (cQ.out) (ha6.out.below g23) (hk6.out.below g23) (below_step hB6 g23)
end Go.Proofs.Ytpdbnldbdmhhfaa
