/-
  RunsPlay: a copy, apart.
-/
import Derived.Test.YtpdbnldbdmhhfaaPlay6
namespace Go.Proofs.Ytpdbnldbdmhhfaa
open Go.ChangeShapes Go.WideShapes Go.ChangeAt Go.RowKit
attribute [local go_sem ↓] Go.wp_at_zero Go.wp_at_succ
set_option linter.unusedVariables false

set_option maxRecDepth 1000000 in
set_option maxHeartbeats 8000000 in
theorem if_copy {Q : Exit → Act → World → Prop} {k0 k2 k3 k4 k5 k6 k7 k10 k12 k13 k14 k15 k16 k17 k18 k19 k20 k21 k22 k23 k24 k25 k26 k27 k28 k29 k30 k31 k32 k33 k34 k35 k36 k37 k38 k39 k40 k41 k42 k43 k44 k45 k46 k47 k48 k49 k50 k51 k52 k53 k54 k55 k56 k57 k58 k59 k60 k61 k62 k63 k64 k65 k67 k68 k69 k70 k71 k72 k73 k74 k75 k76 k77 k78 k79 k80 k81 k82 k83 k84 k85 k86 k87 k88 k89 k90 k91 k92 k93 k94 k95 k96 k97 k98 k99 k100 k101 k102 k103 k104 k105 k106 k107 k108 k109 k110 k111 k112 k113 k114 k115 k116 k117 k118 k119 k120 k121 k122 k123 k124 k125 k126 k127 k128 k129 k130 k131 k132 k133 k134 k135 k136 k137 k138 k139 k140 k141 k142 k143 k144 k145 k146 k147 k148 k149 k150 k151 k152 k153 k154 k155 k156 k157 k158 k159 k160 k161 k162 k163 k164 k165 k166 k167 k168 k169 k170 k171 k172 k173 k174 k175 k176 k177 k178 k179 k180 k181 k182 k183 k184 k185 k186 k187 k188 k189 k190 k191 k192 k193 k194 k195 k196 k197 k198 k199 k200 k201 k202 k203 k204 k205 k206 k207 k208 k209 k210 k211 k212 k213 k214 k215 k216 k217 k218 k219 k220 k221 k222 k223 k224 k225 k226 k227 k228 k229 k230 k231 k232 k233 k234 k235 k236 k237 k238 k239 k240 k241 k242 k243 k244 k245 k246 k247 k248 k249 k250 k251 k252 k253 k254 k255 k256 k257 k258 k259 k260 k261 k262 k263 k264 k265 k266 k267 k268 k269 k270 k271 k272 k273 : Value} {w wr : World} {X K R j m d g o cL : Nat} {aL : Option Addr} {L ps : List Sp} {es : List Ent} {kd : Int} (hk1 : kd ≠ 1) (hk2' : kd ≠ 2) (hRw : w.heap.size ≤ R) (hXw : w.heap.size ≤ X) (hL20 : L.length ≤ 20) (jm' : (j : Int) < (m : Int)) (hm50 : (m : Int) ≤ 50)
    (e0 : wr.cell? ⟨g, o + j * 2, none⟩ = some (.int .i64 kd)) (e1 : wr.cell? ⟨g, o + j * 2 + 1, none⟩ = some (.slice aL L.length cL)) (hLr : Hid (Row w (.slice aL L.length cL) L)) (hLf : Hid (Fits L))
    (hrr' : Hid (RObj wr R ps)) (hcc' : Hid (Canon ps)) (haa' : Hid (Arr wr X ps)) (hkk' : Hid (Kept wr K K es)) (hB : Below w.heap.size w wr)
    (hp : Hid (∀ p (a : Act) (D : Option Tmp) (v : Value) (z : World), Q (Exit.panic p) (a.put D v) z → Q (Exit.panic p) a z))
    (hM : Hid (∀ (R2 : Nat) (q2 : List Sp) (d12 d13 d14 d15 d67 d68 d69 d70 d71 d72 d73 d74 d75 d76 d77 d78 d79 d80 d81 d82 d83 d84 d85 d86 d87 d88 d89 d90 d91 d92 d93 d94 d95 d96 d97 d98 d99 d100 d101 d102 d103 d104 d105 d106 d107 d108 d109 d110 d111 d112 d113 d114 d115 d116 d117 d118 d119 d120 d121 d122 d123 d124 d125 d126 d127 d128 d129 d130 d131 d132 d133 d134 : Value) (wx : World), w.heap.size ≤ R2 → RObj wx R2 q2 → Canon q2 → Arr wx X q2 → Kept wx K K es → Below w.heap.size w wx → Q .normal ⟨#[k0, .slice (some ⟨g, o, none⟩) m d, k2, k3, k4, k5, k6, k7, .pointer (some ⟨R2, 0, none⟩), .pointer (some ⟨X, 0, none⟩), k10, .int .i64 ((j + 1 : Nat) : Int), d12, d13, d14, d15, k16, k17, k18, k19, k20, k21, k22, k23, k24, k25, k26, k27, k28, k29, k30, k31, k32, k33, k34, k35, k36, k37, k38, k39, k40, k41, k42, k43, k44, k45, k46, k47, k48, k49, k50, k51, k52, k53, k54, k55, k56, k57, k58, k59, k60, k61, k62, k63, k64, k65, .bool true, d67, d68, d69, d70, d71, d72, d73, d74, d75, d76, d77, d78, d79, d80, d81, d82, d83, d84, d85, d86, d87, d88, d89, d90, d91, d92, d93, d94, d95, d96, d97, d98, d99, d100, d101, d102, d103, d104, d105, d106, d107, d108, d109, d110, d111, d112, d113, d114, d115, d116, d117, d118, d119, d120, d121, d122, d123, d124, d125, d126, d127, d128, d129, d130, d131, d132, d133, d134, k135, k136, k137, k138, k139, k140, k141, k142, k143, k144, k145, k146, k147, k148, k149, k150, k151, k152, k153, k154, k155, k156, k157, k158, k159, k160, k161, k162, k163, k164, k165, k166, k167, k168, k169, k170, k171, k172, k173, k174, k175, k176, k177, k178, k179, k180, k181, k182, k183, k184, k185, k186, k187, k188, k189, k190, k191, k192, k193, k194, k195, k196, k197, k198, k199, k200, k201, k202, k203, k204, k205, k206, k207, k208, k209, k210, k211, k212, k213, k214, k215, k216, k217, k218, k219, k220, k221, k222, k223, k224, k225, k226, k227, k228, k229, k230, k231, k232, k233, k234, k235, k236, k237, k238, k239, k240, k241, k242, k243, k244, k245, k246, k247, k248, k249, k250, k251, k252, k253, k254, k255, k256, k257, k258, k259, k260, k261, k262, k263, k264, k265, k266, k267, k268, k269, k270, k271, k272, k273], []⟩ wx)) :
    Code.wp Try.prog if66 Q ⟨#[k0, .slice (some ⟨g, o, none⟩) m d, k2, k3, k4, k5, k6, k7, .pointer (some ⟨R, 0, none⟩), .pointer (some ⟨X, 0, none⟩), k10, .int .i64 ((j + 1 : Nat) : Int), k12, k13, k14, k15, k16, k17, k18, k19, k20, k21, k22, k23, k24, k25, k26, k27, k28, k29, k30, k31, k32, k33, k34, k35, k36, k37, k38, k39, k40, k41, k42, k43, k44, k45, k46, k47, k48, k49, k50, k51, k52, k53, k54, k55, k56, k57, k58, k59, k60, k61, k62, k63, k64, k65, .bool true, k67, k68, k69, k70, k71, k72, k73, k74, k75, k76, k77, k78, k79, k80, k81, k82, k83, k84, k85, k86, k87, k88, k89, k90, k91, k92, k93, k94, k95, k96, k97, k98, k99, k100, k101, k102, k103, k104, k105, k106, k107, k108, k109, k110, k111, k112, k113, k114, k115, k116, k117, k118, k119, k120, k121, k122, k123, k124, k125, k126, k127, k128, k129, k130, k131, k132, k133, k134, k135, k136, k137, k138, k139, k140, k141, k142, k143, k144, k145, k146, k147, k148, k149, k150, k151, k152, k153, k154, k155, k156, k157, k158, k159, k160, k161, k162, k163, k164, k165, k166, k167, k168, k169, k170, k171, k172, k173, k174, k175, k176, k177, k178, k179, k180, k181, k182, k183, k184, k185, k186, k187, k188, k189, k190, k191, k192, k193, k194, k195, k196, k197, k198, k199, k200, k201, k202, k203, k204, k205, k206, k207, k208, k209, k210, k211, k212, k213, k214, k215, k216, k217, k218, k219, k220, k221, k222, k223, k224, k225, k226, k227, k228, k229, k230, k231, k232, k233, k234, k235, k236, k237, k238, k239, k240, k241, k242, k243, k244, k245, k246, k247, k248, k249, k250, k251, k252, k253, k254, k255, k256, k257, k258, k259, k260, k261, k262, k263, k264, k265, k266, k267, k268, k269, k270, k271, k272, k273], []⟩ wr := by
  have j0 : (0 : Int) ≤ (j : Int) := Int.natCast_nonneg _
  have HPs := Hid.intro (bv_facts ps)
  have l20 : ((L.length : Nat) : Int) ≤ 20 := by omega
  have hbO : Below wr.heap.size wr (wr.alloc (.cells #[.int .i64 kd, .slice aL L.length cL] 43)) := (Below.refl _ _).alloc (Nat.le_refl _) _
  have bO1 := Hid.intro (Box.new wr (.int .i64 kd) (.slice aL L.length cL) 43)
  have zO := haa'.out.lt
  have zR := hrr'.out.lt
  conv => arg 2; whnf
  go_wp2_with fail
  refine (lent_any (hLr.out.below (below_step hB hbO)) (by omega)).mono ?_; rintro e w2 ⟨nv, rfl, hn2, hb2⟩
  have hb02 := below_step hbO hb2
  have ha2 := Hid.intro (haa'.out.below hb02)
  have hr2 := Hid.intro (hrr'.out.below hb02)
  have hk2 := Hid.intro (hkk'.out.below hb02)
  have bO2 := Hid.intro (bO1.out.below hb2 bO1.out.lt)
  have hB2 := below_step hB hb02
  have hOX : wr.heap.size ≠ X := by omega
  have hOR : wr.heap.size ≠ R := by omega
  have hn2' := Hid.intro hn2
  have r2 := ha2.out.2
  clear hn2 hb2 hb02 bO1 hbO e0 e1 haa' hrr' hkk' hB
  generalize wr.heap.size = O at *
  go_wp2_with (first | (refine wpList_load_mid rfl 30 _ rfl X 0 rfl (bv (bitsOf ps)) _ r2 Try.underlying30 rfl HPs.out.2.1 ?_))
  refine (refCount_any ps _ hcc').mono ?_; rintro e w3 ⟨rfl, hb3⟩
  have ha3 := Hid.intro (ha2.out.below hb3)
  have hr3 := Hid.intro (hr2.out.below hb3)
  have hk3 := Hid.intro (hk2.out.below hb3)
  have hn3 := Hid.intro (hn2'.out.below hb3)
  have bO3 := Hid.intro (bO2.out.below hb3 bO2.out.lt)
  have hB3 := below_step hB2 hb3
  clear ha2 hr2 hk2 hn2' bO2 hB2 hb3 r2
  obtain ⟨o0, o1, o2, o3⟩ := bO3.out
  have hk1b : (kd == 1) = false := by simpa using hk1
  have hk2b : (kd == 2) = false := by simpa using hk2'
  obtain ⟨cp0, cp1⟩ := cnt_bound hcc'.out
  go_wp2_with fail
  refine (copy_any hr3.out hcc'.out).mono ?_; rintro e w4 ⟨cb, rfl, hcb, hc4, hb4⟩
  have ha4 := Hid.intro (ha3.out.below hb4)
  have hr4 := Hid.intro (hr3.out.below hb4)
  have hk4 := Hid.intro (hk3.out.below hb4)
  have hn4 := Hid.intro (hn3.out.below hb4)
  have bO4 := Hid.intro (bO3.out.below hb4 bO3.out.lt)
  have hB4 := below_step hB3 hb4
  have hcR : cb ≠ R := by have := hr3.out.lt; omega
  have hcw : w.heap.size ≤ cb := by have := hB3.size; omega
  clear ha3 hr3 hk3 hn3 bO3 hB3 hb4 o0 o1 o2 o3
  go_wp2_with fail
  refine (same_t hc4.out hr4.out (by have := canon_64 hcc'.out; omega)).mono ?_; rintro e w5 ⟨rfl, hb5⟩
  have hn3 : Below w5.heap.size w5 (w5.alloc (.cells #[.int .i64 0, .int .i64 3] 49)) := (Below.refl _ _).alloc (Nat.le_refl _) _
  have hb45 := below_step hb5 hn3
  have hrow3 : Hid (Row (w5.alloc (.cells #[.int .i64 0, .int .i64 3] 49)) (.slice (some ⟨w5.heap.size, 0, none⟩) 1 1) [(0, 3)]) := Hid.intro (.inr ⟨w5.heap.size, 0, 1, rfl, by simp, cells_one w5 0 3⟩)
  have ha5 := Hid.intro (ha4.out.below hb45)
  have hr5 := Hid.intro (hr4.out.below hb45)
  have hc5 := Hid.intro (hc4.out.below hb45)
  have hk5 := Hid.intro (hk4.out.below hb45)
  have hn5 := Hid.intro (hn4.out.below hb45)
  have bO5 := Hid.intro (bO4.out.below hb45 bO4.out.lt)
  have hB5 := below_step hB4 hb45
  clear ha4 hr4 hc4 hk4 hn4 bO4 hB4 hb5 hb45 hn3
  go_wp2_with fail
  refine (put_sym hr5.out hcc'.out hrow3.out fits03 (by decide)).mono ?_; rintro e w6 ⟨z6, qs, rfl, cQ, hr6, hb6⟩
  have ha6 := Hid.intro (ha5.out.but hr5.out hb6)
  have hc6 := Hid.intro (hc5.out.but hr5.out hb6 hcR)
  have hk6 := Hid.intro (hk5.out.but hr5.out hb6)
  have hn6 := Hid.intro (hn5.out.but hr5.out hb6)
  have bO6 := Hid.intro (bO5.out.butAt hb6 hOR)
  have hB6 : Below w.heap.size w w6 := hB5.trans (hb6.belowAt hRw hB5.size)
  clear ha5 hr5 hc5 hk5 hn5 bO5 hB5 hb6 hrow3
  obtain ⟨o0, o1, o2, o3⟩ := bO6.out
  go_wp2_with fail
  refine (cut_sym hr6.out cQ.out (hLr.out.below hB6) hLf.out (by omega)).mono ?_; rintro e w7 ⟨z7, rfl, hb7⟩
  have ha7 := Hid.intro (ha6.out.but hr6.out hb7)
  have hc7 := Hid.intro (hc6.out.but hr6.out hb7 hcR)
  have hk7 := Hid.intro (hk6.out.but hr6.out hb7)
  have hn7 := Hid.intro (hn6.out.but hr6.out hb7)
  have bO7 := Hid.intro (bO6.out.butAt hb7 hOR)
  have hB7 : Below w.heap.size w w7 := hB6.trans (hb7.belowAt hRw hB6.size)
  clear ha6 hr6 hc6 hk6 hn6 bO6 hB6 hb7 o0 o1 o2 o3
  obtain ⟨o0, o1, o2, o3⟩ := bO7.out
  go_wp2_with fail
  refine (stays_any hn7.out (hLr.out.below hB7) (by omega)).mono ?_; rintro e w8 ⟨rfl, g3⟩
  go_wp2_with fail
  exact hM.out cb ps _ _ _ _ _ _ _ _ _ _ _ _ _ _ _ _ _ _ _ _ _ _ _ _ _ _ _ _ _ _ _ _ _ _ _ _ _ _ _ _ _ _ _ _ _ _ _ _ _ _ _ _ _ _ _ _ _ _ _ _ _ _ _ _ _ _ _ _ _ _ _ _ _ hcw (hc7.out.below g3) (hcc'.out) (ha7.out.below g3) (hk7.out.below g3) (below_step hB7 g3)
end Go.Proofs.Ytpdbnldbdmhhfaa
