/-
  DirtPlays: its pieces joined.
-/
import Derived.Test.YtohjdpdmabjdaaaPlay39neg
import Derived.Test.YtohjdpdmabjdaaaPlay39big
import Derived.Test.YtohjdpdmabjdaaaPlay39in
import Derived.Test.YtohjdpdmabjdaaaPlaySwM
import Derived.Test.YtohjdpdmabjdaaaPlaySwOa
import Derived.Test.YtohjdpdmabjdaaaPlaySwOb
import Derived.Test.YtohjdpdmabjdaaaPlaySwOc
import Derived.Test.YtohjdpdmabjdaaaPlaySwOd
import Derived.Test.YtohjdpdmabjdaaaPlaySwOe
namespace Go.Proofs.Ytohjdpdmabjdaaa
open Go.ChangeShapes Go.WideShapes Go.ChangeAt Go.RowKit
attribute [local go_sem ↓] Go.wp_at_zero Go.wp_at_succ
set_option linter.unusedVariables false

noncomputable def pl6 : Code := ((Try.f3.body.bind (findRegion 6)).getD .skip)
noncomputable def pl42 : Code := ((Try.f3.body.bind (findRegion 42)).getD .skip)
theorem has_neg {w : World} {b B W : Nat} (k : Int) (h : DObj w b B W) (hW : W < 18446744073709551616) (hB : B ≤ 64) (hk : ¬ (0 ≤ k ∧ k < (B : Int))) :
    Calls Try.prog 21 #[.pointer (some ⟨b, 0, none⟩), .int .i64 k] w fun e w' => e = .returned (.bool false) ∧ w' = w := by
  have := dhas_any k h hW hB
  rwa [decide_eq_false hk, Bool.false_and] at this
set_option maxRecDepth 1000000 in
set_option maxHeartbeats 8000000 in
theorem pl6_walk {Q : Exit → Act → World → Prop} {k1 k2 k3 k4 k5 k6 k7 k8 k9 k10 k11 k12 k13 k14 k15 k16 k17 k18 k19 k20 k21 k22 k23 k24 k25 k26 k27 k28 k29 k30 k31 k32 k33 k34 k35 k36 k37 k38 k39 k40 k41 k42 k43 k44 k45 k46 k47 k48 k49 k50 k51 k52 k53 k54 k55 k56 k57 k58 k59 k60 k61 k62 k63 k64 k65 k66 k67 k68 k69 k70 k71 k72 k73 k74 k75 k76 k77 k78 k79 k80 k81 k82 k83 k84 k85 k86 k87 k88 k89 k90 k91 k92 k93 k94 k95 k96 k97 k98 k99 k100 k101 k102 k103 k104 k105 k106 k107 k108 k109 k110 k111 k112 k113 k114 k115 k116 k117 k118 k119 k120 k121 k122 k123 k124 k125 k126 k127 k128 k129 k130 k131 k132 k133 k134 k135 k136 k137 k138 k139 k140 k141 k142 k143 k144 k145 k146 k147 k148 k149 k150 k151 k152 k153 k154 k155 k156 k157 k158 k159 k160 k161 k162 k163 k164 k165 k166 k167 k168 k169 k170 k171 k172 k173 k174 k175 k176 k177 k178 k179 k180 k181 k182 k183 k184 k185 k186 k187 k188 k189 k190 k191 k192 k193 k194 k195 k196 k197 k198 k199 k200 k201 k202 k203 k204 k205 k206 k207 k208 k209 k210 k211 k212 k213 k214 k215 k216 k217 k218 k219 k220 k221 : Value} {B : Nat} {b : Int} {wc : World} (hcl : Hid (clamp b = B))
    (hQ : ∀ (d34 d35 d36 : Value), Q .normal ⟨#[.int .i64 (B : Int), k1, k2, k3, k4, k5, k6, k7, k8, k9, k10, k11, k12, k13, k14, k15, k16, k17, k18, k19, k20, k21, k22, k23, k24, k25, k26, k27, k28, k29, k30, k31, k32, k33, d34, d35, d36, k37, k38, k39, k40, k41, k42, k43, k44, k45, k46, k47, k48, k49, k50, k51, k52, k53, k54, k55, k56, k57, k58, k59, k60, k61, k62, k63, k64, k65, k66, k67, k68, k69, k70, k71, k72, k73, k74, k75, k76, k77, k78, k79, k80, k81, k82, k83, k84, k85, k86, k87, k88, k89, k90, k91, k92, k93, k94, k95, k96, k97, k98, k99, k100, k101, k102, k103, k104, k105, k106, k107, k108, k109, k110, k111, k112, k113, k114, k115, k116, k117, k118, k119, k120, k121, k122, k123, k124, k125, k126, k127, k128, k129, k130, k131, k132, k133, k134, k135, k136, k137, k138, k139, k140, k141, k142, k143, k144, k145, k146, k147, k148, k149, k150, k151, k152, k153, k154, k155, k156, k157, k158, k159, k160, k161, k162, k163, k164, k165, k166, k167, k168, k169, k170, k171, k172, k173, k174, k175, k176, k177, k178, k179, k180, k181, k182, k183, k184, k185, k186, k187, k188, k189, k190, k191, k192, k193, k194, k195, k196, k197, k198, k199, k200, k201, k202, k203, k204, k205, k206, k207, k208, k209, k210, k211, k212, k213, k214, k215, k216, k217, k218, k219, k220, k221], []⟩ wc) :
    Code.wp Try.prog pl6 Q ⟨#[.int .i64 b, k1, k2, k3, k4, k5, k6, k7, k8, k9, k10, k11, k12, k13, k14, k15, k16, k17, k18, k19, k20, k21, k22, k23, k24, k25, k26, k27, k28, k29, k30, k31, k32, k33, k34, k35, k36, k37, k38, k39, k40, k41, k42, k43, k44, k45, k46, k47, k48, k49, k50, k51, k52, k53, k54, k55, k56, k57, k58, k59, k60, k61, k62, k63, k64, k65, k66, k67, k68, k69, k70, k71, k72, k73, k74, k75, k76, k77, k78, k79, k80, k81, k82, k83, k84, k85, k86, k87, k88, k89, k90, k91, k92, k93, k94, k95, k96, k97, k98, k99, k100, k101, k102, k103, k104, k105, k106, k107, k108, k109, k110, k111, k112, k113, k114, k115, k116, k117, k118, k119, k120, k121, k122, k123, k124, k125, k126, k127, k128, k129, k130, k131, k132, k133, k134, k135, k136, k137, k138, k139, k140, k141, k142, k143, k144, k145, k146, k147, k148, k149, k150, k151, k152, k153, k154, k155, k156, k157, k158, k159, k160, k161, k162, k163, k164, k165, k166, k167, k168, k169, k170, k171, k172, k173, k174, k175, k176, k177, k178, k179, k180, k181, k182, k183, k184, k185, k186, k187, k188, k189, k190, k191, k192, k193, k194, k195, k196, k197, k198, k199, k200, k201, k202, k203, k204, k205, k206, k207, k208, k209, k210, k211, k212, k213, k214, k215, k216, k217, k218, k219, k220, k221], []⟩ wc := by
  have hQ' := Hid.intro hQ
  clear hQ
  by_cases h1 : b < 0
  · obtain rfl : B = 0 := by rw [← hcl.out]; unfold clamp; rw [if_pos h1]
    conv => arg 2; whnf
    go_wp2
    exact hQ'.out _ _ _
  · by_cases h2 : 64 < b
    · obtain rfl : B = 64 := by rw [← hcl.out]; unfold clamp; rw [if_neg h1, if_pos h2]
      conv => arg 2; whnf
      go_wp2
      exact hQ'.out _ _ _
    · obtain ⟨n, rfl⟩ : ∃ n : Nat, b = (n : Int) := ⟨b.toNat, by omega⟩
      obtain rfl : B = n := by rw [← hcl.out]; unfold clamp; rw [if_neg h1, if_neg h2]; simp
      conv => arg 2; whnf
      go_wp2
      exact hQ'.out _ _ _
set_option maxRecDepth 1000000 in
set_option maxHeartbeats 8000000 in
theorem pl42_walk {Q : Exit → Act → World → Prop} {k0 k1 k2 k3 k4 k5 k6 k9 k10 k11 k12 k13 k14 k15 k16 k17 k18 k19 k20 k21 k22 k23 k24 k25 k26 k27 k28 k29 k30 k31 k32 k33 k34 k35 k36 k37 k38 k39 k40 k41 k42 k43 k44 k45 k46 k47 k48 k49 k50 k51 k52 k53 k54 k55 k56 k57 k58 k59 k60 k61 k62 k63 k64 k65 k66 k67 k68 k69 k70 k71 k72 k73 k74 k75 k76 k77 k78 k79 k80 k81 k82 k83 k84 k85 k86 k87 k88 k89 k90 k91 k92 k93 k94 k95 k96 k97 k98 k99 k100 k101 k102 k103 k104 k105 k106 k107 k108 k109 k110 k111 k112 k113 k114 k115 k116 k117 k118 k119 k120 k121 k122 k123 k124 k125 k126 k127 k128 k129 k130 k131 k132 k133 k134 k135 k136 k137 k138 k139 k140 k141 k142 k143 k144 k145 k146 k147 k148 k149 k150 k151 k152 k153 k154 k155 k156 k157 k158 k159 k160 k161 k162 k163 k164 k165 k166 k167 k168 k169 k170 k171 k172 k173 k174 k175 k176 k177 k178 k179 k180 k181 k182 k183 k184 k185 k186 k187 k188 k189 k190 k191 k192 k193 k194 k195 k196 k197 k198 k199 k200 k201 k202 k203 k204 k205 k206 k207 k208 k209 k210 k211 k212 k213 k214 k215 k216 k217 k218 k219 k220 k221 : Value} {D X B W P : Nat} {wc : World} (hW64 : W < 18446744073709551616) (hP : Hid (pop W = P)) (hD : Hid (DObj wc D B W)) (hX : Hid (Arr wc X (upS W B))) (hc : Hid (Canon (upS W B))) (hcnt : Hid (cnt (upS W B) = (P : Int)))
    (hp : ∀ p (a : Act) (D : Option Tmp) (v : Value) (z : World), Q (Exit.panic p) (a.put D v) z → Q (Exit.panic p) a z) (hQ : ∀ (d171 d172 d173 d174 : Value) (z : World), Below wc.heap.size wc z → Q .normal ⟨#[k0, k1, k2, k3, k4, k5, k6, .pointer (some ⟨D, 0, none⟩), .pointer (some ⟨X, 0, none⟩), k9, k10, k11, k12, k13, k14, k15, k16, k17, k18, k19, k20, k21, k22, k23, k24, k25, k26, k27, k28, k29, k30, k31, k32, k33, k34, k35, k36, k37, k38, k39, k40, k41, k42, k43, k44, k45, k46, k47, k48, k49, k50, k51, k52, k53, k54, k55, k56, k57, k58, k59, k60, k61, k62, k63, k64, k65, k66, k67, k68, k69, k70, k71, k72, k73, k74, k75, k76, k77, k78, k79, k80, k81, k82, k83, k84, k85, k86, k87, k88, k89, k90, k91, k92, k93, k94, k95, k96, k97, k98, k99, k100, k101, k102, k103, k104, k105, k106, k107, k108, k109, k110, k111, k112, k113, k114, k115, k116, k117, k118, k119, k120, k121, k122, k123, k124, k125, k126, k127, k128, k129, k130, k131, k132, k133, k134, k135, k136, k137, k138, k139, k140, k141, k142, k143, k144, k145, k146, k147, k148, k149, k150, k151, k152, k153, k154, k155, k156, k157, k158, k159, k160, k161, k162, k163, k164, k165, k166, k167, k168, k169, k170, d171, d172, d173, d174, .bool false, k176, k177, k178, k179, k180, k181, k182, k183, k184, k185, k186, k187, k188, k189, k190, k191, k192, k193, k194, k195, k196, k197, k198, k199, k200, k201, k202, k203, k204, k205, k206, k207, k208, k209, k210, k211, k212, k213, k214, k215, k216, k217, k218, k219, k220, k221], []⟩ z) :
    Code.wp Try.prog pl42 Q ⟨#[k0, k1, k2, k3, k4, k5, k6, .pointer (some ⟨D, 0, none⟩), .pointer (some ⟨X, 0, none⟩), k9, k10, k11, k12, k13, k14, k15, k16, k17, k18, k19, k20, k21, k22, k23, k24, k25, k26, k27, k28, k29, k30, k31, k32, k33, k34, k35, k36, k37, k38, k39, k40, k41, k42, k43, k44, k45, k46, k47, k48, k49, k50, k51, k52, k53, k54, k55, k56, k57, k58, k59, k60, k61, k62, k63, k64, k65, k66, k67, k68, k69, k70, k71, k72, k73, k74, k75, k76, k77, k78, k79, k80, k81, k82, k83, k84, k85, k86, k87, k88, k89, k90, k91, k92, k93, k94, k95, k96, k97, k98, k99, k100, k101, k102, k103, k104, k105, k106, k107, k108, k109, k110, k111, k112, k113, k114, k115, k116, k117, k118, k119, k120, k121, k122, k123, k124, k125, k126, k127, k128, k129, k130, k131, k132, k133, k134, k135, k136, k137, k138, k139, k140, k141, k142, k143, k144, k145, k146, k147, k148, k149, k150, k151, k152, k153, k154, k155, k156, k157, k158, k159, k160, k161, k162, k163, k164, k165, k166, k167, k168, k169, k170, k171, k172, k173, k174, k175, k176, k177, k178, k179, k180, k181, k182, k183, k184, k185, k186, k187, k188, k189, k190, k191, k192, k193, k194, k195, k196, k197, k198, k199, k200, k201, k202, k203, k204, k205, k206, k207, k208, k209, k210, k211, k212, k213, k214, k215, k216, k217, k218, k219, k220, k221], []⟩ wc := by
  have HL := Hid.intro (bv_facts (upS W B))
  conv => arg 2; whnf
  refine wp_region_held_drew (S := fun w' => w'.rangeAt X 0 (bv (bitsOf (upS W B)))) (by kernel_rfl) hX.out.2 (fun hHeld => ?_)
  refine wpAnyH_take (i := 0) (v := .pointer (some ⟨D, 0, none⟩)) rfl (by kernel_rfl) (by kernel_rfl) (by kernel_rfl) (fun p a z h => hp p a _ _ z h) (Or.inl ⟨by rfl, fun w' hSw => by clear hSw; go_simp⟩) hHeld ?_
  change wpAnyH _ _ _ _ _ _ _ (Act.put _ (some 171) _) _
  simp only [Act.put, List.setIfInBounds_toArray, List.set_cons_zero, List.set_cons_succ]
  refine wpAnyH_take (i := 2) (v := .agg (bv (bitsOf (upS W B))).toArray) rfl (by kernel_rfl) (by kernel_rfl) (by kernel_rfl) (fun p a z h => hp p a _ _ z h) (yieldsIf_load_mid (by rfl) 27 _ rfl (X) 0 rfl (bv (bitsOf (upS W B))) _ (fun w h => h) Try.underlying27 rfl HL.out.2.1) hHeld ?_
  change wpAnyH _ _ _ _ _ _ _ (Act.put _ (some 173) _) _
  simp only [Act.put, List.setIfInBounds_toArray, List.set_cons_zero, List.set_cons_succ]
  refine wpAnyH_ready (rs := [1]) (by kernel_rfl) (by simp) ?_
  refine AllReadyH.cons rfl (fun K hK => ?_) AllReadyH.nil
  go_simp
  refine (dcount_any (hD.out.stay below_drw) hW64).mono ?_; rintro e z1 ⟨rfl, e1⟩
  subst e1
  rw [hP.out]
  refine hK.out _ _ (range_below below_drw hX.out.lt hX.out.2) (fun hHeld => ?_); clear hK K
  refine wpAnyH_ready (rs := [3]) (by kernel_rfl) (by simp) ?_
  refine AllReadyH.cons rfl (fun K hK => ?_) AllReadyH.nil
  go_simp
  refine (refCount_any (upS W B) _ hc).mono ?_; rintro e z2 ⟨rfl, g2⟩
  rw [hcnt.out]
  replace g2 := below_drew g2
  refine hK.out _ _ (range_below g2 hX.out.lt hX.out.2) (fun hHeld => ?_); clear hK K
  refine wpAnyH_take (i := 4) (v := .bool false) rfl (by kernel_rfl) (by kernel_rfl) (by kernel_rfl) (fun p a z h => hp p a _ _ z h) (Or.inl ⟨by rfl, fun w' hSw => by clear hSw; go_simp⟩) hHeld ?_
  change wpAnyH _ _ _ _ _ _ _ (Act.put _ (some 175) _) _
  simp only [Act.put, List.setIfInBounds_toArray, List.set_cons_zero, List.set_cons_succ]
  refine wpAnyH_done (by kernel_rfl) ?_ _
  exact hQ _ _ _ _ _ g2
set_option maxRecDepth 1000000 in
set_option maxHeartbeats 8000000 in
theorem pl39_walk {Q : Exit → Act → World → Prop} {k1 k3 k4 k5 k6 k9 k10 k11 k14 k15 k16 k17 k18 k20 k21 k22 k23 k24 k25 k26 k27 k28 k29 k30 k31 k32 k33 k34 k35 k36 k37 k38 k39 k40 k41 k42 k43 k44 k45 k46 k47 k48 k49 k50 k51 k52 k53 k54 k55 k56 k57 k58 k59 k60 k61 k62 k63 k64 k65 k66 k67 k68 k69 k70 k71 k72 k73 k74 k75 k76 k77 k78 k79 k80 k81 k82 k83 k84 k85 k86 k87 k88 k89 k90 k91 k92 k93 k94 k95 k96 k97 k98 k99 k100 k101 k102 k103 k104 k105 k106 k107 k108 k109 k110 k111 k112 k113 k114 k115 k116 k117 k118 k119 k120 k121 k122 k123 k124 k125 k126 k127 k128 k129 k130 k131 k132 k133 k134 k135 k136 k137 k138 k139 k140 k141 k142 k143 k144 k145 k146 k147 k148 k149 k150 k151 k152 k153 k154 k155 k156 k157 k158 k159 k160 k161 k162 k163 k164 k165 k166 k167 k168 k169 k170 k171 k172 k173 k174 k175 k176 k177 k178 k179 k180 k181 k182 k183 k184 k185 k186 k187 k188 k189 k190 k191 k192 k193 k194 k195 k196 k197 k198 k199 k200 k201 k202 k203 k204 k205 k206 k207 k208 k209 k210 k211 k212 k213 k214 k215 k216 k217 k218 k219 k220 k221 : Value} {D X B W P : Nat} {ws ask : Int} {av : Value} {wc : World} (hB : B ≤ 64) (hWB : W < 2 ^ B) (hP : Hid (pop W = P)) (hw0 : 0 ≤ ws) (hw1 : ws ≤ 64)
    (hD : Hid (DObj wc D B W)) (hX : Hid (Arr wc X (upS W B))) (hA : Hid (Row wc av (upS W B)))
    (hp : ∀ p (a : Act) (D : Option Tmp) (v : Value) (z : World), Q (Exit.panic p) (a.put D v) z → Q (Exit.panic p) a z) (hQ : ∀ (d115 d116 d117 d118 d119 d120 d121 d122 d123 d124 d125 d126 d127 d128 d129 d130 d131 d132 d133 d134 d135 d136 d137 d138 d139 d140 d141 d142 d143 d144 d145 d146 d147 d148 d149 d150 d151 d152 d153 d154 d155 d156 d157 d158 d159 d160 d161 d162 d163 d164 d165 : Value) (z : World), Below wc.heap.size wc z → Q .normal ⟨#[.int .i64 (B : Int), k1, .int .i64 ask, k3, k4, k5, k6, .pointer (some ⟨D, 0, none⟩), .pointer (some ⟨X, 0, none⟩), k9, k10, k11, .int .i64 ws, .int .i64 ((P : Int) - ws), k14, k15, k16, k17, k18, av, k20, k21, k22, k23, k24, k25, k26, k27, k28, k29, k30, k31, k32, k33, k34, k35, k36, k37, k38, k39, k40, k41, k42, k43, k44, k45, k46, k47, k48, k49, k50, k51, k52, k53, k54, k55, k56, k57, k58, k59, k60, k61, k62, k63, k64, k65, k66, k67, k68, k69, k70, k71, k72, k73, k74, k75, k76, k77, k78, k79, k80, k81, k82, k83, k84, k85, k86, k87, k88, k89, k90, k91, k92, k93, k94, k95, k96, k97, k98, k99, k100, k101, k102, k103, k104, k105, k106, k107, k108, k109, k110, k111, k112, k113, k114, d115, d116, d117, d118, d119, d120, d121, d122, d123, d124, d125, d126, d127, d128, d129, d130, d131, d132, d133, d134, d135, d136, d137, d138, d139, d140, d141, d142, d143, d144, d145, d146, d147, d148, d149, d150, d151, d152, d153, d154, d155, d156, d157, d158, d159, d160, d161, d162, d163, d164, d165, .bool false, k167, k168, k169, k170, k171, k172, k173, k174, k175, k176, k177, k178, k179, k180, k181, k182, k183, k184, k185, k186, k187, k188, k189, k190, k191, k192, k193, k194, k195, k196, k197, k198, k199, k200, k201, k202, k203, k204, k205, k206, k207, k208, k209, k210, k211, k212, k213, k214, k215, k216, k217, k218, k219, k220, k221], []⟩ z) :
    Code.wp Try.prog pl39 Q ⟨#[.int .i64 (B : Int), k1, .int .i64 ask, k3, k4, k5, k6, .pointer (some ⟨D, 0, none⟩), .pointer (some ⟨X, 0, none⟩), k9, k10, k11, .int .i64 ws, .int .i64 ((P : Int) - ws), k14, k15, k16, k17, k18, av, k20, k21, k22, k23, k24, k25, k26, k27, k28, k29, k30, k31, k32, k33, k34, k35, k36, k37, k38, k39, k40, k41, k42, k43, k44, k45, k46, k47, k48, k49, k50, k51, k52, k53, k54, k55, k56, k57, k58, k59, k60, k61, k62, k63, k64, k65, k66, k67, k68, k69, k70, k71, k72, k73, k74, k75, k76, k77, k78, k79, k80, k81, k82, k83, k84, k85, k86, k87, k88, k89, k90, k91, k92, k93, k94, k95, k96, k97, k98, k99, k100, k101, k102, k103, k104, k105, k106, k107, k108, k109, k110, k111, k112, k113, k114, k115, k116, k117, k118, k119, k120, k121, k122, k123, k124, k125, k126, k127, k128, k129, k130, k131, k132, k133, k134, k135, k136, k137, k138, k139, k140, k141, k142, k143, k144, k145, k146, k147, k148, k149, k150, k151, k152, k153, k154, k155, k156, k157, k158, k159, k160, k161, k162, k163, k164, k165, k166, k167, k168, k169, k170, k171, k172, k173, k174, k175, k176, k177, k178, k179, k180, k181, k182, k183, k184, k185, k186, k187, k188, k189, k190, k191, k192, k193, k194, k195, k196, k197, k198, k199, k200, k201, k202, k203, k204, k205, k206, k207, k208, k209, k210, k211, k212, k213, k214, k215, k216, k217, k218, k219, k220, k221], []⟩ wc := by
  have hW64 : W < 18446744073709551616 := Nat.lt_of_lt_of_le hWB (two64 B hB)
  have hc := Hid.intro (upS_spec W B hB).1
  have hcnt : Hid (cnt (upS W B) = (P : Int)) := Hid.intro (by rw [cnt_upS W B hB hWB, hP.out])
  have hP64 : P ≤ 64 := by rw [← hP.out]; exact pop_le W
  by_cases h1 : ask < 0
  · exact pl39_neg h1 hB hW64 hWB hP hP64 hw0 hw1 hD hX hA rfl hc hcnt (Hid.intro (fun hz => has_neg ask hz hW64 hB (by omega))) hp hQ
  · by_cases h2 : (B : Int) ≤ ask
    · exact pl39_big h2 (by omega) hB hW64 hWB hP hP64 hw0 hw1 hD hX hA rfl hc hcnt (Hid.intro (fun hz => has_neg ask hz hW64 hB (by omega))) hp hQ
    · obtain ⟨aN, rfl⟩ : ∃ n : Nat, ask = (n : Int) := ⟨ask.toNat, by omega⟩
      have ha : aN < B := by omega
      exact pl39_in ha (by omega) (Hid.intro (in_up W B aN hB ha)) hB hW64 hWB hP hP64 hw0 hw1 hD hX hA rfl hc hcnt (Hid.intro (fun hz => has_bit hz hW64 hB ha rfl)) hp hQ
set_option maxRecDepth 1000000 in
set_option maxHeartbeats 8000000 in
theorem sw_walk {Q : Exit → Act → World → Prop} {k1 k2 k3 k4 k5 k6 k10 k14 k15 k16 k17 k18 k19 k20 k21 k22 k23 k24 k25 k26 k27 k28 k29 k30 k31 k32 k33 k34 k35 k36 k37 k38 k39 k40 k41 k42 k43 k44 k45 k46 k47 k48 k49 k50 k51 k52 k54 k55 k56 k57 k58 k59 k60 k61 k62 k63 k64 k65 k66 k67 k68 k69 k70 k71 k72 k73 k74 k75 k76 k77 k78 k79 k80 k81 k82 k83 k84 k85 k86 k87 k88 k89 k90 k91 k92 k93 k94 k95 k96 k97 k98 k99 k100 k101 k102 k103 k104 k105 k106 k107 k108 k109 k110 k111 k112 k113 k114 k115 k116 k117 k118 k119 k120 k121 k122 k123 k124 k125 k126 k127 k128 k129 k130 k131 k132 k133 k134 k135 k136 k137 k138 k139 k140 k141 k142 k143 k144 k145 k146 k147 k148 k149 k150 k151 k152 k153 k154 k155 k156 k157 k158 k159 k160 k161 k162 k163 k164 k165 k166 k167 k168 k169 k170 k171 k172 k173 k174 k175 k176 k177 k178 k179 k180 k181 k182 k183 k184 k185 k186 k187 k188 k189 k190 k191 k192 k193 k194 k195 k196 k197 k198 k199 k200 k201 k202 k203 k204 k205 k206 k207 k208 k209 k210 k211 k212 k213 k214 k215 k216 k217 k218 k219 k220 k221 : Value} {D X K O base n0 B W P : Nat} {kd nn f m : Int} {es : List Ent} {wc : World} (hB : B ≤ 64) (hWB : W < 2 ^ B) (hP : Hid (pop W = P)) (hfit : f ≤ 9223372036854775807) (hn1 : n0 ≤ D) (hn2 : n0 ≤ X) (hn3 : n0 ≤ wc.heap.size)
    (hS : Hid (St wc D X K base B W es)) (hO : Hid (Box4 wc O (.int .i64 kd) (.int .i64 nn) (.int .i64 f) (.int .i64 m)))
    (hQ : ∀ (d14 d15 d16 d17 d54 d55 d56 d57 d58 d59 d60 d61 d62 d63 d64 d65 d66 d67 d68 d69 d70 d71 d72 d73 d74 d75 d76 d77 d78 d79 d80 d81 d82 d83 d84 d85 d86 d87 d88 d89 d90 d91 d92 d93 d94 d95 d96 d97 d98 d99 d100 d101 d102 d103 d104 d105 : Value) (W' P' : Nat) (ws : Int) (z : World), W' < 2 ^ B → pop W' = P' → 0 ≤ ws → ws ≤ 64 → St z D X K base B W' es → Below n0 wc z → Q .normal ⟨#[.int .i64 (B : Int), k1, k2, k3, k4, k5, k6, .pointer (some ⟨D, 0, none⟩), .pointer (some ⟨X, 0, none⟩), .pointer (some ⟨K, 0, none⟩), k10, .pointer (some ⟨O, 0, none⟩), .int .i64 ws, .int .i64 ((P' : Int) - ws), d14, d15, d16, d17, k18, k19, k20, k21, k22, k23, k24, k25, k26, k27, k28, k29, k30, k31, k32, k33, k34, k35, k36, k37, k38, k39, k40, k41, k42, k43, k44, k45, k46, k47, k48, k49, k50, k51, k52, .int .i64 kd, d54, d55, d56, d57, d58, d59, d60, d61, d62, d63, d64, d65, d66, d67, d68, d69, d70, d71, d72, d73, d74, d75, d76, d77, d78, d79, d80, d81, d82, d83, d84, d85, d86, d87, d88, d89, d90, d91, d92, d93, d94, d95, d96, d97, d98, d99, d100, d101, d102, d103, d104, d105, k106, k107, k108, k109, k110, k111, k112, k113, k114, k115, k116, k117, k118, k119, k120, k121, k122, k123, k124, k125, k126, k127, k128, k129, k130, k131, k132, k133, k134, k135, k136, k137, k138, k139, k140, k141, k142, k143, k144, k145, k146, k147, k148, k149, k150, k151, k152, k153, k154, k155, k156, k157, k158, k159, k160, k161, k162, k163, k164, k165, k166, k167, k168, k169, k170, k171, k172, k173, k174, k175, k176, k177, k178, k179, k180, k181, k182, k183, k184, k185, k186, k187, k188, k189, k190, k191, k192, k193, k194, k195, k196, k197, k198, k199, k200, k201, k202, k203, k204, k205, k206, k207, k208, k209, k210, k211, k212, k213, k214, k215, k216, k217, k218, k219, k220, k221], []⟩ z) :
    Code.wp Try.prog pl2 Q ⟨#[.int .i64 (B : Int), k1, k2, k3, k4, k5, k6, .pointer (some ⟨D, 0, none⟩), .pointer (some ⟨X, 0, none⟩), .pointer (some ⟨K, 0, none⟩), k10, .pointer (some ⟨O, 0, none⟩), .int .i64 (P : Int), .int .i64 0, k14, k15, k16, k17, k18, k19, k20, k21, k22, k23, k24, k25, k26, k27, k28, k29, k30, k31, k32, k33, k34, k35, k36, k37, k38, k39, k40, k41, k42, k43, k44, k45, k46, k47, k48, k49, k50, k51, k52, .int .i64 kd, k54, k55, k56, k57, k58, k59, k60, k61, k62, k63, k64, k65, k66, k67, k68, k69, k70, k71, k72, k73, k74, k75, k76, k77, k78, k79, k80, k81, k82, k83, k84, k85, k86, k87, k88, k89, k90, k91, k92, k93, k94, k95, k96, k97, k98, k99, k100, k101, k102, k103, k104, k105, k106, k107, k108, k109, k110, k111, k112, k113, k114, k115, k116, k117, k118, k119, k120, k121, k122, k123, k124, k125, k126, k127, k128, k129, k130, k131, k132, k133, k134, k135, k136, k137, k138, k139, k140, k141, k142, k143, k144, k145, k146, k147, k148, k149, k150, k151, k152, k153, k154, k155, k156, k157, k158, k159, k160, k161, k162, k163, k164, k165, k166, k167, k168, k169, k170, k171, k172, k173, k174, k175, k176, k177, k178, k179, k180, k181, k182, k183, k184, k185, k186, k187, k188, k189, k190, k191, k192, k193, k194, k195, k196, k197, k198, k199, k200, k201, k202, k203, k204, k205, k206, k207, k208, k209, k210, k211, k212, k213, k214, k215, k216, k217, k218, k219, k220, k221], []⟩ wc := by
  by_cases h1 : kd = 1
  · subst h1; exact sw_mark hB hWB hP hfit hn1 hn2 hn3 hS hO hQ
  · by_cases h3 : kd = 3
    · subst h3
      by_cases g1 : nn < 0
      · by_cases g2 : 0 < B
        · exact sw_ora g1 g2 hB hWB hP hfit hn1 hn2 hn3 hS hO hQ
        · exact sw_ore g1 (by omega) hB hWB hP hfit hn1 hn2 hn3 hS hO hQ
      · by_cases g2 : 64 < nn
        · exact sw_orb g2 hB hWB hP hfit hn1 hn2 hn3 hS hO hQ
        · obtain ⟨C, rfl⟩ : ∃ n : Nat, nn = (n : Int) := ⟨nn.toNat, by omega⟩
          by_cases g3 : C < B
          · exact sw_orc rfl g3 hB hWB hP hfit hn1 hn2 hn3 hS hO hQ
          · exact sw_ord rfl (by omega) (by omega) hB hWB hP hfit hn1 hn2 hn3 hS hO hQ
    · exact sw_wipe h1 h3 hB hWB hP hfit hn1 hn2 hn3 hS hO hQ
end Go.Proofs.Ytohjdpdmabjdaaa
