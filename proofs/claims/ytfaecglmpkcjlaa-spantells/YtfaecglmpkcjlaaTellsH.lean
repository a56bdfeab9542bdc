/-
  Regions 12, 19, 23 of SpanTells.
-/
import Derived.Test.YtfaecglmpkcjlaaTellsE
namespace Go.Proofs.Ytfaecglmpkcjlaa
open Go.ChangeShapes Go.WideShapes Go.ChangeAt Go.RowKit
attribute [local go_sem ↓] Go.wp_at_zero Go.wp_at_succ

set_option maxRecDepth 1000000 in
set_option maxHeartbeats 8000000 in
theorem reg12_walk {Q : Exit → Act → World → Prop} {k0 k1 k2 k3 k6 k7 k8 k9 k10 k11 k12 k13 k16 k17 k18 k19 k20 k21 k22 k23 k24 k25 k26 k27 k28 k29 k30 k31 k32 k33 k34 k35 k36 k37 k38 k39 k40 k41 k42 k43 k44 k45 k46 k47 k48 k49 k50 k51 k52 k53 k54 k55 k56 k57 k58 k59 k60 k61 k62 k63 k64 k65 k66 k67 k68 k69 k70 k71 k72 k73 k74 k75 k76 k77 k78 k79 k80 k81 k82 k83 k84 k85 k86 k87 k88 k89 k90 k91 k92 k93 k94 k95 k96 k97 k98 k99 k100 k101 k102 k103 k104 k105 k106 k107 k108 k109 k110 k111 k112 k113 k114 k115 k116 k117 k118 k119 k120 k121 k122 k123 k124 k125 k126 k127 k128 k129 k130 k131 k132 k133 k134 k135 k136 k137 k138 k139 k140 k141 k142 k143 k144 k145 k146 k147 k148 k149 k150 k151 k152 k153 k154 k155 k156 k157 k158 k159 k160 k161 k162 k163 k164 k165 k166 k167 k168 k169 k170 k171 k172 k173 k174 k175 k176 k177 k178 k179 k180 k181 k182 k183 k184 k185 k186 k187 k188 k189 k190 k191 k192 k193 k194 k195 k196 k197 k198 k199 k200 k201 k202 k203 k204 k205 k206 k207 k208 k209 k210 k211 k212 k213 k214 k215 k216 k217 k218 k219 k220 k221 k222 k223 k224 k225 k226 k227 k228 k229 k230 k231 k232 k233 k234 : Value} {A Bb : Nat} {f n g m : Int} {wc : World} (ba : Hid (Box wc A (.int .i64 f) (.int .i64 n))) (bb : Hid (Box wc Bb (.int .i64 g) (.int .i64 m)))
    (hQ : ∀ (d68 d69 d70 d71 d72 d73 d74 d75 d76 d77 d78 d79 d80 d81 d82 d83 d84 d85 d86 d87 d88 d89 d90 d91 : Value),  Q .normal ⟨#[k0, k1, k2, k3, .pointer (some ⟨A, 0, none⟩), .pointer (some ⟨Bb, 0, none⟩), k6, k7, k8, k9, k10, k11, k12, k13, .bool (decide (Wh (f, n))), .bool (decide (Wh (g, m))), k16, k17, .bool (Tb (f, n) (g, m)), k19, k20, k21, k22, k23, k24, k25, k26, k27, k28, k29, k30, k31, k32, k33, k34, k35, k36, k37, k38, k39, k40, k41, k42, k43, k44, k45, k46, k47, k48, k49, k50, k51, k52, k53, k54, k55, k56, k57, k58, k59, k60, k61, k62, k63, k64, k65, k66, k67, d68, d69, d70, d71, d72, d73, d74, d75, d76, d77, d78, d79, d80, d81, d82, d83, d84, d85, d86, d87, d88, d89, d90, d91, k92, k93, k94, k95, k96, k97, k98, k99, k100, k101, k102, k103, k104, k105, k106, k107, k108, k109, k110, k111, k112, k113, k114, k115, k116, k117, k118, k119, k120, k121, k122, k123, k124, k125, k126, k127, k128, k129, k130, k131, k132, k133, k134, k135, k136, k137, k138, k139, k140, k141, k142, k143, k144, k145, k146, k147, k148, k149, k150, k151, k152, k153, k154, k155, k156, k157, k158, k159, k160, k161, k162, k163, k164, k165, k166, k167, k168, k169, k170, k171, k172, k173, k174, k175, k176, k177, k178, k179, k180, k181, k182, k183, k184, k185, k186, k187, k188, k189, k190, k191, k192, k193, k194, k195, k196, k197, k198, k199, k200, k201, k202, k203, k204, k205, k206, k207, k208, k209, k210, k211, k212, k213, k214, k215, k216, k217, k218, k219, k220, k221, k222, k223, k224, k225, k226, k227, k228, k229, k230, k231, k232, k233, k234], []⟩ wc) :
    Code.wp Try.prog reg12 Q ⟨#[k0, k1, k2, k3, .pointer (some ⟨A, 0, none⟩), .pointer (some ⟨Bb, 0, none⟩), k6, k7, k8, k9, k10, k11, k12, k13, .bool (decide (Wh (f, n))), .bool (decide (Wh (g, m))), k16, k17, k18, k19, k20, k21, k22, k23, k24, k25, k26, k27, k28, k29, k30, k31, k32, k33, k34, k35, k36, k37, k38, k39, k40, k41, k42, k43, k44, k45, k46, k47, k48, k49, k50, k51, k52, k53, k54, k55, k56, k57, k58, k59, k60, k61, k62, k63, k64, k65, k66, k67, k68, k69, k70, k71, k72, k73, k74, k75, k76, k77, k78, k79, k80, k81, k82, k83, k84, k85, k86, k87, k88, k89, k90, k91, k92, k93, k94, k95, k96, k97, k98, k99, k100, k101, k102, k103, k104, k105, k106, k107, k108, k109, k110, k111, k112, k113, k114, k115, k116, k117, k118, k119, k120, k121, k122, k123, k124, k125, k126, k127, k128, k129, k130, k131, k132, k133, k134, k135, k136, k137, k138, k139, k140, k141, k142, k143, k144, k145, k146, k147, k148, k149, k150, k151, k152, k153, k154, k155, k156, k157, k158, k159, k160, k161, k162, k163, k164, k165, k166, k167, k168, k169, k170, k171, k172, k173, k174, k175, k176, k177, k178, k179, k180, k181, k182, k183, k184, k185, k186, k187, k188, k189, k190, k191, k192, k193, k194, k195, k196, k197, k198, k199, k200, k201, k202, k203, k204, k205, k206, k207, k208, k209, k210, k211, k212, k213, k214, k215, k216, k217, k218, k219, k220, k221, k222, k223, k224, k225, k226, k227, k228, k229, k230, k231, k232, k233, k234], []⟩ wc := by
  have hQ' := Hid.intro hQ
  clear hQ
  obtain ⟨a0, a1, _, _⟩ := ba.out
  obtain ⟨b0, b1, _, _⟩ := bb.out
  clear ba bb
  by_cases h : Wh (f, n)
  · obtain ⟨h1, h2, h3⟩ := id h
    by_cases k : Wh (g, m)
    · obtain ⟨k1, k2, k3⟩ := id k
      simp only at h1 h2 h3 k1 k2 k3
      have e1 : decide (Wh (f, n)) = true := decide_eq_true h
      have e2 : decide (Wh (g, m)) = true := decide_eq_true k
      by_cases t : f ≤ g + m
      · have eT : Hid (Tb (f, n) (g, m) = decide (g ≤ f + n)) := Hid.intro (by unfold Tb touchD; exact decide_eq_decide.2 ⟨fun x => x.2.2.2, fun x => ⟨h, k, t, x⟩⟩)
        have h' := Hid.intro h
        have k' := Hid.intro k
        rw [e1, e2]
        rw [e1, e2] at hQ'
        rw [eT.out] at hQ'
        clear h k e1 e2
        conv => arg 2; whnf
        go_wp2
        exact hQ'.out _ _ _ _ _ _ _ _ _ _ _ _ _ _ _ _ _ _ _ _ _ _ _ _ 
      · have eT : Hid (Tb (f, n) (g, m) = false) := Hid.intro (decide_eq_false (fun x => t x.2.2.1))
        have h' := Hid.intro h
        have k' := Hid.intro k
        have td : decide (f ≤ g + m) = false := decide_eq_false t
        rw [e1, e2]
        rw [e1, e2] at hQ'
        rw [eT.out] at hQ'
        clear h k e1 e2
        conv => arg 2; whnf
        go_wp2
        exact hQ'.out _ _ _ _ _ _ _ _ _ _ _ _ _ _ _ _ _ _ _ _ _ _ _ _ 
    · have e1 : decide (Wh (f, n)) = true := decide_eq_true h
      have e2 : decide (Wh (g, m)) = false := decide_eq_false k
      have eT : Hid (Tb (f, n) (g, m) = false) := Hid.intro (decide_eq_false (fun x => k x.2.1))
      rw [e1, e2]
      rw [e1, e2] at hQ'
      rw [eT.out] at hQ'
      clear h k e1 e2
      conv => arg 2; whnf
      go_wp2
      exact hQ'.out _ _ _ _ _ _ _ _ _ _ _ _ _ _ _ _ _ _ _ _ _ _ _ _ 
  · have e1 : decide (Wh (f, n)) = false := decide_eq_false h
    have eT : Hid (Tb (f, n) (g, m) = false) := Hid.intro (decide_eq_false (fun x => h x.1))
    generalize decide (Wh (g, m)) = wb at *
    rw [e1]
    rw [e1] at hQ'
    rw [eT.out] at hQ'
    clear h e1
    conv => arg 2; whnf
    go_wp2
    exact hQ'.out _ _ _ _ _ _ _ _ _ _ _ _ _ _ _ _ _ _ _ _ _ _ _ _ 
set_option maxRecDepth 1000000 in
set_option maxHeartbeats 8000000 in
theorem if19_walk {Q : Exit → Act → World → Prop} {k0 k1 k2 k3 k5 k6 k7 k8 k9 k10 k11 k12 k13 k14 k15 k16 k17 k18 k19 k20 k21 k22 k23 k25 k26 k27 k28 k29 k30 k31 k32 k33 k34 k35 k36 k37 k38 k39 k40 k41 k42 k43 k44 k45 k46 k47 k48 k49 k50 k51 k52 k53 k54 k55 k56 k57 k58 k59 k60 k61 k62 k63 k64 k65 k66 k67 k68 k69 k70 k71 k72 k73 k74 k75 k76 k77 k78 k79 k80 k81 k82 k83 k84 k85 k86 k87 k88 k89 k90 k91 k92 k93 k94 k95 k96 k97 k98 k99 k100 k101 k102 k103 k104 k105 k106 k107 k108 k109 k110 k111 k113 k114 k115 k116 k117 k118 k119 k120 k121 k122 k123 k124 k125 k126 k127 k128 k129 k130 k131 k132 k133 k134 k135 k136 k137 k138 k139 k140 k141 k142 k143 k144 k145 k146 k147 k148 k149 k150 k151 k152 k153 k154 k155 k156 k157 k158 k159 k160 k161 k162 k163 k164 k165 k166 k167 k168 k169 k170 k171 k172 k173 k174 k175 k176 k177 k178 k179 k180 k181 k182 k183 k184 k185 k186 k187 k188 k189 k190 k191 k192 k193 k194 k195 k196 k197 k198 k199 k200 k201 k202 k203 k204 k205 k206 k207 k208 k209 k210 k211 k212 k213 k214 k215 k216 k217 k218 k219 k220 k221 k222 k223 k224 k225 k226 k227 k228 k229 k230 k231 k232 k233 k234 : Value} {A : Nat} {f n : Int} {wc : World} (ba : Hid (Box wc A (.int .i64 f) (.int .i64 n)))
    (hQ : ∀ (d113 d114 d115 d116 d117 : Value),  Q .normal ⟨#[k0, k1, k2, k3, .pointer (some ⟨A, 0, none⟩), k5, k6, k7, k8, k9, k10, k11, k12, k13, k14, k15, k16, k17, k18, k19, k20, k21, k22, k23, .int .i64 (endS (f, n)), k25, k26, k27, k28, k29, k30, k31, k32, k33, k34, k35, k36, k37, k38, k39, k40, k41, k42, k43, k44, k45, k46, k47, k48, k49, k50, k51, k52, k53, k54, k55, k56, k57, k58, k59, k60, k61, k62, k63, k64, k65, k66, k67, k68, k69, k70, k71, k72, k73, k74, k75, k76, k77, k78, k79, k80, k81, k82, k83, k84, k85, k86, k87, k88, k89, k90, k91, k92, k93, k94, k95, k96, k97, k98, k99, k100, k101, k102, k103, k104, k105, k106, k107, k108, k109, k110, k111, .bool (decide (Wh (f, n))), d113, d114, d115, d116, d117, k118, k119, k120, k121, k122, k123, k124, k125, k126, k127, k128, k129, k130, k131, k132, k133, k134, k135, k136, k137, k138, k139, k140, k141, k142, k143, k144, k145, k146, k147, k148, k149, k150, k151, k152, k153, k154, k155, k156, k157, k158, k159, k160, k161, k162, k163, k164, k165, k166, k167, k168, k169, k170, k171, k172, k173, k174, k175, k176, k177, k178, k179, k180, k181, k182, k183, k184, k185, k186, k187, k188, k189, k190, k191, k192, k193, k194, k195, k196, k197, k198, k199, k200, k201, k202, k203, k204, k205, k206, k207, k208, k209, k210, k211, k212, k213, k214, k215, k216, k217, k218, k219, k220, k221, k222, k223, k224, k225, k226, k227, k228, k229, k230, k231, k232, k233, k234], []⟩ wc) :
    Code.wp Try.prog if19 Q ⟨#[k0, k1, k2, k3, .pointer (some ⟨A, 0, none⟩), k5, k6, k7, k8, k9, k10, k11, k12, k13, k14, k15, k16, k17, k18, k19, k20, k21, k22, k23, .int .i64 0, k25, k26, k27, k28, k29, k30, k31, k32, k33, k34, k35, k36, k37, k38, k39, k40, k41, k42, k43, k44, k45, k46, k47, k48, k49, k50, k51, k52, k53, k54, k55, k56, k57, k58, k59, k60, k61, k62, k63, k64, k65, k66, k67, k68, k69, k70, k71, k72, k73, k74, k75, k76, k77, k78, k79, k80, k81, k82, k83, k84, k85, k86, k87, k88, k89, k90, k91, k92, k93, k94, k95, k96, k97, k98, k99, k100, k101, k102, k103, k104, k105, k106, k107, k108, k109, k110, k111, .bool (decide (Wh (f, n))), k113, k114, k115, k116, k117, k118, k119, k120, k121, k122, k123, k124, k125, k126, k127, k128, k129, k130, k131, k132, k133, k134, k135, k136, k137, k138, k139, k140, k141, k142, k143, k144, k145, k146, k147, k148, k149, k150, k151, k152, k153, k154, k155, k156, k157, k158, k159, k160, k161, k162, k163, k164, k165, k166, k167, k168, k169, k170, k171, k172, k173, k174, k175, k176, k177, k178, k179, k180, k181, k182, k183, k184, k185, k186, k187, k188, k189, k190, k191, k192, k193, k194, k195, k196, k197, k198, k199, k200, k201, k202, k203, k204, k205, k206, k207, k208, k209, k210, k211, k212, k213, k214, k215, k216, k217, k218, k219, k220, k221, k222, k223, k224, k225, k226, k227, k228, k229, k230, k231, k232, k233, k234], []⟩ wc := by
  have hQ' := Hid.intro hQ
  clear hQ
  obtain ⟨a0, a1, _, _⟩ := ba.out
  clear ba
  by_cases h : Wh (f, n)
  · obtain ⟨h1, h2, h3⟩ := id h
    simp only at h1 h2 h3
    have e1 : decide (Wh (f, n)) = true := decide_eq_true h
    have eE : Hid (endS (f, n) = f + n) := Hid.intro (if_pos h)
    rw [e1]
    rw [e1, eE.out] at hQ'
    clear h e1
    conv => arg 2; whnf
    go_wp2
    exact hQ'.out _ _ _ _ _
  · have e1 : decide (Wh (f, n)) = false := decide_eq_false h
    have eE : Hid (endS (f, n) = 0) := Hid.intro (if_neg h)
    rw [e1]
    rw [e1, eE.out] at hQ'
    clear h e1
    conv => arg 2; whnf
    go_wp2
    exact hQ'.out _ _ _ _ _
set_option maxRecDepth 1000000 in
set_option maxHeartbeats 8000000 in
theorem reg23_walk {Q : Exit → Act → World → Prop} {k0 k1 k2 k3 k6 k7 k8 k9 k10 k11 k12 k13 k14 k15 k16 k17 k18 k21 k22 k23 k24 k25 k26 k27 k28 k29 k30 k31 k32 k33 k34 k35 k36 k37 k38 k39 k40 k41 k42 k43 k44 k45 k46 k47 k48 k49 k50 k51 k52 k53 k54 k55 k56 k57 k58 k59 k60 k61 k62 k63 k64 k65 k66 k67 k68 k69 k70 k71 k72 k73 k74 k75 k76 k77 k78 k79 k80 k81 k82 k83 k84 k85 k86 k87 k88 k89 k90 k91 k92 k93 k94 k95 k96 k97 k98 k99 k100 k101 k102 k103 k104 k105 k106 k107 k108 k109 k110 k111 k112 k113 k114 k115 k116 k117 k118 k119 k120 k121 k122 k123 k124 k125 k126 k127 k128 k129 k130 k131 k132 k133 k134 k135 k136 k137 k138 k139 k140 k141 k142 k143 k144 k145 k146 k147 k148 k149 k150 k151 k152 k153 k154 k155 k156 k157 k158 k159 k160 k161 k162 k163 k164 k165 k166 k167 k168 k169 k170 k171 k172 k173 k174 k175 k176 k177 k178 k179 k180 k181 k182 k183 k184 k185 k186 k187 k188 k189 k190 k191 k192 k193 k194 k195 k196 k197 k198 k199 k200 k201 k202 k203 k204 k205 k206 k207 k208 k209 k210 k211 k212 k213 k214 k215 k216 k217 k218 k219 k220 k221 k222 k223 k224 k225 k226 k227 k228 k229 k230 k231 k232 k233 k234 : Value} {A Bb J : Nat} {f n g m jf jn : Int} {wc : World} (ba : Hid (Box wc A (.int .i64 f) (.int .i64 n))) (bb : Hid (Box wc Bb (.int .i64 g) (.int .i64 m))) (bj : Hid (Box wc J (.int .i64 jf) (.int .i64 jn))) (hJ : Hid (JoinIs (f, n) (g, m) jf jn))
    (hQ : ∀ (d182 d183 d184 d185 d186 d187 d188 d189 d190 d191 d192 d193 d194 d195 d196 d197 d198 d199 d200 d201 d202 d203 d204 d205 d206 d207 d208 : Value),  Q .normal ⟨#[k0, k1, k2, k3, .pointer (some ⟨A, 0, none⟩), .pointer (some ⟨Bb, 0, none⟩), k6, k7, k8, k9, k10, k11, k12, k13, k14, k15, k16, k17, k18, .pointer (some ⟨J, 0, none⟩), .bool (Tb (f, n) (g, m)), k21, k22, k23, k24, k25, k26, k27, k28, k29, k30, k31, k32, k33, k34, k35, k36, k37, k38, k39, k40, k41, k42, k43, k44, k45, k46, k47, k48, k49, k50, k51, k52, k53, k54, k55, k56, k57, k58, k59, k60, k61, k62, k63, k64, k65, k66, k67, k68, k69, k70, k71, k72, k73, k74, k75, k76, k77, k78, k79, k80, k81, k82, k83, k84, k85, k86, k87, k88, k89, k90, k91, k92, k93, k94, k95, k96, k97, k98, k99, k100, k101, k102, k103, k104, k105, k106, k107, k108, k109, k110, k111, k112, k113, k114, k115, k116, k117, k118, k119, k120, k121, k122, k123, k124, k125, k126, k127, k128, k129, k130, k131, k132, k133, k134, k135, k136, k137, k138, k139, k140, k141, k142, k143, k144, k145, k146, k147, k148, k149, k150, k151, k152, k153, k154, k155, k156, k157, k158, k159, k160, k161, k162, k163, k164, k165, k166, k167, k168, k169, k170, k171, k172, k173, k174, k175, k176, k177, k178, k179, k180, k181, d182, d183, d184, d185, d186, d187, d188, d189, d190, d191, d192, d193, d194, d195, d196, d197, d198, d199, d200, d201, d202, d203, d204, d205, d206, d207, d208, .bool false, k210, k211, k212, k213, k214, k215, k216, k217, k218, k219, k220, k221, k222, k223, k224, k225, k226, k227, k228, k229, k230, k231, k232, k233, k234], []⟩ wc) :
    Code.wp Try.prog reg23 Q ⟨#[k0, k1, k2, k3, .pointer (some ⟨A, 0, none⟩), .pointer (some ⟨Bb, 0, none⟩), k6, k7, k8, k9, k10, k11, k12, k13, k14, k15, k16, k17, k18, .pointer (some ⟨J, 0, none⟩), .bool (Tb (f, n) (g, m)), k21, k22, k23, k24, k25, k26, k27, k28, k29, k30, k31, k32, k33, k34, k35, k36, k37, k38, k39, k40, k41, k42, k43, k44, k45, k46, k47, k48, k49, k50, k51, k52, k53, k54, k55, k56, k57, k58, k59, k60, k61, k62, k63, k64, k65, k66, k67, k68, k69, k70, k71, k72, k73, k74, k75, k76, k77, k78, k79, k80, k81, k82, k83, k84, k85, k86, k87, k88, k89, k90, k91, k92, k93, k94, k95, k96, k97, k98, k99, k100, k101, k102, k103, k104, k105, k106, k107, k108, k109, k110, k111, k112, k113, k114, k115, k116, k117, k118, k119, k120, k121, k122, k123, k124, k125, k126, k127, k128, k129, k130, k131, k132, k133, k134, k135, k136, k137, k138, k139, k140, k141, k142, k143, k144, k145, k146, k147, k148, k149, k150, k151, k152, k153, k154, k155, k156, k157, k158, k159, k160, k161, k162, k163, k164, k165, k166, k167, k168, k169, k170, k171, k172, k173, k174, k175, k176, k177, k178, k179, k180, k181, k182, k183, k184, k185, k186, k187, k188, k189, k190, k191, k192, k193, k194, k195, k196, k197, k198, k199, k200, k201, k202, k203, k204, k205, k206, k207, k208, k209, k210, k211, k212, k213, k214, k215, k216, k217, k218, k219, k220, k221, k222, k223, k224, k225, k226, k227, k228, k229, k230, k231, k232, k233, k234], []⟩ wc := by
  have hQ' := Hid.intro hQ
  clear hQ
  obtain ⟨a0, a1, _, _⟩ := ba.out
  obtain ⟨b0, b1, _, _⟩ := bb.out
  obtain ⟨c0, c1, _, _⟩ := bj.out
  clear ba bb bj
  cases hT : Tb (f, n) (g, m) with
  | true =>
    rw [hT] at hQ'
    obtain ⟨h, k, t⟩ := of_decide_eq_true hT
    obtain ⟨h1, h2, h3⟩ := h
    obtain ⟨k1, k2, k3⟩ := k
    obtain ⟨j1, j2⟩ := hJ.out.1 hT
    simp only [joinS] at h1 h2 h3 k1 k2 k3 j1 j2
    clear hJ hT t
    obtain ⟨lo, hlo⟩ : ∃ lo, (if g < f then g else f) = lo := ⟨_, rfl⟩
    obtain ⟨hi, hhi⟩ : ∃ hi, (if f + n < g + m then g + m else f + n) = hi := ⟨_, rfl⟩
    rw [hlo] at j1 j2
    rw [hhi] at j2
    have l0 : 0 ≤ lo := by rw [← hlo]; split <;> omega
    have l1 : lo ≤ 64 := by rw [← hlo]; split <;> omega
    have l2 : 0 ≤ hi := by rw [← hhi]; split <;> omega
    have l3 : hi ≤ 64 := by rw [← hhi]; split <;> omega
    subst j1 j2
    conv => arg 2; whnf
    go_wp2
    exact hQ'.out _ _ _ _ _ _ _ _ _ _ _ _ _ _ _ _ _ _ _ _ _ _ _ _ _ _ _ 
  | false =>
    rw [hT] at hQ'
    clear hJ hT
    conv => arg 2; whnf
    go_wp2
    exact hQ'.out _ _ _ _ _ _ _ _ _ _ _ _ _ _ _ _ _ _ _ _ _ _ _ _ _ _ _ 
end Go.Proofs.Ytfaecglmpkcjlaa
