/-
  The great test of SpanTells, and its last region.
-/
import Derived.Test.YtfaecglmpkcjlaaTellsG0
import Derived.Test.YtfaecglmpkcjlaaTellsG1
import Derived.Test.YtfaecglmpkcjlaaTellsG2
import Derived.Test.YtfaecglmpkcjlaaTellsG3
import Derived.Test.YtfaecglmpkcjlaaTellsH
namespace Go.Proofs.Ytfaecglmpkcjlaa
open Go.ChangeShapes Go.WideShapes Go.ChangeAt Go.RowKit
attribute [local go_sem ↓] Go.wp_at_zero Go.wp_at_succ


theorem mode_of (x : Int) : x < 0 ∨ 64 ≤ x ∨ ∃ xN : Nat, xN < 64 ∧ x = (xN : Int) := by
  by_cases h : x < 0
  · exact .inl h
  · by_cases h2 : 64 ≤ x
    · exact .inr (.inl h2)
    · exact .inr (.inr ⟨x.toNat, by omega, by omega⟩)
theorem kept_at {w : World} {K base : Nat} {es : List Ent} (h : Kept w K base es) (i : Nat) (e : Ent) (he : es[i]? = some e) : Row w e.1 e.2 := by
  obtain ⟨sv, wv, cs, hs⟩ := h
  exact own_row (hs.lists.own i e he)
theorem short2 {a b : Value} {l : List Sp} (h : l.length ≤ 2) : Short [(a, l), (b, l)] := by
  intro e he
  simp only [List.mem_cons, List.not_mem_nil, or_false] at he
  rcases he with rfl | rfl <;> (show l.length ≤ 100000; omega)
set_option maxRecDepth 1000000 in
set_option maxHeartbeats 8000000 in
theorem reg21_walk {Q : Exit → Act → World → Prop} {k0 k1 k3 k6 k7 k8 k9 k10 k12 k13 k15 k21 k22 k23 k25 k26 k27 k28 k29 k30 k31 k32 k33 k34 k35 k36 k37 k38 k39 k40 k41 k42 k43 k44 k45 k46 k47 k48 k49 k50 k51 k52 k53 k54 k55 k56 k57 k58 k59 k60 k61 k62 k63 k64 k65 k66 k67 k68 k69 k70 k71 k72 k73 k74 k75 k76 k77 k78 k79 k80 k81 k82 k83 k84 k85 k86 k87 k88 k89 k90 k91 k92 k93 k94 k95 k96 k97 k98 k99 k100 k101 k102 k103 k104 k105 k106 k107 k108 k109 k110 k111 k112 k113 k114 k115 k116 k117 k118 k119 k120 k121 k122 k123 k124 k125 k126 k127 k128 k129 k130 k131 k132 k133 k134 k135 k136 k137 k138 k139 k140 k141 k142 k143 k144 k145 k146 k147 k148 k149 k150 k151 k152 k153 k154 k155 k156 k157 k158 k159 k160 k161 k162 k163 k164 k165 k166 k167 k168 k169 k170 k171 k172 k173 k174 k175 k176 k177 k178 k179 k180 k181 k182 k183 k184 k185 k186 k187 k188 k189 k190 k191 k192 k193 k194 k195 k196 k197 k198 k199 k200 k201 k202 k203 k204 k205 k206 k207 k208 k209 k210 k211 k212 k213 k214 k215 k216 k217 k218 k219 k220 k221 k222 k223 k224 k225 k226 k227 k228 k229 k230 k231 k232 k233 k234 : Value} {A Bb M J u : Nat} {bl f n g m mf mn jf jn : Int} {ok : Bool} {wc : World} (hf : f ≤ 9223372036854775807) (hg : g ≤ 9223372036854775807)
    (hM : Hid (MeetIs (f, n) (g, m) ok mf mn)) (hJ : Hid (JoinIs (f, n) (g, m) jf jn))
    (ba : Hid (Box wc A (.int .i64 f) (.int .i64 n))) (bb : Hid (Box wc Bb (.int .i64 g) (.int .i64 m))) (bm : Hid (Box wc M (.int .i64 mf) (.int .i64 mn))) (bj : Hid (Box wc J (.int .i64 jf) (.int .i64 jn))) (au : Hid (Arr wc u (bothS (f, n) (g, m))))
    (hp : ∀ p (a : Act) (D : Option Tmp) (v : Value) (z : World), Q (Exit.panic p) (a.put D v) z → Q (Exit.panic p) a z) (hQ : ∀ (d118 d119 d120 d121 d122 d123 d124 d125 d126 d127 d128 d129 d130 d131 d132 d133 d134 d135 d136 d137 d138 d139 d140 d141 d142 d143 d144 d145 d146 d147 d148 d149 d150 d151 d152 d153 d154 d155 d156 d157 d158 d159 d160 d161 d162 d163 d164 d165 d166 d167 d168 d169 d170 d171 d172 d173 d174 d175 d176 d177 d178 d179 d180 : Value) (z : World), Below wc.heap.size wc z → Q .normal ⟨#[k0, k1, .int .i64 bl, k3, .pointer (some ⟨A, 0, none⟩), .pointer (some ⟨Bb, 0, none⟩), k6, k7, k8, k9, k10, .pointer (some ⟨u, 0, none⟩), k12, k13, .bool (decide (Wh (f, n))), k15, .pointer (some ⟨M, 0, none⟩), .bool ok, .bool (Tb (f, n) (g, m)), .pointer (some ⟨J, 0, none⟩), .bool (Tb (f, n) (g, m)), k21, k22, k23, .int .i64 (endS (f, n)), k25, k26, k27, k28, k29, k30, k31, k32, k33, k34, k35, k36, k37, k38, k39, k40, k41, k42, k43, k44, k45, k46, k47, k48, k49, k50, k51, k52, k53, k54, k55, k56, k57, k58, k59, k60, k61, k62, k63, k64, k65, k66, k67, k68, k69, k70, k71, k72, k73, k74, k75, k76, k77, k78, k79, k80, k81, k82, k83, k84, k85, k86, k87, k88, k89, k90, k91, k92, k93, k94, k95, k96, k97, k98, k99, k100, k101, k102, k103, k104, k105, k106, k107, k108, k109, k110, k111, k112, k113, k114, k115, k116, k117, d118, d119, d120, d121, d122, d123, d124, d125, d126, d127, d128, d129, d130, d131, d132, d133, d134, d135, d136, d137, d138, d139, d140, d141, d142, d143, d144, d145, d146, d147, d148, d149, d150, d151, d152, d153, d154, d155, d156, d157, d158, d159, d160, d161, d162, d163, d164, d165, d166, d167, d168, d169, d170, d171, d172, d173, d174, d175, d176, d177, d178, d179, d180, .bool false, k182, k183, k184, k185, k186, k187, k188, k189, k190, k191, k192, k193, k194, k195, k196, k197, k198, k199, k200, k201, k202, k203, k204, k205, k206, k207, k208, k209, k210, k211, k212, k213, k214, k215, k216, k217, k218, k219, k220, k221, k222, k223, k224, k225, k226, k227, k228, k229, k230, k231, k232, k233, k234], []⟩ z) :
    Code.wp Try.prog reg21 Q ⟨#[k0, k1, .int .i64 bl, k3, .pointer (some ⟨A, 0, none⟩), .pointer (some ⟨Bb, 0, none⟩), k6, k7, k8, k9, k10, .pointer (some ⟨u, 0, none⟩), k12, k13, .bool (decide (Wh (f, n))), k15, .pointer (some ⟨M, 0, none⟩), .bool ok, .bool (Tb (f, n) (g, m)), .pointer (some ⟨J, 0, none⟩), .bool (Tb (f, n) (g, m)), k21, k22, k23, .int .i64 (endS (f, n)), k25, k26, k27, k28, k29, k30, k31, k32, k33, k34, k35, k36, k37, k38, k39, k40, k41, k42, k43, k44, k45, k46, k47, k48, k49, k50, k51, k52, k53, k54, k55, k56, k57, k58, k59, k60, k61, k62, k63, k64, k65, k66, k67, k68, k69, k70, k71, k72, k73, k74, k75, k76, k77, k78, k79, k80, k81, k82, k83, k84, k85, k86, k87, k88, k89, k90, k91, k92, k93, k94, k95, k96, k97, k98, k99, k100, k101, k102, k103, k104, k105, k106, k107, k108, k109, k110, k111, k112, k113, k114, k115, k116, k117, k118, k119, k120, k121, k122, k123, k124, k125, k126, k127, k128, k129, k130, k131, k132, k133, k134, k135, k136, k137, k138, k139, k140, k141, k142, k143, k144, k145, k146, k147, k148, k149, k150, k151, k152, k153, k154, k155, k156, k157, k158, k159, k160, k161, k162, k163, k164, k165, k166, k167, k168, k169, k170, k171, k172, k173, k174, k175, k176, k177, k178, k179, k180, k181, k182, k183, k184, k185, k186, k187, k188, k189, k190, k191, k192, k193, k194, k195, k196, k197, k198, k199, k200, k201, k202, k203, k204, k205, k206, k207, k208, k209, k210, k211, k212, k213, k214, k215, k216, k217, k218, k219, k220, k221, k222, k223, k224, k225, k226, k227, k228, k229, k230, k231, k232, k233, k234], []⟩ wc := by
  have cB := Hid.intro (bothS_canon (f, n) (g, m))
  have hE : Hid (endS (f, n) = endS (f, n)) := rfl
  cases ok with
  | true =>
    obtain ⟨e1, e2, e3, e4⟩ := hM.out.1 rfl
    have hT := Hid.intro e4
    rw [decide_eq_true e3, e4] at hQ ⊢
    exact reg21_ttt hf hg (Hid.intro e3) hE cB (Hid.intro e1) (Hid.intro e2) hT ba bb bm bj au hp hQ
  | false =>
    obtain ⟨e1, rfl, rfl⟩ := hM.out.2 rfl
    cases hT : Tb (f, n) (g, m) with
    | true =>
      have e3 : Wh (f, n) := (of_decide_eq_true hT).1
      rw [decide_eq_true e3, hT] at hQ
      rw [decide_eq_true e3]
      exact reg21_tft hf hg (Hid.intro e3) hE cB (Hid.intro e1) (Hid.intro hT) ba bb bm bj au hp hQ
    | false =>
      obtain ⟨rfl, rfl⟩ := hJ.out.2 hT
      by_cases e3 : Wh (f, n)
      · rw [decide_eq_true e3, hT] at hQ
        rw [decide_eq_true e3]
        exact reg21_tff hf hg (Hid.intro e3) hE cB (Hid.intro e1) (Hid.intro hT) ba bb bm bj au hp hQ
      · rw [decide_eq_false e3, hT] at hQ
        rw [decide_eq_false e3]
        exact reg21_fff hf hg (Hid.intro e3) hE cB (Hid.intro e1) (Hid.intro hT) ba bb bm bj au hp hQ
set_option maxRecDepth 1000000 in
set_option maxHeartbeats 8000000 in
theorem reg25_walk {Q : Exit → Act → World → Prop} {k0 k1 k2 k5 k6 k7 k8 k10 k11 k13 k14 k15 k16 k17 k18 k19 k20 k23 k24 k25 k26 k27 k28 k29 k30 k31 k32 k33 k34 k35 k36 k37 k38 k39 k40 k41 k42 k43 k44 k45 k46 k47 k48 k49 k50 k51 k52 k53 k54 k55 k56 k57 k58 k59 k60 k61 k62 k63 k64 k65 k66 k67 k68 k69 k70 k71 k72 k73 k74 k75 k76 k77 k78 k79 k80 k81 k82 k83 k84 k85 k86 k87 k88 k89 k90 k91 k92 k93 k94 k95 k96 k97 k98 k99 k100 k101 k102 k103 k104 k105 k106 k107 k108 k109 k110 k111 k112 k113 k114 k115 k116 k117 k118 k119 k120 k121 k122 k123 k124 k125 k126 k127 k128 k129 k130 k131 k132 k133 k134 k135 k136 k137 k138 k139 k140 k141 k142 k143 k144 k145 k146 k147 k148 k149 k150 k151 k152 k153 k154 k155 k156 k157 k158 k159 k160 k161 k162 k163 k164 k165 k166 k167 k168 k169 k170 k171 k172 k173 k174 k175 k176 k177 k178 k179 k180 k181 k182 k183 k184 k185 k186 k187 k188 k189 k190 k191 k192 k193 k194 k195 k196 k197 k198 k199 k200 k201 k202 k203 k204 k205 k206 k207 k208 k209 k210 k211 k212 k213 k214 k215 k216 k217 k218 k219 k220 k221 k222 k223 k224 k225 k226 k227 k228 k229 k230 k231 k232 k233 k234 : Value} {A p v K base : Nat} {kk f n : Int} {lv nv : Value} {X Le : List Sp} {wc : World} (hf : f ≤ 9223372036854775807) (hX : Hid (putR [] [(f, n)] = X)) (cL : Hid (Canon Le)) (l2 : Le.length ≤ 2)
    (ba : Hid (Box wc A (.int .i64 f) (.int .i64 n))) (ap : Hid (Arr wc p X)) (av : Hid (Arr wc v Le)) (hk : Hid (Kept wc K base [(lv, Le), (nv, Le)])) (hbK : base ≤ K) (hbw : base ≤ wc.heap.size)
    (hQ : ∀ (d210 d211 d212 d213 d214 d215 d216 d217 d218 d219 d220 d221 d222 d223 d224 d225 d226 d227 d228 d229 d230 d231 d232 d233 d234 : Value) (z : World), Below base wc z → Q .normal ⟨#[k0, k1, k2, .int .i64 kk, .pointer (some ⟨A, 0, none⟩), k5, k6, k7, .bool true, .pointer (some ⟨p, 0, none⟩), k10, k11, .pointer (some ⟨v, 0, none⟩), k13, k14, k15, k16, k17, k18, k19, k20, .pointer (some ⟨K, 0, none⟩), lv, k23, k24, k25, k26, k27, k28, k29, k30, k31, k32, k33, k34, k35, k36, k37, k38, k39, k40, k41, k42, k43, k44, k45, k46, k47, k48, k49, k50, k51, k52, k53, k54, k55, k56, k57, k58, k59, k60, k61, k62, k63, k64, k65, k66, k67, k68, k69, k70, k71, k72, k73, k74, k75, k76, k77, k78, k79, k80, k81, k82, k83, k84, k85, k86, k87, k88, k89, k90, k91, k92, k93, k94, k95, k96, k97, k98, k99, k100, k101, k102, k103, k104, k105, k106, k107, k108, k109, k110, k111, k112, k113, k114, k115, k116, k117, k118, k119, k120, k121, k122, k123, k124, k125, k126, k127, k128, k129, k130, k131, k132, k133, k134, k135, k136, k137, k138, k139, k140, k141, k142, k143, k144, k145, k146, k147, k148, k149, k150, k151, k152, k153, k154, k155, k156, k157, k158, k159, k160, k161, k162, k163, k164, k165, k166, k167, k168, k169, k170, k171, k172, k173, k174, k175, k176, k177, k178, k179, k180, k181, k182, k183, k184, k185, k186, k187, k188, k189, k190, k191, k192, k193, k194, k195, k196, k197, k198, k199, k200, k201, k202, k203, k204, k205, k206, k207, k208, k209, d210, d211, d212, d213, d214, d215, d216, d217, d218, d219, d220, d221, d222, d223, d224, d225, d226, d227, d228, d229, d230, d231, d232, d233, d234], []⟩ z) :
    Code.wp Try.prog reg25 Q ⟨#[k0, k1, k2, .int .i64 kk, .pointer (some ⟨A, 0, none⟩), k5, k6, k7, k8, .pointer (some ⟨p, 0, none⟩), k10, k11, .pointer (some ⟨v, 0, none⟩), k13, k14, k15, k16, k17, k18, k19, k20, .pointer (some ⟨K, 0, none⟩), lv, k23, k24, k25, k26, k27, k28, k29, k30, k31, k32, k33, k34, k35, k36, k37, k38, k39, k40, k41, k42, k43, k44, k45, k46, k47, k48, k49, k50, k51, k52, k53, k54, k55, k56, k57, k58, k59, k60, k61, k62, k63, k64, k65, k66, k67, k68, k69, k70, k71, k72, k73, k74, k75, k76, k77, k78, k79, k80, k81, k82, k83, k84, k85, k86, k87, k88, k89, k90, k91, k92, k93, k94, k95, k96, k97, k98, k99, k100, k101, k102, k103, k104, k105, k106, k107, k108, k109, k110, k111, k112, k113, k114, k115, k116, k117, k118, k119, k120, k121, k122, k123, k124, k125, k126, k127, k128, k129, k130, k131, k132, k133, k134, k135, k136, k137, k138, k139, k140, k141, k142, k143, k144, k145, k146, k147, k148, k149, k150, k151, k152, k153, k154, k155, k156, k157, k158, k159, k160, k161, k162, k163, k164, k165, k166, k167, k168, k169, k170, k171, k172, k173, k174, k175, k176, k177, k178, k179, k180, k181, k182, k183, k184, k185, k186, k187, k188, k189, k190, k191, k192, k193, k194, k195, k196, k197, k198, k199, k200, k201, k202, k203, k204, k205, k206, k207, k208, k209, k210, k211, k212, k213, k214, k215, k216, k217, k218, k219, k220, k221, k222, k223, k224, k225, k226, k227, k228, k229, k230, k231, k232, k233, k234], []⟩ wc := by
  have hQ' := Hid.intro hQ
  clear hQ
  have HL := Hid.intro (bv_facts Le)
  have rV := av.out.2
  have zV := av.out.lt
  have rl := Hid.intro (kept_at hk.out 0 (lv, Le) rfl)
  have HC : Hid (∀ w, Calls Try.prog 17 #[.agg #[.int .i64 f, .int .i64 n], .int .i64 kk] w fun e w' => e = .returned (.bool (decide (In X kk))) ∧ Below w.heap.size w w') := Hid.intro (fun w => by rw [← hX.out]; exact has_sym f n kk w hf)
  obtain ⟨a0, a1, _, _⟩ := ba.out
  rcases mode_of kk with hneg | hbig | ⟨kN, klt, rfl⟩
  · have hno : decide (In X kk) = false := decide_eq_false (fun h => by have := in_out h; omega)
    have kd : decide (0 ≤ kk) = false := decide_eq_false (by omega)
    rw [hno] at HC
    clear hno
    conv => arg 2; whnf
    go_wp2_with (first | (refine wpList_load_mid rfl 26 _ rfl v 0 rfl (bv (bitsOf Le)) _ rV Try.underlying26 rfl HL.out.2.1 ?_))
    refine (refSpans_any Le _ cL).mono ?_; rintro e z1 ⟨v2, rfl, ho, g1⟩
    have rw2 := Hid.intro (own_row ho)
    have rl1 := Hid.intro (rl.out.below g1)
    obtain ⟨a0, a1, _, _⟩ := ba.out.here g1
    clear ho
    go_wp2_with fail
    refine (same_rows rl1.out rw2.out (by omega)).mono ?_; rintro e z2 ⟨rfl, h2⟩
    have g2 := below_step g1 h2
    clear a0 a1
    obtain ⟨a0, a1, _, _⟩ := ba.out.here g2
    go_wp2_with fail
    refine (HC.out _).mono ?_; rintro e z3 ⟨rfl, h3⟩
    have g3 := below_step g2 h3
    clear a0 a1
    go_wp2_with fail
    refine (book_apart (hk.out.below g3) (by simp) (short2 l2) hbK).mono ?_; rintro e z4 ⟨rfl, h4⟩
    go_wp2
    exact hQ'.out _ _ _ _ _ _ _ _ _ _ _ _ _ _ _ _ _ _ _ _ _ _ _ _ _ z4 ((g3.mono hbw).trans h4)
  · have hno : decide (In X kk) = false := decide_eq_false (fun h => by have := in_out h; omega)
    have kd : decide (0 ≤ kk) = true := decide_eq_true (by omega)
    have kd2 : decide (kk < 64) = false := decide_eq_false (by omega)
    rw [hno] at HC
    clear hno
    conv => arg 2; whnf
    go_wp2_with (first | (refine wpList_load_mid rfl 26 _ rfl v 0 rfl (bv (bitsOf Le)) _ rV Try.underlying26 rfl HL.out.2.1 ?_))
    refine (refSpans_any Le _ cL).mono ?_; rintro e z1 ⟨v2, rfl, ho, g1⟩
    have rw2 := Hid.intro (own_row ho)
    have rl1 := Hid.intro (rl.out.below g1)
    obtain ⟨a0, a1, _, _⟩ := ba.out.here g1
    clear ho
    go_wp2_with fail
    refine (same_rows rl1.out rw2.out (by omega)).mono ?_; rintro e z2 ⟨rfl, h2⟩
    have g2 := below_step g1 h2
    clear a0 a1
    obtain ⟨a0, a1, _, _⟩ := ba.out.here g2
    go_wp2_with fail
    refine (HC.out _).mono ?_; rintro e z3 ⟨rfl, h3⟩
    have g3 := below_step g2 h3
    clear a0 a1
    go_wp2_with fail
    refine (book_apart (hk.out.below g3) (by simp) (short2 l2) hbK).mono ?_; rintro e z4 ⟨rfl, h4⟩
    go_wp2
    exact hQ'.out _ _ _ _ _ _ _ _ _ _ _ _ _ _ _ _ _ _ _ _ _ _ _ _ _ z4 ((g3.mono hbw).trans h4)
  · have k0 : (0 : Int) ≤ (kN : Int) := Int.natCast_nonneg _
    have k1 : (kN : Int) < 64 := by omega
    conv => arg 2; whnf
    go_wp2_with (first | (refine wpList_load_mid rfl 26 _ rfl v 0 rfl (bv (bitsOf Le)) _ rV Try.underlying26 rfl HL.out.2.1 ?_))
    refine (refSpans_any Le _ cL).mono ?_; rintro e z1 ⟨v2, rfl, ho, g1⟩
    have rw2 := Hid.intro (own_row ho)
    have rl1 := Hid.intro (rl.out.below g1)
    obtain ⟨a0, a1, _, _⟩ := ba.out.here g1
    clear ho
    go_wp2_with fail
    refine (same_rows rl1.out rw2.out (by omega)).mono ?_; rintro e z2 ⟨rfl, h2⟩
    have g2 := below_step g1 h2
    clear a0 a1
    obtain ⟨a0, a1, _, _⟩ := ba.out.here g2
    go_wp2_with fail
    refine (HC.out _).mono ?_; rintro e z3 ⟨rfl, h3⟩
    have g3 := below_step g2 h3
    clear a0 a1
    have dA := bit_cell (ap.out.below g3).2 kN klt
    go_wp2_with fail
    refine (book_apart (hk.out.below g3) (by simp) (short2 l2) hbK).mono ?_; rintro e z4 ⟨rfl, h4⟩
    go_wp2
    exact hQ'.out _ _ _ _ _ _ _ _ _ _ _ _ _ _ _ _ _ _ _ _ _ _ _ _ _ z4 ((g3.mono hbw).trans h4)
end Go.Proofs.Ytfaecglmpkcjlaa
