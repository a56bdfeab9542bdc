/-
  Region 3 of SpanTells: two sets, put into memory.
-/
import Derived.Test.YtfaecglmpkcjlaaTellsB
namespace Go.Proofs.Ytfaecglmpkcjlaa
open Go.ChangeShapes Go.WideShapes Go.ChangeAt Go.RowKit
attribute [local go_sem ↓] Go.wp_at_zero Go.wp_at_succ

theorem gen_K {K : Act → World → Prop} {a : Act} (W : World) (F : World → Prop) (h : F W) (k : ∀ z, F z → K a z) : K a W := k W h
theorem below_but {N p : Nat} {a w w' : World} (h : Below N a w) (hb : But p w w') (hp : N ≤ p) (hN : N ≤ w.heap.size) : Below N a w' :=
  h.trans ⟨hb.os, hb.tape, hb.output, hb.size, fun k hk => hb.block k (by omega) (by omega)⟩
set_option maxRecDepth 1000000 in
set_option maxHeartbeats 8000000 in
theorem reg3_walk {Q : Exit → Act → World → Prop} {k0 k1 k6 k7 k9 k10 k11 k12 k13 k14 k15 k16 k17 k18 k19 k20 k21 k22 k23 k24 k25 k26 k27 k28 k29 k30 k31 k32 k33 k34 k35 k36 k37 k38 k39 k40 k41 k42 k43 k44 k45 k46 k47 k48 k49 k50 k51 k52 k53 k54 k55 k56 k57 k58 k59 k60 k61 k62 k63 k64 k65 k66 k67 k68 k69 k70 k71 k72 k73 k74 k75 k76 k77 k78 k79 k80 k81 k82 k83 k84 k85 k86 k87 k88 k89 k90 k91 k92 k93 k94 k95 k96 k97 k98 k99 k100 k101 k102 k103 k104 k105 k106 k107 k108 k109 k110 k111 k112 k113 k114 k115 k116 k117 k118 k119 k120 k121 k122 k123 k124 k125 k126 k127 k128 k129 k130 k131 k132 k133 k134 k135 k136 k137 k138 k139 k140 k141 k142 k143 k144 k145 k146 k147 k148 k149 k150 k151 k152 k153 k154 k155 k156 k157 k158 k159 k160 k161 k162 k163 k164 k165 k166 k167 k168 k169 k170 k171 k172 k173 k174 k175 k176 k177 k178 k179 k180 k181 k182 k183 k184 k185 k186 k187 k188 k189 k190 k191 k192 k193 k194 k195 k196 k197 k198 k199 k200 k201 k202 k203 k204 k205 k206 k207 k208 k209 k210 k211 k212 k213 k214 k215 k216 k217 k218 k219 k220 k221 k222 k223 k224 k225 k226 k227 k228 k229 k230 k231 k232 k233 k234 : Value} {A Bb : Nat} {bl kk f n g m : Int} {X Y : List Sp} {wc : World} (hX : Hid (putR [] [(f, n)] = X)) (hY : Hid (putR [] [(g, m)] = Y))
    (ba : Hid (Box wc A (.int .i64 f) (.int .i64 n))) (bb : Hid (Box wc Bb (.int .i64 g) (.int .i64 m)))
    (hp : ∀ p (a : Act) (D : Option Tmp) (v : Value) (z : World), Q (Exit.panic p) (a.put D v) z → Q (Exit.panic p) a z) (hQ : ∀ (d27 d28 d29 d30 : Value) (p q : Nat) (z : World), wc.heap.size ≤ p → wc.heap.size ≤ q → p ≠ q → Box z A (.int .i64 f) (.int .i64 n) → Box z Bb (.int .i64 g) (.int .i64 m) → Arr z p X → Arr z q Y → Below wc.heap.size wc z → Q .normal ⟨#[k0, k1, .int .i64 bl, .int .i64 kk, .pointer (some ⟨A, 0, none⟩), .pointer (some ⟨Bb, 0, none⟩), k6, k7, .bool false, .pointer (some ⟨p, 0, none⟩), .pointer (some ⟨q, 0, none⟩), k11, k12, k13, k14, k15, k16, k17, k18, k19, k20, k21, k22, k23, k24, k25, k26, d27, d28, d29, d30, k31, k32, k33, k34, k35, k36, k37, k38, k39, k40, k41, k42, k43, k44, k45, k46, k47, k48, k49, k50, k51, k52, k53, k54, k55, k56, k57, k58, k59, k60, k61, k62, k63, k64, k65, k66, k67, k68, k69, k70, k71, k72, k73, k74, k75, k76, k77, k78, k79, k80, k81, k82, k83, k84, k85, k86, k87, k88, k89, k90, k91, k92, k93, k94, k95, k96, k97, k98, k99, k100, k101, k102, k103, k104, k105, k106, k107, k108, k109, k110, k111, k112, k113, k114, k115, k116, k117, k118, k119, k120, k121, k122, k123, k124, k125, k126, k127, k128, k129, k130, k131, k132, k133, k134, k135, k136, k137, k138, k139, k140, k141, k142, k143, k144, k145, k146, k147, k148, k149, k150, k151, k152, k153, k154, k155, k156, k157, k158, k159, k160, k161, k162, k163, k164, k165, k166, k167, k168, k169, k170, k171, k172, k173, k174, k175, k176, k177, k178, k179, k180, k181, k182, k183, k184, k185, k186, k187, k188, k189, k190, k191, k192, k193, k194, k195, k196, k197, k198, k199, k200, k201, k202, k203, k204, k205, k206, k207, k208, k209, k210, k211, k212, k213, k214, k215, k216, k217, k218, k219, k220, k221, k222, k223, k224, k225, k226, k227, k228, k229, k230, k231, k232, k233, k234], []⟩ z) :
    Code.wp Try.prog reg3 Q ⟨#[k0, k1, .int .i64 bl, .int .i64 kk, .pointer (some ⟨A, 0, none⟩), .pointer (some ⟨Bb, 0, none⟩), k6, k7, .bool false, k9, k10, k11, k12, k13, k14, k15, k16, k17, k18, k19, k20, k21, k22, k23, k24, k25, k26, k27, k28, k29, k30, k31, k32, k33, k34, k35, k36, k37, k38, k39, k40, k41, k42, k43, k44, k45, k46, k47, k48, k49, k50, k51, k52, k53, k54, k55, k56, k57, k58, k59, k60, k61, k62, k63, k64, k65, k66, k67, k68, k69, k70, k71, k72, k73, k74, k75, k76, k77, k78, k79, k80, k81, k82, k83, k84, k85, k86, k87, k88, k89, k90, k91, k92, k93, k94, k95, k96, k97, k98, k99, k100, k101, k102, k103, k104, k105, k106, k107, k108, k109, k110, k111, k112, k113, k114, k115, k116, k117, k118, k119, k120, k121, k122, k123, k124, k125, k126, k127, k128, k129, k130, k131, k132, k133, k134, k135, k136, k137, k138, k139, k140, k141, k142, k143, k144, k145, k146, k147, k148, k149, k150, k151, k152, k153, k154, k155, k156, k157, k158, k159, k160, k161, k162, k163, k164, k165, k166, k167, k168, k169, k170, k171, k172, k173, k174, k175, k176, k177, k178, k179, k180, k181, k182, k183, k184, k185, k186, k187, k188, k189, k190, k191, k192, k193, k194, k195, k196, k197, k198, k199, k200, k201, k202, k203, k204, k205, k206, k207, k208, k209, k210, k211, k212, k213, k214, k215, k216, k217, k218, k219, k220, k221, k222, k223, k224, k225, k226, k227, k228, k229, k230, k231, k232, k233, k234], []⟩ wc := by
  have zA := ba.out.lt
  have zB := bb.out.lt
  have hQ' := Hid.intro hQ
  have CX : Hid (∀ w, Calls Try.prog 5 #[.agg #[.int .i64 f, .int .i64 n]] w fun e w' => e = .returned (.agg (bv (bitsOf X)).toArray) ∧ Below w.heap.size w w') := Hid.intro (fun w => by rw [← hX.out]; exact set_any f n w)
  have CY : Hid (∀ w, Calls Try.prog 5 #[.agg #[.int .i64 g, .int .i64 m]] w fun e w' => e = .returned (.agg (bv (bitsOf Y)).toArray) ∧ Below w.heap.size w w') := Hid.intro (fun w => by rw [← hY.out]; exact set_any g m w)
  have HX := Hid.intro (bv_facts X)
  have HY := Hid.intro (bv_facts Y)
  have sX : Hid ((bv (bitsOf X)).toArray.size = 64) := Hid.intro (by simp [HX.out.1])
  have sY : Hid ((bv (bitsOf Y)).toArray.size = 64) := Hid.intro (by simp [HY.out.1])
  clear hQ
  conv => arg 2; whnf
  refine wp_region_held_drew (S := fun w' => w'.cell? ⟨A, 0, none⟩ = some (.int .i64 f) ∧ w'.cell? ⟨A, 1, none⟩ = some (.int .i64 n) ∧ w'.cell? ⟨Bb, 0, none⟩ = some (.int .i64 g) ∧ w'.cell? ⟨Bb, 1, none⟩ = some (.int .i64 m)) (by kernel_rfl) ⟨ba.out.1, ba.out.2.1, bb.out.1, bb.out.2.1⟩ (fun hHeld => ?_)
  have G : Hid (Below wc.heap.size wc wc.drew) := Hid.intro below_drw
  have A0 := Hid.intro (ba.out.here below_drw)
  have B0 := Hid.intro (bb.out.here below_drw)
  clear ba bb
  generalize wc.drew = z0 at *
  refine wpAnyH_take (i := 0) (v := .agg #[.int .i64 f, .int .i64 n]) rfl (by kernel_rfl) (by kernel_rfl) (by kernel_rfl) (fun p a z h => hp p a _ _ z h) (Or.inl ⟨by rfl, fun w' hSw => by obtain ⟨s0, s1, s2, s3⟩ := hSw; go_simp⟩) hHeld ?_
  change wpAnyH _ _ _ _ _ _ _ (Act.put _ (some 27) _) _
  simp only [Act.put, List.setIfInBounds_toArray, List.set_cons_zero, List.set_cons_succ]
  refine wpAnyH_take (i := 2) (v := .agg #[.int .i64 g, .int .i64 m]) rfl (by kernel_rfl) (by kernel_rfl) (by kernel_rfl) (fun p a z h => hp p a _ _ z h) (Or.inl ⟨by rfl, fun w' hSw => by obtain ⟨s0, s1, s2, s3⟩ := hSw; go_simp⟩) hHeld ?_
  change wpAnyH _ _ _ _ _ _ _ (Act.put _ (some 29) _) _
  simp only [Act.put, List.setIfInBounds_toArray, List.set_cons_zero, List.set_cons_succ]
  refine wpAnyH_ready (rs := [1, 4, 5]) (by kernel_rfl) (by simp) ?_
  refine AllReadyH.cons rfl (fun K hK => ?_) (AllReadyH.cons rfl (fun K hK => ?_) (AllReadyH.cons rfl (fun K hK => ?_) AllReadyH.nil))
  · go_simp
    refine (CX.out _).mono ?_; rintro e z1 ⟨rfl, b1⟩
    have G1 := Hid.intro (below_step G.out b1)
    have A1 := A0.out.here b1
    have B1 := B0.out.here b1
    clear b1
    refine hK.out _ _ ⟨A1.1, A1.2.1, B1.1, B1.2.1⟩ (fun hHeld => ?_); clear hK K
    clear G A0 B0
    have G := G1
    have A0 := Hid.intro A1
    have B0 := Hid.intro B1
    clear G1 A1 B1
    refine wpAnyH_ready (rs := [3, 4, 5]) (by kernel_rfl) (by simp) ?_
    refine AllReadyH.cons rfl (fun K hK => ?_) (AllReadyH.cons rfl (fun K hK => ?_) (AllReadyH.cons rfl (fun K hK => ?_) AllReadyH.nil))
    · go_simp
      refine (CY.out _).mono ?_; rintro e z2 ⟨rfl, b1⟩
      have G1 := Hid.intro (below_step G.out b1)
      have A1 := A0.out.here b1
      have B1 := B0.out.here b1
      clear b1
      refine hK.out _ _ ⟨A1.1, A1.2.1, B1.1, B1.2.1⟩ (fun hHeld => ?_); clear hK K
      clear G A0 B0
      have G := G1
      have A0 := Hid.intro A1
      have B0 := Hid.intro B1
      clear G1 A1 B1
      refine wpAnyH_ready (rs := [4, 5]) (by kernel_rfl) (by simp) ?_
      refine AllReadyH.cons rfl (fun K hK => ?_) (AllReadyH.cons rfl (fun K hK => ?_) AllReadyH.nil)
      · go_simp
        refine gen_K _ (fun z' => Arr z' z2.heap.size [] ∧ Below z2.heap.size z2 z') ⟨Arr.zero z2, below_alc⟩ ?_
        rintro z3 ⟨N1, b1⟩
        have hpp := G.out.size
        have G1 := Hid.intro (below_step G.out b1)
        have A1 := A0.out.here b1
        have B1 := B0.out.here b1
        clear b1
        have P1 := Hid.intro N1
        clear N1
        generalize z2.heap.size = p at *
        refine hK.out _ _ ⟨A1.1, A1.2.1, B1.1, B1.2.1⟩ (fun hHeld => ?_); clear hK K
        clear G A0 B0
        have G := G1
        have A0 := Hid.intro A1
        have B0 := Hid.intro B1
        clear G1 A1 B1
        have P0 := P1
        clear P1
        refine wpAnyH_ready (rs := [5]) (by kernel_rfl) (by simp) ?_
        refine AllReadyH.cons rfl (fun K hK => ?_) AllReadyH.nil
        · go_simp
          refine gen_K _ (fun z' => Arr z' z3.heap.size [] ∧ Below z3.heap.size z3 z') ⟨Arr.zero z3, below_alc⟩ ?_
          rintro z4 ⟨N1, b1⟩
          have hq := G.out.size
          have hpq : p ≠ z3.heap.size := by have := P0.out.lt; omega
          have G1 := Hid.intro (below_step G.out b1)
          have A1 := A0.out.here b1
          have B1 := B0.out.here b1
          have P1 := Hid.intro (P0.out.below b1)
          clear b1
          have R1 := Hid.intro N1
          clear N1
          generalize z3.heap.size = q at *
          refine hK.out _ _ ⟨A1.1, A1.2.1, B1.1, B1.2.1⟩ (fun hHeld => ?_); clear hK K
          clear G A0 B0 P0
          have G := G1
          have A0 := Hid.intro A1
          have B0 := Hid.intro B1
          clear G1 A1 B1
          have P0 := P1
          clear P1
          have R0 := R1
          clear R1
          refine wpAnyH_ready (rs := [6]) (by kernel_rfl) (by simp) ?_
          refine AllReadyH.cons rfl (fun K hK => ?_) AllReadyH.nil
          rw [if_pos (by rfl)]
          refine wp_store_mid 26 _ _ rfl p 0 (bv (bitsOf X)).toArray rfl rfl (by rw [sX.out]; exact P0.out.there) HX.out.2.2.2 HX.out.2.2.1 ?_
          refine gen_K _ (fun z' => Arr z' p X ∧ But p z4 z') ⟨Arr.set P0.out X, set_but _ _ _⟩ ?_
          rintro z5 ⟨N1, b1⟩
          have G1 := Hid.intro (below_but G.out b1 hpp G.out.size)
          have A1 := A0.out.butAt b1 (by omega)
          have B1 := B0.out.butAt b1 (by omega)
          have R1 := Hid.intro (R0.out.butAt b1 (fun h => hpq h.symm))
          clear b1
          have P1 := Hid.intro N1
          clear N1
          refine hK.out _ _ ⟨A1.1, A1.2.1, B1.1, B1.2.1⟩ (fun hHeld => ?_); clear hK K
          clear G A0 B0 P0 R0
          have G := G1
          have A0 := Hid.intro A1
          have B0 := Hid.intro B1
          clear G1 A1 B1
          have P0 := P1
          clear P1
          have R0 := R1
          clear R1
          change wpAnyH _ _ _ _ _ _ _ (Act.put _ none _) _
          simp only [Act.put]
          refine wpAnyH_ready (rs := [7]) (by kernel_rfl) (by simp) ?_
          refine AllReadyH.cons rfl (fun K hK => ?_) AllReadyH.nil
          rw [if_pos (by rfl)]
          refine wp_store_mid 26 _ _ rfl q 0 (bv (bitsOf Y)).toArray rfl rfl (by rw [sY.out]; exact R0.out.there) HY.out.2.2.2 HY.out.2.2.1 ?_
          refine gen_K _ (fun z' => Arr z' q Y ∧ But q z5 z') ⟨Arr.set R0.out Y, set_but _ _ _⟩ ?_
          rintro z6 ⟨N1, b1⟩
          have G1 := Hid.intro (below_but G.out b1 hq G.out.size)
          have A1 := A0.out.butAt b1 (by omega)
          have B1 := B0.out.butAt b1 (by omega)
          have P1 := Hid.intro (P0.out.butAt b1 hpq)
          clear b1
          have R1 := Hid.intro N1
          clear N1
          refine hK.out _ _ ⟨A1.1, A1.2.1, B1.1, B1.2.1⟩ (fun hHeld => ?_); clear hK K
          clear G A0 B0 P0 R0
          have G := G1
          have A0 := Hid.intro A1
          have B0 := Hid.intro B1
          clear G1 A1 B1
          have P0 := P1
          clear P1
          have R0 := R1
          clear R1
          change wpAnyH _ _ _ _ _ _ _ (Act.put _ none _) _
          simp only [Act.put]
          refine wpAnyH_done (by kernel_rfl) ?_ _
          exact hQ'.out _ _ _ _ p q _ hpp hq hpq A0.out B0.out P0.out R0.out G.out
      · go_simp
        refine gen_K _ (fun z' => Arr z' z2.heap.size [] ∧ Below z2.heap.size z2 z') ⟨Arr.zero z2, below_alc⟩ ?_
        rintro z3 ⟨N1, b1⟩
        have hq := G.out.size
        have G1 := Hid.intro (below_step G.out b1)
        have A1 := A0.out.here b1
        have B1 := B0.out.here b1
        clear b1
        have R1 := Hid.intro N1
        clear N1
        generalize z2.heap.size = q at *
        refine hK.out _ _ ⟨A1.1, A1.2.1, B1.1, B1.2.1⟩ (fun hHeld => ?_); clear hK K
        clear G A0 B0
        have G := G1
        have A0 := Hid.intro A1
        have B0 := Hid.intro B1
        clear G1 A1 B1
        have R0 := R1
        clear R1
        refine wpAnyH_ready (rs := [4]) (by kernel_rfl) (by simp) ?_
        refine AllReadyH.cons rfl (fun K hK => ?_) AllReadyH.nil
        · go_simp
          refine gen_K _ (fun z' => Arr z' z3.heap.size [] ∧ Below z3.heap.size z3 z') ⟨Arr.zero z3, below_alc⟩ ?_
          rintro z4 ⟨N1, b1⟩
          have hpp := G.out.size
          have hpq : z3.heap.size ≠ q := by have := R0.out.lt; omega
          have G1 := Hid.intro (below_step G.out b1)
          have A1 := A0.out.here b1
          have B1 := B0.out.here b1
          have R1 := Hid.intro (R0.out.below b1)
          clear b1
          have P1 := Hid.intro N1
          clear N1
          generalize z3.heap.size = p at *
          refine hK.out _ _ ⟨A1.1, A1.2.1, B1.1, B1.2.1⟩ (fun hHeld => ?_); clear hK K
          clear G A0 B0 R0
          have G := G1
          have A0 := Hid.intro A1
          have B0 := Hid.intro B1
          clear G1 A1 B1
          have P0 := P1
          clear P1
          have R0 := R1
          clear R1
          refine wpAnyH_ready (rs := [6]) (by kernel_rfl) (by simp) ?_
          refine AllReadyH.cons rfl (fun K hK => ?_) AllReadyH.nil
          rw [if_pos (by rfl)]
          refine wp_store_mid 26 _ _ rfl p 0 (bv (bitsOf X)).toArray rfl rfl (by rw [sX.out]; exact P0.out.there) HX.out.2.2.2 HX.out.2.2.1 ?_
          refine gen_K _ (fun z' => Arr z' p X ∧ But p z4 z') ⟨Arr.set P0.out X, set_but _ _ _⟩ ?_
          rintro z5 ⟨N1, b1⟩
          have G1 := Hid.intro (below_but G.out b1 hpp G.out.size)
          have A1 := A0.out.butAt b1 (by omega)
          have B1 := B0.out.butAt b1 (by omega)
          have R1 := Hid.intro (R0.out.butAt b1 (fun h => hpq h.symm))
          clear b1
          have P1 := Hid.intro N1
          clear N1
          refine hK.out _ _ ⟨A1.1, A1.2.1, B1.1, B1.2.1⟩ (fun hHeld => ?_); clear hK K
          clear G A0 B0 P0 R0
          have G := G1
          have A0 := Hid.intro A1
          have B0 := Hid.intro B1
          clear G1 A1 B1
          have P0 := P1
          clear P1
          have R0 := R1
          clear R1
          change wpAnyH _ _ _ _ _ _ _ (Act.put _ none _) _
          simp only [Act.put]
          refine wpAnyH_ready (rs := [7]) (by kernel_rfl) (by simp) ?_
          refine AllReadyH.cons rfl (fun K hK => ?_) AllReadyH.nil
          rw [if_pos (by rfl)]
          refine wp_store_mid 26 _ _ rfl q 0 (bv (bitsOf Y)).toArray rfl rfl (by rw [sY.out]; exact R0.out.there) HY.out.2.2.2 HY.out.2.2.1 ?_
          refine gen_K _ (fun z' => Arr z' q Y ∧ But q z5 z') ⟨Arr.set R0.out Y, set_but _ _ _⟩ ?_
          rintro z6 ⟨N1, b1⟩
          have G1 := Hid.intro (below_but G.out b1 hq G.out.size)
          have A1 := A0.out.butAt b1 (by omega)
          have B1 := B0.out.butAt b1 (by omega)
          have P1 := Hid.intro (P0.out.butAt b1 hpq)
          clear b1
          have R1 := Hid.intro N1
          clear N1
          refine hK.out _ _ ⟨A1.1, A1.2.1, B1.1, B1.2.1⟩ (fun hHeld => ?_); clear hK K
          clear G A0 B0 P0 R0
          have G := G1
          have A0 := Hid.intro A1
          have B0 := Hid.intro B1
          clear G1 A1 B1
          have P0 := P1
          clear P1
          have R0 := R1
          clear R1
          change wpAnyH _ _ _ _ _ _ _ (Act.put _ none _) _
          simp only [Act.put]
          refine wpAnyH_done (by kernel_rfl) ?_ _
          exact hQ'.out _ _ _ _ p q _ hpp hq hpq A0.out B0.out P0.out R0.out G.out
    · go_simp
      refine gen_K _ (fun z' => Arr z' z1.heap.size [] ∧ Below z1.heap.size z1 z') ⟨Arr.zero z1, below_alc⟩ ?_
      rintro z2 ⟨N1, b1⟩
      have hpp := G.out.size
      have G1 := Hid.intro (below_step G.out b1)
      have A1 := A0.out.here b1
      have B1 := B0.out.here b1
      clear b1
      have P1 := Hid.intro N1
      clear N1
      generalize z1.heap.size = p at *
      refine hK.out _ _ ⟨A1.1, A1.2.1, B1.1, B1.2.1⟩ (fun hHeld => ?_); clear hK K
      clear G A0 B0
      have G := G1
      have A0 := Hid.intro A1
      have B0 := Hid.intro B1
      clear G1 A1 B1
      have P0 := P1
      clear P1
      refine wpAnyH_ready (rs := [3, 5]) (by kernel_rfl) (by simp) ?_
      refine AllReadyH.cons rfl (fun K hK => ?_) (AllReadyH.cons rfl (fun K hK => ?_) AllReadyH.nil)
      · go_simp
        refine (CY.out _).mono ?_; rintro e z3 ⟨rfl, b1⟩
        have G1 := Hid.intro (below_step G.out b1)
        have A1 := A0.out.here b1
        have B1 := B0.out.here b1
        have P1 := Hid.intro (P0.out.below b1)
        clear b1
        refine hK.out _ _ ⟨A1.1, A1.2.1, B1.1, B1.2.1⟩ (fun hHeld => ?_); clear hK K
        clear G A0 B0 P0
        have G := G1
        have A0 := Hid.intro A1
        have B0 := Hid.intro B1
        clear G1 A1 B1
        have P0 := P1
        clear P1
        refine wpAnyH_ready (rs := [5]) (by kernel_rfl) (by simp) ?_
        refine AllReadyH.cons rfl (fun K hK => ?_) AllReadyH.nil
        · go_simp
          refine gen_K _ (fun z' => Arr z' z3.heap.size [] ∧ Below z3.heap.size z3 z') ⟨Arr.zero z3, below_alc⟩ ?_
          rintro z4 ⟨N1, b1⟩
          have hq := G.out.size
          have hpq : p ≠ z3.heap.size := by have := P0.out.lt; omega
          have G1 := Hid.intro (below_step G.out b1)
          have A1 := A0.out.here b1
          have B1 := B0.out.here b1
          have P1 := Hid.intro (P0.out.below b1)
          clear b1
          have R1 := Hid.intro N1
          clear N1
          generalize z3.heap.size = q at *
          refine hK.out _ _ ⟨A1.1, A1.2.1, B1.1, B1.2.1⟩ (fun hHeld => ?_); clear hK K
          clear G A0 B0 P0
          have G := G1
          have A0 := Hid.intro A1
          have B0 := Hid.intro B1
          clear G1 A1 B1
          have P0 := P1
          clear P1
          have R0 := R1
          clear R1
          refine wpAnyH_ready (rs := [6]) (by kernel_rfl) (by simp) ?_
          refine AllReadyH.cons rfl (fun K hK => ?_) AllReadyH.nil
          rw [if_pos (by rfl)]
          refine wp_store_mid 26 _ _ rfl p 0 (bv (bitsOf X)).toArray rfl rfl (by rw [sX.out]; exact P0.out.there) HX.out.2.2.2 HX.out.2.2.1 ?_
          refine gen_K _ (fun z' => Arr z' p X ∧ But p z4 z') ⟨Arr.set P0.out X, set_but _ _ _⟩ ?_
          rintro z5 ⟨N1, b1⟩
          have G1 := Hid.intro (below_but G.out b1 hpp G.out.size)
          have A1 := A0.out.butAt b1 (by omega)
          have B1 := B0.out.butAt b1 (by omega)
          have R1 := Hid.intro (R0.out.butAt b1 (fun h => hpq h.symm))
          clear b1
          have P1 := Hid.intro N1
          clear N1
          refine hK.out _ _ ⟨A1.1, A1.2.1, B1.1, B1.2.1⟩ (fun hHeld => ?_); clear hK K
          clear G A0 B0 P0 R0
          have G := G1
          have A0 := Hid.intro A1
          have B0 := Hid.intro B1
          clear G1 A1 B1
          have P0 := P1
          clear P1
          have R0 := R1
          clear R1
          change wpAnyH _ _ _ _ _ _ _ (Act.put _ none _) _
          simp only [Act.put]
          refine wpAnyH_ready (rs := [7]) (by kernel_rfl) (by simp) ?_
          refine AllReadyH.cons rfl (fun K hK => ?_) AllReadyH.nil
          rw [if_pos (by rfl)]
          refine wp_store_mid 26 _ _ rfl q 0 (bv (bitsOf Y)).toArray rfl rfl (by rw [sY.out]; exact R0.out.there) HY.out.2.2.2 HY.out.2.2.1 ?_
          refine gen_K _ (fun z' => Arr z' q Y ∧ But q z5 z') ⟨Arr.set R0.out Y, set_but _ _ _⟩ ?_
          rintro z6 ⟨N1, b1⟩
          have G1 := Hid.intro (below_but G.out b1 hq G.out.size)
          have A1 := A0.out.butAt b1 (by omega)
          have B1 := B0.out.butAt b1 (by omega)
          have P1 := Hid.intro (P0.out.butAt b1 hpq)
          clear b1
          have R1 := Hid.intro N1
          clear N1
          refine hK.out _ _ ⟨A1.1, A1.2.1, B1.1, B1.2.1⟩ (fun hHeld => ?_); clear hK K
          clear G A0 B0 P0 R0
          have G := G1
          have A0 := Hid.intro A1
          have B0 := Hid.intro B1
          clear G1 A1 B1
          have P0 := P1
          clear P1
          have R0 := R1
          clear R1
          change wpAnyH _ _ _ _ _ _ _ (Act.put _ none _) _
          simp only [Act.put]
          refine wpAnyH_done (by kernel_rfl) ?_ _
          exact hQ'.out _ _ _ _ p q _ hpp hq hpq A0.out B0.out P0.out R0.out G.out
      · go_simp
        refine gen_K _ (fun z' => Arr z' z2.heap.size [] ∧ Below z2.heap.size z2 z') ⟨Arr.zero z2, below_alc⟩ ?_
        rintro z3 ⟨N1, b1⟩
        have hq := G.out.size
        have hpq : p ≠ z2.heap.size := by have := P0.out.lt; omega
        have G1 := Hid.intro (below_step G.out b1)
        have A1 := A0.out.here b1
        have B1 := B0.out.here b1
        have P1 := Hid.intro (P0.out.below b1)
        clear b1
        have R1 := Hid.intro N1
        clear N1
        generalize z2.heap.size = q at *
        refine hK.out _ _ ⟨A1.1, A1.2.1, B1.1, B1.2.1⟩ (fun hHeld => ?_); clear hK K
        clear G A0 B0 P0
        have G := G1
        have A0 := Hid.intro A1
        have B0 := Hid.intro B1
        clear G1 A1 B1
        have P0 := P1
        clear P1
        have R0 := R1
        clear R1
        refine wpAnyH_ready (rs := [3]) (by kernel_rfl) (by simp) ?_
        refine AllReadyH.cons rfl (fun K hK => ?_) AllReadyH.nil
        · go_simp
          refine (CY.out _).mono ?_; rintro e z4 ⟨rfl, b1⟩
          have G1 := Hid.intro (below_step G.out b1)
          have A1 := A0.out.here b1
          have B1 := B0.out.here b1
          have P1 := Hid.intro (P0.out.below b1)
          have R1 := Hid.intro (R0.out.below b1)
          clear b1
          refine hK.out _ _ ⟨A1.1, A1.2.1, B1.1, B1.2.1⟩ (fun hHeld => ?_); clear hK K
          clear G A0 B0 P0 R0
          have G := G1
          have A0 := Hid.intro A1
          have B0 := Hid.intro B1
          clear G1 A1 B1
          have P0 := P1
          clear P1
          have R0 := R1
          clear R1
          refine wpAnyH_ready (rs := [6]) (by kernel_rfl) (by simp) ?_
          refine AllReadyH.cons rfl (fun K hK => ?_) AllReadyH.nil
          rw [if_pos (by rfl)]
          refine wp_store_mid 26 _ _ rfl p 0 (bv (bitsOf X)).toArray rfl rfl (by rw [sX.out]; exact P0.out.there) HX.out.2.2.2 HX.out.2.2.1 ?_
          refine gen_K _ (fun z' => Arr z' p X ∧ But p z4 z') ⟨Arr.set P0.out X, set_but _ _ _⟩ ?_
          rintro z5 ⟨N1, b1⟩
          have G1 := Hid.intro (below_but G.out b1 hpp G.out.size)
          have A1 := A0.out.butAt b1 (by omega)
          have B1 := B0.out.butAt b1 (by omega)
          have R1 := Hid.intro (R0.out.butAt b1 (fun h => hpq h.symm))
          clear b1
          have P1 := Hid.intro N1
          clear N1
          refine hK.out _ _ ⟨A1.1, A1.2.1, B1.1, B1.2.1⟩ (fun hHeld => ?_); clear hK K
          clear G A0 B0 P0 R0
          have G := G1
          have A0 := Hid.intro A1
          have B0 := Hid.intro B1
          clear G1 A1 B1
          have P0 := P1
          clear P1
          have R0 := R1
          clear R1
          change wpAnyH _ _ _ _ _ _ _ (Act.put _ none _) _
          simp only [Act.put]
          refine wpAnyH_ready (rs := [7]) (by kernel_rfl) (by simp) ?_
          refine AllReadyH.cons rfl (fun K hK => ?_) AllReadyH.nil
          rw [if_pos (by rfl)]
          refine wp_store_mid 26 _ _ rfl q 0 (bv (bitsOf Y)).toArray rfl rfl (by rw [sY.out]; exact R0.out.there) HY.out.2.2.2 HY.out.2.2.1 ?_
          refine gen_K _ (fun z' => Arr z' q Y ∧ But q z5 z') ⟨Arr.set R0.out Y, set_but _ _ _⟩ ?_
          rintro z6 ⟨N1, b1⟩
          have G1 := Hid.intro (below_but G.out b1 hq G.out.size)
          have A1 := A0.out.butAt b1 (by omega)
          have B1 := B0.out.butAt b1 (by omega)
          have P1 := Hid.intro (P0.out.butAt b1 hpq)
          clear b1
          have R1 := Hid.intro N1
          clear N1
          refine hK.out _ _ ⟨A1.1, A1.2.1, B1.1, B1.2.1⟩ (fun hHeld => ?_); clear hK K
          clear G A0 B0 P0 R0
          have G := G1
          have A0 := Hid.intro A1
          have B0 := Hid.intro B1
          clear G1 A1 B1
          have P0 := P1
          clear P1
          have R0 := R1
          clear R1
          change wpAnyH _ _ _ _ _ _ _ (Act.put _ none _) _
          simp only [Act.put]
          refine wpAnyH_done (by kernel_rfl) ?_ _
          exact hQ'.out _ _ _ _ p q _ hpp hq hpq A0.out B0.out P0.out R0.out G.out
    · go_simp
      refine gen_K _ (fun z' => Arr z' z1.heap.size [] ∧ Below z1.heap.size z1 z') ⟨Arr.zero z1, below_alc⟩ ?_
      rintro z2 ⟨N1, b1⟩
      have hq := G.out.size
      have G1 := Hid.intro (below_step G.out b1)
      have A1 := A0.out.here b1
      have B1 := B0.out.here b1
      clear b1
      have R1 := Hid.intro N1
      clear N1
      generalize z1.heap.size = q at *
      refine hK.out _ _ ⟨A1.1, A1.2.1, B1.1, B1.2.1⟩ (fun hHeld => ?_); clear hK K
      clear G A0 B0
      have G := G1
      have A0 := Hid.intro A1
      have B0 := Hid.intro B1
      clear G1 A1 B1
      have R0 := R1
      clear R1
      refine wpAnyH_ready (rs := [3, 4]) (by kernel_rfl) (by simp) ?_
      refine AllReadyH.cons rfl (fun K hK => ?_) (AllReadyH.cons rfl (fun K hK => ?_) AllReadyH.nil)
      · go_simp
        refine (CY.out _).mono ?_; rintro e z3 ⟨rfl, b1⟩
        have G1 := Hid.intro (below_step G.out b1)
        have A1 := A0.out.here b1
        have B1 := B0.out.here b1
        have R1 := Hid.intro (R0.out.below b1)
        clear b1
        refine hK.out _ _ ⟨A1.1, A1.2.1, B1.1, B1.2.1⟩ (fun hHeld => ?_); clear hK K
        clear G A0 B0 R0
        have G := G1
        have A0 := Hid.intro A1
        have B0 := Hid.intro B1
        clear G1 A1 B1
        have R0 := R1
        clear R1
        refine wpAnyH_ready (rs := [4]) (by kernel_rfl) (by simp) ?_
        refine AllReadyH.cons rfl (fun K hK => ?_) AllReadyH.nil
        · go_simp
          refine gen_K _ (fun z' => Arr z' z3.heap.size [] ∧ Below z3.heap.size z3 z') ⟨Arr.zero z3, below_alc⟩ ?_
          rintro z4 ⟨N1, b1⟩
          have hpp := G.out.size
          have hpq : z3.heap.size ≠ q := by have := R0.out.lt; omega
          have G1 := Hid.intro (below_step G.out b1)
          have A1 := A0.out.here b1
          have B1 := B0.out.here b1
          have R1 := Hid.intro (R0.out.below b1)
          clear b1
          have P1 := Hid.intro N1
          clear N1
          generalize z3.heap.size = p at *
          refine hK.out _ _ ⟨A1.1, A1.2.1, B1.1, B1.2.1⟩ (fun hHeld => ?_); clear hK K
          clear G A0 B0 R0
          have G := G1
          have A0 := Hid.intro A1
          have B0 := Hid.intro B1
          clear G1 A1 B1
          have P0 := P1
          clear P1
          have R0 := R1
          clear R1
          refine wpAnyH_ready (rs := [6]) (by kernel_rfl) (by simp) ?_
          refine AllReadyH.cons rfl (fun K hK => ?_) AllReadyH.nil
          rw [if_pos (by rfl)]
          refine wp_store_mid 26 _ _ rfl p 0 (bv (bitsOf X)).toArray rfl rfl (by rw [sX.out]; exact P0.out.there) HX.out.2.2.2 HX.out.2.2.1 ?_
          refine gen_K _ (fun z' => Arr z' p X ∧ But p z4 z') ⟨Arr.set P0.out X, set_but _ _ _⟩ ?_
          rintro z5 ⟨N1, b1⟩
          have G1 := Hid.intro (below_but G.out b1 hpp G.out.size)
          have A1 := A0.out.butAt b1 (by omega)
          have B1 := B0.out.butAt b1 (by omega)
          have R1 := Hid.intro (R0.out.butAt b1 (fun h => hpq h.symm))
          clear b1
          have P1 := Hid.intro N1
          clear N1
          refine hK.out _ _ ⟨A1.1, A1.2.1, B1.1, B1.2.1⟩ (fun hHeld => ?_); clear hK K
          clear G A0 B0 P0 R0
          have G := G1
          have A0 := Hid.intro A1
          have B0 := Hid.intro B1
          clear G1 A1 B1
          have P0 := P1
          clear P1
          have R0 := R1
          clear R1
          change wpAnyH _ _ _ _ _ _ _ (Act.put _ none _) _
          simp only [Act.put]
          refine wpAnyH_ready (rs := [7]) (by kernel_rfl) (by simp) ?_
          refine AllReadyH.cons rfl (fun K hK => ?_) AllReadyH.nil
          rw [if_pos (by rfl)]
          refine wp_store_mid 26 _ _ rfl q 0 (bv (bitsOf Y)).toArray rfl rfl (by rw [sY.out]; exact R0.out.there) HY.out.2.2.2 HY.out.2.2.1 ?_
          refine gen_K _ (fun z' => Arr z' q Y ∧ But q z5 z') ⟨Arr.set R0.out Y, set_but _ _ _⟩ ?_
          rintro z6 ⟨N1, b1⟩
          have G1 := Hid.intro (below_but G.out b1 hq G.out.size)
          have A1 := A0.out.butAt b1 (by omega)
          have B1 := B0.out.butAt b1 (by omega)
          have P1 := Hid.intro (P0.out.butAt b1 hpq)
          clear b1
          have R1 := Hid.intro N1
          clear N1
          refine hK.out _ _ ⟨A1.1, A1.2.1, B1.1, B1.2.1⟩ (fun hHeld => ?_); clear hK K
          clear G A0 B0 P0 R0
          have G := G1
          have A0 := Hid.intro A1
          have B0 := Hid.intro B1
          clear G1 A1 B1
          have P0 := P1
          clear P1
          have R0 := R1
          clear R1
          change wpAnyH _ _ _ _ _ _ _ (Act.put _ none _) _
          simp only [Act.put]
          refine wpAnyH_done (by kernel_rfl) ?_ _
          exact hQ'.out _ _ _ _ p q _ hpp hq hpq A0.out B0.out P0.out R0.out G.out
      · go_simp
        refine gen_K _ (fun z' => Arr z' z2.heap.size [] ∧ Below z2.heap.size z2 z') ⟨Arr.zero z2, below_alc⟩ ?_
        rintro z3 ⟨N1, b1⟩
        have hpp := G.out.size
        have hpq : z2.heap.size ≠ q := by have := R0.out.lt; omega
        have G1 := Hid.intro (below_step G.out b1)
        have A1 := A0.out.here b1
        have B1 := B0.out.here b1
        have R1 := Hid.intro (R0.out.below b1)
        clear b1
        have P1 := Hid.intro N1
        clear N1
        generalize z2.heap.size = p at *
        refine hK.out _ _ ⟨A1.1, A1.2.1, B1.1, B1.2.1⟩ (fun hHeld => ?_); clear hK K
        clear G A0 B0 R0
        have G := G1
        have A0 := Hid.intro A1
        have B0 := Hid.intro B1
        clear G1 A1 B1
        have P0 := P1
        clear P1
        have R0 := R1
        clear R1
        refine wpAnyH_ready (rs := [3]) (by kernel_rfl) (by simp) ?_
        refine AllReadyH.cons rfl (fun K hK => ?_) AllReadyH.nil
        · go_simp
          refine (CY.out _).mono ?_; rintro e z4 ⟨rfl, b1⟩
          have G1 := Hid.intro (below_step G.out b1)
          have A1 := A0.out.here b1
          have B1 := B0.out.here b1
          have P1 := Hid.intro (P0.out.below b1)
          have R1 := Hid.intro (R0.out.below b1)
          clear b1
          refine hK.out _ _ ⟨A1.1, A1.2.1, B1.1, B1.2.1⟩ (fun hHeld => ?_); clear hK K
          clear G A0 B0 P0 R0
          have G := G1
          have A0 := Hid.intro A1
          have B0 := Hid.intro B1
          clear G1 A1 B1
          have P0 := P1
          clear P1
          have R0 := R1
          clear R1
          refine wpAnyH_ready (rs := [6]) (by kernel_rfl) (by simp) ?_
          refine AllReadyH.cons rfl (fun K hK => ?_) AllReadyH.nil
          rw [if_pos (by rfl)]
          refine wp_store_mid 26 _ _ rfl p 0 (bv (bitsOf X)).toArray rfl rfl (by rw [sX.out]; exact P0.out.there) HX.out.2.2.2 HX.out.2.2.1 ?_
          refine gen_K _ (fun z' => Arr z' p X ∧ But p z4 z') ⟨Arr.set P0.out X, set_but _ _ _⟩ ?_
          rintro z5 ⟨N1, b1⟩
          have G1 := Hid.intro (below_but G.out b1 hpp G.out.size)
          have A1 := A0.out.butAt b1 (by omega)
          have B1 := B0.out.butAt b1 (by omega)
          have R1 := Hid.intro (R0.out.butAt b1 (fun h => hpq h.symm))
          clear b1
          have P1 := Hid.intro N1
          clear N1
          refine hK.out _ _ ⟨A1.1, A1.2.1, B1.1, B1.2.1⟩ (fun hHeld => ?_); clear hK K
          clear G A0 B0 P0 R0
          have G := G1
          have A0 := Hid.intro A1
          have B0 := Hid.intro B1
          clear G1 A1 B1
          have P0 := P1
          clear P1
          have R0 := R1
          clear R1
          change wpAnyH _ _ _ _ _ _ _ (Act.put _ none _) _
          simp only [Act.put]
          refine wpAnyH_ready (rs := [7]) (by kernel_rfl) (by simp) ?_
          refine AllReadyH.cons rfl (fun K hK => ?_) AllReadyH.nil
          rw [if_pos (by rfl)]
          refine wp_store_mid 26 _ _ rfl q 0 (bv (bitsOf Y)).toArray rfl rfl (by rw [sY.out]; exact R0.out.there) HY.out.2.2.2 HY.out.2.2.1 ?_
          refine gen_K _ (fun z' => Arr z' q Y ∧ But q z5 z') ⟨Arr.set R0.out Y, set_but _ _ _⟩ ?_
          rintro z6 ⟨N1, b1⟩
          have G1 := Hid.intro (below_but G.out b1 hq G.out.size)
          have A1 := A0.out.butAt b1 (by omega)
          have B1 := B0.out.butAt b1 (by omega)
          have P1 := Hid.intro (P0.out.butAt b1 hpq)
          clear b1
          have R1 := Hid.intro N1
          clear N1
          refine hK.out _ _ ⟨A1.1, A1.2.1, B1.1, B1.2.1⟩ (fun hHeld => ?_); clear hK K
          clear G A0 B0 P0 R0
          have G := G1
          have A0 := Hid.intro A1
          have B0 := Hid.intro B1
          clear G1 A1 B1
          have P0 := P1
          clear P1
          have R0 := R1
          clear R1
          change wpAnyH _ _ _ _ _ _ _ (Act.put _ none _) _
          simp only [Act.put]
          refine wpAnyH_done (by kernel_rfl) ?_ _
          exact hQ'.out _ _ _ _ p q _ hpp hq hpq A0.out B0.out P0.out R0.out G.out
  · go_simp
    refine gen_K _ (fun z' => Arr z' z0.heap.size [] ∧ Below z0.heap.size z0 z') ⟨Arr.zero z0, below_alc⟩ ?_
    rintro z1 ⟨N1, b1⟩
    have hpp := G.out.size
    have G1 := Hid.intro (below_step G.out b1)
    have A1 := A0.out.here b1
    have B1 := B0.out.here b1
    clear b1
    have P1 := Hid.intro N1
    clear N1
    generalize z0.heap.size = p at *
    refine hK.out _ _ ⟨A1.1, A1.2.1, B1.1, B1.2.1⟩ (fun hHeld => ?_); clear hK K
    clear G A0 B0
    have G := G1
    have A0 := Hid.intro A1
    have B0 := Hid.intro B1
    clear G1 A1 B1
    have P0 := P1
    clear P1
    refine wpAnyH_ready (rs := [1, 5]) (by kernel_rfl) (by simp) ?_
    refine AllReadyH.cons rfl (fun K hK => ?_) (AllReadyH.cons rfl (fun K hK => ?_) AllReadyH.nil)
    · go_simp
      refine (CX.out _).mono ?_; rintro e z2 ⟨rfl, b1⟩
      have G1 := Hid.intro (below_step G.out b1)
      have A1 := A0.out.here b1
      have B1 := B0.out.here b1
      have P1 := Hid.intro (P0.out.below b1)
      clear b1
      refine hK.out _ _ ⟨A1.1, A1.2.1, B1.1, B1.2.1⟩ (fun hHeld => ?_); clear hK K
      clear G A0 B0 P0
      have G := G1
      have A0 := Hid.intro A1
      have B0 := Hid.intro B1
      clear G1 A1 B1
      have P0 := P1
      clear P1
      refine wpAnyH_ready (rs := [3, 5]) (by kernel_rfl) (by simp) ?_
      refine AllReadyH.cons rfl (fun K hK => ?_) (AllReadyH.cons rfl (fun K hK => ?_) AllReadyH.nil)
      · go_simp
        refine (CY.out _).mono ?_; rintro e z3 ⟨rfl, b1⟩
        have G1 := Hid.intro (below_step G.out b1)
        have A1 := A0.out.here b1
        have B1 := B0.out.here b1
        have P1 := Hid.intro (P0.out.below b1)
        clear b1
        refine hK.out _ _ ⟨A1.1, A1.2.1, B1.1, B1.2.1⟩ (fun hHeld => ?_); clear hK K
        clear G A0 B0 P0
        have G := G1
        have A0 := Hid.intro A1
        have B0 := Hid.intro B1
        clear G1 A1 B1
        have P0 := P1
        clear P1
        refine wpAnyH_ready (rs := [5]) (by kernel_rfl) (by simp) ?_
        refine AllReadyH.cons rfl (fun K hK => ?_) AllReadyH.nil
        · go_simp
          refine gen_K _ (fun z' => Arr z' z3.heap.size [] ∧ Below z3.heap.size z3 z') ⟨Arr.zero z3, below_alc⟩ ?_
          rintro z4 ⟨N1, b1⟩
          have hq := G.out.size
          have hpq : p ≠ z3.heap.size := by have := P0.out.lt; omega
          have G1 := Hid.intro (below_step G.out b1)
          have A1 := A0.out.here b1
          have B1 := B0.out.here b1
          have P1 := Hid.intro (P0.out.below b1)
          clear b1
          have R1 := Hid.intro N1
          clear N1
          generalize z3.heap.size = q at *
          refine hK.out _ _ ⟨A1.1, A1.2.1, B1.1, B1.2.1⟩ (fun hHeld => ?_); clear hK K
          clear G A0 B0 P0
          have G := G1
          have A0 := Hid.intro A1
          have B0 := Hid.intro B1
          clear G1 A1 B1
          have P0 := P1
          clear P1
          have R0 := R1
          clear R1
          refine wpAnyH_ready (rs := [6]) (by kernel_rfl) (by simp) ?_
          refine AllReadyH.cons rfl (fun K hK => ?_) AllReadyH.nil
          rw [if_pos (by rfl)]
          refine wp_store_mid 26 _ _ rfl p 0 (bv (bitsOf X)).toArray rfl rfl (by rw [sX.out]; exact P0.out.there) HX.out.2.2.2 HX.out.2.2.1 ?_
          refine gen_K _ (fun z' => Arr z' p X ∧ But p z4 z') ⟨Arr.set P0.out X, set_but _ _ _⟩ ?_
          rintro z5 ⟨N1, b1⟩
          have G1 := Hid.intro (below_but G.out b1 hpp G.out.size)
          have A1 := A0.out.butAt b1 (by omega)
          have B1 := B0.out.butAt b1 (by omega)
          have R1 := Hid.intro (R0.out.butAt b1 (fun h => hpq h.symm))
          clear b1
          have P1 := Hid.intro N1
          clear N1
          refine hK.out _ _ ⟨A1.1, A1.2.1, B1.1, B1.2.1⟩ (fun hHeld => ?_); clear hK K
          clear G A0 B0 P0 R0
          have G := G1
          have A0 := Hid.intro A1
          have B0 := Hid.intro B1
          clear G1 A1 B1
          have P0 := P1
          clear P1
          have R0 := R1
          clear R1
          change wpAnyH _ _ _ _ _ _ _ (Act.put _ none _) _
          simp only [Act.put]
          refine wpAnyH_ready (rs := [7]) (by kernel_rfl) (by simp) ?_
          refine AllReadyH.cons rfl (fun K hK => ?_) AllReadyH.nil
          rw [if_pos (by rfl)]
          refine wp_store_mid 26 _ _ rfl q 0 (bv (bitsOf Y)).toArray rfl rfl (by rw [sY.out]; exact R0.out.there) HY.out.2.2.2 HY.out.2.2.1 ?_
          refine gen_K _ (fun z' => Arr z' q Y ∧ But q z5 z') ⟨Arr.set R0.out Y, set_but _ _ _⟩ ?_
          rintro z6 ⟨N1, b1⟩
          have G1 := Hid.intro (below_but G.out b1 hq G.out.size)
          have A1 := A0.out.butAt b1 (by omega)
          have B1 := B0.out.butAt b1 (by omega)
          have P1 := Hid.intro (P0.out.butAt b1 hpq)
          clear b1
          have R1 := Hid.intro N1
          clear N1
          refine hK.out _ _ ⟨A1.1, A1.2.1, B1.1, B1.2.1⟩ (fun hHeld => ?_); clear hK K
          clear G A0 B0 P0 R0
          have G := G1
          have A0 := Hid.intro A1
          have B0 := Hid.intro B1
          clear G1 A1 B1
          have P0 := P1
          clear P1
          have R0 := R1
          clear R1
          change wpAnyH _ _ _ _ _ _ _ (Act.put _ none _) _
          simp only [Act.put]
          refine wpAnyH_done (by kernel_rfl) ?_ _
          exact hQ'.out _ _ _ _ p q _ hpp hq hpq A0.out B0.out P0.out R0.out G.out
      · go_simp
        refine gen_K _ (fun z' => Arr z' z2.heap.size [] ∧ Below z2.heap.size z2 z') ⟨Arr.zero z2, below_alc⟩ ?_
        rintro z3 ⟨N1, b1⟩
        have hq := G.out.size
        have hpq : p ≠ z2.heap.size := by have := P0.out.lt; omega
        have G1 := Hid.intro (below_step G.out b1)
        have A1 := A0.out.here b1
        have B1 := B0.out.here b1
        have P1 := Hid.intro (P0.out.below b1)
        clear b1
        have R1 := Hid.intro N1
        clear N1
        generalize z2.heap.size = q at *
        refine hK.out _ _ ⟨A1.1, A1.2.1, B1.1, B1.2.1⟩ (fun hHeld => ?_); clear hK K
        clear G A0 B0 P0
        have G := G1
        have A0 := Hid.intro A1
        have B0 := Hid.intro B1
        clear G1 A1 B1
        have P0 := P1
        clear P1
        have R0 := R1
        clear R1
        refine wpAnyH_ready (rs := [3]) (by kernel_rfl) (by simp) ?_
        refine AllReadyH.cons rfl (fun K hK => ?_) AllReadyH.nil
        · go_simp
          refine (CY.out _).mono ?_; rintro e z4 ⟨rfl, b1⟩
          have G1 := Hid.intro (below_step G.out b1)
          have A1 := A0.out.here b1
          have B1 := B0.out.here b1
          have P1 := Hid.intro (P0.out.below b1)
          have R1 := Hid.intro (R0.out.below b1)
          clear b1
          refine hK.out _ _ ⟨A1.1, A1.2.1, B1.1, B1.2.1⟩ (fun hHeld => ?_); clear hK K
          clear G A0 B0 P0 R0
          have G := G1
          have A0 := Hid.intro A1
          have B0 := Hid.intro B1
          clear G1 A1 B1
          have P0 := P1
          clear P1
          have R0 := R1
          clear R1
          refine wpAnyH_ready (rs := [6]) (by kernel_rfl) (by simp) ?_
          refine AllReadyH.cons rfl (fun K hK => ?_) AllReadyH.nil
          rw [if_pos (by rfl)]
          refine wp_store_mid 26 _ _ rfl p 0 (bv (bitsOf X)).toArray rfl rfl (by rw [sX.out]; exact P0.out.there) HX.out.2.2.2 HX.out.2.2.1 ?_
          refine gen_K _ (fun z' => Arr z' p X ∧ But p z4 z') ⟨Arr.set P0.out X, set_but _ _ _⟩ ?_
          rintro z5 ⟨N1, b1⟩
          have G1 := Hid.intro (below_but G.out b1 hpp G.out.size)
          have A1 := A0.out.butAt b1 (by omega)
          have B1 := B0.out.butAt b1 (by omega)
          have R1 := Hid.intro (R0.out.butAt b1 (fun h => hpq h.symm))
          clear b1
          have P1 := Hid.intro N1
          clear N1
          refine hK.out _ _ ⟨A1.1, A1.2.1, B1.1, B1.2.1⟩ (fun hHeld => ?_); clear hK K
          clear G A0 B0 P0 R0
          have G := G1
          have A0 := Hid.intro A1
          have B0 := Hid.intro B1
          clear G1 A1 B1
          have P0 := P1
          clear P1
          have R0 := R1
          clear R1
          change wpAnyH _ _ _ _ _ _ _ (Act.put _ none _) _
          simp only [Act.put]
          refine wpAnyH_ready (rs := [7]) (by kernel_rfl) (by simp) ?_
          refine AllReadyH.cons rfl (fun K hK => ?_) AllReadyH.nil
          rw [if_pos (by rfl)]
          refine wp_store_mid 26 _ _ rfl q 0 (bv (bitsOf Y)).toArray rfl rfl (by rw [sY.out]; exact R0.out.there) HY.out.2.2.2 HY.out.2.2.1 ?_
          refine gen_K _ (fun z' => Arr z' q Y ∧ But q z5 z') ⟨Arr.set R0.out Y, set_but _ _ _⟩ ?_
          rintro z6 ⟨N1, b1⟩
          have G1 := Hid.intro (below_but G.out b1 hq G.out.size)
          have A1 := A0.out.butAt b1 (by omega)
          have B1 := B0.out.butAt b1 (by omega)
          have P1 := Hid.intro (P0.out.butAt b1 hpq)
          clear b1
          have R1 := Hid.intro N1
          clear N1
          refine hK.out _ _ ⟨A1.1, A1.2.1, B1.1, B1.2.1⟩ (fun hHeld => ?_); clear hK K
          clear G A0 B0 P0 R0
          have G := G1
          have A0 := Hid.intro A1
          have B0 := Hid.intro B1
          clear G1 A1 B1
          have P0 := P1
          clear P1
          have R0 := R1
          clear R1
          change wpAnyH _ _ _ _ _ _ _ (Act.put _ none _) _
          simp only [Act.put]
          refine wpAnyH_done (by kernel_rfl) ?_ _
          exact hQ'.out _ _ _ _ p q _ hpp hq hpq A0.out B0.out P0.out R0.out G.out
    · go_simp
      refine gen_K _ (fun z' => Arr z' z1.heap.size [] ∧ Below z1.heap.size z1 z') ⟨Arr.zero z1, below_alc⟩ ?_
      rintro z2 ⟨N1, b1⟩
      have hq := G.out.size
      have hpq : p ≠ z1.heap.size := by have := P0.out.lt; omega
      have G1 := Hid.intro (below_step G.out b1)
      have A1 := A0.out.here b1
      have B1 := B0.out.here b1
      have P1 := Hid.intro (P0.out.below b1)
      clear b1
      have R1 := Hid.intro N1
      clear N1
      generalize z1.heap.size = q at *
      refine hK.out _ _ ⟨A1.1, A1.2.1, B1.1, B1.2.1⟩ (fun hHeld => ?_); clear hK K
      clear G A0 B0 P0
      have G := G1
      have A0 := Hid.intro A1
      have B0 := Hid.intro B1
      clear G1 A1 B1
      have P0 := P1
      clear P1
      have R0 := R1
      clear R1
      refine wpAnyH_ready (rs := [1]) (by kernel_rfl) (by simp) ?_
      refine AllReadyH.cons rfl (fun K hK => ?_) AllReadyH.nil
      · go_simp
        refine (CX.out _).mono ?_; rintro e z3 ⟨rfl, b1⟩
        have G1 := Hid.intro (below_step G.out b1)
        have A1 := A0.out.here b1
        have B1 := B0.out.here b1
        have P1 := Hid.intro (P0.out.below b1)
        have R1 := Hid.intro (R0.out.below b1)
        clear b1
        refine hK.out _ _ ⟨A1.1, A1.2.1, B1.1, B1.2.1⟩ (fun hHeld => ?_); clear hK K
        clear G A0 B0 P0 R0
        have G := G1
        have A0 := Hid.intro A1
        have B0 := Hid.intro B1
        clear G1 A1 B1
        have P0 := P1
        clear P1
        have R0 := R1
        clear R1
        refine wpAnyH_ready (rs := [3]) (by kernel_rfl) (by simp) ?_
        refine AllReadyH.cons rfl (fun K hK => ?_) AllReadyH.nil
        · go_simp
          refine (CY.out _).mono ?_; rintro e z4 ⟨rfl, b1⟩
          have G1 := Hid.intro (below_step G.out b1)
          have A1 := A0.out.here b1
          have B1 := B0.out.here b1
          have P1 := Hid.intro (P0.out.below b1)
          have R1 := Hid.intro (R0.out.below b1)
          clear b1
          refine hK.out _ _ ⟨A1.1, A1.2.1, B1.1, B1.2.1⟩ (fun hHeld => ?_); clear hK K
          clear G A0 B0 P0 R0
          have G := G1
          have A0 := Hid.intro A1
          have B0 := Hid.intro B1
          clear G1 A1 B1
          have P0 := P1
          clear P1
          have R0 := R1
          clear R1
          refine wpAnyH_ready (rs := [6]) (by kernel_rfl) (by simp) ?_
          refine AllReadyH.cons rfl (fun K hK => ?_) AllReadyH.nil
          rw [if_pos (by rfl)]
          refine wp_store_mid 26 _ _ rfl p 0 (bv (bitsOf X)).toArray rfl rfl (by rw [sX.out]; exact P0.out.there) HX.out.2.2.2 HX.out.2.2.1 ?_
          refine gen_K _ (fun z' => Arr z' p X ∧ But p z4 z') ⟨Arr.set P0.out X, set_but _ _ _⟩ ?_
          rintro z5 ⟨N1, b1⟩
          have G1 := Hid.intro (below_but G.out b1 hpp G.out.size)
          have A1 := A0.out.butAt b1 (by omega)
          have B1 := B0.out.butAt b1 (by omega)
          have R1 := Hid.intro (R0.out.butAt b1 (fun h => hpq h.symm))
          clear b1
          have P1 := Hid.intro N1
          clear N1
          refine hK.out _ _ ⟨A1.1, A1.2.1, B1.1, B1.2.1⟩ (fun hHeld => ?_); clear hK K
          clear G A0 B0 P0 R0
          have G := G1
          have A0 := Hid.intro A1
          have B0 := Hid.intro B1
          clear G1 A1 B1
          have P0 := P1
          clear P1
          have R0 := R1
          clear R1
          change wpAnyH _ _ _ _ _ _ _ (Act.put _ none _) _
          simp only [Act.put]
          refine wpAnyH_ready (rs := [7]) (by kernel_rfl) (by simp) ?_
          refine AllReadyH.cons rfl (fun K hK => ?_) AllReadyH.nil
          rw [if_pos (by rfl)]
          refine wp_store_mid 26 _ _ rfl q 0 (bv (bitsOf Y)).toArray rfl rfl (by rw [sY.out]; exact R0.out.there) HY.out.2.2.2 HY.out.2.2.1 ?_
          refine gen_K _ (fun z' => Arr z' q Y ∧ But q z5 z') ⟨Arr.set R0.out Y, set_but _ _ _⟩ ?_
          rintro z6 ⟨N1, b1⟩
          have G1 := Hid.intro (below_but G.out b1 hq G.out.size)
          have A1 := A0.out.butAt b1 (by omega)
          have B1 := B0.out.butAt b1 (by omega)
          have P1 := Hid.intro (P0.out.butAt b1 hpq)
          clear b1
          have R1 := Hid.intro N1
          clear N1
          refine hK.out _ _ ⟨A1.1, A1.2.1, B1.1, B1.2.1⟩ (fun hHeld => ?_); clear hK K
          clear G A0 B0 P0 R0
          have G := G1
          have A0 := Hid.intro A1
          have B0 := Hid.intro B1
          clear G1 A1 B1
          have P0 := P1
          clear P1
          have R0 := R1
          clear R1
          change wpAnyH _ _ _ _ _ _ _ (Act.put _ none _) _
          simp only [Act.put]
          refine wpAnyH_done (by kernel_rfl) ?_ _
          exact hQ'.out _ _ _ _ p q _ hpp hq hpq A0.out B0.out P0.out R0.out G.out
  · go_simp
    refine gen_K _ (fun z' => Arr z' z0.heap.size [] ∧ Below z0.heap.size z0 z') ⟨Arr.zero z0, below_alc⟩ ?_
    rintro z1 ⟨N1, b1⟩
    have hq := G.out.size
    have G1 := Hid.intro (below_step G.out b1)
    have A1 := A0.out.here b1
    have B1 := B0.out.here b1
    clear b1
    have R1 := Hid.intro N1
    clear N1
    generalize z0.heap.size = q at *
    refine hK.out _ _ ⟨A1.1, A1.2.1, B1.1, B1.2.1⟩ (fun hHeld => ?_); clear hK K
    clear G A0 B0
    have G := G1
    have A0 := Hid.intro A1
    have B0 := Hid.intro B1
    clear G1 A1 B1
    have R0 := R1
    clear R1
    refine wpAnyH_ready (rs := [1, 4]) (by kernel_rfl) (by simp) ?_
    refine AllReadyH.cons rfl (fun K hK => ?_) (AllReadyH.cons rfl (fun K hK => ?_) AllReadyH.nil)
    · go_simp
      refine (CX.out _).mono ?_; rintro e z2 ⟨rfl, b1⟩
      have G1 := Hid.intro (below_step G.out b1)
      have A1 := A0.out.here b1
      have B1 := B0.out.here b1
      have R1 := Hid.intro (R0.out.below b1)
      clear b1
      refine hK.out _ _ ⟨A1.1, A1.2.1, B1.1, B1.2.1⟩ (fun hHeld => ?_); clear hK K
      clear G A0 B0 R0
      have G := G1
      have A0 := Hid.intro A1
      have B0 := Hid.intro B1
      clear G1 A1 B1
      have R0 := R1
      clear R1
      refine wpAnyH_ready (rs := [3, 4]) (by kernel_rfl) (by simp) ?_
      refine AllReadyH.cons rfl (fun K hK => ?_) (AllReadyH.cons rfl (fun K hK => ?_) AllReadyH.nil)
      · go_simp
        refine (CY.out _).mono ?_; rintro e z3 ⟨rfl, b1⟩
        have G1 := Hid.intro (below_step G.out b1)
        have A1 := A0.out.here b1
        have B1 := B0.out.here b1
        have R1 := Hid.intro (R0.out.below b1)
        clear b1
        refine hK.out _ _ ⟨A1.1, A1.2.1, B1.1, B1.2.1⟩ (fun hHeld => ?_); clear hK K
        clear G A0 B0 R0
        have G := G1
        have A0 := Hid.intro A1
        have B0 := Hid.intro B1
        clear G1 A1 B1
        have R0 := R1
        clear R1
        refine wpAnyH_ready (rs := [4]) (by kernel_rfl) (by simp) ?_
        refine AllReadyH.cons rfl (fun K hK => ?_) AllReadyH.nil
        · go_simp
          refine gen_K _ (fun z' => Arr z' z3.heap.size [] ∧ Below z3.heap.size z3 z') ⟨Arr.zero z3, below_alc⟩ ?_
          rintro z4 ⟨N1, b1⟩
          have hpp := G.out.size
          have hpq : z3.heap.size ≠ q := by have := R0.out.lt; omega
          have G1 := Hid.intro (below_step G.out b1)
          have A1 := A0.out.here b1
          have B1 := B0.out.here b1
          have R1 := Hid.intro (R0.out.below b1)
          clear b1
          have P1 := Hid.intro N1
          clear N1
          generalize z3.heap.size = p at *
          refine hK.out _ _ ⟨A1.1, A1.2.1, B1.1, B1.2.1⟩ (fun hHeld => ?_); clear hK K
          clear G A0 B0 R0
          have G := G1
          have A0 := Hid.intro A1
          have B0 := Hid.intro B1
          clear G1 A1 B1
          have P0 := P1
          clear P1
          have R0 := R1
          clear R1
          refine wpAnyH_ready (rs := [6]) (by kernel_rfl) (by simp) ?_
          refine AllReadyH.cons rfl (fun K hK => ?_) AllReadyH.nil
          rw [if_pos (by rfl)]
          refine wp_store_mid 26 _ _ rfl p 0 (bv (bitsOf X)).toArray rfl rfl (by rw [sX.out]; exact P0.out.there) HX.out.2.2.2 HX.out.2.2.1 ?_
          refine gen_K _ (fun z' => Arr z' p X ∧ But p z4 z') ⟨Arr.set P0.out X, set_but _ _ _⟩ ?_
          rintro z5 ⟨N1, b1⟩
          have G1 := Hid.intro (below_but G.out b1 hpp G.out.size)
          have A1 := A0.out.butAt b1 (by omega)
          have B1 := B0.out.butAt b1 (by omega)
          have R1 := Hid.intro (R0.out.butAt b1 (fun h => hpq h.symm))
          clear b1
          have P1 := Hid.intro N1
          clear N1
          refine hK.out _ _ ⟨A1.1, A1.2.1, B1.1, B1.2.1⟩ (fun hHeld => ?_); clear hK K
          clear G A0 B0 P0 R0
          have G := G1
          have A0 := Hid.intro A1
          have B0 := Hid.intro B1
          clear G1 A1 B1
          have P0 := P1
          clear P1
          have R0 := R1
          clear R1
          change wpAnyH _ _ _ _ _ _ _ (Act.put _ none _) _
          simp only [Act.put]
          refine wpAnyH_ready (rs := [7]) (by kernel_rfl) (by simp) ?_
          refine AllReadyH.cons rfl (fun K hK => ?_) AllReadyH.nil
          rw [if_pos (by rfl)]
          refine wp_store_mid 26 _ _ rfl q 0 (bv (bitsOf Y)).toArray rfl rfl (by rw [sY.out]; exact R0.out.there) HY.out.2.2.2 HY.out.2.2.1 ?_
          refine gen_K _ (fun z' => Arr z' q Y ∧ But q z5 z') ⟨Arr.set R0.out Y, set_but _ _ _⟩ ?_
          rintro z6 ⟨N1, b1⟩
          have G1 := Hid.intro (below_but G.out b1 hq G.out.size)
          have A1 := A0.out.butAt b1 (by omega)
          have B1 := B0.out.butAt b1 (by omega)
          have P1 := Hid.intro (P0.out.butAt b1 hpq)
          clear b1
          have R1 := Hid.intro N1
          clear N1
          refine hK.out _ _ ⟨A1.1, A1.2.1, B1.1, B1.2.1⟩ (fun hHeld => ?_); clear hK K
          clear G A0 B0 P0 R0
          have G := G1
          have A0 := Hid.intro A1
          have B0 := Hid.intro B1
          clear G1 A1 B1
          have P0 := P1
          clear P1
          have R0 := R1
          clear R1
          change wpAnyH _ _ _ _ _ _ _ (Act.put _ none _) _
          simp only [Act.put]
          refine wpAnyH_done (by kernel_rfl) ?_ _
          exact hQ'.out _ _ _ _ p q _ hpp hq hpq A0.out B0.out P0.out R0.out G.out
      · go_simp
        refine gen_K _ (fun z' => Arr z' z2.heap.size [] ∧ Below z2.heap.size z2 z') ⟨Arr.zero z2, below_alc⟩ ?_
        rintro z3 ⟨N1, b1⟩
        have hpp := G.out.size
        have hpq : z2.heap.size ≠ q := by have := R0.out.lt; omega
        have G1 := Hid.intro (below_step G.out b1)
        have A1 := A0.out.here b1
        have B1 := B0.out.here b1
        have R1 := Hid.intro (R0.out.below b1)
        clear b1
        have P1 := Hid.intro N1
        clear N1
        generalize z2.heap.size = p at *
        refine hK.out _ _ ⟨A1.1, A1.2.1, B1.1, B1.2.1⟩ (fun hHeld => ?_); clear hK K
        clear G A0 B0 R0
        have G := G1
        have A0 := Hid.intro A1
        have B0 := Hid.intro B1
        clear G1 A1 B1
        have P0 := P1
        clear P1
        have R0 := R1
        clear R1
        refine wpAnyH_ready (rs := [3]) (by kernel_rfl) (by simp) ?_
        refine AllReadyH.cons rfl (fun K hK => ?_) AllReadyH.nil
        · go_simp
          refine (CY.out _).mono ?_; rintro e z4 ⟨rfl, b1⟩
          have G1 := Hid.intro (below_step G.out b1)
          have A1 := A0.out.here b1
          have B1 := B0.out.here b1
          have P1 := Hid.intro (P0.out.below b1)
          have R1 := Hid.intro (R0.out.below b1)
          clear b1
          refine hK.out _ _ ⟨A1.1, A1.2.1, B1.1, B1.2.1⟩ (fun hHeld => ?_); clear hK K
          clear G A0 B0 P0 R0
          have G := G1
          have A0 := Hid.intro A1
          have B0 := Hid.intro B1
          clear G1 A1 B1
          have P0 := P1
          clear P1
          have R0 := R1
          clear R1
          refine wpAnyH_ready (rs := [6]) (by kernel_rfl) (by simp) ?_
          refine AllReadyH.cons rfl (fun K hK => ?_) AllReadyH.nil
          rw [if_pos (by rfl)]
          refine wp_store_mid 26 _ _ rfl p 0 (bv (bitsOf X)).toArray rfl rfl (by rw [sX.out]; exact P0.out.there) HX.out.2.2.2 HX.out.2.2.1 ?_
          refine gen_K _ (fun z' => Arr z' p X ∧ But p z4 z') ⟨Arr.set P0.out X, set_but _ _ _⟩ ?_
          rintro z5 ⟨N1, b1⟩
          have G1 := Hid.intro (below_but G.out b1 hpp G.out.size)
          have A1 := A0.out.butAt b1 (by omega)
          have B1 := B0.out.butAt b1 (by omega)
          have R1 := Hid.intro (R0.out.butAt b1 (fun h => hpq h.symm))
          clear b1
          have P1 := Hid.intro N1
          clear N1
          refine hK.out _ _ ⟨A1.1, A1.2.1, B1.1, B1.2.1⟩ (fun hHeld => ?_); clear hK K
          clear G A0 B0 P0 R0
          have G := G1
          have A0 := Hid.intro A1
          have B0 := Hid.intro B1
          clear G1 A1 B1
          have P0 := P1
          clear P1
          have R0 := R1
          clear R1
          change wpAnyH _ _ _ _ _ _ _ (Act.put _ none _) _
          simp only [Act.put]
          refine wpAnyH_ready (rs := [7]) (by kernel_rfl) (by simp) ?_
          refine AllReadyH.cons rfl (fun K hK => ?_) AllReadyH.nil
          rw [if_pos (by rfl)]
          refine wp_store_mid 26 _ _ rfl q 0 (bv (bitsOf Y)).toArray rfl rfl (by rw [sY.out]; exact R0.out.there) HY.out.2.2.2 HY.out.2.2.1 ?_
          refine gen_K _ (fun z' => Arr z' q Y ∧ But q z5 z') ⟨Arr.set R0.out Y, set_but _ _ _⟩ ?_
          rintro z6 ⟨N1, b1⟩
          have G1 := Hid.intro (below_but G.out b1 hq G.out.size)
          have A1 := A0.out.butAt b1 (by omega)
          have B1 := B0.out.butAt b1 (by omega)
          have P1 := Hid.intro (P0.out.butAt b1 hpq)
          clear b1
          have R1 := Hid.intro N1
          clear N1
          refine hK.out _ _ ⟨A1.1, A1.2.1, B1.1, B1.2.1⟩ (fun hHeld => ?_); clear hK K
          clear G A0 B0 P0 R0
          have G := G1
          have A0 := Hid.intro A1
          have B0 := Hid.intro B1
          clear G1 A1 B1
          have P0 := P1
          clear P1
          have R0 := R1
          clear R1
          change wpAnyH _ _ _ _ _ _ _ (Act.put _ none _) _
          simp only [Act.put]
          refine wpAnyH_done (by kernel_rfl) ?_ _
          exact hQ'.out _ _ _ _ p q _ hpp hq hpq A0.out B0.out P0.out R0.out G.out
    · go_simp
      refine gen_K _ (fun z' => Arr z' z1.heap.size [] ∧ Below z1.heap.size z1 z') ⟨Arr.zero z1, below_alc⟩ ?_
      rintro z2 ⟨N1, b1⟩
      have hpp := G.out.size
      have hpq : z1.heap.size ≠ q := by have := R0.out.lt; omega
      have G1 := Hid.intro (below_step G.out b1)
      have A1 := A0.out.here b1
      have B1 := B0.out.here b1
      have R1 := Hid.intro (R0.out.below b1)
      clear b1
      have P1 := Hid.intro N1
      clear N1
      generalize z1.heap.size = p at *
      refine hK.out _ _ ⟨A1.1, A1.2.1, B1.1, B1.2.1⟩ (fun hHeld => ?_); clear hK K
      clear G A0 B0 R0
      have G := G1
      have A0 := Hid.intro A1
      have B0 := Hid.intro B1
      clear G1 A1 B1
      have P0 := P1
      clear P1
      have R0 := R1
      clear R1
      refine wpAnyH_ready (rs := [1]) (by kernel_rfl) (by simp) ?_
      refine AllReadyH.cons rfl (fun K hK => ?_) AllReadyH.nil
      · go_simp
        refine (CX.out _).mono ?_; rintro e z3 ⟨rfl, b1⟩
        have G1 := Hid.intro (below_step G.out b1)
        have A1 := A0.out.here b1
        have B1 := B0.out.here b1
        have P1 := Hid.intro (P0.out.below b1)
        have R1 := Hid.intro (R0.out.below b1)
        clear b1
        refine hK.out _ _ ⟨A1.1, A1.2.1, B1.1, B1.2.1⟩ (fun hHeld => ?_); clear hK K
        clear G A0 B0 P0 R0
        have G := G1
        have A0 := Hid.intro A1
        have B0 := Hid.intro B1
        clear G1 A1 B1
        have P0 := P1
        clear P1
        have R0 := R1
        clear R1
        refine wpAnyH_ready (rs := [3]) (by kernel_rfl) (by simp) ?_
        refine AllReadyH.cons rfl (fun K hK => ?_) AllReadyH.nil
        · go_simp
          refine (CY.out _).mono ?_; rintro e z4 ⟨rfl, b1⟩
          have G1 := Hid.intro (below_step G.out b1)
          have A1 := A0.out.here b1
          have B1 := B0.out.here b1
          have P1 := Hid.intro (P0.out.below b1)
          have R1 := Hid.intro (R0.out.below b1)
          clear b1
          refine hK.out _ _ ⟨A1.1, A1.2.1, B1.1, B1.2.1⟩ (fun hHeld => ?_); clear hK K
          clear G A0 B0 P0 R0
          have G := G1
          have A0 := Hid.intro A1
          have B0 := Hid.intro B1
          clear G1 A1 B1
          have P0 := P1
          clear P1
          have R0 := R1
          clear R1
          refine wpAnyH_ready (rs := [6]) (by kernel_rfl) (by simp) ?_
          refine AllReadyH.cons rfl (fun K hK => ?_) AllReadyH.nil
          rw [if_pos (by rfl)]
          refine wp_store_mid 26 _ _ rfl p 0 (bv (bitsOf X)).toArray rfl rfl (by rw [sX.out]; exact P0.out.there) HX.out.2.2.2 HX.out.2.2.1 ?_
          refine gen_K _ (fun z' => Arr z' p X ∧ But p z4 z') ⟨Arr.set P0.out X, set_but _ _ _⟩ ?_
          rintro z5 ⟨N1, b1⟩
          have G1 := Hid.intro (below_but G.out b1 hpp G.out.size)
          have A1 := A0.out.butAt b1 (by omega)
          have B1 := B0.out.butAt b1 (by omega)
          have R1 := Hid.intro (R0.out.butAt b1 (fun h => hpq h.symm))
          clear b1
          have P1 := Hid.intro N1
          clear N1
          refine hK.out _ _ ⟨A1.1, A1.2.1, B1.1, B1.2.1⟩ (fun hHeld => ?_); clear hK K
          clear G A0 B0 P0 R0
          have G := G1
          have A0 := Hid.intro A1
          have B0 := Hid.intro B1
          clear G1 A1 B1
          have P0 := P1
          clear P1
          have R0 := R1
          clear R1
          change wpAnyH _ _ _ _ _ _ _ (Act.put _ none _) _
          simp only [Act.put]
          refine wpAnyH_ready (rs := [7]) (by kernel_rfl) (by simp) ?_
          refine AllReadyH.cons rfl (fun K hK => ?_) AllReadyH.nil
          rw [if_pos (by rfl)]
          refine wp_store_mid 26 _ _ rfl q 0 (bv (bitsOf Y)).toArray rfl rfl (by rw [sY.out]; exact R0.out.there) HY.out.2.2.2 HY.out.2.2.1 ?_
          refine gen_K _ (fun z' => Arr z' q Y ∧ But q z5 z') ⟨Arr.set R0.out Y, set_but _ _ _⟩ ?_
          rintro z6 ⟨N1, b1⟩
          have G1 := Hid.intro (below_but G.out b1 hq G.out.size)
          have A1 := A0.out.butAt b1 (by omega)
          have B1 := B0.out.butAt b1 (by omega)
          have P1 := Hid.intro (P0.out.butAt b1 hpq)
          clear b1
          have R1 := Hid.intro N1
          clear N1
          refine hK.out _ _ ⟨A1.1, A1.2.1, B1.1, B1.2.1⟩ (fun hHeld => ?_); clear hK K
          clear G A0 B0 P0 R0
          have G := G1
          have A0 := Hid.intro A1
          have B0 := Hid.intro B1
          clear G1 A1 B1
          have P0 := P1
          clear P1
          have R0 := R1
          clear R1
          change wpAnyH _ _ _ _ _ _ _ (Act.put _ none _) _
          simp only [Act.put]
          refine wpAnyH_done (by kernel_rfl) ?_ _
          exact hQ'.out _ _ _ _ p q _ hpp hq hpq A0.out B0.out P0.out R0.out G.out
end Go.Proofs.Ytfaecglmpkcjlaa
