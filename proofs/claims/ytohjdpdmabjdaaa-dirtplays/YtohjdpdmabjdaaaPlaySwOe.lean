/-
  The switch of DirtPlays: Or, e.
-/
import Derived.Test.YtohjdpdmabjdaaaPlaySw
namespace Go.Proofs.Ytohjdpdmabjdaaa
open Go.ChangeShapes Go.WideShapes Go.ChangeAt Go.RowKit
attribute [local go_sem ↓] Go.wp_at_zero Go.wp_at_succ
set_option linter.unusedVariables false

set_option maxRecDepth 1000000 in
set_option maxHeartbeats 8000000 in
theorem sw_ore {Q : Exit → Act → World → Prop} {k1 k2 k3 k4 k5 k6 k10 k14 k15 k16 k17 k18 k19 k20 k21 k22 k23 k24 k25 k26 k27 k28 k29 k30 k31 k32 k33 k34 k35 k36 k37 k38 k39 k40 k41 k42 k43 k44 k45 k46 k47 k48 k49 k50 k51 k52 k54 k55 k56 k57 k58 k59 k60 k61 k62 k63 k64 k65 k66 k67 k68 k69 k70 k71 k72 k73 k74 k75 k76 k77 k78 k79 k80 k81 k82 k83 k84 k85 k86 k87 k88 k89 k90 k91 k92 k93 k94 k95 k96 k97 k98 k99 k100 k101 k102 k103 k104 k105 k106 k107 k108 k109 k110 k111 k112 k113 k114 k115 k116 k117 k118 k119 k120 k121 k122 k123 k124 k125 k126 k127 k128 k129 k130 k131 k132 k133 k134 k135 k136 k137 k138 k139 k140 k141 k142 k143 k144 k145 k146 k147 k148 k149 k150 k151 k152 k153 k154 k155 k156 k157 k158 k159 k160 k161 k162 k163 k164 k165 k166 k167 k168 k169 k170 k171 k172 k173 k174 k175 k176 k177 k178 k179 k180 k181 k182 k183 k184 k185 k186 k187 k188 k189 k190 k191 k192 k193 k194 k195 k196 k197 k198 k199 k200 k201 k202 k203 k204 k205 k206 k207 k208 k209 k210 k211 k212 k213 k214 k215 k216 k217 k218 k219 k220 k221 : Value} {D X K O base n0 B W P : Nat} {nn f m : Int} {es : List Ent} {wc : World} (hn : nn < 0) (hB1 : B ≤ 0) (hB : B ≤ 64) (hWB : W < 2 ^ B) (hP : Hid (pop W = P)) (hfit : f ≤ 9223372036854775807) (hn1 : n0 ≤ D) (hn2 : n0 ≤ X) (hn3 : n0 ≤ wc.heap.size)
    (hS : Hid (St wc D X K base B W es)) (hO : Hid (Box4 wc O (.int .i64 3) (.int .i64 nn) (.int .i64 f) (.int .i64 m)))
    (hQ : ∀ (d14 d15 d16 d17 d54 d55 d56 d57 d58 d59 d60 d61 d62 d63 d64 d65 d66 d67 d68 d69 d70 d71 d72 d73 d74 d75 d76 d77 d78 d79 d80 d81 d82 d83 d84 d85 d86 d87 d88 d89 d90 d91 d92 d93 d94 d95 d96 d97 d98 d99 d100 d101 d102 d103 d104 d105 : Value) (W' P' : Nat) (ws : Int) (z : World), W' < 2 ^ B → pop W' = P' → 0 ≤ ws → ws ≤ 64 → St z D X K base B W' es → Below n0 wc z → Q .normal ⟨#[.int .i64 (B : Int), k1, k2, k3, k4, k5, k6, .pointer (some ⟨D, 0, none⟩), .pointer (some ⟨X, 0, none⟩), .pointer (some ⟨K, 0, none⟩), k10, .pointer (some ⟨O, 0, none⟩), .int .i64 ws, .int .i64 ((P' : Int) - ws), d14, d15, d16, d17, k18, k19, k20, k21, k22, k23, k24, k25, k26, k27, k28, k29, k30, k31, k32, k33, k34, k35, k36, k37, k38, k39, k40, k41, k42, k43, k44, k45, k46, k47, k48, k49, k50, k51, k52, .int .i64 3, d54, d55, d56, d57, d58, d59, d60, d61, d62, d63, d64, d65, d66, d67, d68, d69, d70, d71, d72, d73, d74, d75, d76, d77, d78, d79, d80, d81, d82, d83, d84, d85, d86, d87, d88, d89, d90, d91, d92, d93, d94, d95, d96, d97, d98, d99, d100, d101, d102, d103, d104, d105, k106, k107, k108, k109, k110, k111, k112, k113, k114, k115, k116, k117, k118, k119, k120, k121, k122, k123, k124, k125, k126, k127, k128, k129, k130, k131, k132, k133, k134, k135, k136, k137, k138, k139, k140, k141, k142, k143, k144, k145, k146, k147, k148, k149, k150, k151, k152, k153, k154, k155, k156, k157, k158, k159, k160, k161, k162, k163, k164, k165, k166, k167, k168, k169, k170, k171, k172, k173, k174, k175, k176, k177, k178, k179, k180, k181, k182, k183, k184, k185, k186, k187, k188, k189, k190, k191, k192, k193, k194, k195, k196, k197, k198, k199, k200, k201, k202, k203, k204, k205, k206, k207, k208, k209, k210, k211, k212, k213, k214, k215, k216, k217, k218, k219, k220, k221], []⟩ z) :
    Code.wp Try.prog pl2 Q ⟨#[.int .i64 (B : Int), k1, k2, k3, k4, k5, k6, .pointer (some ⟨D, 0, none⟩), .pointer (some ⟨X, 0, none⟩), .pointer (some ⟨K, 0, none⟩), k10, .pointer (some ⟨O, 0, none⟩), .int .i64 (P : Int), .int .i64 0, k14, k15, k16, k17, k18, k19, k20, k21, k22, k23, k24, k25, k26, k27, k28, k29, k30, k31, k32, k33, k34, k35, k36, k37, k38, k39, k40, k41, k42, k43, k44, k45, k46, k47, k48, k49, k50, k51, k52, .int .i64 3, k54, k55, k56, k57, k58, k59, k60, k61, k62, k63, k64, k65, k66, k67, k68, k69, k70, k71, k72, k73, k74, k75, k76, k77, k78, k79, k80, k81, k82, k83, k84, k85, k86, k87, k88, k89, k90, k91, k92, k93, k94, k95, k96, k97, k98, k99, k100, k101, k102, k103, k104, k105, k106, k107, k108, k109, k110, k111, k112, k113, k114, k115, k116, k117, k118, k119, k120, k121, k122, k123, k124, k125, k126, k127, k128, k129, k130, k131, k132, k133, k134, k135, k136, k137, k138, k139, k140, k141, k142, k143, k144, k145, k146, k147, k148, k149, k150, k151, k152, k153, k154, k155, k156, k157, k158, k159, k160, k161, k162, k163, k164, k165, k166, k167, k168, k169, k170, k171, k172, k173, k174, k175, k176, k177, k178, k179, k180, k181, k182, k183, k184, k185, k186, k187, k188, k189, k190, k191, k192, k193, k194, k195, k196, k197, k198, k199, k200, k201, k202, k203, k204, k205, k206, k207, k208, k209, k210, k211, k212, k213, k214, k215, k216, k217, k218, k219, k220, k221], []⟩ wc := by
  have hQ' := Hid.intro hQ
  clear hQ
  have hW64 : W < 18446744073709551616 := Nat.lt_of_lt_of_le hWB (two64 B hB)
  have hp64 : P ≤ 64 := by rw [← hP.out]; exact pop_le W
  obtain ⟨o0, o1, o2, o3⟩ := hO.out.cells
  have zO := hO.out.lt
  have zD := hS.out.d.lt
  have zX := hS.out.x.lt
  have nOD := hO.out.neD hS.out.d
  have nXD := hS.out.x.neD hS.out.d
  have HF := Hid.intro (bv_facts (putR [] [(f, m)]))
  conv => arg 2; whnf
  go_wp2_with fail
  refine (refZero_row (l := [(f, m)]) (row_one wc f m) (by simp)).mono ?_; rintro e w1 ⟨rfl, hb1⟩
  have hb1' : Below wc.heap.size wc w1 := ((Below.refl _ _).alloc (Nat.le_refl _) _).trans (hb1.mono (by simp))
  clear hb1
  have hth : Hid ((w1.alloc (.cells (List.replicate 64 (Value.bool false)).toArray 27)).there w1.heap.size 0 (bv (bitsOf (putR [] [(f, m)]))).toArray.size) := Hid.intro (there_new (by simp [HF.out.1]))
  go_upto_region 21 with (first
    | (refine wpList_store_mid rfl 27 _ _ rfl w1.heap.size 0 (bv (bitsOf (putR [] [(f, m)]))).toArray rfl rfl hth.out HF.out.2.2.2 HF.out.2.2.1 ?_))
  refine gen_world _ (fun w2 => Arr w2 w1.heap.size (putR [] [(f, m)]) ∧ Below w1.heap.size w1 w2) ⟨Arr.new w1 _ _ (by simp), (set_facts w1 _ _ (by simp)).2.2.2⟩ ?_
  rintro w2 ⟨hY, hb2⟩
  have hB2 : Below wc.heap.size wc w2 := below_step hb1' hb2
  have hS2 := Hid.intro (hS.out.below hB2)
  have hO2 := Hid.intro (hO.out.below hB2 zO)
  have hY2 := Hid.intro hY
  have hYn : wc.heap.size ≤ w1.heap.size := hb1'.size
  have hz2 := hB2.size
  clear hb1' hb2 hth hY o0 o1 o2 o3 HF
  generalize w1.heap.size = Y at *
  obtain ⟨o0, o1, o2, o3⟩ := hO2.out.cells
  obtain ⟨Sx, hSx⟩ : ∃ s, Hid (spW (f, m) = s) := ⟨_, rfl⟩
  have hNB : B ≤ B := by omega
  have hcl : clamp nn = 0 := by unfold clamp; (repeat' split) <;> omega
  have hcl64 : 0 ≤ 64 := by omega
  have hmin : min B 0 = B := by omega


  have qb : (0 : Int) ≤ (B : Int) := Int.natCast_nonneg _
  have hcl' := Hid.intro hcl
  clear hcl
  go_wp2_with fail
  refine (new_any _ _).mono ?_; rintro e w4 ⟨rfl, hE4, hb4⟩
  rw [hcl'.out] at hE4
  have zE := hE4.lt
  have hS4 := hS2.out.below hb4
  have hO4 := hO2.out.below hb4 (by omega)
  have hY4 := hY2.out.below hb4
  have hB4 := below_step hB2 hb4
  have hz4 := hb4.size
  have zY : Y < w2.heap.size := hY2.out.lt
  clear hb4 hS2 hO2 hY2 hB2 o0 o1 o2 o3
  obtain ⟨o0, o1, o2, o3⟩ := hO4.cells
  generalize w2.heap.size = E at *
  go_wp2_with fail
  refine (mark_any f m hE4 hfit hcl64 (Nat.two_pow_pos _)).mono ?_; rintro e w5 ⟨rfl, hE5, hb5⟩
  rw [hSx.out] at hE5
  have hS5 : St w5 D X K base B W es := ⟨hS4.d.but hb5 (by omega), hS4.x.butD hE4 hb5, hS4.k.butD hE4 hb5⟩
  have hY5 := hY4.butD hE4 hb5
  have hB5 : Below wc.heap.size wc w5 := hB4.trans (hb5.low (by omega) (by omega))
  have hz5 := hb5.size
  have hE64 : orW 0 0 Sx < 18446744073709551616 := Nat.lt_of_lt_of_le (orW_lt 0 0 Sx (Nat.two_pow_pos _)) (two64 _ hcl64)
  clear hb5 hS4 hO4 hY4 hB4 hE4 o0 o1 o2 o3
  go_wp2_with fail
  refine (or_any hS5.d hE5 hB hWB hE64).mono ?_; rintro e w3 ⟨rfl, hD3, hb3⟩
  rw [orW_min, hmin] at hD3
  rw [orW_min, hmin, hP.out]
  obtain ⟨V, hV0⟩ : ∃ V, Hid (orW B W Sx = V) := ⟨_, rfl⟩
  obtain ⟨PV, hPV⟩ : ∃ p, Hid (pop V = p) := ⟨_, rfl⟩
  rw [hV0.out] at hD3
  rw [hV0.out, hPV.out]
  have hVN : Hid (orW B W Sx = V) := hV0
  have hVB : V < 2 ^ B := by rw [← hVN.out]; exact orW_lt' B B W Sx hNB hWB
  have k0P : (0 : Int) ≤ (P : Int) := Int.natCast_nonneg _
  have hV := Hid.intro hD3
  have hXa := Hid.intro (hS5.x.butD hS5.d hb3)
  have hKa := Hid.intro (hS5.k.butD hS5.d hb3)
  have hYa := Hid.intro (hY5.butD hS5.d hb3)
  have hBa := Hid.intro ((hB5.mono hn3).trans (hb3.low hn1 (by omega)))
  have hzXa : X < w3.heap.size := hXa.out.lt
  clear hD3 hb3 hS5 hY5 hB5 hS hO hE5 hmin
  go_wp2_with fail
  go_loopw [17] (fun kv wr => ∃ k : Nat, k ≤ B ∧ kv = .int .i64 k ∧ DObj wr D B V ∧ Arr wr X (upS (orW k W Sx) B) ∧ Kept wr K base es ∧ Arr wr Y (putR [] [(f, m)]) ∧ Below n0 wc wr ∧ X < wr.heap.size) (fun kv _ => B - (intOf kv).toNat)
  case atStart => exact ⟨0, Nat.zero_le _, rfl, hV.out, by rw [orW_0]; exact hXa.out, hKa.out, hYa.out, hBa.out, hzXa⟩
  case round =>
    clear hV hXa hKa hYa hBa hzXa
    obtain ⟨k, hk, rfl, hDk, hXk, hKk, hYk, hBk, hzk⟩ := hrel
    have k0 : (0 : Int) ≤ (k : Int) := Int.natCast_nonneg _
    by_cases hkn : k < B
    · exact absurd hkn (by omega)
    · have k1 : ¬ (k : Int) < (B : Int) := by omega
      obtain rfl : B = k := by omega
      have hst : Hid (St wr D X K base B V es) := Hid.intro ⟨hDk, by rw [← hVN.out]; exact hXk, hKk⟩
      clear hDk hXk hKk hYk
      go_wp2
      exact hQ'.out _ _ _ _ _ _ _ _ _ _ _ _ _ _ _ _ _ _ _ _ _ _ _ _ _ _ _ _ _ _ _ _ _ _ _ _ _ _ _ _ _ _ _ _ _ _ _ _ _ _ _ _ _ _ _ _ V PV (P : Int) _ hVB hPV.out k0P (by omega) hst.out hBk
end Go.Proofs.Ytohjdpdmabjdaaa
