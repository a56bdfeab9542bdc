/-
  The switch of DirtPlays, taken out; helpers; Wipe.
-/
import Derived.Test.YtohjdpdmabjdaaaPlayA
import Derived.Test.YtohjdpdmabjdaaaReadsWalk
import Derived.Test.YtohjdpdmabjdaaaMarksWalk
import Derived.Deep.CutRange
namespace Go.Proofs.Ytohjdpdmabjdaaa
open Go.ChangeShapes Go.WideShapes Go.ChangeAt Go.RowKit
attribute [local go_sem ↓] Go.wp_at_zero Go.wp_at_succ
set_option linter.unusedVariables false

def findBlock (n : Nat) : Code → Option Code
  | .block id c => if id = n then some (.block id c) else findBlock n c
  | .loop c => findBlock n c
  | .seq a b => match findBlock n a with
    | some c => some c
    | none => findBlock n b
  | .scope c => findBlock n c
  | .cond _ a b => match findBlock n a with
    | some c => some c
    | none => findBlock n b
  | _ => none
noncomputable def pl2 : Code := ((Try.f3.body.bind (findBlock 2)).getD .skip)

theorem upS_zero : ∀ n, upS 0 n = []
  | 0 => rfl
  | n + 1 => by rw [upS, if_neg (by simp), upS_zero n]
theorem orW_0 (W X : Nat) : orW 0 W X = W := by unfold orW; simp
theorem orW_min (B C W X : Nat) : orW B W (orW C 0 X) = orW (min B C) W X := by
  apply Nat.eq_of_testBit_eq
  intro k
  simp only [orW_bit, Nat.zero_testBit, Bool.false_or]
  by_cases h1 : k < B <;> by_cases h2 : k < C
  · simp [h1, h2, Nat.lt_min]
  · rw [decide_eq_true h1, decide_eq_false h2, decide_eq_false (by omega : ¬ k < min B C)]; simp
  · rw [decide_eq_false h1, decide_eq_false (by omega : ¬ k < min B C)]; simp
  · rw [decide_eq_false h1, decide_eq_false (by omega : ¬ k < min B C)]; simp
theorem orW_lt' (B k W X : Nat) (hk : k ≤ B) (hW : W < 2 ^ B) : orW k W X < 2 ^ B := by
  unfold orW
  refine Nat.or_lt_two_pow hW (Nat.lt_of_le_of_lt Nat.and_le_right ?_)
  have := Nat.two_pow_pos k
  have := Nat.pow_le_pow_right (n := 2) (by decide) hk
  omega
theorem orW_at (k W X : Nat) : (orW k W X).testBit k = W.testBit k := by rw [orW_bit]; simp
theorem in_up (W B k : Nat) (hB : B ≤ 64) (hk : k < B) : decide (In (upS W B) (k : Int)) = W.testBit k := by
  have := (upS_spec W B hB).2 (k : Int)
  cases h : W.testBit k
  · apply decide_eq_false; intro x; have := (this.1 x).2.2; simp [h] at this
  · apply decide_eq_true; exact this.2 ⟨by omega, by omega, by simpa using h⟩
theorem in_one (f m : Int) (k : Nat) : decide (In (putR [] [(f, m)]) (k : Int)) = (spW (f, m)).testBit k := by
  rw [spW_bit]
  apply decide_eq_decide.2
  rw [(put_spec [(f, m)] [] trivial).2]
  have h0 : ¬ In [] (k : Int) := by rintro ⟨p, hp, _⟩; simp at hp
  constructor
  · rintro (h | ⟨p, hp, h⟩)
    · exact absurd h h0
    · simp at hp; subst hp; exact h
  · intro h; exact .inr ⟨_, List.mem_singleton.2 rfl, h⟩
theorem or_set (W X B k : Nat) (hB : B ≤ 64) (hk : k < B) : bitsOf (upS (orW (k + 1) W X) B) = (bitsOf (upS (orW k W X) B)).set k (W.testBit k || X.testBit k) := by
  refine bits_ext (bitsOf_length _) (by simp [bitsOf_length]) fun j hj => ?_
  rw [bitsOf_get _ j hj, List.getElem?_set]
  by_cases e : k = j
  · subst e
    rw [if_pos rfl, if_pos (by rw [bitsOf_length]; omega), in_up _ _ _ hB hk, orW_bit]
    simp
  · rw [if_neg e, bitsOf_get _ j hj]
    congr 1
    apply decide_eq_decide.2
    rw [(upS_spec _ B hB).2, (upS_spec _ B hB).2]
    simp only [Int.toNat_natCast]
    have : (orW (k + 1) W X).testBit j = (orW k W X).testBit j := by
      rw [orW_bit, orW_bit]
      by_cases h : j < k
      · rw [decide_eq_true h, decide_eq_true (by omega : j < k + 1)]
      · rw [decide_eq_false h, decide_eq_false (by omega : ¬ j < k + 1)]
    rw [this]
theorem Arr.bit {w : World} {X : Nat} {ps qs : List Sp} {k : Nat} {v : Bool} (h : Arr w X ps) (hk : k < 64) (e : bitsOf qs = (bitsOf ps).set k v) : Arr (w.setCell ⟨X, k, none⟩ (.bool v)) X qs := by
  obtain ⟨⟨C, hC, hs⟩, hr⟩ := h
  refine ⟨⟨C.setIfInBounds k (.bool v), by simp [World.setCell, Array.getElem?_modify, hC], by simpa using hs⟩, ?_⟩
  rw [e]
  exact range_set v hr (by rw [bitsOf_length]; exact hk)
theorem Arr.cell {w : World} {X : Nat} {ps : List Sp} (h : Arr w X ps) (k : Nat) (hk : k < 64) : w.cell? ⟨X, k, none⟩ = some (.bool (decide (In ps (k : Int)))) ∧ w.frozen? ⟨X, k, none⟩ = false := by
  refine ⟨bit_cell h.2 k hk, ?_⟩
  have := (h.there k hk).2
  rwa [Nat.zero_add] at this
theorem Box4.neD {w : World} {O D B W : Nat} {a b c d : Value} (h : Box4 w O a b c d) (hd : DObj w D B W) : O ≠ D := fun e => by
  subst e; unfold Box4 at h; unfold DObj at hd; rw [hd] at h; cases h
theorem Box4.neX {w : World} {O X : Nat} {a b c d : Value} {ps : List Sp} (h : Box4 w O a b c d) (hx : Arr w X ps) : O ≠ X := fun e => by
  subst e; obtain ⟨⟨C, hC, _⟩, _⟩ := hx; unfold Box4 at h; rw [hC] at h; cases h
theorem Arr.neD {w : World} {X D B W : Nat} {ps : List Sp} (hx : Arr w X ps) (hd : DObj w D B W) : X ≠ D := fun e => by
  subst e; obtain ⟨⟨C, hC, _⟩, _⟩ := hx; unfold DObj at hd; rw [hd] at hC; cases hC
/-- What the copy loop leaves. -/
theorem st_set {w : World} {D X K base B V : Nat} {es : List Ent} {k : Nat} {v : Bool} {ps qs : List Sp} (hd : DObj w D B V) (hx : Arr w X ps) (hk : Kept w K base es) (h64 : k < 64) (e : bitsOf qs = (bitsOf ps).set k v) :
    DObj (w.setCell ⟨X, k, none⟩ (.bool v)) D B V ∧ Arr (w.setCell ⟨X, k, none⟩ (.bool v)) X qs ∧ Kept (w.setCell ⟨X, k, none⟩ (.bool v)) K base es := by
  have hb : But X w (w.setCell ⟨X, k, none⟩ (.bool v)) := (But.of (Below.refl _ w)).setCell k _
  exact ⟨hd.butArr hx hb, hx.bit h64 e, hk.butArr hx hb⟩
set_option maxRecDepth 1000000 in
set_option maxHeartbeats 8000000 in
theorem sw_wipe {Q : Exit → Act → World → Prop} {k1 k2 k3 k4 k5 k6 k10 k14 k15 k16 k17 k18 k19 k20 k21 k22 k23 k24 k25 k26 k27 k28 k29 k30 k31 k32 k33 k34 k35 k36 k37 k38 k39 k40 k41 k42 k43 k44 k45 k46 k47 k48 k49 k50 k51 k52 k54 k55 k56 k57 k58 k59 k60 k61 k62 k63 k64 k65 k66 k67 k68 k69 k70 k71 k72 k73 k74 k75 k76 k77 k78 k79 k80 k81 k82 k83 k84 k85 k86 k87 k88 k89 k90 k91 k92 k93 k94 k95 k96 k97 k98 k99 k100 k101 k102 k103 k104 k105 k106 k107 k108 k109 k110 k111 k112 k113 k114 k115 k116 k117 k118 k119 k120 k121 k122 k123 k124 k125 k126 k127 k128 k129 k130 k131 k132 k133 k134 k135 k136 k137 k138 k139 k140 k141 k142 k143 k144 k145 k146 k147 k148 k149 k150 k151 k152 k153 k154 k155 k156 k157 k158 k159 k160 k161 k162 k163 k164 k165 k166 k167 k168 k169 k170 k171 k172 k173 k174 k175 k176 k177 k178 k179 k180 k181 k182 k183 k184 k185 k186 k187 k188 k189 k190 k191 k192 k193 k194 k195 k196 k197 k198 k199 k200 k201 k202 k203 k204 k205 k206 k207 k208 k209 k210 k211 k212 k213 k214 k215 k216 k217 k218 k219 k220 k221 : Value} {D X K O base n0 B W P : Nat} {kd nn f m : Int} {es : List Ent} {wc : World} (hk1 : ¬ kd = 1) (hk3 : ¬ kd = 3) (hB : B ≤ 64) (hWB : W < 2 ^ B) (hP : Hid (pop W = P)) (hfit : f ≤ 9223372036854775807) (hn1 : n0 ≤ D) (hn2 : n0 ≤ X) (hn3 : n0 ≤ wc.heap.size)
    (hS : Hid (St wc D X K base B W es)) (hO : Hid (Box4 wc O (.int .i64 kd) (.int .i64 nn) (.int .i64 f) (.int .i64 m)))
    (hQ : ∀ (d14 d15 d16 d17 d54 d55 d56 d57 d58 d59 d60 d61 d62 d63 d64 d65 d66 d67 d68 d69 d70 d71 d72 d73 d74 d75 d76 d77 d78 d79 d80 d81 d82 d83 d84 d85 d86 d87 d88 d89 d90 d91 d92 d93 d94 d95 d96 d97 d98 d99 d100 d101 d102 d103 d104 d105 : Value) (W' P' : Nat) (ws : Int) (z : World), W' < 2 ^ B → pop W' = P' → 0 ≤ ws → ws ≤ 64 → St z D X K base B W' es → Below n0 wc z → Q .normal ⟨#[.int .i64 (B : Int), k1, k2, k3, k4, k5, k6, .pointer (some ⟨D, 0, none⟩), .pointer (some ⟨X, 0, none⟩), .pointer (some ⟨K, 0, none⟩), k10, .pointer (some ⟨O, 0, none⟩), .int .i64 ws, .int .i64 ((P' : Int) - ws), d14, d15, d16, d17, k18, k19, k20, k21, k22, k23, k24, k25, k26, k27, k28, k29, k30, k31, k32, k33, k34, k35, k36, k37, k38, k39, k40, k41, k42, k43, k44, k45, k46, k47, k48, k49, k50, k51, k52, .int .i64 kd, d54, d55, d56, d57, d58, d59, d60, d61, d62, d63, d64, d65, d66, d67, d68, d69, d70, d71, d72, d73, d74, d75, d76, d77, d78, d79, d80, d81, d82, d83, d84, d85, d86, d87, d88, d89, d90, d91, d92, d93, d94, d95, d96, d97, d98, d99, d100, d101, d102, d103, d104, d105, k106, k107, k108, k109, k110, k111, k112, k113, k114, k115, k116, k117, k118, k119, k120, k121, k122, k123, k124, k125, k126, k127, k128, k129, k130, k131, k132, k133, k134, k135, k136, k137, k138, k139, k140, k141, k142, k143, k144, k145, k146, k147, k148, k149, k150, k151, k152, k153, k154, k155, k156, k157, k158, k159, k160, k161, k162, k163, k164, k165, k166, k167, k168, k169, k170, k171, k172, k173, k174, k175, k176, k177, k178, k179, k180, k181, k182, k183, k184, k185, k186, k187, k188, k189, k190, k191, k192, k193, k194, k195, k196, k197, k198, k199, k200, k201, k202, k203, k204, k205, k206, k207, k208, k209, k210, k211, k212, k213, k214, k215, k216, k217, k218, k219, k220, k221], []⟩ z) :
    Code.wp Try.prog pl2 Q ⟨#[.int .i64 (B : Int), k1, k2, k3, k4, k5, k6, .pointer (some ⟨D, 0, none⟩), .pointer (some ⟨X, 0, none⟩), .pointer (some ⟨K, 0, none⟩), k10, .pointer (some ⟨O, 0, none⟩), .int .i64 (P : Int), .int .i64 0, k14, k15, k16, k17, k18, k19, k20, k21, k22, k23, k24, k25, k26, k27, k28, k29, k30, k31, k32, k33, k34, k35, k36, k37, k38, k39, k40, k41, k42, k43, k44, k45, k46, k47, k48, k49, k50, k51, k52, .int .i64 kd, k54, k55, k56, k57, k58, k59, k60, k61, k62, k63, k64, k65, k66, k67, k68, k69, k70, k71, k72, k73, k74, k75, k76, k77, k78, k79, k80, k81, k82, k83, k84, k85, k86, k87, k88, k89, k90, k91, k92, k93, k94, k95, k96, k97, k98, k99, k100, k101, k102, k103, k104, k105, k106, k107, k108, k109, k110, k111, k112, k113, k114, k115, k116, k117, k118, k119, k120, k121, k122, k123, k124, k125, k126, k127, k128, k129, k130, k131, k132, k133, k134, k135, k136, k137, k138, k139, k140, k141, k142, k143, k144, k145, k146, k147, k148, k149, k150, k151, k152, k153, k154, k155, k156, k157, k158, k159, k160, k161, k162, k163, k164, k165, k166, k167, k168, k169, k170, k171, k172, k173, k174, k175, k176, k177, k178, k179, k180, k181, k182, k183, k184, k185, k186, k187, k188, k189, k190, k191, k192, k193, k194, k195, k196, k197, k198, k199, k200, k201, k202, k203, k204, k205, k206, k207, k208, k209, k210, k211, k212, k213, k214, k215, k216, k217, k218, k219, k220, k221], []⟩ wc := by
  have hQ' := Hid.intro hQ
  clear hQ
  have hW64 : W < 18446744073709551616 := Nat.lt_of_lt_of_le hWB (two64 B hB)
  have hp64 : P ≤ 64 := by rw [← hP.out]; exact pop_le W
  conv => arg 2; whnf
  go_wp2_with fail
  refine (wipe_any hS.out.d).mono ?_; rintro e w1 ⟨rfl, hD1, hb1⟩
  obtain ⟨_, hX1, hK1⟩ := hS.out.butD hb1 hD1
  have hth : Hid (w1.there X 0 (List.replicate 64 (Value.bool false)).toArray.size) := Hid.intro hX1.there
  go_wp2_with (first
    | (refine wpList_store_mid rfl 27 _ _ rfl X 0 (List.replicate 64 (Value.bool false)).toArray rfl rfl hth.out zs_size zs_one ?_))
  have hst : St (w1.setCells X 0 (List.replicate 64 (Value.bool false)).toArray.toList) D X K base B 0 es := by
    rw [zs_list]
    have hb := set_but w1 X (bv (bitsOf []))
    exact ⟨hD1.butArr hX1 hb, by rw [upS_zero]; exact hX1.set [], hK1.butArr hX1 hb⟩
  have hbz : Below n0 wc (w1.setCells X 0 (List.replicate 64 (Value.bool false)).toArray.toList) := (hb1.low hn1 hn3).trans ((set_but w1 X _).low hn2 (Nat.le_trans hn3 hb1.size))
  exact hQ'.out _ _ _ _ _ _ _ _ _ _ _ _ _ _ _ _ _ _ _ _ _ _ _ _ _ _ _ _ _ _ _ _ _ _ _ _ _ _ _ _ _ _ _ _ _ _ _ _ _ _ _ _ _ _ _ _ 0 0 0 _ (Nat.two_pow_pos B) p0 (by decide) (by decide) hst hbz
end Go.Proofs.Ytohjdpdmabjdaaa
