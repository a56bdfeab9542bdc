/-
  The law's great test, behind each step: the pool and the document's are alike. (A region of its own.)
-/
import Derived.Test.YtdmamanlclajjaaGreatPlB
import Derived.WalkArith
namespace Go.Proofs.YtdmamanlclajjaaGreat
open Go.ChangeShapes Go.WideShapes Go.ChangeAt Go.RowKit
attribute [local go_sem] str_size

def findRegion (n : Nat) : Code → Option Code
  | .region id ops m => if id = n then some (.region id ops m) else none
  | .loop c => findRegion n c
  | .seq a b => match findRegion n a with
    | some c => some c
    | none => findRegion n b
  | .block _ c => findRegion n c
  | .scope c => findRegion n c
  | .cond _ a b => match findRegion n a with
    | some c => some c
    | none => findRegion n b
  | _ => none
noncomputable def reg43 : Code := ((Tryz.f3.body.bind (findRegion 43)).getD .skip)

theorem k_room {w0 wr : World} {F : Nat → Prop} {K p most : Nat} {es : List Bk.Ent} {L M : List Bl} {v : Value} {ex : List Ex} (h : Sx w0 wr F No K p most es L M v ex) :
    Calls Tryz.prog 22 #[.pointer (some ⟨p, 0, none⟩)] wr fun e w' => e = .returned (.int .i64 ((most : Int) - (L.length : Int))) ∧ Below wr.heap.size wr w' := by
  have := proom_any h.pl
  rw [show ((most - L.length : Nat) : Int) = (most : Int) - (L.length : Int) by have := h.inv.len; omega] at this
  exact this
theorem Sx.box {w0 wr : World} {F O : Nat → Prop} {K p most : Nat} {es : List Bk.Ent} {L M : List Bl} {v : Value} {ex : List Ex} (h : Sx w0 wr F O K p most es L M v ex) {k : Nat} {x y : Value} {t : TypeId} (hx : (k, #[x, y], t) ∈ ex) :
    wr.cell? ⟨k, 0, none⟩ = some x ∧ wr.cell? ⟨k, 1, none⟩ = some y ∧ wr.frozen? ⟨k, 0, none⟩ = false ∧ wr.frozen? ⟨k, 1, none⟩ = false := by
  obtain ⟨h1, h2, _⟩ := h.at hx
  exact ⟨h1 0, h1 1, h2 0, h2 1⟩
theorem box_of {w0 wr : World} {F : Nat → Prop} {K p most R : Nat} {es : List Bk.Ent} {L M : List Bl} {v x y : Value} (h : Sx w0 wr F No K p most es L M v [(R, #[x, y], 28)]) : wr.cell? ⟨R, 0, none⟩ = some x ∧ wr.cell? ⟨R, 1, none⟩ = some y := by
  obtain ⟨h1, h2, _⟩ := h.box List.mem_cons_self
  exact ⟨h1, h2⟩

set_option maxHeartbeats 8000000 in
set_option maxRecDepth 1000000 in
theorem reg43_walk {Q : Exit → Act → World → Prop} {k0 k1 k4 k5 k6 k7 k8 k11 k12 k13 k16 k17 k18 k19 k20 k21 k28 k29 k30 k31 k32 k33 k34 k35 k36 k37 k38 k39 k40 k41 k42 k43 k44 k45 k46 k47 k48 k49 k50 k51 k52 k53 k54 k55 k56 k57 k58 k59 k60 k61 k62 k63 k64 k65 k66 k67 k68 k69 k70 k71 k72 k73 k74 k75 k76 k77 k78 k79 k80 k81 k82 k83 k84 k85 k86 k87 k88 k89 k90 k91 k92 k93 k94 k95 k96 k97 k98 k99 k100 k101 k102 k103 k104 k105 k106 k107 k108 k109 k110 k111 k112 k113 k114 k115 k116 k117 k118 k119 k120 k121 k122 k123 k124 k125 k126 k127 k128 k129 k130 k131 k132 k133 k134 k135 k136 k137 k138 k139 k140 k141 k142 k143 k144 k145 k146 k147 k148 k149 k150 k151 k152 k153 k154 k155 k156 k157 k158 k159 k160 k161 k162 k163 k164 k165 k166 k167 k168 k169 k170 k171 k172 k173 k174 k175 k176 k177 k178 k179 k180 k181 k182 k183 k184 k185 k186 k187 k188 k189 k190 k191 k192 k193 k194 k195 k196 k197 k198 k199 k200 k201 k202 k203 k204 k205 k206 k207 k208 k209 k210 k211 k212 k213 k214 k215 k216 k217 k218 k219 k220 k221 k222 k223 k224 k225 k226 k227 k228 k229 k230 k231 k232 k233 k234 k235 k236 k237 k238 k239 k240 k241 k242 k243 k244 k245 k246 k247 k248 k249 k250 k251 k252 k253 k254 k255 k256 k257 k258 k259 k260 k261 k262 k263 k264 k265 k266 k267 k268 : Value} {w wc : World} {F : Nat → Prop} {K R p M : Nat} {es : List Bk.Ent} {L : List Bl} {av a3 : Option Addr} {cv c3 : Nat} {ask er G2 : Int} {b G1 : List UInt8}
    (h7' : Hid (Sx w wc F No K p M es L L (.slice av L.length cv) [(R, #[.int .i64 (M : Int), .slice av L.length cv], 28)])) (hr7' : Hid (Rf wc (.slice a3 L.length c3) L)) (hb : b.length ≤ 100)
    (hQ : ∀ (d161 d162 d163 d164 d165 d166 d167 d168 d169 d170 d171 d172 d173 d174 d175 d176 d177 d178 d179 d180 d181 d182 d183 d184 d185 d186 d187 d188 d189 d190 d191 d192 d193 d194 d195 d196 d197 d198 d199 d200 d201 d202 d203 d204 d205 d206 d207 d208 d209 d210 d211 d212 d213 d214 : Value) (z : World), Hid (Sx w z F No K p M es L L (.slice av L.length cv) [(R, #[.int .i64 (M : Int), .slice av L.length cv], 28)]) → Q .normal ⟨#[k0, k1, .int .i64 ask, .string (str b), k4, k5, k6, k7, k8, .pointer (some ⟨p, 0, none⟩), .pointer (some ⟨R, 0, none⟩), k11, k12, k13, .int .i64 er, .int .i64 er, k16, k17, k18, k19, k20, k21, .slice a3 L.length c3, .string (str G1), .int .i64 G2, .string (str G1), .int .i64 G2, .int .i64 (refsL L ask), k28, k29, k30, k31, k32, k33, k34, k35, k36, k37, k38, k39, k40, k41, k42, k43, k44, k45, k46, k47, k48, k49, k50, k51, k52, k53, k54, k55, k56, k57, k58, k59, k60, k61, k62, k63, k64, k65, k66, k67, k68, k69, k70, k71, k72, k73, k74, k75, k76, k77, k78, k79, k80, k81, k82, k83, k84, k85, k86, k87, k88, k89, k90, k91, k92, k93, k94, k95, k96, k97, k98, k99, k100, k101, k102, k103, k104, k105, k106, k107, k108, k109, k110, k111, k112, k113, k114, k115, k116, k117, k118, k119, k120, k121, k122, k123, k124, k125, k126, k127, k128, k129, k130, k131, k132, k133, k134, k135, k136, k137, k138, k139, k140, k141, k142, k143, k144, k145, k146, k147, k148, k149, k150, k151, k152, k153, k154, k155, k156, k157, k158, k159, k160, d161, d162, d163, d164, d165, d166, d167, d168, d169, d170, d171, d172, d173, d174, d175, d176, d177, d178, d179, d180, d181, d182, d183, d184, d185, d186, d187, d188, d189, d190, d191, d192, d193, d194, d195, d196, d197, d198, d199, d200, d201, d202, d203, d204, d205, d206, d207, d208, d209, d210, d211, d212, d213, d214, .bool false, k216, k217, k218, k219, k220, k221, k222, k223, k224, k225, k226, k227, k228, k229, k230, k231, k232, k233, k234, k235, k236, k237, k238, k239, k240, k241, k242, k243, k244, k245, k246, k247, k248, k249, k250, k251, k252, k253, k254, k255, k256, k257, k258, k259, k260, k261, k262, k263, k264, k265, k266, k267, k268], []⟩ z) :
    Code.wp Tryz.prog reg43 Q ⟨#[k0, k1, .int .i64 ask, .string (str b), k4, k5, k6, k7, k8, .pointer (some ⟨p, 0, none⟩), .pointer (some ⟨R, 0, none⟩), k11, k12, k13, .int .i64 er, .int .i64 er, k16, k17, k18, k19, k20, k21, .slice a3 L.length c3, .string (str G1), .int .i64 G2, .string (str G1), .int .i64 G2, .int .i64 (refsL L ask), k28, k29, k30, k31, k32, k33, k34, k35, k36, k37, k38, k39, k40, k41, k42, k43, k44, k45, k46, k47, k48, k49, k50, k51, k52, k53, k54, k55, k56, k57, k58, k59, k60, k61, k62, k63, k64, k65, k66, k67, k68, k69, k70, k71, k72, k73, k74, k75, k76, k77, k78, k79, k80, k81, k82, k83, k84, k85, k86, k87, k88, k89, k90, k91, k92, k93, k94, k95, k96, k97, k98, k99, k100, k101, k102, k103, k104, k105, k106, k107, k108, k109, k110, k111, k112, k113, k114, k115, k116, k117, k118, k119, k120, k121, k122, k123, k124, k125, k126, k127, k128, k129, k130, k131, k132, k133, k134, k135, k136, k137, k138, k139, k140, k141, k142, k143, k144, k145, k146, k147, k148, k149, k150, k151, k152, k153, k154, k155, k156, k157, k158, k159, k160, k161, k162, k163, k164, k165, k166, k167, k168, k169, k170, k171, k172, k173, k174, k175, k176, k177, k178, k179, k180, k181, k182, k183, k184, k185, k186, k187, k188, k189, k190, k191, k192, k193, k194, k195, k196, k197, k198, k199, k200, k201, k202, k203, k204, k205, k206, k207, k208, k209, k210, k211, k212, k213, k214, k215, k216, k217, k218, k219, k220, k221, k222, k223, k224, k225, k226, k227, k228, k229, k230, k231, k232, k233, k234, k235, k236, k237, k238, k239, k240, k241, k242, k243, k244, k245, k246, k247, k248, k249, k250, k251, k252, k253, k254, k255, k256, k257, k258, k259, k260, k261, k262, k263, k264, k265, k266, k267, k268], []⟩ wc := by
  have hQ' := Hid.intro hQ
  clear hQ
  obtain ⟨r07, r17⟩ := box_of h7'.out
  have hl60 := h7'.out.l60
  have hM := h7'.out.inv.m60
  have n1 : (er != er) = false := by simp
  have n2 : (G2 != G2) = false := by simp
  have n3 : (refsL L ask != refsL L ask) = false := by simp
  have n4 : (find L b != find L b) = false := by simp
  have n5 : ((str G1).toList == (str G1).toList) = true := by simp
  have n6 : ((L.length : Int) != (L.length : Int)) = false := by simp
  have n7 : (((M : Int) - (L.length : Int)) != ((M : Int) - (L.length : Int))) = false := by simp
  have m0 : (L.length : Int) ≤ (M : Int) := by have := h7'.out.inv.len; omega
  have n8 : IntKind.i64.wrap ((M : Int) - (L.length : Int)) = (M : Int) - (L.length : Int) := IntWalk.i64_in _ (by omega)
  conv => arg 2; whnf
  go_region_held3 (fun w' => w'.cell? ⟨R, 0, none⟩ = some (.int .i64 (M : Int)) ∧ w'.cell? ⟨R, 1, none⟩ = some (.slice av L.length cv))
    (first
      | exact ⟨r07, r17⟩
      | exact box_of S16.out
      | exact box_of S14.out
      | exact box_of S13.out
      | exact box_of S12.out
      | exact box_of S11.out)
    (first
      | (go_at_call 17; refine (Bk.same_rows (ps := L) ?_ ?_ (by omega)).mono ?_; exact (hr7'.out.below Bk.below_drw).row; exact (h7'.out.below Bk.below_drw).rf.row; rintro e w11 ⟨rfl, hb11⟩; have S11 := Hid.intro (h7'.out.below (Bk.below_drew hb11)))
      | (go_at_call 18; refine (refs_any S11.out.pl ask).mono ?_; rintro e w12 ⟨rfl, hb12⟩; have S12 := Hid.intro (S11.out.below hb12))
      | (go_at_call 19; refine (pfind_any S12.out.pl b (by omega)).mono ?_; rintro e w13 ⟨rfl, hb13⟩; have S13 := Hid.intro (S12.out.below hb13))
      | (go_at_call 20; refine (rFind_any (M : Int) S13.out.rf.row b (by omega)).mono ?_; rintro e w14 ⟨rfl, hb14⟩; have S14 := Hid.intro (S13.out.below hb14))
      | (go_at_call 21; refine (plen_any S14.out.pl).mono ?_; rintro e w15 ⟨rfl, rfl⟩)
      | (go_at_call 22; refine (k_room S14.out).mono ?_; rintro e w16 ⟨rfl, hb16⟩; have S16 := Hid.intro (S14.out.below hb16)))
  all_goals
    exact hQ'.out _ _ _ _ _ _ _ _ _ _ _ _ _ _ _ _ _ _ _ _ _ _ _ _ _ _ _ _ _ _ _ _ _ _ _ _ _ _ _ _ _ _ _ _ _ _ _ _ _ _ _ _ _ _ _ S16
end Go.Proofs.YtdmamanlclajjaaGreat
