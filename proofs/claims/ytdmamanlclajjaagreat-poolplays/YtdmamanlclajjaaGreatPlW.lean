/-
  PoolPlays' walk: every blocks that are put, held and dropped, in every order, against the document's pool: for every ops.
-/
import Derived.Test.YtdmamanlclajjaaGreatPlR
import Derived.Deep.CutRange
import Derived.Deep.CutBlock
import Derived.Lib.MinMax
namespace Go.Proofs.YtdmamanlclajjaaGreat
open Go.ChangeShapes Go.WideShapes Go.ChangeAt Go.RowKit
attribute [local go_sem] str_size

theorem sx_start {w w1 w2 : World} {p most : Nat} (hb1 : Below w.heap.size w w1) (h : Pl w2 (fun j => w1.heap.size ≤ j) p most []) (hb2 : Below w1.heap.size w1 w2) :
    ∃ F, Sx w ((w2.alloc (.cells #[.int .i64 (most : Int), .slice none 0 0] 28)).alloc (.cells (Bk.bookCells (.slice none 0 0) (.slice none 0 0)) 38)) F No (w2.heap.size + 1) p most [] [] [] (.slice none 0 0) [(w2.heap.size, #[.int .i64 (most : Int), .slice none 0 0], 28)] := by
  have hs1 := hb1.size
  have hs2 := hb2.size
  have hB2 : Below w.heap.size w w2 := hb1.trans (hb2.mono hs1)
  have hs : (w2.alloc (.cells #[.int .i64 (most : Int), .slice none 0 0] 28)).heap.size = w2.heap.size + 1 := by simp
  have hba : Below w2.heap.size w2 (w2.alloc (.cells #[.int .i64 (most : Int), .slice none 0 0] 28)) := (Below.refl _ _).alloc (Nat.le_refl _) _
  have hbb : Below w2.heap.size w2 ((w2.alloc (.cells #[.int .i64 (most : Int), .slice none 0 0] 28)).alloc (.cells (Bk.bookCells (.slice none 0 0) (.slice none 0 0)) 38)) := hba.alloc (by omega) _
  have hk := Bk.kept_new (w2.alloc (.cells #[.int .i64 (most : Int), .slice none 0 0] 28)) (fun k => ¬ (w1.heap.size ≤ k ∧ k < w2.heap.size) ∧ ¬ No k) w.heap.size ⟨fun e => by omega, id⟩
  rw [hs] at hk
  refine ⟨fun k => w1.heap.size ≤ k ∧ k < w2.heap.size, h.fit.below hbb, fun k e => ⟨by have := hbb.size; omega, by omega, id⟩, hk, ⟨.inl ⟨⟨_, _, rfl⟩, rfl⟩, fun _ _ _ e => (by cases e), fun _ _ _ e => (by cases e; exact Nat.le_refl _)⟩, fun b e => (by cases e), fun x hx => ?_, hB2.trans (hbb.mono hB2.size), by omega⟩
  rw [List.mem_singleton.1 hx]
  refine ⟨?_, fun e => by simp only at e; omega, id, (show Bk.TN 28 from by unfold Bk.TN; decide), by simp only; omega⟩
  have := ((Below.refl (w2.heap.size + 1) (w2.alloc (.cells #[.int .i64 (most : Int), .slice none 0 0] 28))).alloc (by omega) (.cells (Bk.bookCells (.slice none 0 0) (.slice none 0 0)) 38)).block w2.heap.size (by omega)
  exact this.trans (heap_alloc_new w2 _)
theorem Sx.box3 {w0 wr : World} {F O : Nat → Prop} {K p most : Nat} {es : List Bk.Ent} {L M : List Bl} {v : Value} {ex : List Ex} (h : Sx w0 wr F O K p most es L M v ex) {k : Nat} {x y z : Value} {t : TypeId} (hx : (k, #[x, y, z], t) ∈ ex) :
    wr.cell? ⟨k, 0, none⟩ = some x ∧ wr.cell? ⟨k, 1, none⟩ = some y ∧ wr.cell? ⟨k, 2, none⟩ = some z := by
  obtain ⟨h1, h2, _⟩ := h.at hx
  exact ⟨h1 0, h1 1, h1 2⟩
def zzz : List UInt8 := [122, 122, 122, 122, 122, 122, 122, 122]
def Short60 (es : List Bk.Ent) : Prop := ∀ e ∈ es, e.2.length ≤ 60

set_option maxHeartbeats 8000000 in
set_option maxRecDepth 100000 in
theorem plays_yes (most ask : Int) (b : List UInt8) (a : Option Addr) (c : Nat) (os : List FOp) (w : World) (hos : Hid (OpsAt w (.slice a os.length c) os)) (hlen : os.length ≤ 80) (hb : b.length ≤ 100) (hm1 : -9223372036854775808 ≤ most) (hm2 : most ≤ 9223372036854775807) :
    Calls Tryz.prog 3 #[.int .i64 most, .slice a os.length c, .int .i64 ask, .string (str b)] w fun e w' => e = .returned (.bool true) ∧ Below w.heap.size w w' := by
  have e1 : min (max most 0) 60 = (mb most : Int) := by unfold mb; omega
  have hM := mb_le most
  have hnew := Hid.intro (fun w => pnew_any most w hm1 hm2)
  generalize mb most = M at *
  have hd1 : decide (80 < (os.length : Int)) = false := decide_eq_false (by omega)
  have hd2 : decide (100 < (b.length : Int)) = false := decide_eq_false (by omega)
  go_enter Tryz.func3, Tryz.ntmps3
  go_wp2_with fail
  refine (alive_any w).mono ?_; rintro e w1 ⟨rfl, hb1⟩
  go_wp2_with fail
  refine (hnew.out w1).mono ?_; rintro e w2 ⟨p0, rfl, hp, hb2⟩
  obtain ⟨F0, hS0⟩ := sx_start hb1 hp hb2
  have hS0' := Hid.intro hS0
  clear hS0 hp hb1 hb2 hnew
  go_wp2_with fail
  generalize w2.heap.size = R at *
  go_loopw [9, 12] (fun pv iv wr => ∃ (i p : Nat) (F : Nat → Prop) (L : List Bl) (av : Option Addr) (cv : Nat) (es : List Bk.Ent), i ≤ os.length ∧ iv = .int .i64 i ∧ pv = .pointer (some ⟨p, 0, none⟩) ∧ es.length = i ∧ Hid (Sx w wr F No (R + 1) p M es L L (.slice av L.length cv) [(R, #[.int .i64 (M : Int), .slice av L.length cv], 28)]) ∧ Hid (Few (i : Int) L) ∧ Hid (Short60 es)) (fun _ iv _ => os.length - (intOf iv).toNat)
  case atStart => exact ⟨0, p0, F0, [], none, 0, [], Nat.zero_le _, rfl, rfl, rfl, hS0'.out, fun q hq => (by cases hq), fun e he => (by cases he)⟩
  case round =>
    clear hS0'
    obtain ⟨i, p, F, L, av, cv, es, hi, rfl, rfl, hel, hS, hFew, hSh⟩ := hrel
    have i0 : (0 : Int) ≤ (i : Int) := Int.natCast_nonneg _
    by_cases hlt : i < os.length
    · obtain ⟨g, o, kd, n, T, rfl, hg, c0, c1, c2⟩ := hos.out.at hS.out.bel i hlt
      have i1 : (i : Int) < (os.length : Int) := by omega
      have hS1 := Hid.intro (hS.out.new #[.int .i64 kd, .int .i64 n, .string (str T)] 40 (by unfold Bk.TN; decide) id)
      by_cases hT60 : 60 < T.length
      · go_wp2
        go_ret
        exact ⟨rfl, hS1.out.bel⟩
      · have hF6 : Hid (Few 1000000 L) := Hid.intro fun q hq => by have := hFew.out q hq; omega
        go_upto_block 2 with fail
        generalize hN : wr.heap.size = N at *
        generalize wr.alloc (.cells #[.int .i64 kd, .int .i64 n, .string (str T)] 40) = W at *
        have hNR : N ≠ R := by have := (hS.out.at (List.mem_cons_self)).2.2; omega
        obtain ⟨r0, r1, _, _⟩ := hS1.out.box (List.mem_cons_of_mem _ List.mem_cons_self)
        obtain ⟨o0, o1, o2⟩ := hS1.out.box3 List.mem_cons_self
        clear hS c0 c1 c2
        go_cut [9, 14, 15, 16, 17, 18, 19, 20, 21] from 57 to 215 (fun pv ev fv s16 s17 s18 s19 s20 s21 wx => ∃ (p : Nat) (F : Nat → Prop) (L : List Bl) (av : Option Addr) (cv : Nat) (er : Int), pv = .pointer (some ⟨p, 0, none⟩) ∧ ev = .int .i64 er ∧ fv = .int .i64 er ∧ Hid (Sx w wx F No (R + 1) p M es L L (.slice av L.length cv) [(R, #[.int .i64 (M : Int), .slice av L.length cv], 28)]) ∧ Hid (Few ((i : Int) + 1) L))
        case first =>
          by_cases k1 : kd = 1
          · have k1' : (kd == 1) = true := by simp [k1]
            obtain ⟨L', id', er, hpl⟩ : ∃ L' id' er, Hid (putL M L T = (L', id', er)) := ⟨_, _, _, rfl⟩
            have hfew := putL_few (most := M) hFew.out i0 T
            have hc1 := k_rput hS1.out hF6.out T
            rw [hpl.out] at hfew hc1
            have hfew' := Hid.intro hfew
            have hc1' := Hid.intro hc1
            simp only at hfew' hc1'
            clear hfew hc1
            go_wp2_with fail
            refine hc1'.out.mono ?_; rintro e w3 ⟨a3, c3, rfl, h3⟩
            have h4 := h3.new #[.int .i64 (M : Int), .slice a3 L'.length c3] 28 (by unfold Bk.TN; decide) id
            have hk4 := k_pput h4 hF6.out T
            rw [hpl.out] at hk4
            have h4' := Hid.intro h4
            have hk4' := Hid.intro hk4
            simp only at hk4'
            obtain ⟨o03, o13, o23⟩ := h4.box3 (List.mem_cons_of_mem _ List.mem_cons_self)
            have hXR : R < w3.heap.size := (h3.at (List.mem_cons_of_mem _ List.mem_cons_self)).2.2
            clear h3 h4 hk4 r0 r1 o0 o1 o2
            go_wp2_with fail
            refine hk4'.out.mono ?_; rintro e w5 ⟨rfl, F5, h5⟩
            obtain ⟨x05, x15, _, _⟩ := h5.box List.mem_cons_self
            obtain ⟨r05, r15, z05, z15⟩ := h5.box (List.mem_cons_of_mem _ (List.mem_cons_of_mem _ List.mem_cons_self))
            have h5s := (h5.less (ey := [(R, #[.int .i64 (M : Int), .slice av L.length cv], 28)]) (by intro x hx; rw [List.mem_singleton.1 hx]; simp)).store (fun z hz => by cases hz) (.int .i64 (M : Int)) (.slice a3 L'.length c3)
            have h5' := Hid.intro h5s
            clear h5 h5s h4' hc1'
            go_wp2_with fail
            go_meet
            exact ⟨p, F5, L', a3, c3, er, rfl, rfl, rfl, h5'.out, hfew'.out⟩
          by_cases k2 : kd = 2
          · have k1' : (kd == 1) = false := by simp [k1]
            have k2' : (kd == 2) = true := by simp [k2]
            obtain ⟨L', er, hpl⟩ : ∃ L' er, Hid (holdL L n (1) = (L', er)) := ⟨_, _, rfl⟩
            have hfew := holdL_few hFew.out n (1) (by omega)
            have hc1 := k_rhold hS1.out hF6.out n (1) (by omega) (by omega)
            rw [hpl.out] at hfew hc1
            have hfew' := Hid.intro hfew
            have hc1' := Hid.intro hc1
            simp only at hfew' hc1'
            clear hfew hc1
            go_wp2_with fail
            refine hc1'.out.mono ?_; rintro e w3 ⟨a3, c3, rfl, h3⟩
            obtain ⟨r03, r13, z03, z13⟩ := h3.box (List.mem_cons_of_mem _ List.mem_cons_self)
            have h3s := (h3.less (ey := [(R, #[.int .i64 (M : Int), .slice av L.length cv], 28), (N, #[.int .i64 kd, .int .i64 n, .string (str T)], 40)]) (by intro x hx; simp only [List.mem_cons, List.not_mem_nil, or_false] at hx ⊢; exact hx.symm)).store (fun z hz => by rw [List.mem_singleton.1 hz]; exact hNR) (.int .i64 (M : Int)) (.slice a3 L'.length c3)
            have h3' := Hid.intro h3s
            have hk4 := k_phold h3s hF6.out n
            rw [hpl.out] at hk4
            have hk4' := Hid.intro hk4
            simp only at hk4'
            obtain ⟨o03, o13, o23⟩ := h3s.box3 (List.mem_cons_of_mem _ List.mem_cons_self)
            clear h3 h3s hk4 r0 r1 o0 o1 o2
            go_wp2_with fail
            refine hk4'.out.mono ?_; rintro e w5 ⟨rfl, F5, h5⟩
            have h5' := Hid.intro (h5.less (ey := [(R, #[.int .i64 (M : Int), .slice a3 L'.length c3], 28)]) (by intro x hx; rw [List.mem_singleton.1 hx]; exact List.mem_cons_self))
            clear h5
            go_wp2_with fail
            go_meet
            exact ⟨p, F5, L', a3, c3, er, rfl, rfl, rfl, h5'.out, hfew'.out⟩
          by_cases k3 : kd = 3
          · have k1' : (kd == 1) = false := by simp [k1]
            have k2' : (kd == 2) = false := by simp [k2]
            have k3' : (kd == 3) = true := by simp [k3]
            obtain ⟨L', er, hpl⟩ : ∃ L' er, Hid (holdL L n (-1) = (L', er)) := ⟨_, _, rfl⟩
            have hfew := holdL_few hFew.out n (-1) (by omega)
            have hc1 := k_rhold hS1.out hF6.out n (-1) (by omega) (by omega)
            rw [hpl.out] at hfew hc1
            have hfew' := Hid.intro hfew
            have hc1' := Hid.intro hc1
            simp only at hfew' hc1'
            clear hfew hc1
            go_wp2_with fail
            refine hc1'.out.mono ?_; rintro e w3 ⟨a3, c3, rfl, h3⟩
            obtain ⟨r03, r13, z03, z13⟩ := h3.box (List.mem_cons_of_mem _ List.mem_cons_self)
            have h3s := (h3.less (ey := [(R, #[.int .i64 (M : Int), .slice av L.length cv], 28), (N, #[.int .i64 kd, .int .i64 n, .string (str T)], 40)]) (by intro x hx; simp only [List.mem_cons, List.not_mem_nil, or_false] at hx ⊢; exact hx.symm)).store (fun z hz => by rw [List.mem_singleton.1 hz]; exact hNR) (.int .i64 (M : Int)) (.slice a3 L'.length c3)
            have h3' := Hid.intro h3s
            have hk4 := k_pdrop h3s hF6.out n
            rw [hpl.out] at hk4
            have hk4' := Hid.intro hk4
            simp only at hk4'
            obtain ⟨o03, o13, o23⟩ := h3s.box3 (List.mem_cons_of_mem _ List.mem_cons_self)
            clear h3 h3s hk4 r0 r1 o0 o1 o2
            go_wp2_with fail
            refine hk4'.out.mono ?_; rintro e w5 ⟨rfl, F5, h5⟩
            have h5' := Hid.intro (h5.less (ey := [(R, #[.int .i64 (M : Int), .slice a3 L'.length c3], 28)]) (by intro x hx; rw [List.mem_singleton.1 hx]; exact List.mem_cons_self))
            clear h5
            go_wp2_with fail
            go_meet
            exact ⟨p, F5, L', a3, c3, er, rfl, rfl, rfl, h5'.out, hfew'.out⟩
          · have k1' : (kd == 1) = false := by simp [k1]
            have k2' : (kd == 2) = false := by simp [k2]
            have k3' : (kd == 3) = false := by simp [k3]
            have hFa : Hid (Few 1000000 (putL M L zzz).1) := Hid.intro fun q hq => by have := putL_few (most := M) hFew.out i0 zzz q hq; omega
            have hFb : Hid (Few 1000000 (holdL (putL M L zzz).1 1 (-1)).1) := Hid.intro fun q hq => by have := holdL_few (putL_few (most := M) hFew.out i0 zzz) 1 (-1) (by omega) q hq; omega
            have hFc : Hid (Few ((i : Int) + 1) L) := Hid.intro fun q hq => by have := hFew.out q hq; omega
            go_wp2_with fail
            refine (k_copy hS1.out).mono ?_; rintro e w3 ⟨cc, rfl, F3, O3, h3, ho3, hO3⟩
            have hk3 := Hid.intro (k_oput h3 ho3 hO3 hF6.out zzz)
            clear h3 ho3 hO3
            go_wp2_with fail
            refine hk3.out.mono ?_; rintro e w4 ⟨x4, y4, rfl, O4, h4, ho4, hO4⟩
            have hk4 := Hid.intro (k_odrop h4 ho4 hO4 hFa.out 1)
            clear h4 ho4 hO4 hk3
            go_wp2_with fail
            refine hk4.out.mono ?_; rintro e w5 ⟨y5, rfl, O5, h5, ho5, hO5⟩
            have hk5 := Hid.intro (k_ohold h5 ho5 hO5 hFb.out 2)
            clear h5 ho5 hO5 hk4
            go_wp2_with fail
            refine hk5.out.mono ?_; rintro e w6 ⟨y6, rfl, h6⟩
            have h6' := Hid.intro (h6.less (ey := [(R, #[.int .i64 (M : Int), .slice av L.length cv], 28)]) (by intro x hx; rw [List.mem_singleton.1 hx]; simp))
            clear h6 hk5
            go_wp2_with fail
            go_meet
            exact ⟨cc, F3, L, av, cv, 0, rfl, rfl, rfl, h6'.out, hFc.out⟩
        case rest =>
          clear hS1 hFew hF6 r0 r1 o0 o1 o2 hNR
          obtain ⟨p, F, L, av, cv, er, rfl, rfl, rfl, hS, hFew⟩ := hcut
          have hk1 := Hid.intro (k_all hS.out)
          go_wp2_with fail
          refine hk1.out.mono ?_; rintro e w3 ⟨a3, c3, rfl, ho3, hb3⟩
          have hk2 := Hid.intro (k_book hS.out hb3 ho3 (by omega))
          have hl60 := hS.out.l60
          clear hS hk1 ho3 hb3
          go_wp2_with fail
          refine hk2.out.mono ?_; rintro e w4 ⟨rfl, h4, hr4⟩
          have hk3 := Hid.intro (k_get h4 ask)
          have h4' := Hid.intro h4
          have hr4' := Hid.intro hr4
          clear h4 hr4 hk2
          go_wp2_with fail
          refine hk3.out.mono ?_; rintro e w5 ⟨rfl, hb5⟩
          have h5 := h4'.out.below hb5
          have hk4 := Hid.intro (k_rget h5 ask)
          have h5' := Hid.intro h5
          have hr5' := Hid.intro (hr4'.out.below hb5)
          obtain ⟨r05, r15, _, _⟩ := h5.box List.mem_cons_self
          clear h5 h4' hr4' hb5 hk3
          go_wp2_with fail
          refine hk4.out.mono ?_; rintro e w6 ⟨rfl, hb6⟩
          have h6 := h5'.out.below hb6
          have hk5 := Hid.intro (rAt_any (M : Int) h6.rf.row ask (by omega))
          have h6' := Hid.intro h6
          have hr6' := Hid.intro (hr5'.out.below hb6)
          obtain ⟨r06, r16, _, _⟩ := h6.box List.mem_cons_self
          clear h6 h5' hr5' hb6 hk4 r05 r15
          go_wp2_with fail
          refine hk5.out.mono ?_; rintro e w7 ⟨k7, rfl, hk7, hb7⟩
          have h7 := h6'.out.below hb7
          have h7' := Hid.intro h7
          have hr7' := Hid.intro (hr6'.out.below hb7)
          obtain ⟨r07, r17, _, _⟩ := h7.box List.mem_cons_self
          clear h7 h6' hr6' hb7 hk5 r06 r16
          go_upto_if 154 with fail
          go_cut [27] from 57 to 215 (fun rv wx => rv = .int .i64 (refsL L ask) ∧ wx = w7)
          case first =>
            rcases hk7 with ⟨rfl, hsel⟩ | ⟨k, q, rfl, hkl, hq, hsel⟩
            · have e7 : Hid (refsL L ask = 0) := Hid.intro (by unfold refsL; rw [hsel])
              go_wp2_with fail
              go_meet
              exact ⟨by rw [e7.out], rfl⟩
            · have e7 : Hid (refsL L ask = q.2.1) := Hid.intro (by unfold refsL; rw [hsel])
              obtain ⟨g7, o7, q', hav, hg7, hq', d0, d1, d2⟩ := rw_at h7'.out.rf.row (Below.refl _ _) hkl
              subst hav
              rw [hq] at hq'
              cases hq'
              have kk0 : (0 : Int) ≤ (k : Int) := Int.natCast_nonneg _
              have kk1 : (k : Int) < (L.length : Int) := by omega
              clear hsel hq d0 d2
              go_wp2_with fail
              go_meet
              exact ⟨by rw [e7.out], rfl⟩
          case rest =>
            obtain ⟨rfl, rfl⟩ := hcut
            go_wp2_with fail
            refine reg43_walk h7' hr7' hb ?_
            intro d161 d162 d163 d164 d165 d166 d167 d168 d169 d170 d171 d172 d173 d174 d175 d176 d177 d178 d179 d180 d181 d182 d183 d184 d185 d186 d187 d188 d189 d190 d191 d192 d193 d194 d195 d196 d197 d198 d199 d200 d201 d202 d203 d204 d205 d206 d207 d208 d209 d210 d211 d212 d213 d214 w16 S16
            go_wp2
            go_roundw
            case rel =>
              refine ⟨i + 1, p, F, L, av, cv, es ++ [(.slice a3 L.length c3, L)], by omega, by go_num, rfl, by simp; omega, S16, ?_, ?_⟩
              · have := hFew.out
                exact fun q hq => by have := this q hq; omega
              · intro x hx
                rcases List.mem_append.1 hx with hx | hx
                · exact hSh.out x hx
                · rw [List.mem_singleton.1 hx]; exact hl60
            case measure => simp [intOf]; omega
    · have i1 : ¬ (i : Int) < (os.length : Int) := by omega
      go_wp2_with fail
      refine (put_nil abc wr).mono ?_; rintro e x1 ⟨rfl, hx1⟩
      have T1 := Hid.intro (hS.out.below hx1)
      clear hx1
      go_wp2_with fail
      refine (get_nil 1 x1).mono ?_; rintro e x2 ⟨rfl, hx2⟩
      have T2 := Hid.intro (T1.out.below hx2)
      clear hx2
      go_wp2_with fail
      refine (hold_nil 1 x2).mono ?_; rintro e x3 ⟨rfl, hx3⟩
      have T3 := Hid.intro (T2.out.below hx3)
      clear hx3
      go_wp2_with fail
      refine (drop_nil 1 x3).mono ?_; rintro e x4 ⟨rfl, hx4⟩
      have T4 := Hid.intro (T3.out.below hx4)
      clear hx4
      go_wp2_with fail
      refine (refs_nil 1 x4).mono ?_; rintro e x5 ⟨rfl, hx5⟩
      have T5 := Hid.intro (T4.out.below hx5)
      clear hx5
      go_wp2_with fail
      refine (pfind_nil abc x5).mono ?_; rintro e x6 ⟨rfl, hx6⟩
      have T6 := Hid.intro (T5.out.below hx6)
      clear hx6
      go_wp2_with fail
      refine (pall_nil x6).mono ?_; rintro e x7 ⟨rfl, hx7⟩
      have T7 := Hid.intro (T6.out.below hx7)
      clear hx7
      go_wp2_with fail
      refine (plen_nil x7).mono ?_; rintro e x8 ⟨rfl, hx8⟩
      have T8 := Hid.intro (T7.out.below hx8)
      clear hx8
      go_wp2_with fail
      refine (proom_nil x8).mono ?_; rintro e x9 ⟨rfl, hx9⟩
      have T9 := Hid.intro (T8.out.below hx9)
      clear hx9
      go_wp2_with fail
      refine (pcopy_nil x9).mono ?_; rintro e x10 ⟨rfl, hx10⟩
      have T10 := Hid.intro (T9.out.below hx10)
      clear hx10
      go_wp2_with fail
      refine (Bk.book_apart T10.out.kept (by omega) (fun e he => by have := hSh.out e he; omega) T10.out.kl).mono ?_; rintro e x11 ⟨rfl, hx11⟩
      have hend := Hid.intro (T10.out.bel.trans hx11)
      clear hx11
      go_wp2
      go_ret
      exact ⟨rfl, hend.out⟩

set_option maxHeartbeats 1000000 in
set_option maxRecDepth 100000 in
theorem plays_long (most ask : Int) (b : List UInt8) (a : Option Addr) (n c : Nat) (w : World) (hlen : 80 < n) :
    Calls Tryz.prog 3 #[.int .i64 most, .slice a n c, .int .i64 ask, .string (str b)] w fun e w' => e = .returned (.bool true) ∧ Below w.heap.size w w' := by
  have hd1 : decide (80 < (n : Int)) = true := decide_eq_true (by omega)
  go_enter Tryz.func3, Tryz.ntmps3
  go_wp2_with fail
  refine (alive_any w).mono ?_; rintro e w1 ⟨rfl, hb1⟩
  go_wp2
  go_ret
  exact ⟨rfl, hb1⟩
set_option maxHeartbeats 1000000 in
set_option maxRecDepth 100000 in
theorem plays_wide (most ask : Int) (b : List UInt8) (a : Option Addr) (n c : Nat) (w : World) (hlen : ¬ 80 < n) (hb : 100 < b.length) :
    Calls Tryz.prog 3 #[.int .i64 most, .slice a n c, .int .i64 ask, .string (str b)] w fun e w' => e = .returned (.bool true) ∧ Below w.heap.size w w' := by
  have hd1 : decide (80 < (n : Int)) = false := decide_eq_false (by omega)
  have hd2 : decide (100 < (b.length : Int)) = true := decide_eq_true (by omega)
  go_enter Tryz.func3, Tryz.ntmps3
  go_wp2_with fail
  refine (alive_any w).mono ?_; rintro e w1 ⟨rfl, hb1⟩
  go_wp2
  go_ret
  exact ⟨rfl, hb1⟩
theorem plays_any (most ask : Int) (b : List UInt8) (v : Value) (os : List FOp) (w : World) (h : OpsAt w v os) (hm1 : -9223372036854775808 ≤ most) (hm2 : most ≤ 9223372036854775807) :
    Calls Tryz.prog 3 #[.int .i64 most, v, .int .i64 ask, .string (str b)] w fun e w' => e = .returned (.bool true) ∧ Below w.heap.size w w' := by
  obtain ⟨a, c, rfl⟩ := h.slice
  by_cases hl : 80 < os.length
  · exact plays_long most ask b a os.length c w hl
  · by_cases hb : 100 < b.length
    · exact plays_wide most ask b a os.length c w hl hb
    · exact plays_yes most ask b a c os w (Hid.intro h) (by omega) (by omega) hm1 hm2
end Go.Proofs.YtdmamanlclajjaaGreat
