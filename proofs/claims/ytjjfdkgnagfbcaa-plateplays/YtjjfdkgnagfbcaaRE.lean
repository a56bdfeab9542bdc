/-
  The contracts of the document's Lay, Fix, Rot, New.
-/
import Derived.Test.YtjjfdkgnagfbcaaRD
namespace Go.Proofs.Ytjjfdkgnagfbcaa
open Go.ChangeShapes Go.WideShapes Go.ChangeAt Go.RowKit
attribute [local go_sem ↓] Go.wp_at_zero Go.wp_at_succ
attribute [local go_sem] str_size str_extract str_append str_toList

theorem wet_on {M : MS} {k : Nat} (S : List UInt8) (_hk : k < M.L.length) : (wetB M).set k true = wetB (mPut M k S) := by
  apply List.ext_getElem?
  intro i
  unfold wetB mPut
  simp only [List.length_set]
  rw [List.getElem?_map]
  by_cases e : k = i
  · subst e
    rw [List.getElem?_set_self (by simpa using _hk), List.getElem?_range _hk]
    simp [onW_bit]
  · rw [List.getElem?_set_ne e, List.getElem?_map]
    cases h : (List.range M.L.length)[i]? with
    | none => rfl
    | some j =>
      have hj : j = i := by
        obtain ⟨h1, h2⟩ := List.getElem?_eq_some_iff.1 h
        simpa using h2.symm
      subst hj
      simp [onW_bit, e]
theorem wet_off {M : MS} {k : Nat} (S : List UInt8) (hW : M.W < 18446744073709551616) (h60 : M.L.length ≤ 60) (hk : k < M.L.length) : (wetB M).set k false = wetB { M with L := M.L.set k S, X := M.X.set k S, W := offW M.W k } := by
  apply List.ext_getElem?
  intro i
  unfold wetB
  simp only [List.length_set]
  rw [List.getElem?_map]
  by_cases e : k = i
  · subst e
    rw [List.getElem?_set_self (by simpa using hk), List.getElem?_range hk]
    simp [offW_bit hW (by omega : k < 64)]
  · rw [List.getElem?_set_ne e, List.getElem?_map]
    cases h : (List.range M.L.length)[i]? with
    | none => rfl
    | some j =>
      have hj : j = i := by
        obtain ⟨h1, h2⟩ := List.getElem?_eq_some_iff.1 h
        simpa using h2.symm
      subst hj
      simp [offW_bit hW (by omega : k < 64), e]
theorem RS.move {M M' : MS} {off arm : Bool} {n : Int} {kl : List Bool} (h : RS M off arm n kl) (h1 : M'.on = M.on) (h2 : M'.left = M.left) (h3 : M'.K = M.K) : RS M' off arm n kl :=
  ⟨by rw [h1]; exact h.hoff, by rw [h2]; exact h.harm, by rw [h2, h3]; exact h.armed, h.k60, h.n0, h.n1⟩
set_option maxHeartbeats 4000000 in
set_option maxRecDepth 100000 in
theorem rrot_any {w : World} {F : Nat → Prop} {r : Nat} {M : MS} (h : RO w F r M) (hok : Ok M) (k : Int) (S : List UInt8) :
    Calls Try.prog 41 #[.pointer (some ⟨r, 0, none⟩), .int .i64 k, .string (str S)] w fun e w' => e = .returned (.bool (fitB M k S)) ∧ RO w' F r (mRot M k S) ∧ Keep F w w' := by
  have hR := Hid.intro (right_any h k S)
  have hO := Hid.intro h
  unfold mRot
  cases hf : fitB M k S with
  | false =>
    rw [hf] at hR
    clear h
    simp only [Bool.false_eq_true, if_false]
    go_enter Try.func41, Try.ntmps41
    go_wp2_with fail
    refine hR.out.mono ?_; rintro e w1 ⟨rfl, rfl⟩
    go_wp2
    go_ret
    exact ⟨rfl, hO.out, Keep.refl _⟩
  | true =>
    rw [hf] at hR
    simp only [if_true]
    obtain ⟨⟨h1, h2⟩, hS⟩ := fitB_iff.1 hf
    obtain ⟨k, rfl⟩ : ∃ j : Nat, k = j := ⟨k.toNat, by omega⟩
    have hk : k < M.L.length := by omega
    simp only [Int.toNat_natCast]
    obtain ⟨vN, vX, vW, vK, off, arm, n0, kl, hm, hs⟩ := h
    have hc := rcells hm.box
    have q0 := hc.c0
    have q1 := hc.c1
    have q2 := hc.c2
    have hXl := hok.len
    obtain ⟨aN, cN, rfl⟩ := hm.sN.form
    obtain ⟨aX, cX, rfl⟩ := hm.sX.form
    obtain ⟨aW, cW, rfl⟩ := own_form hm.sW.1
    obtain ⟨gN, rfl, qn, fn⟩ := hm.sN.at_ (k := k) rfl hk
    obtain ⟨gX, rfl, qx, fx⟩ := hm.sX.at_ (L := M.X) (k := k) rfl (by omega)
    obtain ⟨gW, rfl, qw, fw⟩ := hm.sW.at_ (k := k) rfl (by rw [wetB_length]; exact hk)
    have m1 := hm.storeN (g := gN) rfl S hk
    have hkX : k < M.X.length := by omega
    have m2 := m1.storeX (g := gX) rfl S hkX
    have m3 := m2.storeW (g := gW) rfl false (by rw [wetB_length]; exact hk)
    rw [wet_off S hok.hW hok.n60 hk] at m3
    have hRO := Hid.intro (show RO ((((w.setCell ⟨gN, k, none⟩ (.string (str S))).setCell ⟨gX, k, none⟩ (.string (str S))).setCell ⟨gW, k, none⟩ (.bool false)).drew) F r { M with L := M.L.set k S, X := M.X.set k S, W := offW M.W k } from
      ⟨_, _, _, _, _, _, _, _, m3.drew, hs.move rfl rfl rfl⟩)
    have hK := Hid.intro ((((Keep.set (F := F) (w := w) (g := gN) (o := k) (u := .string (str S)) (hm.sN.2 _ rfl)).then (Keep.set (F := F) (g := gX) (o := k) (u := .string (str S)) (hm.sX.2 _ rfl))).then (Keep.set (F := F) (g := gW) (o := k) (u := .bool false) (hm.sW.2 _ rfl))).drew)
    have n1 : gX ≠ gN := fun e => hm.nX gN rfl (by rw [e]; rfl)
    have n2 : gW ≠ gN := blk_type hm.sW.1 hm.sN.1 rfl rfl (by decide)
    have n3 : gW ≠ gX := blk_type hm.sW.1 hm.sX.1 rfl rfl (by decide)
    rw [wetB_length] at q2
    rw [hXl] at q1
    have k0 : (0 : Int) ≤ (k : Int) := Int.natCast_nonneg _
    clear m1 m2 m3 hm hs hc hO
    generalize M.L.length = nn at *
    go_enter Try.func41, Try.ntmps41
    go_wp2_with fail
    refine hR.out.mono ?_; rintro e w1 ⟨rfl, rfl⟩
    go_wp2_with fail
    go_region
    all_goals
      go_wp2
      go_ret
      exact ⟨rfl, hRO.out, hK.out⟩
theorem BR.bools {w : World} {F : Nat → Prop} {v : Value} {l : List Bool} (h : BR w F v l) : BoolsAt w v l := by
  obtain ⟨a, c, rfl⟩ := own_form h.1
  by_cases h0 : l = []
  · subst h0; exact .inl ⟨rfl, _, _, rfl⟩
  · obtain ⟨g, cap, hv, _, hg⟩ := h.1.form (List.length_pos_iff.2 h0)
    cases hv
    have hcap : l.length ≤ c := by
      rcases h.1.2 with ⟨h1, _⟩ | ⟨g', cap', cur, hv, _, _, hc, _⟩
      · cases h1
      · cases hv; exact hc
    refine .inr ⟨g, 0, c, rfl, hg, hcap, fun i b hi => ?_⟩
    rw [Nat.zero_add, World.ownsRow.cellAt h.1 i (by have := (List.getElem?_eq_some_iff.1 hi).1; omega)]
    simp [hi]
theorem lay_goes {M : MS} {k : Nat} {S : List UInt8} (ho : M.on = true) (hf : fitB M (k : Int) S = true) (hl : M.left = 0) (kl : List Bool) (hk : kw kl = M.K) : mLay M (k : Int) S = (7, (mOff (mPut M k S) kl).2) := by
  obtain ⟨on, L, X, W, left, K⟩ := M
  simp only at ho hl hk
  subst ho; subst hl; subst hk
  unfold mLay
  rw [hf]
  simp [mWrite, mOff, mPut]
theorem lay_stays {M : MS} {k : Nat} {S : List UInt8} (ho : M.on = true) (hf : fitB M (k : Int) S = true) (h0 : -1 ≤ M.left) (hl : ¬ M.left = 0) : mLay M (k : Int) S = (0, mPut (mStep M) k S) := by
  obtain ⟨on, L, X, W, left, K⟩ := M
  simp only at ho h0 hl
  subst ho
  unfold mLay
  rw [hf]
  by_cases h1 : left = -1
  · subst h1; simp [mWrite, mPut, mStep]
  · have h2 : 0 < left := by omega
    simp [mWrite, mPut, mStep, h1, h2]
theorem fix_goes {M : MS} (ho : M.on = true) (hl : M.left = 0) (kl : List Bool) (hk : kw kl = M.K) : mFix M = (7, (mOff M kl).2) := by
  obtain ⟨on, L, X, W, left, K⟩ := M
  simp only at ho hl hk
  subst ho; subst hl; subst hk
  simp [mFix, mWrite, mOff]
theorem fix_stays {M : MS} (ho : M.on = true) (h0 : -1 ≤ M.left) (hl : ¬ M.left = 0) : mFix M = (0, mFixed (mStep M)) := by
  obtain ⟨on, L, X, W, left, K⟩ := M
  simp only at ho h0 hl
  subst ho
  by_cases h1 : left = -1
  · subst h1; simp [mFix, mWrite, mStep]
  · have h2 : 0 < left := by omega
    simp [mFix, mWrite, mStep, h1, h2]
theorem RO.kept {w : World} {F : Nat → Prop} {r : Nat} {M : MS} (h : RO w F r M) (hl : 0 ≤ M.left) : ∃ vK kl, w.cell? ⟨r, 6, none⟩ = some vK ∧ BoolsAt w vK kl ∧ (∀ g, vK.ownBlock = some g → ∃ cur, w.heap[g]? = some (.cells cur 4 (0, 0))) ∧ kl.length ≤ 60 ∧ kw kl = M.K := by
  obtain ⟨vN, vX, vW, vK, off, arm, n0, kl, hm, hs⟩ := h
  refine ⟨vK, kl, (rcells hm.box).c6, hm.sK.bools, fun g hg => own_blk hm.sK.1 hg, hs.k60, ?_⟩
  have ha := hs.harm
  rw [decide_eq_true hl] at ha
  exact (hs.armed ha).2
set_option maxHeartbeats 4000000 in
set_option maxRecDepth 100000 in
theorem rlay_any {w : World} {F : Nat → Prop} {r : Nat} {M : MS} (h : RO w F r M) (hok : Ok M) (k : Int) (S : List UInt8) :
    Calls Try.prog 36 #[.pointer (some ⟨r, 0, none⟩), .int .i64 k, .string (str S)] w fun e w' => e = .returned (.int .i64 (mLay M k S).1) ∧ RO w' (Fr F w) r (mLay M k S).2 ∧ Keep F w w' := by
  have hR := Hid.intro (right_any h k S)
  have hO := Hid.intro h
  have h3 : w.cell? ⟨r, 3, none⟩ = some (.bool (!M.on)) := by
    obtain ⟨vN, vX, vW, vK, off, arm, n0, kl, hm, hs⟩ := h
    rw [(rcells hm.box).c3, hs.hoff]
  cases hon : M.on with
  | false =>
    rw [hon] at h3
    have hml : Hid (mLay M k S = (7, M)) := Hid.intro (off_lay k S hon)
    clear h hon
    change w.cell? ⟨r, 3, none⟩ = some (.bool true) at h3
    go_enter Try.func36, Try.ntmps36
    go_wp2
    go_ret
    exact ⟨by rw [hml.out]; rfl, by rw [hml.out]; exact hO.out.wide fun _ h => .inl h, Keep.refl _⟩
  | true =>
    rw [hon] at h3
    change w.cell? ⟨r, 3, none⟩ = some (.bool false) at h3
    cases hf : fitB M k S with
    | false =>
      rw [hf] at hR
      have hml : Hid (mLay M k S = (1, M)) := Hid.intro (by unfold mLay; rw [hon, hf]; rfl)
      clear h hon
      go_enter Try.func36, Try.ntmps36
      go_wp2_with fail
      refine hR.out.mono ?_; rintro e w1 ⟨rfl, rfl⟩
      go_wp2
      go_ret
      exact ⟨by rw [hml.out]; rfl, by rw [hml.out]; exact hO.out.wide fun _ h => .inl h, Keep.refl _⟩
    | true =>
      rw [hf] at hR
      obtain ⟨⟨h1, h2⟩, hS⟩ := fitB_iff.1 hf
      obtain ⟨k, rfl⟩ : ∃ j : Nat, k = j := ⟨k.toNat, by omega⟩
      have hk : k < M.L.length := by omega
      have hfa := Hid.intro (falls_any h hok.l0)
      have k0 : (0 : Int) ≤ (k : Int) := Int.natCast_nonneg _
      have hokp := Hid.intro (hok.put hk hS)
      have hf' := Hid.intro hf
      have hon' := Hid.intro hon
      clear h hf hon
      go_enter Try.func36, Try.ntmps36
      go_wp2_with fail
      refine hR.out.mono ?_; rintro e w1 ⟨rfl, rfl⟩
      go_wp2_with fail
      refine hfa.out.mono ?_; rintro e w2 ⟨rfl, hRO2, hK2⟩
      obtain ⟨vN, vX, vW, vK, off, arm, n0, kl, hm, hs⟩ := hRO2
      have hstL := (mStep_L M).1
      have hc := rcells hm.box
      have q0 := hc.c0
      have q2 := hc.c2
      rw [hstL, (mStep_L M).2.1, wetB_step] at hm
      obtain ⟨aN, cN, rfl⟩ := hm.sN.form
      obtain ⟨aW, cW, rfl⟩ := own_form hm.sW.1
      obtain ⟨gN, rfl, qn, fn⟩ := hm.sN.at_ (k := k) rfl hk
      obtain ⟨gW, rfl, qw, fw⟩ := hm.sW.at_ (k := k) rfl (by rw [wetB_length]; exact hk)
      have m1 := hm.storeN (g := gN) rfl S hk
      have m3 := m1.storeW (g := gW) rfl true (by rw [wetB_length]; exact hk)
      rw [wet_on S hk] at m3
      have e1 : (mPut (mStep M) k S).L = M.L.set k S := by simp only [mPut]; rw [hstL]
      have e2 : (mPut (mStep M) k S).X = M.X := by simp only [mPut]; exact (mStep_L M).2.1
      have e3 : wetB (mPut (mStep M) k S) = wetB (mPut M k S) := by unfold wetB mPut; simp only [List.length_set]; rw [hstL, (mStep_L M).2.2.1]
      have hRO := Hid.intro (show RO (((w2.setCell ⟨gN, k, none⟩ (.string (str S))).setCell ⟨gW, k, none⟩ (.bool true)).drew) F r (mPut (mStep M) k S) from
        ⟨_, _, _, _, _, _, _, _, by rw [e1, e2, e3]; exact m3.drew, hs.move rfl rfl rfl⟩)
      have hK := Hid.intro (hK2.then (((Keep.set (F := F) (w := w2) (g := gN) (o := k) (u := .string (str S)) (hm.sN.2 _ rfl)).then (Keep.set (F := F) (g := gW) (o := k) (u := .bool true) (hm.sW.2 _ rfl))).drew))
      have n2 : gW ≠ gN := blk_type hm.sW.1 hm.sN.1 rfl rfl (by decide)
      rw [wetB_length] at q2
      clear m1 m3 hm hs hc hO e1 e2 e3 hstL hK2
      by_cases hl : M.left = 0
      · rw [decide_eq_true hl]
        have hst : mStep M = M := by unfold mStep; rw [if_neg (by omega)]
        rw [hst] at hRO
        generalize hnn : M.L.length = nn at *
        go_wp2_with fail
        go_region
        all_goals
          generalize ((w2.setCell ⟨gN, k, none⟩ (.string (str S))).setCell ⟨gW, k, none⟩ (.bool true)).drew = w3 at *
          obtain ⟨uK, kl2, z6, zb, zt, z60, zk⟩ := hRO.out.kept (by show 0 ≤ M.left; omega)
          have hml := Hid.intro (lay_goes hon'.out hf'.out hl kl2 zk)
          have hfl := Hid.intro (rfall_any hRO.out hokp.out zb (fun _ g hg => .inr (zt g hg)) z60)
          have zb' := Hid.intro zb
          clear zb zt zk q0 q2 qn fn qw fw
          go_wp2_with fail
          refine hfl.out.mono ?_; rintro e w4 ⟨u, rfl, hR4, _, hK4⟩
          have hR4' := Hid.intro hR4
          have hK4' := Hid.intro (hK.out.then hK4)
          have hfr : Hid (∀ j, Fr F w3 j → Fr F w1 j) := Hid.intro (fun j hj => hj.elim .inl fun hj => .inr (by have := hK.out.size; omega))
          clear hR4 hK4
          go_wp2
          go_ret
          exact ⟨by rw [hml.out]; rfl, by rw [hml.out]; exact hR4'.out.wide hfr.out, hK4'.out⟩
      · rw [decide_eq_false hl]
        have hml := Hid.intro (lay_stays hon'.out hf'.out hok.l0 hl)
        generalize hnn : M.L.length = nn at *
        go_wp2_with fail
        go_region
        all_goals
          go_wp2
          go_ret
          exact ⟨by rw [hml.out]; rfl, by rw [hml.out]; exact hRO.out.wide fun _ h => .inl h, hK.out⟩
set_option maxHeartbeats 4000000 in
set_option maxRecDepth 100000 in
theorem rfix_any {w : World} {F : Nat → Prop} {r : Nat} {M : MS} (h : RO w F r M) (hok : Ok M) :
    Calls Try.prog 37 #[.pointer (some ⟨r, 0, none⟩)] w fun e w' => e = .returned (.int .i64 (mFix M).1) ∧ RO w' (Fr F w) r (mFix M).2 ∧ Keep F w w' := by
  have hO := Hid.intro h
  have h3 : w.cell? ⟨r, 3, none⟩ = some (.bool (!M.on)) := by
    obtain ⟨vN, vX, vW, vK, off, arm, n0, kl, hm, hs⟩ := h
    rw [(rcells hm.box).c3, hs.hoff]
  cases hon : M.on with
  | false =>
    rw [hon] at h3
    have hml : Hid (mFix M = (7, M)) := Hid.intro (off_fix hon)
    clear h hon
    change w.cell? ⟨r, 3, none⟩ = some (.bool true) at h3
    go_enter Try.func37, Try.ntmps37
    go_wp2
    go_ret
    exact ⟨by rw [hml.out]; rfl, by rw [hml.out]; exact hO.out.wide fun _ h => .inl h, Keep.refl _⟩
  | true =>
    rw [hon] at h3
    change w.cell? ⟨r, 3, none⟩ = some (.bool false) at h3
    have hfa := Hid.intro (falls_any h hok.l0)
    have hon' := Hid.intro hon
    have hn60 := hok.n60
    have hXl := hok.len
    clear h hon
    go_enter Try.func37, Try.ntmps37
    go_wp2_with fail
    refine hfa.out.mono ?_; rintro e w2 ⟨rfl, hRO2, hK2⟩
    have hRO2' := Hid.intro hRO2
    have hK2' := Hid.intro hK2
    by_cases hl : M.left = 0
    · rw [decide_eq_true hl]
      have hst : mStep M = M := by unfold mStep; rw [if_neg (by omega)]
      rw [hst] at hRO2
      obtain ⟨uK, kl2, z6, zb, zt, z60, zk⟩ := hRO2.kept (by omega)
      have hml := Hid.intro (fix_goes hon'.out hl kl2 zk)
      have hfl := Hid.intro (rfall_any hRO2 hok zb (fun _ g hg => .inr (zt g hg)) z60)
      clear zb zt zk hRO2 hK2
      go_wp2_with fail
      refine hfl.out.mono ?_; rintro e w4 ⟨u, rfl, hR4, _, hK4⟩
      have hR4' := Hid.intro hR4
      have hK4' := Hid.intro (hK2'.out.then hK4)
      have hfr : Hid (∀ j, Fr F w2 j → Fr F w j) := Hid.intro (fun j hj => hj.elim .inl fun hj => .inr (by have := hK2'.out.size; omega))
      clear hR4 hK4
      go_wp2
      go_ret
      exact ⟨by rw [hml.out]; rfl, by rw [hml.out]; exact hR4'.out.wide hfr.out, hK4'.out⟩
    · rw [decide_eq_false hl]
      have hml := Hid.intro (fix_stays hon'.out hok.l0 hl)
      obtain ⟨vN, vX, vW, vK, off, arm, n0, kl, hm, hs⟩ := hRO2
      rw [(mStep_L M).1, (mStep_L M).2.1, wetB_step] at hm
      obtain ⟨w6, hcp, hRM6, hK6⟩ := hm.drew.copyX hXl.symm
      have hc := rcells hm.box
      have q0 := hc.c0
      have q1 := hc.c1
      obtain ⟨hRM7, hK7⟩ := hRM6.rewet (m := M.L.length) hn60
      have hmk := made_bools w6 M.L.length hn60
      have hrl6 : r < w6.heap.size := lt_of_block hRM6.box
      have hc6 := rcells hRM6.box
      have g0 := hc6.c0
      have g2 := hc6.c2
      have gf := hc6.fz 2
      have hwF : wetB (mFixed (mStep M)) = List.replicate M.L.length false := by
        unfold wetB mFixed
        simp only
        rw [(mStep_L M).1]
        apply List.ext_getElem?
        intro i
        rw [List.getElem?_map, List.getElem?_replicate]
        by_cases h : i < M.L.length
        · rw [List.getElem?_range h, if_pos h]; simp
        · rw [List.getElem?_eq_none (by simp; omega), if_neg h]; rfl
      have hRO := Hid.intro (show RO ((w6.alloc (.cells (zb M.L.length) 4)).setCell ⟨r, 2, none⟩ (.slice (some ⟨w6.heap.size, 0, none⟩) M.L.length M.L.length)) (Fr F w6) r (mFixed (mStep M)) from
        ⟨vN, vX, .slice (some ⟨w6.heap.size, 0, none⟩) M.L.length M.L.length, vK, off, arm, n0, kl, by rw [hwF, show (mFixed (mStep M)).L = M.L from (mStep_L M).1, show (mFixed (mStep M)).X = M.L from (mStep_L M).1]; exact hRM7, hs.move rfl rfl rfl⟩)
      have hKa := Hid.intro (hK2'.out.drew.then (hK6.then hK7))
      have hfr : Hid (∀ j, Fr F w6 j → Fr F w j) := Hid.intro (fun j hj => hj.elim .inl fun hj => .inr (by have h1 := hK2'.out.size; have h2 := hK6.size; change w2.heap.size ≤ _ at h2; omega))
      obtain ⟨aN, cN, rfl⟩ := hm.sN.form
      obtain ⟨aX, cX, rfl⟩ := hm.sX.form
      rw [hXl] at hcp q1
      clear hm hs hRM6 hK6 hRM7 hK7 hc hc6 hwF hRO2' hfa hO hK2
      generalize M.L.length = nn at *
      have nn0 : (0 : Int) ≤ (nn : Int) := Int.natCast_nonneg _
      go_wp2_with fail
      go_region_law (refine step_copy_runI rfl _ _ 60 60 rfl _ _ (by simp [Act.eval]) (by simp [Act.eval]) (hcp _) ?_)
      all_goals
        have hsw : (w6.alloc (.cells (zb nn) 4)).setCell ⟨r, 2, none⟩ (.slice (some ⟨w6.heap.size, 0, none⟩) nn nn) = (w6.setCell ⟨r, 2, none⟩ (.slice (some ⟨w6.heap.size, 0, none⟩) nn nn)).alloc (.cells (zb nn) 4) := by simp [go_sem, hrl6]
        rw [hsw] at hRO hKa
        go_wp2
        go_ret
        exact ⟨by rw [hml.out]; rfl, by rw [hml.out]; exact hRO.out.wide hfr.out, hKa.out⟩
end Go.Proofs.Ytjjfdkgnagfbcaa
