/-
  The contracts of plate's Get, Fall, Power, Snag, Fix, Rot.
-/
import Derived.Test.YtjjfdkgnagfbcaaPCalls
import Derived.Shelf.Spec.SlicesInsert
namespace Go.Proofs.Ytjjfdkgnagfbcaa
open Go.ChangeShapes Go.WideShapes Go.ChangeAt Go.RowKit
attribute [local go_sem ↓] Go.wp_at_zero Go.wp_at_succ
attribute [local go_sem] str_size str_extract str_append str_toList

set_option maxRecDepth 100000 in
theorem get_any {w : World} {p gl gf : Nat} {M : MS} (h : PO w p gl gf M) (k : Int) :
    Calls Try.prog 19 #[.pointer (some ⟨p, 0, none⟩), .int .i64 k] w fun e w' => e = .returned (.tuple #[.string (str (mGetS M k)), .int .i64 (mGetE M k)]) ∧ w' = w := by
  have hR := Hid.intro (ready_any h)
  have hF := Hid.intro (hasp_any h k)
  unfold mReady at hR
  unfold mGetS mGetE
  cases ho : M.on with
  | false =>
    rw [ho] at hR
    simp only [Bool.false_eq_true, if_false] at hR
    clear h
    simp only [if_true]
    go_enter Try.func19, Try.ntmps19
    go_wp2_with fail
    refine hR.out.mono ?_; rintro e w1 ⟨rfl, rfl⟩
    go_wp2
    exact bodyPost_ret (v := .tuple #[.string (str []), .int .i64 7]) (by simp [results, Try.results19, go_sem, str]) rfl ⟨rfl, rfl⟩
  | true =>
    rw [ho] at hR
    simp only [if_true] at hR
    simp only [Bool.true_eq_false, if_false]
    cases hf : has0 M k with
    | false =>
      rw [hf] at hF
      clear h
      simp only [Bool.false_eq_true, if_false]
      go_enter Try.func19, Try.ntmps19
      go_wp2_with fail
      refine hR.out.mono ?_; rintro e w1 ⟨rfl, rfl⟩
      go_wp2_with fail
      refine hF.out.mono ?_; rintro e w2 ⟨rfl, rfl⟩
      go_wp2
      exact bodyPost_ret (v := .tuple #[.string (str []), .int .i64 1]) (by simp [results, Try.results19, go_sem, str]) rfl ⟨rfl, rfl⟩
    | true =>
      rw [hf] at hF
      simp only [if_true]
      obtain ⟨h1, h2⟩ : 0 ≤ k ∧ k < M.L.length := by unfold has0 at hf; simpa using hf
      obtain ⟨j, rfl⟩ : ∃ j : Nat, k = j := ⟨k.toNat, by omega⟩
      have hj : j < M.L.length := by omega
      simp only [Int.toNat_natCast]
      obtain ⟨cl, cf, hcl, hcf, d2, d3, rL, rX, tL, tX, pL, pX⟩ := PMem.reads (show PMem w p gl gf M from h.mem) hj h.ok.len
      have hcv := conv_page (c := 32) pL rL
      clear h rL rX tL tX pL pX d3 hcf hf
      generalize pgAt M.L j = P at *
      generalize M.L.length = n at *
      go_enter Try.func19, Try.ntmps19
      go_wp2_with fail
      refine hR.out.mono ?_; rintro e w1 ⟨rfl, rfl⟩
      go_wp2_with fail
      refine hF.out.mono ?_; rintro e w2 ⟨rfl, rfl⟩
      go_wp2
      exact bodyPost_ret (v := .tuple #[.string (str P), .int .i64 0]) (by simp [results, Try.results19, go_sem]) rfl ⟨rfl, rfl⟩
theorem get_nil (k : Int) (w : World) : Calls Try.prog 19 #[.pointer none, .int .i64 k] w fun e w' => e = .returned (.tuple #[.string (str []), .int .i64 1]) ∧ w' = w := by
  go_enter Try.func19, Try.ntmps19
  go_wp2_with fail
  refine (ready_nil w).mono ?_; rintro e w1 ⟨rfl, rfl⟩
  go_wp2
  exact bodyPost_ret (v := .tuple #[.string (str []), .int .i64 1]) (by simp [results, Try.results19, go_sem, str]) rfl ⟨rfl, rfl⟩

set_option maxRecDepth 100000 in
theorem off_any {w : World} {p gl gf : Nat} {M : MS} {v : Value} {l : List Bool} (h : PO w p gl gf M) (hv : BoolsAt w v l) (hl : l.length ≤ 60) :
    Calls Try.prog 16 #[.pointer (some ⟨p, 0, none⟩), v] w fun e w' => ∃ u, e = .returned u ∧ PO w' p gl gf (mOff M l).2 ∧ w'.ownsRow w.heap.size 3 1 u (mOff M l).1.length (intsV (mOff M l).1) ∧ Keep (Fp p gl gf) w w' := by
  have hO := Hid.intro (on_any h)
  have hB := Hid.intro (bitsOf_any hv hl)
  have h' := Hid.intro h
  obtain ⟨a, c, rfl⟩ := hv.form
  unfold mOff
  cases ho : M.on with
  | false =>
    rw [ho] at hO
    clear h hv
    simp only [Bool.false_eq_true, if_false]
    go_enter Try.func16, Try.ntmps16
    go_wp2_with fail
    refine hO.out.mono ?_; rintro e w1 ⟨rfl, rfl⟩
    go_wp2
    go_ret
    exact ⟨_, rfl, h'.out, World.ownsRow_nil _ _ _ _, Keep.refl _⟩
  | true =>
    rw [ho] at hO
    clear h hv
    simp only [if_true]
    have hk : kw l < 18446744073709551616 := kwN_lt _ _ (by omega)
    go_enter Try.func16, Try.ntmps16
    go_wp2_with fail
    refine hO.out.mono ?_; rintro e w1 ⟨rfl, rfl⟩
    go_wp2_with fail
    refine hB.out.mono ?_; rintro e w2 ⟨rfl, hb⟩
    have hf := Hid.intro (fall_any (h'.out.below hb) (kw l) hk)
    have hb' := Hid.intro hb
    clear hb
    go_wp2_with fail
    refine hf.out.mono ?_; rintro e w3 ⟨u, rfl, q1, q2, q3⟩
    have q1' := Hid.intro q1
    have q2' := Hid.intro (own_mono q2 hb'.out.size)
    have q3' := Hid.intro ((Keep.of (F := Fp p gl gf) hb'.out).then q3)
    clear q1 q2 q3
    go_wp2
    go_ret
    exact ⟨_, rfl, q1'.out, q2'.out, q3'.out⟩
theorem off_nil {w : World} {v : Value} : Calls Try.prog 16 #[.pointer none, v] w fun e w' => e = .returned (.slice none 0 0) ∧ w' = w := by
  go_enter Try.func16, Try.ntmps16
  go_wp2_with fail
  refine (on_nil w).mono ?_; rintro e w1 ⟨rfl, rfl⟩
  go_wp2
  go_ret
  exact ⟨rfl, rfl⟩

theorem PO.mpower {w : World} {p gl gf : Nat} {M : MS} (h : PO w p gl gf M) : PO (w.setCell ⟨p, 1, none⟩ (.bool true)) p gl gf (mPower M) := by
  obtain ⟨h1, h2⟩ := h.apart
  obtain ⟨vl, vf, g1, g2, g3⟩ := h.mem
  exact ⟨⟨vl, vf, box_on g1 _, g2.keep (Below.heap_setCell _ _ _ _ h1.symm), g3.keep (Below.heap_setCell _ _ _ _ h2.symm)⟩, h.ne, h.ok.power⟩
theorem power_same {M : MS} (h : M.on = true) : mPower M = M := by cases M; simp only at h; subst h; rfl
set_option maxRecDepth 100000 in
theorem power_any {w : World} {p gl gf : Nat} {M : MS} (h : PO w p gl gf M) :
    Calls Try.prog 22 #[.pointer (some ⟨p, 0, none⟩)] w fun e w' => e = .returned (.bool (!M.on)) ∧ PO w' p gl gf (mPower M) ∧ Keep (Fp p gl gf) w w' := by
  have hR := Hid.intro (ready_any h)
  unfold mReady at hR
  cases ho : M.on with
  | true =>
    rw [ho] at hR
    simp only [if_true] at hR
    rw [power_same ho]
    have h' := Hid.intro h
    clear h
    go_enter Try.func22, Try.ntmps22
    go_wp2_with fail
    refine hR.out.mono ?_; rintro e w1 ⟨rfl, rfl⟩
    go_wp2
    go_ret
    exact ⟨rfl, h'.out, Keep.refl _⟩
  | false =>
    rw [ho] at hR
    simp only [Bool.false_eq_true, if_false] at hR
    have hP := Hid.intro h.mpower
    obtain ⟨vl, vf, hb, _, _⟩ := h.mem
    have c1 := (cells_of hb).c1
    have f1 := (cells_of hb).fz 1
    clear h hb
    go_enter Try.func22, Try.ntmps22
    go_wp2_with fail
    refine hR.out.mono ?_; rintro e w1 ⟨rfl, rfl⟩
    go_wp2
    go_ret
    exact ⟨rfl, hP.out, Keep.set (.inl rfl)⟩
theorem power_nil (w : World) : Calls Try.prog 22 #[.pointer none] w fun e w' => e = .returned (.bool false) ∧ w' = w := by
  go_enter Try.func22, Try.ntmps22
  go_wp2_with fail
  refine (ready_nil w).mono ?_; rintro e w1 ⟨rfl, rfl⟩
  go_wp2
  go_ret
  exact ⟨rfl, rfl⟩

theorem PO.msnag {w : World} {p gl gf K : Nat} {M : MS} {n : Int} (h : PO w p gl gf M) (hok : Ok { M with left := n, K := K }) : PO ((w.setCell ⟨p, 8, none⟩ (.int .i64 n)).setCells p 9 (wv K)) p gl gf { M with left := n, K := K } := by
  obtain ⟨h1, h2⟩ := h.apart
  obtain ⟨vl, vf, g1, g2, g3⟩ := h.mem
  refine ⟨⟨vl, vf, box_K4 (box_left g1 n) K, g2.keep ?_, g3.keep ?_⟩, h.ne, hok⟩
  · rw [setCells_other _ _ _ _ _ h1.symm, Below.heap_setCell _ _ _ _ h1.symm]
  · rw [setCells_other _ _ _ _ _ h2.symm, Below.heap_setCell _ _ _ _ h2.symm]
theorem PO.there9 {w : World} {p gl gf : Nat} {M : MS} (h : PO w p gl gf M) (n : Int) : (w.setCell ⟨p, 8, none⟩ (.int .i64 n)).there p 9 4 ∧ (∃ x, w.cell? ⟨p, 8, none⟩ = some x) ∧ w.frozen? ⟨p, 8, none⟩ = false := by
  obtain ⟨vl, vf, g1, g2, g3⟩ := h.mem
  exact ⟨(box_range (box_left g1 n)).2.2.2, ⟨_, (cells_of g1).c8⟩, (cells_of g1).fz 8⟩
set_option maxRecDepth 100000 in
theorem snag_any {w : World} {p gl gf : Nat} {M : MS} {v : Value} {l : List Bool} (h : PO w p gl gf M) (n : Int) (hn : n ≤ 9223372036854775807) (hv : BoolsAt w v l) (hap : l ≠ [] → ∀ g, v.ownBlock = some g → g ≠ p) (hl : l.length ≤ 60) :
    Calls Try.prog 18 #[.pointer (some ⟨p, 0, none⟩), .int .i64 n, v] w fun e w' => e = .returned (.tuple #[]) ∧ PO w' p gl gf (mSnag M n l) ∧ Keep (Fp p gl gf) w w' := by
  have hN := Hid.intro (isNone_any h)
  have ok1 : Ok { M with left := -1, K := 0 } := by have := h.ok.snag (-1) l (by omega) hl; unfold mSnag at this; rwa [if_neg (by omega)] at this
  have hS1 := Hid.intro (h.msnag ok1)
  obtain ⟨t9, ⟨x8, c8⟩, f8⟩ := h.there9 (-1)
  have t9' := Hid.intro t9
  have hu : (wv 0).toArray = z57 := rfl
  have hz := zero57
  obtain ⟨a, c, rfl⟩ := hv.form
  have hv' := Hid.intro hv
  have hK1 := Hid.intro ((Keep.set (F := Fp p gl gf) (w := w) (g := p) (o := 8) (u := .int .i64 (-1)) (.inl rfl)).then (Keep.sets (o := 9) (vs := wv 0) (.inl rfl)))
  have hpl := h.lt.1
  have hv1 : Hid (BoolsAt ((w.setCell ⟨p, 8, none⟩ (.int .i64 (-1))).setCells p 9 (wv 0)) (.slice a l.length c) l) := Hid.intro (by
    rcases hv with hv | ⟨g, o, cap, he, hg, hc, hcl⟩
    · exact .inl hv
    · cases he
      by_cases hl0 : l = []
      · exact .inl ⟨hl0, _, _, by rw [hl0]; rfl⟩
      have e : g ≠ p := hap hl0 g rfl
      exact .inr ⟨g, o, c, rfl, by rw [(setCells_facts _ _ _ _).2.2.2]; simpa [World.setCell] using hg, hc, fun i b hi => by
          rw [World.cell?_of_block (w := w) (by rw [setCells_other _ _ _ _ _ e, Below.heap_setCell _ _ _ _ e])]; exact hcl i b hi⟩)
  clear hv h t9 ok1 hap
  by_cases hn0 : 0 ≤ n
  · have hms : Hid (mSnag M n l = { ({ M with left := -1, K := 0 } : MS) with left := n, K := kw l }) := Hid.intro (by unfold mSnag; rw [if_pos hn0])
    have hok : Hid (Ok { ({ M with left := -1, K := 0 } : MS) with left := n, K := kw l }) := Hid.intro (by
      obtain ⟨a1, a2, a3, a4, a5, a6, a7, a8, a9, a10⟩ := hS1.out.ok
      exact ⟨a1, a2, a3, a4, a5, kwN_lt _ _ (by omega), a7, a8, by simp only; omega, hn⟩)
    go_enter Try.func18, Try.ntmps18
    go_wp2_with fail
    refine hN.out.mono ?_; rintro e w1 ⟨rfl, rfl⟩
    go_upto_region 2 with (refine wpList_store_mid rfl 57 _ _ rfl p 9 z57 rfl rfl t9'.out size57 (all_oneCell_toArray (wv_all 0)) ?_)
    change Code.wp _ _ _ _ ((w1.setCell ⟨p, 8, none⟩ (.int .i64 (-1))).setCells p 9 (wv 0))
    clear t9' c8 f8
    generalize (w1.setCell ⟨p, 8, none⟩ (.int .i64 (-1))).setCells p 9 (wv 0) = W2 at *
    have hB := Hid.intro (bitsOf_any hv1.out hl)
    go_wp2_with fail
    refine hB.out.mono ?_; rintro e w3 ⟨rfl, hb⟩
    have hS2 := Hid.intro (hS1.out.below hb)
    have hS3 := Hid.intro (hS2.out.msnag hok.out)
    have hK3 := Hid.intro (hK1.out.then ((Keep.of (F := Fp p gl gf) hb).then ((Keep.set (o := 8) (u := .int .i64 n) (.inl rfl)).then (Keep.sets (o := 9) (vs := wv (kw l)) (.inl rfl)))))
    obtain ⟨t9, ⟨x8, c8⟩, f8⟩ := hS2.out.there9 n
    have t9' := Hid.intro t9
    clear hb t9
    go_wp2_with (refine wpList_store_mid rfl 57 _ _ rfl p 9 _ rfl rfl t9'.out size57 (all_oneCell_toArray (wv_all _)) ?_)
    go_end0
    exact ⟨rfl, by rw [hms.out]; exact hS3.out, hK3.out⟩
  · have hms : Hid (mSnag M n l = { M with left := -1, K := 0 }) := Hid.intro (by unfold mSnag; rw [if_neg hn0])
    go_enter Try.func18, Try.ntmps18
    go_wp2_with fail
    refine hN.out.mono ?_; rintro e w1 ⟨rfl, rfl⟩
    go_upto_region 2 with (refine wpList_store_mid rfl 57 _ _ rfl p 9 z57 rfl rfl t9'.out size57 (all_oneCell_toArray (wv_all 0)) ?_)
    change Code.wp _ _ _ _ ((w1.setCell ⟨p, 8, none⟩ (.int .i64 (-1))).setCells p 9 (wv 0))
    clear t9' c8 f8
    generalize (w1.setCell ⟨p, 8, none⟩ (.int .i64 (-1))).setCells p 9 (wv 0) = W2 at *
    go_wp2
    go_end0
    exact ⟨rfl, by rw [hms.out]; exact hS1.out, hK1.out⟩
theorem snag_nil (n : Int) (v : Value) (w : World) : Calls Try.prog 18 #[.pointer none, .int .i64 n, v] w fun e w' => e = .returned (.tuple #[]) ∧ w' = w := by
  go_enter Try.func18, Try.ntmps18
  go_wp2_with fail
  refine (isNone_nil w).mono ?_; rintro e w1 ⟨rfl, rfl⟩
  go_wp2
  exact bodyPost_ret (v := .tuple #[]) (by simp [results, Try.results18, go_sem]) rfl ⟨rfl, rfl⟩

/-! ### Fix -/
theorem spl_all {A B r : List Value} (h : A.length = B.length) : (B ++ r).take 0 ++ A ++ (B ++ r).drop (0 + A.length) = A ++ r := by
  simp [h]
theorem PMem.copies {w : World} {p gl gf : Nat} {M : MS} (h : PMem w p gl gf M) (hX : M.X.length = M.L.length) (h1 : p ≠ gf) (h2 : gl ≠ gf) : ∃ cl cf C, w.cell? ⟨p, 2, none⟩ = some (.slice (some ⟨gl, 0, none⟩) M.L.length cl) ∧ w.cell? ⟨p, 3, none⟩ = some (.slice (some ⟨gf, 0, none⟩) M.L.length cf) ∧
    (∀ ty, (Builtin.copy_ #[54, 54] ty #[.slice (some ⟨gf, 0, none⟩) M.L.length cf, .slice (some ⟨gl, 0, none⟩) M.L.length cl]).run Try.prog w = .ok (goInt M.L.length) (w.setRow gf C)) ∧ PMem (w.setRow gf C) p gl gf { M with X := M.L } := by
  obtain ⟨vl, vf, g1, g2, g3⟩ := h
  have hc := cells_of g1
  obtain ⟨cl, r1, rfl, hcl, q1⟩ := g2.blk
  obtain ⟨cf, r2, rfl, hcf, q2⟩ := g3.blk
  have l1 := pg_length _ g2.len
  have l2 := pg_length _ g3.len
  have hC : (w.setRow gf (pg M.L ++ r2).toArray).heap[gf]? = some (.cells (pg M.L ++ r2).toArray 67 (0, 0)) := setRow_heap _ _ _ _ _ _ q2
  refine ⟨cl, cf, (pg M.L ++ r2).toArray, hc.c2, by rw [← hX]; exact hc.c3, fun ty => ?_, ⟨.slice (some ⟨gl, 0, none⟩) M.L.length cl, .slice (some ⟨gf, 0, none⟩) M.X.length cf, ?_, g2.keep (setRow_other _ _ _ _ h2), ⟨g2.len, cf, r2, by simp only; rw [hX], by simp only; omega, hC⟩⟩⟩
  · obtain ⟨i, hi, hs⟩ : ∃ i, Try.prog.info? 67 = some i ∧ i.size = 32 := by
      have := size67
      cases hq : Try.prog.info? 67 with
      | none => rw [hq] at this; cases this
      | some i => rw [hq] at this; exact ⟨i, rfl, by simpa using this⟩
    have hld := run_loadCells_list (P := Try.prog) w ⟨gl, 0, none⟩ (pg M.L) (fun j v hj => by
      rw [Addr.add_mid, Nat.zero_add]
      unfold World.cell?
      rw [q1]
      have hjl := (List.getElem?_eq_some_iff.1 hj).1
      simp only [List.getElem?_toArray]
      rw [List.getElem?_append_left hjl]; exact hj)
    have hst := run_storeCells_at Try.prog gf 0 67 (pg M.L) 0 (pg M.X ++ r2).toArray w q2 (by simp [l1, l2, hX]) (pg_all _)
    have e1 := spl_all (A := pg M.L) (B := pg M.X) (r := r2) (by rw [l1, l2, hX])
    simp only [Nat.add_zero] at hst
    rw [e1] at hst
    simp [Builtin.copy_, run_underlying Try.underlying54, Builtin.lenOf, Builtin.firstCells, sizeOf, typeInfo, hi, hs, ← l1, hld, hst]
  · rw [setRow_other _ _ _ _ h1]; exact g1
theorem PMem.clearW {w : World} {p gl gf : Nat} {M : MS} (h : PMem w p gl gf M) (h1 : p ≠ gl) (h2 : p ≠ gf) : PMem (w.setCells p 4 (wv 0)) p gl gf { M with W := 0 } ∧ w.there p 4 4 := by
  obtain ⟨vl, vf, g1, g2, g3⟩ := h
  exact ⟨⟨vl, vf, box_W4 g1 0, g2.keep (setCells_other _ _ _ _ _ h1.symm), g3.keep (setCells_other _ _ _ _ _ h2.symm)⟩, (box_range g1).2.2.1⟩

set_option maxRecDepth 100000 in
theorem fix_any {w : World} {p gl gf : Nat} {M : MS} (h : PO w p gl gf M) :
    Calls Try.prog 15 #[.pointer (some ⟨p, 0, none⟩)] w fun e w' => e = .returned (.int .i64 (mFix M).1) ∧ PO w' p gl gf (mFix M).2 ∧ Keep (Fp p gl gf) w w' := by
  have hR := Hid.intro (ready_any h)
  have hW := Hid.intro (write_any h)
  have hne := h.ne
  obtain ⟨hap1, hap2⟩ := h.apart
  have hok := Hid.intro h.ok
  unfold mReady at hR
  unfold mFix
  cases ho : M.on with
  | false =>
    rw [ho] at hR
    simp only [Bool.false_eq_true, if_false] at hR
    have h' := Hid.intro h
    clear h
    simp only [if_true]
    go_enter Try.func15, Try.ntmps15
    go_wp2_with fail
    refine hR.out.mono ?_; rintro e w1 ⟨rfl, rfl⟩
    go_wp2
    go_ret
    exact ⟨rfl, h'.out, Keep.refl _⟩
  | true =>
    rw [ho] at hR
    simp only [if_true] at hR
    simp only [Bool.true_eq_false, if_false]
    have hok2 := Hid.intro hok.out.write
    clear h
    by_cases he : (mWrite M).1 = 0
    · rw [if_pos he]
      rw [he] at hW
      generalize (mWrite M).2 = M2 at *
      clear he
      have hz := zero57
      go_enter Try.func15, Try.ntmps15
      go_wp2_with fail
      refine hR.out.mono ?_; rintro e w1 ⟨rfl, rfl⟩
      go_wp2_with fail
      refine hW.out.mono ?_; rintro e w2 ⟨rfl, q1, q2⟩
      obtain ⟨cl, cf, C, d2, d3, hcp, hP3⟩ := PMem.copies (show PMem w2.drew p gl gf M2 from q1.drew.mem) hok2.out.len hap2 hne
      obtain ⟨hP4, t4⟩ := hP3.clearW hap1 hap2
      have hP4' := Hid.intro hP4
      have t4' := Hid.intro t4
      have hK4 := Hid.intro (q2.drew.then ((Keep.row (F := Fp p gl gf) (g := gf) (cs := C) (.inr (.inr rfl))).then (Keep.sets (o := 4) (vs := wv 0) (.inl rfl))))
      have d2' := Hid.intro d2
      have d3' := Hid.intro d3
      change w2.cell? _ = _ at d2
      change w2.cell? _ = _ at d3
      clear q1 q2 hP4 t4 hP3
      generalize M2.L.length = n at *
      go_wp2_with fail
      go_region_law (refine step_copy_runI rfl _ _ 54 54 rfl _ _ (by simp [Act.eval]) (by simp [Act.eval]) (hcp _) ?_)
      all_goals
        generalize w2.drew.setRow gf C = w3 at *
        go_wp2_with (refine wpList_store_mid rfl 57 _ _ rfl p 4 z57 rfl rfl t4'.out size57 (all_oneCell_toArray (wv_all 0)) ?_)
        go_ret
        exact ⟨rfl, ⟨hP4'.out, hne, hok2.out.fixed⟩, hK4.out⟩
    · rw [if_neg he]
      have he2 : ((mWrite M).1 == 0) = false := beq_false_of_ne he
      generalize (mWrite M).2 = M2 at *
      generalize (mWrite M).1 = er at *
      go_enter Try.func15, Try.ntmps15
      go_wp2_with fail
      refine hR.out.mono ?_; rintro e w1 ⟨rfl, rfl⟩
      go_wp2_with fail
      refine hW.out.mono ?_; rintro e w2 ⟨rfl, q1, q2⟩
      have q1' := Hid.intro q1
      have q2' := Hid.intro q2
      clear q1 q2
      go_wp2
      go_ret
      exact ⟨rfl, q1'.out, q2'.out⟩
end Go.Proofs.Ytjjfdkgnagfbcaa
