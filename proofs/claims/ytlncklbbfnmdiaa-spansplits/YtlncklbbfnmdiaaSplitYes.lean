/-
  SpanSplits' walk where Meet answers a span: what Less and Meet answer have each block of the span once: the law returns true; nothing that was there is written.
-/
import Derived.Test.YtlncklbbfnmdiaaSplitWalk
namespace Go.Proofs.Ytlncklbbfnmdiaa
open Go.ChangeShapes Go.WideShapes Go.ChangeAt Go.RowKit
attribute [local go_sem ↓] Go.wp_at_zero Go.wp_at_succ

theorem spansV_length (ps : List (Int × Int)) : (spansV ps).length = ps.length * 2 := by
  induction ps with
  | nil => rfl
  | cons p ps ih => simp [spansV] at ih ⊢; omega
theorem spansV_one (ps : List (Int × Int)) : ∀ u ∈ spansV ps, u.oneCell' = true := by
  intro u hu
  simp only [spansV, List.mem_flatMap] at hu
  obtain ⟨p, _, hp⟩ := hu
  simp at hp
  rcases hp with rfl | rfl <;> rfl
theorem spansV_append (ps qs : List (Int × Int)) : spansV (ps ++ qs) = spansV ps ++ spansV qs := by simp [spansV]
theorem own_drew {w : World} {base : Nat} {v : Value} {n : Nat} {xs : List Value} (h : w.ownsRow base 23 2 v n xs) : w.drew.ownsRow base 23 2 v n xs := own_below h (Below.refl _ _).drew
/-- Two cells behind an append onto nil, or onto a block of its own. -/
theorem keepN {w w' : World} {row : Option Nat} {p : Nat} {x y : Value} (hg : w.grownBy w' row) (hp' : some p ≠ row) (hp : p < w.heap.size) (h : w.cell? ⟨p, 0, none⟩ = some x ∧ w.cell? ⟨p, 1, none⟩ = some y) : w'.cell? ⟨p, 0, none⟩ = some x ∧ w'.cell? ⟨p, 1, none⟩ = some y :=
  ⟨by rw [hg.cell_far ⟨p, 0, none⟩ hp hp']; exact h.1, by rw [hg.cell_far ⟨p, 1, none⟩ hp hp']; exact h.2⟩
theorem below_app0 {w w' : World} (hg : w.grownBy w' none) : Below w.heap.size w w' := (Below.refl _ _).grown hg (Nat.le_refl _) nofun
theorem news_kept {w w' : World} {x y : Value} (hb : Below (w.alloc (.cells #[x, y] 23)).drew.heap.size (w.alloc (.cells #[x, y] 23)).drew w') : ∀ j u, [x, y][j]? = some u → w'.cell? ((⟨w.heap.size, 0, none⟩ : Addr).add j) = some u := by
  have h : w'.heap[w.heap.size]? = some (.cells #[x, y] 23 (0, 0)) := by
    rw [hb.block w.heap.size (by show w.heap.size < (w.alloc (.cells #[x, y] 23)).heap.size; simp)]
    exact heap_alloc_new w _
  exact World.news_of_block (cs := #[x, y]) (t := 23) (fr := (0, 0)) h
theorem below_drw {w : World} : Below w.heap.size w w.drew := (Below.refl _ _).drew

set_option maxRecDepth 100000 in
set_option maxHeartbeats 1000000 in
theorem split_y1 (f n g m x y : Int) (ps qs : List (Int × Int)) (w : World) (h1 : 0 ≤ f) (h2 : 1 ≤ n) (h3 : n ≤ 64 - f)
    (hwh : Hid (∀ p ∈ ps, 0 ≤ p.1 ∧ 1 ≤ p.2 ∧ p.2 ≤ 64 - p.1)) (hne : Hid (0 < ps.length ∧ ps.length ≤ 3)) (hsum : Hid (sumN ps = n)) (hput : Hid (putL true zeros ps = putSpan true zeros (f, n)))
    (hq : Hid (ps = qs ++ [(x, y)])) (hq0 : Hid (0 < qs.length))
    (hl : Hid (∀ w, Calls Try.prog 13 #[.agg #[.int .i64 f, .int .i64 n], .agg #[.int .i64 g, .int .i64 m]] w fun e w' => ∃ v, e = .returned v ∧ w'.ownsRow w.heap.size 23 2 v qs.length (spansV qs) ∧ Below w.heap.size w w'))
    (hm : Hid (∀ w, Calls Try.prog 11 #[.agg #[.int .i64 f, .int .i64 n], .agg #[.int .i64 g, .int .i64 m]] w fun e w' => e = .returned (.tuple #[.agg #[.int .i64 x, .int .i64 y], .bool true]) ∧ Below w.heap.size w w')) :
    Calls Try.prog 5 #[.agg #[.int .i64 f, .int .i64 n], .agg #[.int .i64 g, .int .i64 m]] w fun e w' => e = .returned (.bool true) ∧ Below w.heap.size w w' := by
  go_enter Try.func5, Try.ntmps5
  go_wp2_with fail
  refine (refWhole_yes _ _ _ ⟨h1, h2, h3⟩).mono ?_; rintro e w0 ⟨rfl, hb⟩
  obtain ⟨zb, a0, a1, b0, b1⟩ := cells2 hb
  have za : w.heap.size < w0.heap.size := by omega
  have hB : Below w.heap.size w w0 := below2 hb
  clear hb
  go_wp2_with fail
  refine (alive_any _).mono ?_; rintro e w1 ⟨rfl, hb⟩
  have T := carry0 za a0 a1 hb; clear za a0 a1; obtain ⟨a0, a1, za⟩ := T
  have T := carry0 zb b0 b1 hb; clear zb b0 b1; obtain ⟨b0, b1, zb⟩ := T
  replace hB : Below w.heap.size w w1 := below_step hB hb
  clear hb
  have hps : w.heap.size < w1.heap.size := za
  go_wp2_with (refine wpList_store_set rfl _ _ rfl w1.heap.size zeros rfl rfl rfl (there_new (by simp)) ?_; intro w2 hr ht hgr; obtain ⟨hb, zs⟩ := new_set hgr; clear hgr; have T := carry0 za a0 a1 hb; clear za a0 a1; obtain ⟨a0, a1, za⟩ := T; have T := carry0 zb b0 b1 hb; clear zb b0 b1; obtain ⟨b0, b1, zb⟩ := T)
  replace hB : Below w.heap.size w w2 := below_step hB hb
  clear hb
  generalize w1.heap.size = bs at *
  refine (hl.out _).mono ?_; rintro e w3 ⟨v, rfl, hown, hb⟩
  have T := carry0 za a0 a1 hb; clear za a0 a1; obtain ⟨a0, a1, za⟩ := T
  have T := carry0 zb b0 b1 hb; clear zb b0 b1; obtain ⟨b0, b1, zb⟩ := T
  replace hr := range_below hb zs hr
  replace ht := there_below hb zs ht
  have hown := own_mono hown (Nat.succ_le_of_lt zs)
  replace zs : bs < w3.heap.size := Nat.lt_of_lt_of_le zs hb.size
  replace hB : Below w.heap.size w w3 := below_step hB hb
  clear hb
  go_wp2_with fail
  refine (hm.out _).mono ?_; rintro e w4 ⟨rfl, hb⟩
  have T := carry0 za a0 a1 hb; clear za a0 a1; obtain ⟨a0, a1, za⟩ := T
  clear zb b0 b1
  replace hr := range_below hb zs hr
  replace ht := there_below hb zs ht
  replace hown := own_below hown hb
  replace zs : bs < w4.heap.size := Nat.lt_of_lt_of_le zs hb.size
  replace hB : Below w.heap.size w w4 := below_step hB hb
  clear hb
  obtain ⟨gv, cv, rfl, hgb, hgz⟩ := hown.form hq0.out
  obtain ⟨i0, hi0, hz0', hz1', hz2'⟩ := info_parts Try.info23
  go_wp2_with fail
  generalize hW : w4.alloc (.cells #[.int .i64 x, .int .i64 y] 23) = wa
  have hb : Below w4.heap.size w4 wa := by rw [← hW]; exact below_alc
  have hb' : Below (w4.alloc (.cells #[.int .i64 x, .int .i64 y] 23)).heap.size (w4.alloc (.cells #[.int .i64 x, .int .i64 y] 23)) wa := by rw [hW]; exact Below.refl _ _
  clear hW
  obtain ⟨m0, m1, zm⟩ := fresh hb'
  clear hb'
  have T := carry0 za a0 a1 hb; clear za a0 a1; obtain ⟨a0, a1, za⟩ := T
  replace hr := range_below hb zs hr
  replace ht := there_below hb zs ht
  replace hown := own_below hown hb
  replace zs : bs < wa.heap.size := Nat.lt_of_lt_of_le zs hb.size
  replace hB : Below w.heap.size w wa := below_step hB hb
  replace hgz : gv < wa.heap.size := Nat.lt_of_lt_of_le hgz hb.size
  clear hb
  generalize w4.heap.size = bm at *
  have hlq : qs.length ≤ 2 := by have h := hne.out.2; rw [hq.out] at h; simp at h; omega
  have hsz : bs + 1 ≤ wa.heap.size := zs
  refine wp_region_held_drew (S := fun w' => w'.cell? ⟨bm, 0, none⟩ = some (.int .i64 x) ∧ w'.cell? ⟨bm, 1, none⟩ = some (.int .i64 y)) (by kernel_rfl) ⟨m0, m1⟩ (fun hHeld => ?_)
  refine wpAnyH_take (i := 0) (v := .slice (some ⟨gv, 0, none⟩) qs.length cv) rfl (by kernel_rfl) (by kernel_rfl) (by kernel_rfl) (fun _ _ _ h => h) (Or.inl ⟨by rfl, fun w' hSw => by clear hSw; go_simp⟩) hHeld ?_
  change wpAnyH _ _ _ _ _ _ _ (Act.put _ (some 30) _) _
  simp only [Act.put, List.setIfInBounds_toArray, List.set_cons_zero, List.set_cons_succ]
  refine wpAnyH_take (i := 2) (v := .agg #[.int .i64 x, .int .i64 y]) rfl (by kernel_rfl) (by kernel_rfl) (by kernel_rfl) (fun _ _ _ h => h) (Or.inl ⟨by rfl, fun w' hSw => by obtain ⟨s0, s1⟩ := hSw; go_simp⟩) hHeld ?_
  change wpAnyH _ _ _ _ _ _ _ (Act.put _ (some 32) _) _
  simp only [Act.put, List.setIfInBounds_toArray, List.set_cons_zero, List.set_cons_succ]
  refine wpAnyH_ready (rs := [1, 3]) (by kernel_rfl) (by simp) ?_
  refine AllReadyH.cons rfl (fun K hK => ?_) (AllReadyH.cons rfl (fun K hK => ?_) AllReadyH.nil)
  · refine step_append_lies _ (by rfl) _ _ 41 (by rfl) (bs + 1) 23 i0 (.agg #[.int .i64 0, .int .i64 0]) 2 16 Try.underlying41 hi0 hz0' hz1' hz2' rfl (by decide) (.slice none 0 0) 0 [] (by rfl) (World.ownsRow_nil _ _ _ _) ⟨gv, 0, none⟩ qs.length cv (spansV qs) (by rfl) (spansV_length qs) ((own_drew hown).cells rfl) (spansV_one qs) hq0.out (by unfold maxLen; omega) (by omega) hsz wa.heap.size rfl ?_
    intro g5 cap5 w5 hown5 hgrow5 hat5 hlt5
    have hb5 : Below wa.heap.size wa w5 := below_drew (below_app0 hgrow5)
    have k5 := carry0 zm m0 m1 hb5
    refine hK.out _ _ ⟨k5.1, k5.2.1⟩ (fun hHeld => ?_); clear hK K
    change wpAnyH _ _ _ _ _ _ _ (Act.put _ (some 31) _) _
    simp only [Act.put, List.setIfInBounds_toArray, List.set_cons_zero, List.set_cons_succ]
    refine wpAnyH_ready (rs := [3]) (by kernel_rfl) (by simp) ?_
    refine AllReadyH.cons rfl (fun K hK => ?_) AllReadyH.nil
    go_simp
    have k6 := carry0 k5.2.2 k5.1 k5.2.1 (below_alc (w := w5) (o := .cells #[.int .i64 x, .int .i64 y] 23))
    refine hK.out _ _ ⟨k6.1, k6.2.1⟩ (fun hHeld => ?_); clear hK K
    refine wpAnyH_ready (rs := [4]) (by kernel_rfl) (by simp) ?_
    refine AllReadyH.cons rfl (fun K hK => ?_) AllReadyH.nil
    have hg5 : g5 = wa.heap.size := by rcases hat5 with h | h; · cases h
                                       · exact h
    refine step_append_lies _ (by rfl) _ _ 41 (by rfl) (bs + 1) 23 i0 (.agg #[.int .i64 0, .int .i64 0]) 2 16 Try.underlying41 hi0 hz0' hz1' hz2' rfl (by decide) (.slice (some ⟨g5, 0, none⟩) (0 + qs.length) cap5) (0 + qs.length) ([] ++ spansV qs) (by simp; rfl) (hown5.alloc _) ⟨w5.heap.size, 0, none⟩ 1 1 [.int .i64 x, .int .i64 y] (by rfl) (by rfl) (World.news_of_block (cs := #[.int .i64 x, .int .i64 y]) (t := 23) (fr := (0, 0)) (heap_alloc_new w5 _)) (by simp [Value.oneCell']) (by decide) (by unfold maxLen; omega) (by omega) (by have := hb5.size; simp; omega) (w5.heap.size + 1) (by simp) ?_
    intro g6 cap6 w6 hown6 hgrow6 hat6 hlt6
    have k7 := keepN hgrow6 (by simp [Value.ownBlock]; omega) k6.2.2 ⟨k6.1, k6.2.1⟩
    have HBZ : Below wa.heap.size wa w6 := (hb5.alloc hb5.size _).grown hgrow6 (by have := hb5.size; simp; omega) (fun k hk => by simp [Value.ownBlock] at hk; omega)
    refine hK.out _ _ k7 (fun hHeld => ?_); clear hK K
    refine wpAnyH_ready (rs := [5]) (by kernel_rfl) (by simp) ?_
    refine AllReadyH.cons rfl (fun K hK => ?_) AllReadyH.nil
    go_simp
    refine hK.out _ _ k7 (fun hHeld => ?_); clear hK K
    refine wpAnyH_done (by kernel_rfl) ?_ _
    clear k5 k6 k7 hown5 hgrow5 hat5 hlt5 hb5 hg5 hgrow6 hown
    have hBz : Below wa.heap.size wa w6 := HBZ
    have T := carry0 za a0 a1 hBz; clear za a0 a1; obtain ⟨a0, a1, za⟩ := T
    replace hr := range_below hBz zs hr
    replace ht := there_below hBz zs ht
    replace zs : bs < w6.heap.size := Nat.lt_of_lt_of_le zs hBz.size
    replace hB : Below w.heap.size w w6 := below_step hB hBz
    replace hown : w6.ownsRow (bs + 1) 23 2 (.slice (some ⟨g6, 0, none⟩) ps.length cap6) ps.length (spansV ps) := by
      have e1 : ps.length = 0 + qs.length + 1 := by rw [hq.out]; simp
      have e2 : spansV ps = [] ++ spansV qs ++ [.int .i64 x, .int .i64 y] := by rw [hq.out, spansV_append]; rfl
      rw [e1, e2]
      exact hown6
    have hql : qs.length + 1 = ps.length := by rw [hq.out]; simp
    clear hown6 hBz hat6 hlt6 hgz hgb m0 m1 zm hsz hi0 hz0' hz1' hz2'
    go_wp2_with fail
    rw [hql]
    clear hql hlq
    generalize w6 = W at *
    generalize g6 = gv' at *
    generalize cap6 = cv' at *
    -- the loop: W: the world ahead of it
    have HW : Hid (W.ownsRow (bs + 1) 23 2 (.slice (some ⟨gv', 0, none⟩) ps.length cv') ps.length (spansV ps) ∧ W.cell? ⟨w.heap.size, 0, none⟩ = some (.int .i64 f) ∧ W.cell? ⟨w.heap.size, 1, none⟩ = some (.int .i64 n) ∧ w.heap.size < W.heap.size ∧ Below w.heap.size w W) := ⟨hown, a0, a1, za, hB⟩
    clear hown a0 a1 za hB
    go_loopw [5, 10] (fun nv iv wr => ∃ i : Nat, i ≤ ps.length ∧ iv = .int .i64 i ∧ nv = .int .i64 (sumN (ps.take i)) ∧ wr.rangeAt bs 0 (bv (putL true zeros (ps.take i))) ∧ wr.there bs 0 64 ∧ bs < wr.heap.size ∧ W.grownBy wr (some bs))
      (fun _ iv _ => ps.length - (intOf iv).toNat)
    case atStart => exact ⟨0, Nat.zero_le _, rfl, rfl, hr, ht, zs, grown_refl _ _⟩
    case round =>
      clear hr ht zs
      obtain ⟨i, hi, rfl, rfl, hr, ht, zs, hg⟩ := hrel
      by_cases hlt : i < ps.length
      · obtain ⟨p, hp⟩ : ∃ p, ps[i]? = some p := ⟨ps[i]'hlt, by simp [hlt]⟩
        have hpm : p ∈ ps := List.mem_of_getElem? hp
        obtain ⟨pa, pb⟩ := p
        obtain ⟨u1, u2, u3⟩ := hwh.out _ hpm
        have hcz : Hid (ps.length ≤ cv' ∧ gv' < W.heap.size ∧ bs + 1 ≤ gv') := by
          rcases HW.out.1.2 with ⟨hh, _⟩ | ⟨g', cap', cur', he, hge, hbl, hle, _⟩
          · cases hh
          · simp at he
            obtain ⟨rfl, rfl⟩ := he
            refine ⟨hle, ?_, hge⟩
            rcases Nat.lt_or_ge gv' W.heap.size with hlt' | hge'
            · exact hlt'
            · rw [Array.getElem?_eq_none hge'] at hbl; cases hbl
        have hrc := row_cells HW.out.1 i (pa, pb) hp
        have d0 : wr.cell? ⟨gv', i * 2, none⟩ = some (.int .i64 pa) := by rw [hg.cell_far ⟨gv', i * 2, none⟩ hcz.out.2.1 (by have := hcz.out.2.2; simp; omega)]; exact hrc.1
        have d1 : wr.cell? ⟨gv', i * 2 + 1, none⟩ = some (.int .i64 pb) := by rw [hg.cell_far ⟨gv', i * 2 + 1, none⟩ hcz.out.2.1 (by have := hcz.out.2.2; simp; omega)]; exact hrc.2
        have hgr : gv' < wr.heap.size := Nat.lt_of_lt_of_le hcz.out.2.1 hg.size
        have hSN : Hid (sumN (ps.take (i + 1)) = sumN (ps.take i) + pb ∧ putL true zeros (ps.take (i + 1)) = putL true (putL true zeros (ps.take i)) [(pa, pb)]) := by
          have e : ps.take (i + 1) = ps.take i ++ [(pa, pb)] := by rw [List.take_add_one, hp]; rfl
          exact ⟨by rw [e, sumN_snoc], by rw [e, putL, List.foldl_append]; rfl⟩
        have hsb := sumN_bound ps hwh.out hne.out.2 i
        obtain ⟨hs0, hs1⟩ := hsb
        have hLI : Hid ((putL true zeros (ps.take i)).length = 64) := by show _ = _; rw [putL_length]; rfl
        have i0 : (0 : Int) ≤ (i : Int) := Int.natCast_nonneg _
        have i1 : (i : Int) < (ps.length : Int) := by omega
        have i2 : (i : Int) + 1 ≤ (cv' : Int) := by have := hcz.out.1; omega
        have hl3 : (ps.length : Int) ≤ 3 := by have := hne.out.2; omega
        have i3 : (0 : Int) ≤ (i : Int) + 1 := by omega
        have i4 : ¬ cv' = i := by omega
        have i5 : IntKind.i64.wrap ((i : Int) + 1) = (i : Int) + 1 := wrap_small _ (by omega) (by omega)
        clear hp hpm hrc
        go_wp2_with fail
        refine (valid_at pa pb 64 _ u1 u2 u3 (by omega)).mono ?_; rintro e wz ⟨rfl, hb⟩
        replace d0 : wz.cell? ⟨gv', i * 2, none⟩ = some (.int .i64 pa) := by rw [hb.cell (p := ⟨gv', i * 2, none⟩) hgr]; exact d0
        replace d1 : wz.cell? ⟨gv', i * 2 + 1, none⟩ = some (.int .i64 pb) := by rw [hb.cell (p := ⟨gv', i * 2 + 1, none⟩) hgr]; exact d1
        replace hgr : gv' < wz.heap.size := Nat.lt_of_lt_of_le hgr hb.size
        replace hr := range_below hb zs hr
        replace ht := there_below hb zs ht
        replace zs : bs < wz.heap.size := Nat.lt_of_lt_of_le zs hb.size
        replace hg := grown_trans hg (grown_below (row := some bs) hb)
        clear hb
        go_wp2_with fail
        refine wp_region_any (by kernel_rfl) ?_
        change wpAny _ _ _ _ _ _ _ (World.drew _)
        refine wpAny_take (i := 1) (v := .slice (some ⟨gv', 0, none⟩) ps.length cv') rfl (by kernel_rfl) (by kernel_rfl) (by kernel_rfl) (fun _ _ _ h => h) (Or.inl ⟨by rfl, fun w => by go_simp⟩) ?_
        change wpAny _ _ _ _ _ _ (Act.put _ (some 55) _) _
        simp only [Act.put, List.setIfInBounds_toArray, List.set_cons_zero, List.set_cons_succ]
        refine wpAny_take (i := 2) (v := .int .i64 i) rfl (by kernel_rfl) (by kernel_rfl) (by kernel_rfl) (fun _ _ _ h => h) (Or.inl ⟨by rfl, fun w => by go_simp⟩) ?_
        change wpAny _ _ _ _ _ _ (Act.put _ (some 56) _) _
        simp only [Act.put, List.setIfInBounds_toArray, List.set_cons_zero, List.set_cons_succ]
        refine wpAny_take (i := 3) (v := .int .i64 i) rfl (by kernel_rfl) (by kernel_rfl) (by kernel_rfl) (fun _ _ _ h => h) (Or.inl ⟨by rfl, fun w => by go_simp⟩) ?_
        change wpAny _ _ _ _ _ _ (Act.put _ (some 57) _) _
        simp only [Act.put, List.setIfInBounds_toArray, List.set_cons_zero, List.set_cons_succ]
        refine wpAny_take (i := 4) (v := .int .i64 (i + 1)) rfl (by kernel_rfl) (by kernel_rfl) (by kernel_rfl) (fun _ _ _ h => h) (Or.inl ⟨by rfl, fun w => by go_simp⟩) ?_
        change wpAny _ _ _ _ _ _ (Act.put _ (some 58) _) _
        simp only [Act.put, List.setIfInBounds_toArray, List.set_cons_zero, List.set_cons_succ]
        refine wpAny_take (i := 5) (v := .slice (some ⟨gv', i * 2, none⟩) 1 (cv' - i)) rfl (by kernel_rfl) (by kernel_rfl) (by kernel_rfl) (fun _ _ _ h => h) (Or.inl ⟨by rfl, fun w => by go_simp⟩) ?_
        change wpAny _ _ _ _ _ _ (Act.put _ (some 59) _) _
        simp only [Act.put, List.setIfInBounds_toArray, List.set_cons_zero, List.set_cons_succ]
        refine wpAny_ready (rs := [0]) (by kernel_rfl) (by simp) ?_
        refine AllReady.cons rfl (fun K hK => ?_) AllReady.nil
        rw [if_pos (by rfl)]
        refine wp_load_mid 26 _ rfl bs 0 rfl (bv (putL true zeros (ps.take i))) _ ((World.rangeAt_drew _ _ _ _).2 hr) Try.underlying26 rfl (infoL hLI.out) ?_
        refine hK _ _ ?_; clear hK K
        change wpAny _ _ _ _ _ _ (Act.put _ (some 54) _) _
        simp only [Act.put, List.setIfInBounds_toArray, List.set_cons_zero, List.set_cons_succ]
        refine wpAny_ready (rs := [6]) (by kernel_rfl) (by simp) ?_
        refine AllReady.cons rfl (fun K hK => ?_) AllReady.nil
        go_simp
        refine (put_any (putL true zeros (ps.take i)) hLI.out gv' (i * 2) 1 (cv' - i) [(pa, pb)] rfl (by decide) true wz.drew (by exact hgr) ?_).mono ?_
        · intro j p hj
          match j, hj with
          | 0, hj => simp at hj; subst hj; simpa using ⟨d0, d1⟩
        rintro e wp ⟨rfl, hb⟩
        replace hb : Below wz.heap.size wz wp := below_drew hb
        replace ht := there_below hb zs ht
        replace zs : bs < wp.heap.size := Nat.lt_of_lt_of_le zs hb.size
        replace hg := grown_trans hg (grown_below (row := some bs) hb)
        clear hb hr d0 d1 hgr
        go_wp2_with fail
        refine wpAny_ready (rs := [7]) (by kernel_rfl) (by simp) ?_
        refine AllReady.cons rfl (fun K hK => ?_) AllReady.nil
        rw [if_pos (by rfl)]
        refine wp_store_set _ _ rfl bs (putL true (putL true zeros (ps.take i)) [(pa, pb)]) (by rw [putL_length]; exact hLI.out) rfl rfl ht ?_
        intro wq hr2 ht2 hg2
        refine hK _ _ ?_; clear hK K
        refine wpAny_done (by kernel_rfl) ?_ _
        replace zs : bs < wq.heap.size := Nat.lt_of_lt_of_le zs hg2.size
        replace hg := grown_trans hg hg2
        clear hg2 ht
        go_wp2
        go_roundw
        case rel => exact ⟨i + 1, by omega, by go_num, by rw [hSN.out.1], by rw [hSN.out.2]; exact hr2, ht2, zs, hg⟩
        case measure => simp [intOf]; omega
      · have hil : i = ps.length := by omega
        have htk : ps.take i = ps := by rw [hil]; exact List.take_length
        rw [htk] at hr ⊢
        rw [hsum.out]
        rw [hput.out] at hr
        subst hil
        clear htk
        have hXL : Hid ((putSpan true zeros (f, n)).length = 64) := by show _ = _; rw [putSpan_length]; rfl
        have c0 : wr.cell? ⟨w.heap.size, 0, none⟩ = some (.int .i64 f) := by rw [hg.cell_far ⟨w.heap.size, 0, none⟩ HW.out.2.2.2.1 (by simp; omega)]; exact HW.out.2.1
        have c1 : wr.cell? ⟨w.heap.size, 1, none⟩ = some (.int .i64 n) := by rw [hg.cell_far ⟨w.heap.size, 1, none⟩ HW.out.2.2.2.1 (by simp; omega)]; exact HW.out.2.2.1
        have hzw : w.heap.size < wr.heap.size := Nat.lt_of_lt_of_le HW.out.2.2.2.1 hg.size
        have hBr : Below w.heap.size w wr := HW.out.2.2.2.2.grown hg HW.out.2.2.2.2.size (fun k hk => by simp at hk; omega)
        clear ht hg
        go_wp2_with fail
        refine wp_region_held_drew (S := fun w' => w'.rangeAt bs 0 (bv (putSpan true zeros (f, n))) ∧ w'.cell? ⟨w.heap.size, 0, none⟩ = some (.int .i64 f) ∧ w'.cell? ⟨w.heap.size, 1, none⟩ = some (.int .i64 n)) (by kernel_rfl) ⟨(World.rangeAt_drew _ _ _ _).2 hr, c0, c1⟩ (fun hHeld => ?_)
        refine wpAnyH_take (i := 0) (v := .int .i64 n) rfl (by kernel_rfl) (by kernel_rfl) (by kernel_rfl) (fun _ _ _ h => h) (Or.inl ⟨by rfl, fun w hSw => by obtain ⟨s0, s1, s2⟩ := hSw; clear s0; go_simp⟩) hHeld ?_
        change wpAnyH _ _ _ _ _ _ _ (Act.put _ (some 61) _) _
        simp only [Act.put, List.setIfInBounds_toArray, List.set_cons_zero, List.set_cons_succ]
        refine wpAnyH_take (i := 1) (v := .pointer (some ⟨w.heap.size, 1, none⟩)) rfl (by kernel_rfl) (by kernel_rfl) (by kernel_rfl) (fun _ _ _ h => h) (Or.inl ⟨by rfl, fun w' hSw => by clear hSw; go_simp⟩) hHeld ?_
        change wpAnyH _ _ _ _ _ _ _ (Act.put _ (some 62) _) _
        simp only [Act.put, List.setIfInBounds_toArray, List.set_cons_zero, List.set_cons_succ]
        refine wpAnyH_take (i := 2) (v := .int .i64 n) rfl (by kernel_rfl) (by kernel_rfl) (by kernel_rfl) (fun _ _ _ h => h) (Or.inl ⟨by rfl, fun w hSw => by obtain ⟨s0, s1, s2⟩ := hSw; clear s0; go_simp⟩) hHeld ?_
        change wpAnyH _ _ _ _ _ _ _ (Act.put _ (some 63) _) _
        simp only [Act.put, List.setIfInBounds_toArray, List.set_cons_zero, List.set_cons_succ]
        refine wpAnyH_take (i := 3) (v := .bool true) rfl (by kernel_rfl) (by kernel_rfl) (by kernel_rfl) (fun _ _ _ h => h) (Or.inl ⟨by rfl, fun w hSw => by obtain ⟨s0, s1, s2⟩ := hSw; clear s0; go_simp⟩) hHeld ?_
        change wpAnyH _ _ _ _ _ _ _ (Act.put _ (some 64) _) _
        simp only [Act.put, List.setIfInBounds_toArray, List.set_cons_zero, List.set_cons_succ]
        refine wpAnyH_take (i := 4) (v := .bool true) rfl (by kernel_rfl) (by kernel_rfl) (by kernel_rfl) (fun _ _ _ h => h) (Or.inl ⟨by rfl, fun w hSw => by obtain ⟨s0, s1, s2⟩ := hSw; clear s0; go_simp⟩) hHeld ?_
        change wpAnyH _ _ _ _ _ _ _ (Act.put _ (some 65) _) _
        simp only [Act.put, List.setIfInBounds_toArray, List.set_cons_zero, List.set_cons_succ]
        refine wpAnyH_take (i := 5) (v := .agg (bv (putSpan true zeros (f, n))).toArray) rfl (by kernel_rfl) (by kernel_rfl) (by kernel_rfl) (fun _ _ _ h => h) (yieldsIf_load_mid (by rfl) 26 _ rfl bs 0 rfl (bv (putSpan true zeros (f, n))) _ (fun w h => h.1) Try.underlying26 rfl (infoL hXL.out)) hHeld ?_
        change wpAnyH _ _ _ _ _ _ _ (Act.put _ (some 66) _) _
        simp only [Act.put, List.setIfInBounds_toArray, List.set_cons_zero, List.set_cons_succ]
        refine wpAnyH_take (i := 6) (v := .agg #[.int .i64 f, .int .i64 n]) rfl (by kernel_rfl) (by kernel_rfl) (by kernel_rfl) (fun _ _ _ h => h) (Or.inl ⟨by rfl, fun w hSw => by obtain ⟨s0, s1, s2⟩ := hSw; clear s0; go_simp⟩) hHeld ?_
        change wpAnyH _ _ _ _ _ _ _ (Act.put _ (some 67) _) _
        simp only [Act.put, List.setIfInBounds_toArray, List.set_cons_zero, List.set_cons_succ]
        refine wpAnyH_ready (rs := [7]) (by kernel_rfl) (by simp) ?_
        refine AllReadyH.cons rfl (fun K hK => ?_) AllReadyH.nil
        go_simp
        refine (set_any f n _).mono ?_; rintro e wt ⟨rfl, hb⟩
        replace hb : Below wr.heap.size wr wt := below_drew hb
        refine hK.out _ _ ⟨range_below hb zs hr, by rw [hb.cell (p := ⟨w.heap.size, 0, none⟩) hzw]; exact c0, by rw [hb.cell (p := ⟨w.heap.size, 1, none⟩) hzw]; exact c1⟩ (fun hHeld => ?_); clear hK K
        have heq := sets_eq _ _ hXL.out hXL.out
        refine wpAnyH_take (i := 8) (v := .bool true) rfl (by kernel_rfl) (by kernel_rfl) (by kernel_rfl) (fun _ _ _ h => h) (Or.inl ⟨by rfl, fun w' hSw => by clear hSw; go_simp⟩) hHeld ?_
        change wpAnyH _ _ _ _ _ _ _ (Act.put _ (some 69) _) _
        simp only [Act.put, List.setIfInBounds_toArray, List.set_cons_zero, List.set_cons_succ]
        refine wpAnyH_take (i := 9) (v := .bool true) rfl (by kernel_rfl) (by kernel_rfl) (by kernel_rfl) (fun _ _ _ h => h) (Or.inl ⟨by rfl, fun w hSw => by obtain ⟨s0, s1, s2⟩ := hSw; clear s0; go_simp⟩) hHeld ?_
        change wpAnyH _ _ _ _ _ _ _ (Act.put _ (some 70) _) _
        simp only [Act.put, List.setIfInBounds_toArray, List.set_cons_zero, List.set_cons_succ]
        refine wpAnyH_take (i := 10) (v := .bool true) rfl (by kernel_rfl) (by kernel_rfl) (by kernel_rfl) (fun _ _ _ h => h) (Or.inl ⟨by rfl, fun w hSw => by obtain ⟨s0, s1, s2⟩ := hSw; clear s0; go_simp⟩) hHeld ?_
        change wpAnyH _ _ _ _ _ _ _ (Act.put _ (some 4) _) _
        simp only [Act.put, List.setIfInBounds_toArray, List.set_cons_zero, List.set_cons_succ]
        refine wpAnyH_done (by kernel_rfl) ?_ _
        go_wp2
        go_ret
        exact ⟨rfl, below_step hBr hb⟩

  · go_simp
    have hb4 : Below wa.heap.size wa (wa.alloc (.cells #[.int .i64 x, .int .i64 y] 23)).drew := below_alc.drew
    have k4 := carry0 zm m0 m1 hb4
    refine hK.out _ _ ⟨k4.1, k4.2.1⟩ (fun hHeld => ?_); clear hK K
    refine wpAnyH_ready (rs := [1]) (by kernel_rfl) (by simp) ?_
    refine AllReadyH.cons rfl (fun K hK => ?_) AllReadyH.nil
    refine step_append_lies _ (by rfl) _ _ 41 (by rfl) (bs + 1) 23 i0 (.agg #[.int .i64 0, .int .i64 0]) 2 16 Try.underlying41 hi0 hz0' hz1' hz2' rfl (by decide) (.slice none 0 0) 0 [] (by rfl) (World.ownsRow_nil _ _ _ _) ⟨gv, 0, none⟩ qs.length cv (spansV qs) (by rfl) (spansV_length qs) ((own_below hown hb4).cells rfl) (spansV_one qs) hq0.out (by unfold maxLen; omega) (by omega) (Nat.le_trans hsz hb4.size) (wa.heap.size + 1) (by simp) ?_
    intro g5 cap5 w5 hown5 hgrow5 hat5 hlt5
    have hb5 : Below wa.heap.size wa w5 := below_step hb4 (below_app0 hgrow5)
    have hb5' : Below (wa.alloc (.cells #[.int .i64 x, .int .i64 y] 23)).drew.heap.size (wa.alloc (.cells #[.int .i64 x, .int .i64 y] 23)).drew w5 := below_app0 hgrow5
    have k5 := carry0 zm m0 m1 hb5
    have n5 := news_kept hb5'
    refine hK.out _ _ ⟨k5.1, k5.2.1⟩ (fun hHeld => ?_); clear hK K
    change wpAnyH _ _ _ _ _ _ _ (Act.put _ (some 31) _) _
    simp only [Act.put, List.setIfInBounds_toArray, List.set_cons_zero, List.set_cons_succ]
    refine wpAnyH_ready (rs := [4]) (by kernel_rfl) (by simp) ?_
    refine AllReadyH.cons rfl (fun K hK => ?_) AllReadyH.nil
    have hg5 : g5 = wa.heap.size + 1 := by rcases hat5 with h | h; · cases h
                                           · exact h
    refine step_append_lies _ (by rfl) _ _ 41 (by rfl) (bs + 1) 23 i0 (.agg #[.int .i64 0, .int .i64 0]) 2 16 Try.underlying41 hi0 hz0' hz1' hz2' rfl (by decide) (.slice (some ⟨g5, 0, none⟩) (0 + qs.length) cap5) (0 + qs.length) ([] ++ spansV qs) (by simp; rfl) hown5 ⟨wa.heap.size, 0, none⟩ 1 1 [.int .i64 x, .int .i64 y] (by rfl) (by rfl) n5 (by simp [Value.oneCell']) (by decide) (by unfold maxLen; omega) (by omega) (by have := hb5.size; omega) w5.heap.size rfl ?_
    intro g6 cap6 w6 hown6 hgrow6 hat6 hlt6
    have k7 := keepN hgrow6 (by simp [Value.ownBlock]; omega) k5.2.2 ⟨k5.1, k5.2.1⟩
    have HBZ : Below wa.heap.size wa w6 := hb5.grown hgrow6 hb5.size (fun k hk => by simp [Value.ownBlock] at hk; omega)
    refine hK.out _ _ k7 (fun hHeld => ?_); clear hK K
    refine wpAnyH_ready (rs := [5]) (by kernel_rfl) (by simp) ?_
    refine AllReadyH.cons rfl (fun K hK => ?_) AllReadyH.nil
    go_simp
    refine hK.out _ _ k7 (fun hHeld => ?_); clear hK K
    refine wpAnyH_done (by kernel_rfl) ?_ _
    clear k4 k5 k7 n5 hown5 hgrow5 hat5 hlt5 hb4 hb5 hb5' hg5 hgrow6 hown
    have hBz : Below wa.heap.size wa w6 := HBZ
    have T := carry0 za a0 a1 hBz; clear za a0 a1; obtain ⟨a0, a1, za⟩ := T
    replace hr := range_below hBz zs hr
    replace ht := there_below hBz zs ht
    replace zs : bs < w6.heap.size := Nat.lt_of_lt_of_le zs hBz.size
    replace hB : Below w.heap.size w w6 := below_step hB hBz
    replace hown : w6.ownsRow (bs + 1) 23 2 (.slice (some ⟨g6, 0, none⟩) ps.length cap6) ps.length (spansV ps) := by
      have e1 : ps.length = 0 + qs.length + 1 := by rw [hq.out]; simp
      have e2 : spansV ps = [] ++ spansV qs ++ [.int .i64 x, .int .i64 y] := by rw [hq.out, spansV_append]; rfl
      rw [e1, e2]
      exact hown6
    have hql : qs.length + 1 = ps.length := by rw [hq.out]; simp
    clear hown6 hBz hat6 hlt6 hgz hgb m0 m1 zm hsz hi0 hz0' hz1' hz2'
    go_wp2_with fail
    rw [hql]
    clear hql hlq
    generalize w6 = W at *
    generalize g6 = gv' at *
    generalize cap6 = cv' at *
    -- the loop: W: the world ahead of it
    have HW : Hid (W.ownsRow (bs + 1) 23 2 (.slice (some ⟨gv', 0, none⟩) ps.length cv') ps.length (spansV ps) ∧ W.cell? ⟨w.heap.size, 0, none⟩ = some (.int .i64 f) ∧ W.cell? ⟨w.heap.size, 1, none⟩ = some (.int .i64 n) ∧ w.heap.size < W.heap.size ∧ Below w.heap.size w W) := ⟨hown, a0, a1, za, hB⟩
    clear hown a0 a1 za hB
    go_loopw [5, 10] (fun nv iv wr => ∃ i : Nat, i ≤ ps.length ∧ iv = .int .i64 i ∧ nv = .int .i64 (sumN (ps.take i)) ∧ wr.rangeAt bs 0 (bv (putL true zeros (ps.take i))) ∧ wr.there bs 0 64 ∧ bs < wr.heap.size ∧ W.grownBy wr (some bs))
      (fun _ iv _ => ps.length - (intOf iv).toNat)
    case atStart => exact ⟨0, Nat.zero_le _, rfl, rfl, hr, ht, zs, grown_refl _ _⟩
    case round =>
      clear hr ht zs
      obtain ⟨i, hi, rfl, rfl, hr, ht, zs, hg⟩ := hrel
      by_cases hlt : i < ps.length
      · obtain ⟨p, hp⟩ : ∃ p, ps[i]? = some p := ⟨ps[i]'hlt, by simp [hlt]⟩
        have hpm : p ∈ ps := List.mem_of_getElem? hp
        obtain ⟨pa, pb⟩ := p
        obtain ⟨u1, u2, u3⟩ := hwh.out _ hpm
        have hcz : Hid (ps.length ≤ cv' ∧ gv' < W.heap.size ∧ bs + 1 ≤ gv') := by
          rcases HW.out.1.2 with ⟨hh, _⟩ | ⟨g', cap', cur', he, hge, hbl, hle, _⟩
          · cases hh
          · simp at he
            obtain ⟨rfl, rfl⟩ := he
            refine ⟨hle, ?_, hge⟩
            rcases Nat.lt_or_ge gv' W.heap.size with hlt' | hge'
            · exact hlt'
            · rw [Array.getElem?_eq_none hge'] at hbl; cases hbl
        have hrc := row_cells HW.out.1 i (pa, pb) hp
        have d0 : wr.cell? ⟨gv', i * 2, none⟩ = some (.int .i64 pa) := by rw [hg.cell_far ⟨gv', i * 2, none⟩ hcz.out.2.1 (by have := hcz.out.2.2; simp; omega)]; exact hrc.1
        have d1 : wr.cell? ⟨gv', i * 2 + 1, none⟩ = some (.int .i64 pb) := by rw [hg.cell_far ⟨gv', i * 2 + 1, none⟩ hcz.out.2.1 (by have := hcz.out.2.2; simp; omega)]; exact hrc.2
        have hgr : gv' < wr.heap.size := Nat.lt_of_lt_of_le hcz.out.2.1 hg.size
        have hSN : Hid (sumN (ps.take (i + 1)) = sumN (ps.take i) + pb ∧ putL true zeros (ps.take (i + 1)) = putL true (putL true zeros (ps.take i)) [(pa, pb)]) := by
          have e : ps.take (i + 1) = ps.take i ++ [(pa, pb)] := by rw [List.take_add_one, hp]; rfl
          exact ⟨by rw [e, sumN_snoc], by rw [e, putL, List.foldl_append]; rfl⟩
        have hsb := sumN_bound ps hwh.out hne.out.2 i
        obtain ⟨hs0, hs1⟩ := hsb
        have hLI : Hid ((putL true zeros (ps.take i)).length = 64) := by show _ = _; rw [putL_length]; rfl
        have i0 : (0 : Int) ≤ (i : Int) := Int.natCast_nonneg _
        have i1 : (i : Int) < (ps.length : Int) := by omega
        have i2 : (i : Int) + 1 ≤ (cv' : Int) := by have := hcz.out.1; omega
        have hl3 : (ps.length : Int) ≤ 3 := by have := hne.out.2; omega
        have i3 : (0 : Int) ≤ (i : Int) + 1 := by omega
        have i4 : ¬ cv' = i := by omega
        have i5 : IntKind.i64.wrap ((i : Int) + 1) = (i : Int) + 1 := wrap_small _ (by omega) (by omega)
        clear hp hpm hrc
        go_wp2_with fail
        refine (valid_at pa pb 64 _ u1 u2 u3 (by omega)).mono ?_; rintro e wz ⟨rfl, hb⟩
        replace d0 : wz.cell? ⟨gv', i * 2, none⟩ = some (.int .i64 pa) := by rw [hb.cell (p := ⟨gv', i * 2, none⟩) hgr]; exact d0
        replace d1 : wz.cell? ⟨gv', i * 2 + 1, none⟩ = some (.int .i64 pb) := by rw [hb.cell (p := ⟨gv', i * 2 + 1, none⟩) hgr]; exact d1
        replace hgr : gv' < wz.heap.size := Nat.lt_of_lt_of_le hgr hb.size
        replace hr := range_below hb zs hr
        replace ht := there_below hb zs ht
        replace zs : bs < wz.heap.size := Nat.lt_of_lt_of_le zs hb.size
        replace hg := grown_trans hg (grown_below (row := some bs) hb)
        clear hb
        go_wp2_with fail
        refine wp_region_any (by kernel_rfl) ?_
        change wpAny _ _ _ _ _ _ _ (World.drew _)
        refine wpAny_take (i := 1) (v := .slice (some ⟨gv', 0, none⟩) ps.length cv') rfl (by kernel_rfl) (by kernel_rfl) (by kernel_rfl) (fun _ _ _ h => h) (Or.inl ⟨by rfl, fun w => by go_simp⟩) ?_
        change wpAny _ _ _ _ _ _ (Act.put _ (some 55) _) _
        simp only [Act.put, List.setIfInBounds_toArray, List.set_cons_zero, List.set_cons_succ]
        refine wpAny_take (i := 2) (v := .int .i64 i) rfl (by kernel_rfl) (by kernel_rfl) (by kernel_rfl) (fun _ _ _ h => h) (Or.inl ⟨by rfl, fun w => by go_simp⟩) ?_
        change wpAny _ _ _ _ _ _ (Act.put _ (some 56) _) _
        simp only [Act.put, List.setIfInBounds_toArray, List.set_cons_zero, List.set_cons_succ]
        refine wpAny_take (i := 3) (v := .int .i64 i) rfl (by kernel_rfl) (by kernel_rfl) (by kernel_rfl) (fun _ _ _ h => h) (Or.inl ⟨by rfl, fun w => by go_simp⟩) ?_
        change wpAny _ _ _ _ _ _ (Act.put _ (some 57) _) _
        simp only [Act.put, List.setIfInBounds_toArray, List.set_cons_zero, List.set_cons_succ]
        refine wpAny_take (i := 4) (v := .int .i64 (i + 1)) rfl (by kernel_rfl) (by kernel_rfl) (by kernel_rfl) (fun _ _ _ h => h) (Or.inl ⟨by rfl, fun w => by go_simp⟩) ?_
        change wpAny _ _ _ _ _ _ (Act.put _ (some 58) _) _
        simp only [Act.put, List.setIfInBounds_toArray, List.set_cons_zero, List.set_cons_succ]
        refine wpAny_take (i := 5) (v := .slice (some ⟨gv', i * 2, none⟩) 1 (cv' - i)) rfl (by kernel_rfl) (by kernel_rfl) (by kernel_rfl) (fun _ _ _ h => h) (Or.inl ⟨by rfl, fun w => by go_simp⟩) ?_
        change wpAny _ _ _ _ _ _ (Act.put _ (some 59) _) _
        simp only [Act.put, List.setIfInBounds_toArray, List.set_cons_zero, List.set_cons_succ]
        refine wpAny_ready (rs := [0]) (by kernel_rfl) (by simp) ?_
        refine AllReady.cons rfl (fun K hK => ?_) AllReady.nil
        rw [if_pos (by rfl)]
        refine wp_load_mid 26 _ rfl bs 0 rfl (bv (putL true zeros (ps.take i))) _ ((World.rangeAt_drew _ _ _ _).2 hr) Try.underlying26 rfl (infoL hLI.out) ?_
        refine hK _ _ ?_; clear hK K
        change wpAny _ _ _ _ _ _ (Act.put _ (some 54) _) _
        simp only [Act.put, List.setIfInBounds_toArray, List.set_cons_zero, List.set_cons_succ]
        refine wpAny_ready (rs := [6]) (by kernel_rfl) (by simp) ?_
        refine AllReady.cons rfl (fun K hK => ?_) AllReady.nil
        go_simp
        refine (put_any (putL true zeros (ps.take i)) hLI.out gv' (i * 2) 1 (cv' - i) [(pa, pb)] rfl (by decide) true wz.drew (by exact hgr) ?_).mono ?_
        · intro j p hj
          match j, hj with
          | 0, hj => simp at hj; subst hj; simpa using ⟨d0, d1⟩
        rintro e wp ⟨rfl, hb⟩
        replace hb : Below wz.heap.size wz wp := below_drew hb
        replace ht := there_below hb zs ht
        replace zs : bs < wp.heap.size := Nat.lt_of_lt_of_le zs hb.size
        replace hg := grown_trans hg (grown_below (row := some bs) hb)
        clear hb hr d0 d1 hgr
        go_wp2_with fail
        refine wpAny_ready (rs := [7]) (by kernel_rfl) (by simp) ?_
        refine AllReady.cons rfl (fun K hK => ?_) AllReady.nil
        rw [if_pos (by rfl)]
        refine wp_store_set _ _ rfl bs (putL true (putL true zeros (ps.take i)) [(pa, pb)]) (by rw [putL_length]; exact hLI.out) rfl rfl ht ?_
        intro wq hr2 ht2 hg2
        refine hK _ _ ?_; clear hK K
        refine wpAny_done (by kernel_rfl) ?_ _
        replace zs : bs < wq.heap.size := Nat.lt_of_lt_of_le zs hg2.size
        replace hg := grown_trans hg hg2
        clear hg2 ht
        go_wp2
        go_roundw
        case rel => exact ⟨i + 1, by omega, by go_num, by rw [hSN.out.1], by rw [hSN.out.2]; exact hr2, ht2, zs, hg⟩
        case measure => simp [intOf]; omega
      · have hil : i = ps.length := by omega
        have htk : ps.take i = ps := by rw [hil]; exact List.take_length
        rw [htk] at hr ⊢
        rw [hsum.out]
        rw [hput.out] at hr
        subst hil
        clear htk
        have hXL : Hid ((putSpan true zeros (f, n)).length = 64) := by show _ = _; rw [putSpan_length]; rfl
        have c0 : wr.cell? ⟨w.heap.size, 0, none⟩ = some (.int .i64 f) := by rw [hg.cell_far ⟨w.heap.size, 0, none⟩ HW.out.2.2.2.1 (by simp; omega)]; exact HW.out.2.1
        have c1 : wr.cell? ⟨w.heap.size, 1, none⟩ = some (.int .i64 n) := by rw [hg.cell_far ⟨w.heap.size, 1, none⟩ HW.out.2.2.2.1 (by simp; omega)]; exact HW.out.2.2.1
        have hzw : w.heap.size < wr.heap.size := Nat.lt_of_lt_of_le HW.out.2.2.2.1 hg.size
        have hBr : Below w.heap.size w wr := HW.out.2.2.2.2.grown hg HW.out.2.2.2.2.size (fun k hk => by simp at hk; omega)
        clear ht hg
        go_wp2_with fail
        refine wp_region_held_drew (S := fun w' => w'.rangeAt bs 0 (bv (putSpan true zeros (f, n))) ∧ w'.cell? ⟨w.heap.size, 0, none⟩ = some (.int .i64 f) ∧ w'.cell? ⟨w.heap.size, 1, none⟩ = some (.int .i64 n)) (by kernel_rfl) ⟨(World.rangeAt_drew _ _ _ _).2 hr, c0, c1⟩ (fun hHeld => ?_)
        refine wpAnyH_take (i := 0) (v := .int .i64 n) rfl (by kernel_rfl) (by kernel_rfl) (by kernel_rfl) (fun _ _ _ h => h) (Or.inl ⟨by rfl, fun w hSw => by obtain ⟨s0, s1, s2⟩ := hSw; clear s0; go_simp⟩) hHeld ?_
        change wpAnyH _ _ _ _ _ _ _ (Act.put _ (some 61) _) _
        simp only [Act.put, List.setIfInBounds_toArray, List.set_cons_zero, List.set_cons_succ]
        refine wpAnyH_take (i := 1) (v := .pointer (some ⟨w.heap.size, 1, none⟩)) rfl (by kernel_rfl) (by kernel_rfl) (by kernel_rfl) (fun _ _ _ h => h) (Or.inl ⟨by rfl, fun w' hSw => by clear hSw; go_simp⟩) hHeld ?_
        change wpAnyH _ _ _ _ _ _ _ (Act.put _ (some 62) _) _
        simp only [Act.put, List.setIfInBounds_toArray, List.set_cons_zero, List.set_cons_succ]
        refine wpAnyH_take (i := 2) (v := .int .i64 n) rfl (by kernel_rfl) (by kernel_rfl) (by kernel_rfl) (fun _ _ _ h => h) (Or.inl ⟨by rfl, fun w hSw => by obtain ⟨s0, s1, s2⟩ := hSw; clear s0; go_simp⟩) hHeld ?_
        change wpAnyH _ _ _ _ _ _ _ (Act.put _ (some 63) _) _
        simp only [Act.put, List.setIfInBounds_toArray, List.set_cons_zero, List.set_cons_succ]
        refine wpAnyH_take (i := 3) (v := .bool true) rfl (by kernel_rfl) (by kernel_rfl) (by kernel_rfl) (fun _ _ _ h => h) (Or.inl ⟨by rfl, fun w hSw => by obtain ⟨s0, s1, s2⟩ := hSw; clear s0; go_simp⟩) hHeld ?_
        change wpAnyH _ _ _ _ _ _ _ (Act.put _ (some 64) _) _
        simp only [Act.put, List.setIfInBounds_toArray, List.set_cons_zero, List.set_cons_succ]
        refine wpAnyH_take (i := 4) (v := .bool true) rfl (by kernel_rfl) (by kernel_rfl) (by kernel_rfl) (fun _ _ _ h => h) (Or.inl ⟨by rfl, fun w hSw => by obtain ⟨s0, s1, s2⟩ := hSw; clear s0; go_simp⟩) hHeld ?_
        change wpAnyH _ _ _ _ _ _ _ (Act.put _ (some 65) _) _
        simp only [Act.put, List.setIfInBounds_toArray, List.set_cons_zero, List.set_cons_succ]
        refine wpAnyH_take (i := 5) (v := .agg (bv (putSpan true zeros (f, n))).toArray) rfl (by kernel_rfl) (by kernel_rfl) (by kernel_rfl) (fun _ _ _ h => h) (yieldsIf_load_mid (by rfl) 26 _ rfl bs 0 rfl (bv (putSpan true zeros (f, n))) _ (fun w h => h.1) Try.underlying26 rfl (infoL hXL.out)) hHeld ?_
        change wpAnyH _ _ _ _ _ _ _ (Act.put _ (some 66) _) _
        simp only [Act.put, List.setIfInBounds_toArray, List.set_cons_zero, List.set_cons_succ]
        refine wpAnyH_take (i := 6) (v := .agg #[.int .i64 f, .int .i64 n]) rfl (by kernel_rfl) (by kernel_rfl) (by kernel_rfl) (fun _ _ _ h => h) (Or.inl ⟨by rfl, fun w hSw => by obtain ⟨s0, s1, s2⟩ := hSw; clear s0; go_simp⟩) hHeld ?_
        change wpAnyH _ _ _ _ _ _ _ (Act.put _ (some 67) _) _
        simp only [Act.put, List.setIfInBounds_toArray, List.set_cons_zero, List.set_cons_succ]
        refine wpAnyH_ready (rs := [7]) (by kernel_rfl) (by simp) ?_
        refine AllReadyH.cons rfl (fun K hK => ?_) AllReadyH.nil
        go_simp
        refine (set_any f n _).mono ?_; rintro e wt ⟨rfl, hb⟩
        replace hb : Below wr.heap.size wr wt := below_drew hb
        refine hK.out _ _ ⟨range_below hb zs hr, by rw [hb.cell (p := ⟨w.heap.size, 0, none⟩) hzw]; exact c0, by rw [hb.cell (p := ⟨w.heap.size, 1, none⟩) hzw]; exact c1⟩ (fun hHeld => ?_); clear hK K
        have heq := sets_eq _ _ hXL.out hXL.out
        refine wpAnyH_take (i := 8) (v := .bool true) rfl (by kernel_rfl) (by kernel_rfl) (by kernel_rfl) (fun _ _ _ h => h) (Or.inl ⟨by rfl, fun w' hSw => by clear hSw; go_simp⟩) hHeld ?_
        change wpAnyH _ _ _ _ _ _ _ (Act.put _ (some 69) _) _
        simp only [Act.put, List.setIfInBounds_toArray, List.set_cons_zero, List.set_cons_succ]
        refine wpAnyH_take (i := 9) (v := .bool true) rfl (by kernel_rfl) (by kernel_rfl) (by kernel_rfl) (fun _ _ _ h => h) (Or.inl ⟨by rfl, fun w hSw => by obtain ⟨s0, s1, s2⟩ := hSw; clear s0; go_simp⟩) hHeld ?_
        change wpAnyH _ _ _ _ _ _ _ (Act.put _ (some 70) _) _
        simp only [Act.put, List.setIfInBounds_toArray, List.set_cons_zero, List.set_cons_succ]
        refine wpAnyH_take (i := 10) (v := .bool true) rfl (by kernel_rfl) (by kernel_rfl) (by kernel_rfl) (fun _ _ _ h => h) (Or.inl ⟨by rfl, fun w hSw => by obtain ⟨s0, s1, s2⟩ := hSw; clear s0; go_simp⟩) hHeld ?_
        change wpAnyH _ _ _ _ _ _ _ (Act.put _ (some 4) _) _
        simp only [Act.put, List.setIfInBounds_toArray, List.set_cons_zero, List.set_cons_succ]
        refine wpAnyH_done (by kernel_rfl) ?_ _
        go_wp2
        go_ret
        exact ⟨rfl, below_step hBr hb⟩


set_option maxRecDepth 100000 in
set_option maxHeartbeats 1000000 in
theorem split_y0 (f n g m x y : Int) (ps : List (Int × Int)) (w : World) (h1 : 0 ≤ f) (h2 : 1 ≤ n) (h3 : n ≤ 64 - f)
    (hwh : Hid (∀ p ∈ ps, 0 ≤ p.1 ∧ 1 ≤ p.2 ∧ p.2 ≤ 64 - p.1)) (hne : Hid (0 < ps.length ∧ ps.length ≤ 3)) (hsum : Hid (sumN ps = n)) (hput : Hid (putL true zeros ps = putSpan true zeros (f, n)))
    (hq : Hid (ps = [(x, y)]))
    (hl : Hid (∀ w, Calls Try.prog 13 #[.agg #[.int .i64 f, .int .i64 n], .agg #[.int .i64 g, .int .i64 m]] w fun e w' => e = .returned (.slice none 0 0) ∧ Below w.heap.size w w'))
    (hm : Hid (∀ w, Calls Try.prog 11 #[.agg #[.int .i64 f, .int .i64 n], .agg #[.int .i64 g, .int .i64 m]] w fun e w' => e = .returned (.tuple #[.agg #[.int .i64 x, .int .i64 y], .bool true]) ∧ Below w.heap.size w w')) :
    Calls Try.prog 5 #[.agg #[.int .i64 f, .int .i64 n], .agg #[.int .i64 g, .int .i64 m]] w fun e w' => e = .returned (.bool true) ∧ Below w.heap.size w w' := by
  go_enter Try.func5, Try.ntmps5
  go_wp2_with fail
  refine (refWhole_yes _ _ _ ⟨h1, h2, h3⟩).mono ?_; rintro e w0 ⟨rfl, hb⟩
  obtain ⟨zb, a0, a1, b0, b1⟩ := cells2 hb
  have za : w.heap.size < w0.heap.size := by omega
  have hB : Below w.heap.size w w0 := below2 hb
  clear hb
  go_wp2_with fail
  refine (alive_any _).mono ?_; rintro e w1 ⟨rfl, hb⟩
  have T := carry0 za a0 a1 hb; clear za a0 a1; obtain ⟨a0, a1, za⟩ := T
  have T := carry0 zb b0 b1 hb; clear zb b0 b1; obtain ⟨b0, b1, zb⟩ := T
  replace hB : Below w.heap.size w w1 := below_step hB hb
  clear hb
  have hps : w.heap.size < w1.heap.size := za
  go_wp2_with (refine wpList_store_set rfl _ _ rfl w1.heap.size zeros rfl rfl rfl (there_new (by simp)) ?_; intro w2 hr ht hgr; obtain ⟨hb, zs⟩ := new_set hgr; clear hgr; have T := carry0 za a0 a1 hb; clear za a0 a1; obtain ⟨a0, a1, za⟩ := T; have T := carry0 zb b0 b1 hb; clear zb b0 b1; obtain ⟨b0, b1, zb⟩ := T)
  replace hB : Below w.heap.size w w2 := below_step hB hb
  clear hb
  generalize w1.heap.size = bs at *
  refine (hl.out _).mono ?_; rintro e w3 ⟨rfl, hb⟩
  have T := carry0 za a0 a1 hb; clear za a0 a1; obtain ⟨a0, a1, za⟩ := T
  have T := carry0 zb b0 b1 hb; clear zb b0 b1; obtain ⟨b0, b1, zb⟩ := T
  replace hr := range_below hb zs hr
  replace ht := there_below hb zs ht
  replace zs : bs < w3.heap.size := Nat.lt_of_lt_of_le zs hb.size
  replace hB : Below w.heap.size w w3 := below_step hB hb
  clear hb
  go_wp2_with fail
  refine (hm.out _).mono ?_; rintro e w4 ⟨rfl, hb⟩
  have T := carry0 za a0 a1 hb; clear za a0 a1; obtain ⟨a0, a1, za⟩ := T
  clear zb b0 b1
  replace hr := range_below hb zs hr
  replace ht := there_below hb zs ht
  replace zs : bs < w4.heap.size := Nat.lt_of_lt_of_le zs hb.size
  replace hB : Below w.heap.size w w4 := below_step hB hb
  clear hb
  obtain ⟨i0, hi0, hz0', hz1', hz2'⟩ := info_parts Try.info23
  go_wp2_with fail
  generalize hW : w4.alloc (.cells #[.int .i64 x, .int .i64 y] 23) = wa
  have hb : Below w4.heap.size w4 wa := by rw [← hW]; exact below_alc
  have hb' : Below (w4.alloc (.cells #[.int .i64 x, .int .i64 y] 23)).heap.size (w4.alloc (.cells #[.int .i64 x, .int .i64 y] 23)) wa := by rw [hW]; exact Below.refl _ _
  clear hW
  obtain ⟨m0, m1, zm⟩ := fresh hb'
  clear hb'
  have T := carry0 za a0 a1 hb; clear za a0 a1; obtain ⟨a0, a1, za⟩ := T
  replace hr := range_below hb zs hr
  replace ht := there_below hb zs ht
  replace zs : bs < wa.heap.size := Nat.lt_of_lt_of_le zs hb.size
  replace hB : Below w.heap.size w wa := below_step hB hb
  clear hb
  generalize w4.heap.size = bm at *
  have hsz : bs + 1 ≤ wa.heap.size := zs
  refine wp_region_held_drew (S := fun w' => w'.cell? ⟨bm, 0, none⟩ = some (.int .i64 x) ∧ w'.cell? ⟨bm, 1, none⟩ = some (.int .i64 y)) (by kernel_rfl) ⟨m0, m1⟩ (fun hHeld => ?_)
  refine wpAnyH_take (i := 0) (v := .slice none 0 0) rfl (by kernel_rfl) (by kernel_rfl) (by kernel_rfl) (fun _ _ _ h => h) (Or.inl ⟨by rfl, fun w' hSw => by clear hSw; go_simp⟩) hHeld ?_
  change wpAnyH _ _ _ _ _ _ _ (Act.put _ (some 30) _) _
  simp only [Act.put, List.setIfInBounds_toArray, List.set_cons_zero, List.set_cons_succ]
  refine wpAnyH_take (i := 2) (v := .agg #[.int .i64 x, .int .i64 y]) rfl (by kernel_rfl) (by kernel_rfl) (by kernel_rfl) (fun _ _ _ h => h) (Or.inl ⟨by rfl, fun w' hSw => by obtain ⟨s0, s1⟩ := hSw; go_simp⟩) hHeld ?_
  change wpAnyH _ _ _ _ _ _ _ (Act.put _ (some 32) _) _
  simp only [Act.put, List.setIfInBounds_toArray, List.set_cons_zero, List.set_cons_succ]
  refine wpAnyH_ready (rs := [1, 3]) (by kernel_rfl) (by simp) ?_
  refine AllReadyH.cons rfl (fun K hK => ?_) (AllReadyH.cons rfl (fun K hK => ?_) AllReadyH.nil)
  · go_simp
    refine hK.out _ _ ⟨m0, m1⟩ (fun hHeld => ?_); clear hK K
    refine wpAnyH_ready (rs := [3]) (by kernel_rfl) (by simp) ?_
    refine AllReadyH.cons rfl (fun K hK => ?_) AllReadyH.nil
    go_simp
    have hb4 : Below wa.heap.size wa (wa.alloc (.cells #[.int .i64 x, .int .i64 y] 23)).drew := below_alc.drew
    have k4 := carry0 zm m0 m1 hb4
    refine hK.out _ _ ⟨k4.1, k4.2.1⟩ (fun hHeld => ?_); clear hK K
    refine wpAnyH_ready (rs := [4]) (by kernel_rfl) (by simp) ?_
    refine AllReadyH.cons rfl (fun K hK => ?_) AllReadyH.nil
    refine step_append_lies _ (by rfl) _ _ 41 (by rfl) (bs + 1) 23 i0 (.agg #[.int .i64 0, .int .i64 0]) 2 16 Try.underlying41 hi0 hz0' hz1' hz2' rfl (by decide) (.slice none 0 0) 0 [] (by rfl) (World.ownsRow_nil _ _ _ _) ⟨wa.heap.size, 0, none⟩ 1 1 [.int .i64 x, .int .i64 y] (by rfl) (by rfl) (news_kept (Below.refl _ _)) (by simp [Value.oneCell']) (by decide) (by unfold maxLen; omega) (by omega) (Nat.le_trans hsz hb4.size) (wa.heap.size + 1) (by simp) ?_
    intro g6 cap6 w6 hown6 hgrow6 hat6 hlt6
    have HBZ : Below wa.heap.size wa w6 := below_step hb4 (below_app0 hgrow6)
    have k7 := carry0 zm m0 m1 HBZ
    refine hK.out _ _ ⟨k7.1, k7.2.1⟩ (fun hHeld => ?_); clear hK K
    refine wpAnyH_ready (rs := [5]) (by kernel_rfl) (by simp) ?_
    refine AllReadyH.cons rfl (fun K hK => ?_) AllReadyH.nil
    go_simp
    refine hK.out _ _ ⟨k7.1, k7.2.1⟩ (fun hHeld => ?_); clear hK K
    refine wpAnyH_done (by kernel_rfl) ?_ _
    clear k4 k7 hb4 hgrow6
    have hBz : Below wa.heap.size wa w6 := HBZ
    have T := carry0 za a0 a1 hBz; clear za a0 a1; obtain ⟨a0, a1, za⟩ := T
    replace hr := range_below hBz zs hr
    replace ht := there_below hBz zs ht
    replace zs : bs < w6.heap.size := Nat.lt_of_lt_of_le zs hBz.size
    replace hB : Below w.heap.size w w6 := below_step hB hBz
    replace hown : w6.ownsRow (bs + 1) 23 2 (.slice (some ⟨g6, 0, none⟩) ps.length cap6) ps.length (spansV ps) := by
      have e1 : ps.length = 0 + 1 := by rw [hq.out]; simp
      have e2 : spansV ps = [] ++ [.int .i64 x, .int .i64 y] := by rw [hq.out]; rfl
      rw [e1, e2]
      exact hown6
    have hql : 1 = ps.length := by rw [hq.out]; simp
    clear hown6 hBz hat6 hlt6 m0 m1 zm hsz hi0 hz0' hz1' hz2'
    go_wp2_with fail
    rw [show Value.slice (some ⟨g6, 0, none⟩) 1 cap6 = Value.slice (some ⟨g6, 0, none⟩) ps.length cap6 from by rw [← hql]]
    clear hql
    generalize w6 = W at *
    generalize g6 = gv' at *
    generalize cap6 = cv' at *
    -- the loop: W: the world ahead of it
    have HW : Hid (W.ownsRow (bs + 1) 23 2 (.slice (some ⟨gv', 0, none⟩) ps.length cv') ps.length (spansV ps) ∧ W.cell? ⟨w.heap.size, 0, none⟩ = some (.int .i64 f) ∧ W.cell? ⟨w.heap.size, 1, none⟩ = some (.int .i64 n) ∧ w.heap.size < W.heap.size ∧ Below w.heap.size w W) := ⟨hown, a0, a1, za, hB⟩
    clear hown a0 a1 za hB
    go_loopw [5, 10] (fun nv iv wr => ∃ i : Nat, i ≤ ps.length ∧ iv = .int .i64 i ∧ nv = .int .i64 (sumN (ps.take i)) ∧ wr.rangeAt bs 0 (bv (putL true zeros (ps.take i))) ∧ wr.there bs 0 64 ∧ bs < wr.heap.size ∧ W.grownBy wr (some bs))
      (fun _ iv _ => ps.length - (intOf iv).toNat)
    case atStart => exact ⟨0, Nat.zero_le _, rfl, rfl, hr, ht, zs, grown_refl _ _⟩
    case round =>
      clear hr ht zs
      obtain ⟨i, hi, rfl, rfl, hr, ht, zs, hg⟩ := hrel
      by_cases hlt : i < ps.length
      · obtain ⟨p, hp⟩ : ∃ p, ps[i]? = some p := ⟨ps[i]'hlt, by simp [hlt]⟩
        have hpm : p ∈ ps := List.mem_of_getElem? hp
        obtain ⟨pa, pb⟩ := p
        obtain ⟨u1, u2, u3⟩ := hwh.out _ hpm
        have hcz : Hid (ps.length ≤ cv' ∧ gv' < W.heap.size ∧ bs + 1 ≤ gv') := by
          rcases HW.out.1.2 with ⟨hh, _⟩ | ⟨g', cap', cur', he, hge, hbl, hle, _⟩
          · cases hh
          · simp at he
            obtain ⟨rfl, rfl⟩ := he
            refine ⟨hle, ?_, hge⟩
            rcases Nat.lt_or_ge gv' W.heap.size with hlt' | hge'
            · exact hlt'
            · rw [Array.getElem?_eq_none hge'] at hbl; cases hbl
        have hrc := row_cells HW.out.1 i (pa, pb) hp
        have d0 : wr.cell? ⟨gv', i * 2, none⟩ = some (.int .i64 pa) := by rw [hg.cell_far ⟨gv', i * 2, none⟩ hcz.out.2.1 (by have := hcz.out.2.2; simp; omega)]; exact hrc.1
        have d1 : wr.cell? ⟨gv', i * 2 + 1, none⟩ = some (.int .i64 pb) := by rw [hg.cell_far ⟨gv', i * 2 + 1, none⟩ hcz.out.2.1 (by have := hcz.out.2.2; simp; omega)]; exact hrc.2
        have hgr : gv' < wr.heap.size := Nat.lt_of_lt_of_le hcz.out.2.1 hg.size
        have hSN : Hid (sumN (ps.take (i + 1)) = sumN (ps.take i) + pb ∧ putL true zeros (ps.take (i + 1)) = putL true (putL true zeros (ps.take i)) [(pa, pb)]) := by
          have e : ps.take (i + 1) = ps.take i ++ [(pa, pb)] := by rw [List.take_add_one, hp]; rfl
          exact ⟨by rw [e, sumN_snoc], by rw [e, putL, List.foldl_append]; rfl⟩
        have hsb := sumN_bound ps hwh.out hne.out.2 i
        obtain ⟨hs0, hs1⟩ := hsb
        have hLI : Hid ((putL true zeros (ps.take i)).length = 64) := by show _ = _; rw [putL_length]; rfl
        have i0 : (0 : Int) ≤ (i : Int) := Int.natCast_nonneg _
        have i1 : (i : Int) < (ps.length : Int) := by omega
        have i2 : (i : Int) + 1 ≤ (cv' : Int) := by have := hcz.out.1; omega
        have hl3 : (ps.length : Int) ≤ 3 := by have := hne.out.2; omega
        have i3 : (0 : Int) ≤ (i : Int) + 1 := by omega
        have i4 : ¬ cv' = i := by omega
        have i5 : IntKind.i64.wrap ((i : Int) + 1) = (i : Int) + 1 := wrap_small _ (by omega) (by omega)
        clear hp hpm hrc
        go_wp2_with fail
        refine (valid_at pa pb 64 _ u1 u2 u3 (by omega)).mono ?_; rintro e wz ⟨rfl, hb⟩
        replace d0 : wz.cell? ⟨gv', i * 2, none⟩ = some (.int .i64 pa) := by rw [hb.cell (p := ⟨gv', i * 2, none⟩) hgr]; exact d0
        replace d1 : wz.cell? ⟨gv', i * 2 + 1, none⟩ = some (.int .i64 pb) := by rw [hb.cell (p := ⟨gv', i * 2 + 1, none⟩) hgr]; exact d1
        replace hgr : gv' < wz.heap.size := Nat.lt_of_lt_of_le hgr hb.size
        replace hr := range_below hb zs hr
        replace ht := there_below hb zs ht
        replace zs : bs < wz.heap.size := Nat.lt_of_lt_of_le zs hb.size
        replace hg := grown_trans hg (grown_below (row := some bs) hb)
        clear hb
        go_wp2_with fail
        refine wp_region_any (by kernel_rfl) ?_
        change wpAny _ _ _ _ _ _ _ (World.drew _)
        refine wpAny_take (i := 1) (v := .slice (some ⟨gv', 0, none⟩) ps.length cv') rfl (by kernel_rfl) (by kernel_rfl) (by kernel_rfl) (fun _ _ _ h => h) (Or.inl ⟨by rfl, fun w => by go_simp⟩) ?_
        change wpAny _ _ _ _ _ _ (Act.put _ (some 55) _) _
        simp only [Act.put, List.setIfInBounds_toArray, List.set_cons_zero, List.set_cons_succ]
        refine wpAny_take (i := 2) (v := .int .i64 i) rfl (by kernel_rfl) (by kernel_rfl) (by kernel_rfl) (fun _ _ _ h => h) (Or.inl ⟨by rfl, fun w => by go_simp⟩) ?_
        change wpAny _ _ _ _ _ _ (Act.put _ (some 56) _) _
        simp only [Act.put, List.setIfInBounds_toArray, List.set_cons_zero, List.set_cons_succ]
        refine wpAny_take (i := 3) (v := .int .i64 i) rfl (by kernel_rfl) (by kernel_rfl) (by kernel_rfl) (fun _ _ _ h => h) (Or.inl ⟨by rfl, fun w => by go_simp⟩) ?_
        change wpAny _ _ _ _ _ _ (Act.put _ (some 57) _) _
        simp only [Act.put, List.setIfInBounds_toArray, List.set_cons_zero, List.set_cons_succ]
        refine wpAny_take (i := 4) (v := .int .i64 (i + 1)) rfl (by kernel_rfl) (by kernel_rfl) (by kernel_rfl) (fun _ _ _ h => h) (Or.inl ⟨by rfl, fun w => by go_simp⟩) ?_
        change wpAny _ _ _ _ _ _ (Act.put _ (some 58) _) _
        simp only [Act.put, List.setIfInBounds_toArray, List.set_cons_zero, List.set_cons_succ]
        refine wpAny_take (i := 5) (v := .slice (some ⟨gv', i * 2, none⟩) 1 (cv' - i)) rfl (by kernel_rfl) (by kernel_rfl) (by kernel_rfl) (fun _ _ _ h => h) (Or.inl ⟨by rfl, fun w => by go_simp⟩) ?_
        change wpAny _ _ _ _ _ _ (Act.put _ (some 59) _) _
        simp only [Act.put, List.setIfInBounds_toArray, List.set_cons_zero, List.set_cons_succ]
        refine wpAny_ready (rs := [0]) (by kernel_rfl) (by simp) ?_
        refine AllReady.cons rfl (fun K hK => ?_) AllReady.nil
        rw [if_pos (by rfl)]
        refine wp_load_mid 26 _ rfl bs 0 rfl (bv (putL true zeros (ps.take i))) _ ((World.rangeAt_drew _ _ _ _).2 hr) Try.underlying26 rfl (infoL hLI.out) ?_
        refine hK _ _ ?_; clear hK K
        change wpAny _ _ _ _ _ _ (Act.put _ (some 54) _) _
        simp only [Act.put, List.setIfInBounds_toArray, List.set_cons_zero, List.set_cons_succ]
        refine wpAny_ready (rs := [6]) (by kernel_rfl) (by simp) ?_
        refine AllReady.cons rfl (fun K hK => ?_) AllReady.nil
        go_simp
        refine (put_any (putL true zeros (ps.take i)) hLI.out gv' (i * 2) 1 (cv' - i) [(pa, pb)] rfl (by decide) true wz.drew (by exact hgr) ?_).mono ?_
        · intro j p hj
          match j, hj with
          | 0, hj => simp at hj; subst hj; simpa using ⟨d0, d1⟩
        rintro e wp ⟨rfl, hb⟩
        replace hb : Below wz.heap.size wz wp := below_drew hb
        replace ht := there_below hb zs ht
        replace zs : bs < wp.heap.size := Nat.lt_of_lt_of_le zs hb.size
        replace hg := grown_trans hg (grown_below (row := some bs) hb)
        clear hb hr d0 d1 hgr
        go_wp2_with fail
        refine wpAny_ready (rs := [7]) (by kernel_rfl) (by simp) ?_
        refine AllReady.cons rfl (fun K hK => ?_) AllReady.nil
        rw [if_pos (by rfl)]
        refine wp_store_set _ _ rfl bs (putL true (putL true zeros (ps.take i)) [(pa, pb)]) (by rw [putL_length]; exact hLI.out) rfl rfl ht ?_
        intro wq hr2 ht2 hg2
        refine hK _ _ ?_; clear hK K
        refine wpAny_done (by kernel_rfl) ?_ _
        replace zs : bs < wq.heap.size := Nat.lt_of_lt_of_le zs hg2.size
        replace hg := grown_trans hg hg2
        clear hg2 ht
        go_wp2
        go_roundw
        case rel => exact ⟨i + 1, by omega, by go_num, by rw [hSN.out.1], by rw [hSN.out.2]; exact hr2, ht2, zs, hg⟩
        case measure => simp [intOf]; omega
      · have hil : i = ps.length := by omega
        have htk : ps.take i = ps := by rw [hil]; exact List.take_length
        rw [htk] at hr ⊢
        rw [hsum.out]
        rw [hput.out] at hr
        subst hil
        clear htk
        have hXL : Hid ((putSpan true zeros (f, n)).length = 64) := by show _ = _; rw [putSpan_length]; rfl
        have c0 : wr.cell? ⟨w.heap.size, 0, none⟩ = some (.int .i64 f) := by rw [hg.cell_far ⟨w.heap.size, 0, none⟩ HW.out.2.2.2.1 (by simp; omega)]; exact HW.out.2.1
        have c1 : wr.cell? ⟨w.heap.size, 1, none⟩ = some (.int .i64 n) := by rw [hg.cell_far ⟨w.heap.size, 1, none⟩ HW.out.2.2.2.1 (by simp; omega)]; exact HW.out.2.2.1
        have hzw : w.heap.size < wr.heap.size := Nat.lt_of_lt_of_le HW.out.2.2.2.1 hg.size
        have hBr : Below w.heap.size w wr := HW.out.2.2.2.2.grown hg HW.out.2.2.2.2.size (fun k hk => by simp at hk; omega)
        clear ht hg
        go_wp2_with fail
        refine wp_region_held_drew (S := fun w' => w'.rangeAt bs 0 (bv (putSpan true zeros (f, n))) ∧ w'.cell? ⟨w.heap.size, 0, none⟩ = some (.int .i64 f) ∧ w'.cell? ⟨w.heap.size, 1, none⟩ = some (.int .i64 n)) (by kernel_rfl) ⟨(World.rangeAt_drew _ _ _ _).2 hr, c0, c1⟩ (fun hHeld => ?_)
        refine wpAnyH_take (i := 0) (v := .int .i64 n) rfl (by kernel_rfl) (by kernel_rfl) (by kernel_rfl) (fun _ _ _ h => h) (Or.inl ⟨by rfl, fun w hSw => by obtain ⟨s0, s1, s2⟩ := hSw; clear s0; go_simp⟩) hHeld ?_
        change wpAnyH _ _ _ _ _ _ _ (Act.put _ (some 61) _) _
        simp only [Act.put, List.setIfInBounds_toArray, List.set_cons_zero, List.set_cons_succ]
        refine wpAnyH_take (i := 1) (v := .pointer (some ⟨w.heap.size, 1, none⟩)) rfl (by kernel_rfl) (by kernel_rfl) (by kernel_rfl) (fun _ _ _ h => h) (Or.inl ⟨by rfl, fun w' hSw => by clear hSw; go_simp⟩) hHeld ?_
        change wpAnyH _ _ _ _ _ _ _ (Act.put _ (some 62) _) _
        simp only [Act.put, List.setIfInBounds_toArray, List.set_cons_zero, List.set_cons_succ]
        refine wpAnyH_take (i := 2) (v := .int .i64 n) rfl (by kernel_rfl) (by kernel_rfl) (by kernel_rfl) (fun _ _ _ h => h) (Or.inl ⟨by rfl, fun w hSw => by obtain ⟨s0, s1, s2⟩ := hSw; clear s0; go_simp⟩) hHeld ?_
        change wpAnyH _ _ _ _ _ _ _ (Act.put _ (some 63) _) _
        simp only [Act.put, List.setIfInBounds_toArray, List.set_cons_zero, List.set_cons_succ]
        refine wpAnyH_take (i := 3) (v := .bool true) rfl (by kernel_rfl) (by kernel_rfl) (by kernel_rfl) (fun _ _ _ h => h) (Or.inl ⟨by rfl, fun w hSw => by obtain ⟨s0, s1, s2⟩ := hSw; clear s0; go_simp⟩) hHeld ?_
        change wpAnyH _ _ _ _ _ _ _ (Act.put _ (some 64) _) _
        simp only [Act.put, List.setIfInBounds_toArray, List.set_cons_zero, List.set_cons_succ]
        refine wpAnyH_take (i := 4) (v := .bool true) rfl (by kernel_rfl) (by kernel_rfl) (by kernel_rfl) (fun _ _ _ h => h) (Or.inl ⟨by rfl, fun w hSw => by obtain ⟨s0, s1, s2⟩ := hSw; clear s0; go_simp⟩) hHeld ?_
        change wpAnyH _ _ _ _ _ _ _ (Act.put _ (some 65) _) _
        simp only [Act.put, List.setIfInBounds_toArray, List.set_cons_zero, List.set_cons_succ]
        refine wpAnyH_take (i := 5) (v := .agg (bv (putSpan true zeros (f, n))).toArray) rfl (by kernel_rfl) (by kernel_rfl) (by kernel_rfl) (fun _ _ _ h => h) (yieldsIf_load_mid (by rfl) 26 _ rfl bs 0 rfl (bv (putSpan true zeros (f, n))) _ (fun w h => h.1) Try.underlying26 rfl (infoL hXL.out)) hHeld ?_
        change wpAnyH _ _ _ _ _ _ _ (Act.put _ (some 66) _) _
        simp only [Act.put, List.setIfInBounds_toArray, List.set_cons_zero, List.set_cons_succ]
        refine wpAnyH_take (i := 6) (v := .agg #[.int .i64 f, .int .i64 n]) rfl (by kernel_rfl) (by kernel_rfl) (by kernel_rfl) (fun _ _ _ h => h) (Or.inl ⟨by rfl, fun w hSw => by obtain ⟨s0, s1, s2⟩ := hSw; clear s0; go_simp⟩) hHeld ?_
        change wpAnyH _ _ _ _ _ _ _ (Act.put _ (some 67) _) _
        simp only [Act.put, List.setIfInBounds_toArray, List.set_cons_zero, List.set_cons_succ]
        refine wpAnyH_ready (rs := [7]) (by kernel_rfl) (by simp) ?_
        refine AllReadyH.cons rfl (fun K hK => ?_) AllReadyH.nil
        go_simp
        refine (set_any f n _).mono ?_; rintro e wt ⟨rfl, hb⟩
        replace hb : Below wr.heap.size wr wt := below_drew hb
        refine hK.out _ _ ⟨range_below hb zs hr, by rw [hb.cell (p := ⟨w.heap.size, 0, none⟩) hzw]; exact c0, by rw [hb.cell (p := ⟨w.heap.size, 1, none⟩) hzw]; exact c1⟩ (fun hHeld => ?_); clear hK K
        have heq := sets_eq _ _ hXL.out hXL.out
        refine wpAnyH_take (i := 8) (v := .bool true) rfl (by kernel_rfl) (by kernel_rfl) (by kernel_rfl) (fun _ _ _ h => h) (Or.inl ⟨by rfl, fun w' hSw => by clear hSw; go_simp⟩) hHeld ?_
        change wpAnyH _ _ _ _ _ _ _ (Act.put _ (some 69) _) _
        simp only [Act.put, List.setIfInBounds_toArray, List.set_cons_zero, List.set_cons_succ]
        refine wpAnyH_take (i := 9) (v := .bool true) rfl (by kernel_rfl) (by kernel_rfl) (by kernel_rfl) (fun _ _ _ h => h) (Or.inl ⟨by rfl, fun w hSw => by obtain ⟨s0, s1, s2⟩ := hSw; clear s0; go_simp⟩) hHeld ?_
        change wpAnyH _ _ _ _ _ _ _ (Act.put _ (some 70) _) _
        simp only [Act.put, List.setIfInBounds_toArray, List.set_cons_zero, List.set_cons_succ]
        refine wpAnyH_take (i := 10) (v := .bool true) rfl (by kernel_rfl) (by kernel_rfl) (by kernel_rfl) (fun _ _ _ h => h) (Or.inl ⟨by rfl, fun w hSw => by obtain ⟨s0, s1, s2⟩ := hSw; clear s0; go_simp⟩) hHeld ?_
        change wpAnyH _ _ _ _ _ _ _ (Act.put _ (some 4) _) _
        simp only [Act.put, List.setIfInBounds_toArray, List.set_cons_zero, List.set_cons_succ]
        refine wpAnyH_done (by kernel_rfl) ?_ _
        go_wp2
        go_ret
        exact ⟨rfl, below_step hBr hb⟩

  · go_simp
    have hb4 : Below wa.heap.size wa (wa.alloc (.cells #[.int .i64 x, .int .i64 y] 23)).drew := below_alc.drew
    have k4 := carry0 zm m0 m1 hb4
    refine hK.out _ _ ⟨k4.1, k4.2.1⟩ (fun hHeld => ?_); clear hK K
    refine wpAnyH_ready (rs := [1]) (by kernel_rfl) (by simp) ?_
    refine AllReadyH.cons rfl (fun K hK => ?_) AllReadyH.nil
    go_simp
    refine hK.out _ _ ⟨k4.1, k4.2.1⟩ (fun hHeld => ?_); clear hK K
    refine wpAnyH_ready (rs := [4]) (by kernel_rfl) (by simp) ?_
    refine AllReadyH.cons rfl (fun K hK => ?_) AllReadyH.nil
    refine step_append_lies _ (by rfl) _ _ 41 (by rfl) (bs + 1) 23 i0 (.agg #[.int .i64 0, .int .i64 0]) 2 16 Try.underlying41 hi0 hz0' hz1' hz2' rfl (by decide) (.slice none 0 0) 0 [] (by rfl) (World.ownsRow_nil _ _ _ _) ⟨wa.heap.size, 0, none⟩ 1 1 [.int .i64 x, .int .i64 y] (by rfl) (by rfl) (news_kept (Below.refl _ _)) (by simp [Value.oneCell']) (by decide) (by unfold maxLen; omega) (by omega) (Nat.le_trans hsz hb4.size) (wa.heap.size + 1) (by simp) ?_
    intro g6 cap6 w6 hown6 hgrow6 hat6 hlt6
    have HBZ : Below wa.heap.size wa w6 := below_step hb4 (below_app0 hgrow6)
    have k7 := carry0 zm m0 m1 HBZ
    refine hK.out _ _ ⟨k7.1, k7.2.1⟩ (fun hHeld => ?_); clear hK K
    refine wpAnyH_ready (rs := [5]) (by kernel_rfl) (by simp) ?_
    refine AllReadyH.cons rfl (fun K hK => ?_) AllReadyH.nil
    go_simp
    refine hK.out _ _ ⟨k7.1, k7.2.1⟩ (fun hHeld => ?_); clear hK K
    refine wpAnyH_done (by kernel_rfl) ?_ _
    clear k4 k7 hb4 hgrow6
    have hBz : Below wa.heap.size wa w6 := HBZ
    have T := carry0 za a0 a1 hBz; clear za a0 a1; obtain ⟨a0, a1, za⟩ := T
    replace hr := range_below hBz zs hr
    replace ht := there_below hBz zs ht
    replace zs : bs < w6.heap.size := Nat.lt_of_lt_of_le zs hBz.size
    replace hB : Below w.heap.size w w6 := below_step hB hBz
    replace hown : w6.ownsRow (bs + 1) 23 2 (.slice (some ⟨g6, 0, none⟩) ps.length cap6) ps.length (spansV ps) := by
      have e1 : ps.length = 0 + 1 := by rw [hq.out]; simp
      have e2 : spansV ps = [] ++ [.int .i64 x, .int .i64 y] := by rw [hq.out]; rfl
      rw [e1, e2]
      exact hown6
    have hql : 1 = ps.length := by rw [hq.out]; simp
    clear hown6 hBz hat6 hlt6 m0 m1 zm hsz hi0 hz0' hz1' hz2'
    go_wp2_with fail
    rw [show Value.slice (some ⟨g6, 0, none⟩) 1 cap6 = Value.slice (some ⟨g6, 0, none⟩) ps.length cap6 from by rw [← hql]]
    clear hql
    generalize w6 = W at *
    generalize g6 = gv' at *
    generalize cap6 = cv' at *
    -- the loop: W: the world ahead of it
    have HW : Hid (W.ownsRow (bs + 1) 23 2 (.slice (some ⟨gv', 0, none⟩) ps.length cv') ps.length (spansV ps) ∧ W.cell? ⟨w.heap.size, 0, none⟩ = some (.int .i64 f) ∧ W.cell? ⟨w.heap.size, 1, none⟩ = some (.int .i64 n) ∧ w.heap.size < W.heap.size ∧ Below w.heap.size w W) := ⟨hown, a0, a1, za, hB⟩
    clear hown a0 a1 za hB
    go_loopw [5, 10] (fun nv iv wr => ∃ i : Nat, i ≤ ps.length ∧ iv = .int .i64 i ∧ nv = .int .i64 (sumN (ps.take i)) ∧ wr.rangeAt bs 0 (bv (putL true zeros (ps.take i))) ∧ wr.there bs 0 64 ∧ bs < wr.heap.size ∧ W.grownBy wr (some bs))
      (fun _ iv _ => ps.length - (intOf iv).toNat)
    case atStart => exact ⟨0, Nat.zero_le _, rfl, rfl, hr, ht, zs, grown_refl _ _⟩
    case round =>
      clear hr ht zs
      obtain ⟨i, hi, rfl, rfl, hr, ht, zs, hg⟩ := hrel
      by_cases hlt : i < ps.length
      · obtain ⟨p, hp⟩ : ∃ p, ps[i]? = some p := ⟨ps[i]'hlt, by simp [hlt]⟩
        have hpm : p ∈ ps := List.mem_of_getElem? hp
        obtain ⟨pa, pb⟩ := p
        obtain ⟨u1, u2, u3⟩ := hwh.out _ hpm
        have hcz : Hid (ps.length ≤ cv' ∧ gv' < W.heap.size ∧ bs + 1 ≤ gv') := by
          rcases HW.out.1.2 with ⟨hh, _⟩ | ⟨g', cap', cur', he, hge, hbl, hle, _⟩
          · cases hh
          · simp at he
            obtain ⟨rfl, rfl⟩ := he
            refine ⟨hle, ?_, hge⟩
            rcases Nat.lt_or_ge gv' W.heap.size with hlt' | hge'
            · exact hlt'
            · rw [Array.getElem?_eq_none hge'] at hbl; cases hbl
        have hrc := row_cells HW.out.1 i (pa, pb) hp
        have d0 : wr.cell? ⟨gv', i * 2, none⟩ = some (.int .i64 pa) := by rw [hg.cell_far ⟨gv', i * 2, none⟩ hcz.out.2.1 (by have := hcz.out.2.2; simp; omega)]; exact hrc.1
        have d1 : wr.cell? ⟨gv', i * 2 + 1, none⟩ = some (.int .i64 pb) := by rw [hg.cell_far ⟨gv', i * 2 + 1, none⟩ hcz.out.2.1 (by have := hcz.out.2.2; simp; omega)]; exact hrc.2
        have hgr : gv' < wr.heap.size := Nat.lt_of_lt_of_le hcz.out.2.1 hg.size
        have hSN : Hid (sumN (ps.take (i + 1)) = sumN (ps.take i) + pb ∧ putL true zeros (ps.take (i + 1)) = putL true (putL true zeros (ps.take i)) [(pa, pb)]) := by
          have e : ps.take (i + 1) = ps.take i ++ [(pa, pb)] := by rw [List.take_add_one, hp]; rfl
          exact ⟨by rw [e, sumN_snoc], by rw [e, putL, List.foldl_append]; rfl⟩
        have hsb := sumN_bound ps hwh.out hne.out.2 i
        obtain ⟨hs0, hs1⟩ := hsb
        have hLI : Hid ((putL true zeros (ps.take i)).length = 64) := by show _ = _; rw [putL_length]; rfl
        have i0 : (0 : Int) ≤ (i : Int) := Int.natCast_nonneg _
        have i1 : (i : Int) < (ps.length : Int) := by omega
        have i2 : (i : Int) + 1 ≤ (cv' : Int) := by have := hcz.out.1; omega
        have hl3 : (ps.length : Int) ≤ 3 := by have := hne.out.2; omega
        have i3 : (0 : Int) ≤ (i : Int) + 1 := by omega
        have i4 : ¬ cv' = i := by omega
        have i5 : IntKind.i64.wrap ((i : Int) + 1) = (i : Int) + 1 := wrap_small _ (by omega) (by omega)
        clear hp hpm hrc
        go_wp2_with fail
        refine (valid_at pa pb 64 _ u1 u2 u3 (by omega)).mono ?_; rintro e wz ⟨rfl, hb⟩
        replace d0 : wz.cell? ⟨gv', i * 2, none⟩ = some (.int .i64 pa) := by rw [hb.cell (p := ⟨gv', i * 2, none⟩) hgr]; exact d0
        replace d1 : wz.cell? ⟨gv', i * 2 + 1, none⟩ = some (.int .i64 pb) := by rw [hb.cell (p := ⟨gv', i * 2 + 1, none⟩) hgr]; exact d1
        replace hgr : gv' < wz.heap.size := Nat.lt_of_lt_of_le hgr hb.size
        replace hr := range_below hb zs hr
        replace ht := there_below hb zs ht
        replace zs : bs < wz.heap.size := Nat.lt_of_lt_of_le zs hb.size
        replace hg := grown_trans hg (grown_below (row := some bs) hb)
        clear hb
        go_wp2_with fail
        refine wp_region_any (by kernel_rfl) ?_
        change wpAny _ _ _ _ _ _ _ (World.drew _)
        refine wpAny_take (i := 1) (v := .slice (some ⟨gv', 0, none⟩) ps.length cv') rfl (by kernel_rfl) (by kernel_rfl) (by kernel_rfl) (fun _ _ _ h => h) (Or.inl ⟨by rfl, fun w => by go_simp⟩) ?_
        change wpAny _ _ _ _ _ _ (Act.put _ (some 55) _) _
        simp only [Act.put, List.setIfInBounds_toArray, List.set_cons_zero, List.set_cons_succ]
        refine wpAny_take (i := 2) (v := .int .i64 i) rfl (by kernel_rfl) (by kernel_rfl) (by kernel_rfl) (fun _ _ _ h => h) (Or.inl ⟨by rfl, fun w => by go_simp⟩) ?_
        change wpAny _ _ _ _ _ _ (Act.put _ (some 56) _) _
        simp only [Act.put, List.setIfInBounds_toArray, List.set_cons_zero, List.set_cons_succ]
        refine wpAny_take (i := 3) (v := .int .i64 i) rfl (by kernel_rfl) (by kernel_rfl) (by kernel_rfl) (fun _ _ _ h => h) (Or.inl ⟨by rfl, fun w => by go_simp⟩) ?_
        change wpAny _ _ _ _ _ _ (Act.put _ (some 57) _) _
        simp only [Act.put, List.setIfInBounds_toArray, List.set_cons_zero, List.set_cons_succ]
        refine wpAny_take (i := 4) (v := .int .i64 (i + 1)) rfl (by kernel_rfl) (by kernel_rfl) (by kernel_rfl) (fun _ _ _ h => h) (Or.inl ⟨by rfl, fun w => by go_simp⟩) ?_
        change wpAny _ _ _ _ _ _ (Act.put _ (some 58) _) _
        simp only [Act.put, List.setIfInBounds_toArray, List.set_cons_zero, List.set_cons_succ]
        refine wpAny_take (i := 5) (v := .slice (some ⟨gv', i * 2, none⟩) 1 (cv' - i)) rfl (by kernel_rfl) (by kernel_rfl) (by kernel_rfl) (fun _ _ _ h => h) (Or.inl ⟨by rfl, fun w => by go_simp⟩) ?_
        change wpAny _ _ _ _ _ _ (Act.put _ (some 59) _) _
        simp only [Act.put, List.setIfInBounds_toArray, List.set_cons_zero, List.set_cons_succ]
        refine wpAny_ready (rs := [0]) (by kernel_rfl) (by simp) ?_
        refine AllReady.cons rfl (fun K hK => ?_) AllReady.nil
        rw [if_pos (by rfl)]
        refine wp_load_mid 26 _ rfl bs 0 rfl (bv (putL true zeros (ps.take i))) _ ((World.rangeAt_drew _ _ _ _).2 hr) Try.underlying26 rfl (infoL hLI.out) ?_
        refine hK _ _ ?_; clear hK K
        change wpAny _ _ _ _ _ _ (Act.put _ (some 54) _) _
        simp only [Act.put, List.setIfInBounds_toArray, List.set_cons_zero, List.set_cons_succ]
        refine wpAny_ready (rs := [6]) (by kernel_rfl) (by simp) ?_
        refine AllReady.cons rfl (fun K hK => ?_) AllReady.nil
        go_simp
        refine (put_any (putL true zeros (ps.take i)) hLI.out gv' (i * 2) 1 (cv' - i) [(pa, pb)] rfl (by decide) true wz.drew (by exact hgr) ?_).mono ?_
        · intro j p hj
          match j, hj with
          | 0, hj => simp at hj; subst hj; simpa using ⟨d0, d1⟩
        rintro e wp ⟨rfl, hb⟩
        replace hb : Below wz.heap.size wz wp := below_drew hb
        replace ht := there_below hb zs ht
        replace zs : bs < wp.heap.size := Nat.lt_of_lt_of_le zs hb.size
        replace hg := grown_trans hg (grown_below (row := some bs) hb)
        clear hb hr d0 d1 hgr
        go_wp2_with fail
        refine wpAny_ready (rs := [7]) (by kernel_rfl) (by simp) ?_
        refine AllReady.cons rfl (fun K hK => ?_) AllReady.nil
        rw [if_pos (by rfl)]
        refine wp_store_set _ _ rfl bs (putL true (putL true zeros (ps.take i)) [(pa, pb)]) (by rw [putL_length]; exact hLI.out) rfl rfl ht ?_
        intro wq hr2 ht2 hg2
        refine hK _ _ ?_; clear hK K
        refine wpAny_done (by kernel_rfl) ?_ _
        replace zs : bs < wq.heap.size := Nat.lt_of_lt_of_le zs hg2.size
        replace hg := grown_trans hg hg2
        clear hg2 ht
        go_wp2
        go_roundw
        case rel => exact ⟨i + 1, by omega, by go_num, by rw [hSN.out.1], by rw [hSN.out.2]; exact hr2, ht2, zs, hg⟩
        case measure => simp [intOf]; omega
      · have hil : i = ps.length := by omega
        have htk : ps.take i = ps := by rw [hil]; exact List.take_length
        rw [htk] at hr ⊢
        rw [hsum.out]
        rw [hput.out] at hr
        subst hil
        clear htk
        have hXL : Hid ((putSpan true zeros (f, n)).length = 64) := by show _ = _; rw [putSpan_length]; rfl
        have c0 : wr.cell? ⟨w.heap.size, 0, none⟩ = some (.int .i64 f) := by rw [hg.cell_far ⟨w.heap.size, 0, none⟩ HW.out.2.2.2.1 (by simp; omega)]; exact HW.out.2.1
        have c1 : wr.cell? ⟨w.heap.size, 1, none⟩ = some (.int .i64 n) := by rw [hg.cell_far ⟨w.heap.size, 1, none⟩ HW.out.2.2.2.1 (by simp; omega)]; exact HW.out.2.2.1
        have hzw : w.heap.size < wr.heap.size := Nat.lt_of_lt_of_le HW.out.2.2.2.1 hg.size
        have hBr : Below w.heap.size w wr := HW.out.2.2.2.2.grown hg HW.out.2.2.2.2.size (fun k hk => by simp at hk; omega)
        clear ht hg
        go_wp2_with fail
        refine wp_region_held_drew (S := fun w' => w'.rangeAt bs 0 (bv (putSpan true zeros (f, n))) ∧ w'.cell? ⟨w.heap.size, 0, none⟩ = some (.int .i64 f) ∧ w'.cell? ⟨w.heap.size, 1, none⟩ = some (.int .i64 n)) (by kernel_rfl) ⟨(World.rangeAt_drew _ _ _ _).2 hr, c0, c1⟩ (fun hHeld => ?_)
        refine wpAnyH_take (i := 0) (v := .int .i64 n) rfl (by kernel_rfl) (by kernel_rfl) (by kernel_rfl) (fun _ _ _ h => h) (Or.inl ⟨by rfl, fun w hSw => by obtain ⟨s0, s1, s2⟩ := hSw; clear s0; go_simp⟩) hHeld ?_
        change wpAnyH _ _ _ _ _ _ _ (Act.put _ (some 61) _) _
        simp only [Act.put, List.setIfInBounds_toArray, List.set_cons_zero, List.set_cons_succ]
        refine wpAnyH_take (i := 1) (v := .pointer (some ⟨w.heap.size, 1, none⟩)) rfl (by kernel_rfl) (by kernel_rfl) (by kernel_rfl) (fun _ _ _ h => h) (Or.inl ⟨by rfl, fun w' hSw => by clear hSw; go_simp⟩) hHeld ?_
        change wpAnyH _ _ _ _ _ _ _ (Act.put _ (some 62) _) _
        simp only [Act.put, List.setIfInBounds_toArray, List.set_cons_zero, List.set_cons_succ]
        refine wpAnyH_take (i := 2) (v := .int .i64 n) rfl (by kernel_rfl) (by kernel_rfl) (by kernel_rfl) (fun _ _ _ h => h) (Or.inl ⟨by rfl, fun w hSw => by obtain ⟨s0, s1, s2⟩ := hSw; clear s0; go_simp⟩) hHeld ?_
        change wpAnyH _ _ _ _ _ _ _ (Act.put _ (some 63) _) _
        simp only [Act.put, List.setIfInBounds_toArray, List.set_cons_zero, List.set_cons_succ]
        refine wpAnyH_take (i := 3) (v := .bool true) rfl (by kernel_rfl) (by kernel_rfl) (by kernel_rfl) (fun _ _ _ h => h) (Or.inl ⟨by rfl, fun w hSw => by obtain ⟨s0, s1, s2⟩ := hSw; clear s0; go_simp⟩) hHeld ?_
        change wpAnyH _ _ _ _ _ _ _ (Act.put _ (some 64) _) _
        simp only [Act.put, List.setIfInBounds_toArray, List.set_cons_zero, List.set_cons_succ]
        refine wpAnyH_take (i := 4) (v := .bool true) rfl (by kernel_rfl) (by kernel_rfl) (by kernel_rfl) (fun _ _ _ h => h) (Or.inl ⟨by rfl, fun w hSw => by obtain ⟨s0, s1, s2⟩ := hSw; clear s0; go_simp⟩) hHeld ?_
        change wpAnyH _ _ _ _ _ _ _ (Act.put _ (some 65) _) _
        simp only [Act.put, List.setIfInBounds_toArray, List.set_cons_zero, List.set_cons_succ]
        refine wpAnyH_take (i := 5) (v := .agg (bv (putSpan true zeros (f, n))).toArray) rfl (by kernel_rfl) (by kernel_rfl) (by kernel_rfl) (fun _ _ _ h => h) (yieldsIf_load_mid (by rfl) 26 _ rfl bs 0 rfl (bv (putSpan true zeros (f, n))) _ (fun w h => h.1) Try.underlying26 rfl (infoL hXL.out)) hHeld ?_
        change wpAnyH _ _ _ _ _ _ _ (Act.put _ (some 66) _) _
        simp only [Act.put, List.setIfInBounds_toArray, List.set_cons_zero, List.set_cons_succ]
        refine wpAnyH_take (i := 6) (v := .agg #[.int .i64 f, .int .i64 n]) rfl (by kernel_rfl) (by kernel_rfl) (by kernel_rfl) (fun _ _ _ h => h) (Or.inl ⟨by rfl, fun w hSw => by obtain ⟨s0, s1, s2⟩ := hSw; clear s0; go_simp⟩) hHeld ?_
        change wpAnyH _ _ _ _ _ _ _ (Act.put _ (some 67) _) _
        simp only [Act.put, List.setIfInBounds_toArray, List.set_cons_zero, List.set_cons_succ]
        refine wpAnyH_ready (rs := [7]) (by kernel_rfl) (by simp) ?_
        refine AllReadyH.cons rfl (fun K hK => ?_) AllReadyH.nil
        go_simp
        refine (set_any f n _).mono ?_; rintro e wt ⟨rfl, hb⟩
        replace hb : Below wr.heap.size wr wt := below_drew hb
        refine hK.out _ _ ⟨range_below hb zs hr, by rw [hb.cell (p := ⟨w.heap.size, 0, none⟩) hzw]; exact c0, by rw [hb.cell (p := ⟨w.heap.size, 1, none⟩) hzw]; exact c1⟩ (fun hHeld => ?_); clear hK K
        have heq := sets_eq _ _ hXL.out hXL.out
        refine wpAnyH_take (i := 8) (v := .bool true) rfl (by kernel_rfl) (by kernel_rfl) (by kernel_rfl) (fun _ _ _ h => h) (Or.inl ⟨by rfl, fun w' hSw => by clear hSw; go_simp⟩) hHeld ?_
        change wpAnyH _ _ _ _ _ _ _ (Act.put _ (some 69) _) _
        simp only [Act.put, List.setIfInBounds_toArray, List.set_cons_zero, List.set_cons_succ]
        refine wpAnyH_take (i := 9) (v := .bool true) rfl (by kernel_rfl) (by kernel_rfl) (by kernel_rfl) (fun _ _ _ h => h) (Or.inl ⟨by rfl, fun w hSw => by obtain ⟨s0, s1, s2⟩ := hSw; clear s0; go_simp⟩) hHeld ?_
        change wpAnyH _ _ _ _ _ _ _ (Act.put _ (some 70) _) _
        simp only [Act.put, List.setIfInBounds_toArray, List.set_cons_zero, List.set_cons_succ]
        refine wpAnyH_take (i := 10) (v := .bool true) rfl (by kernel_rfl) (by kernel_rfl) (by kernel_rfl) (fun _ _ _ h => h) (Or.inl ⟨by rfl, fun w hSw => by obtain ⟨s0, s1, s2⟩ := hSw; clear s0; go_simp⟩) hHeld ?_
        change wpAnyH _ _ _ _ _ _ _ (Act.put _ (some 4) _) _
        simp only [Act.put, List.setIfInBounds_toArray, List.set_cons_zero, List.set_cons_succ]
        refine wpAnyH_done (by kernel_rfl) ?_ _
        go_wp2
        go_ret
        exact ⟨rfl, below_step hBr hb⟩

end Go.Proofs.Ytlncklbbfnmdiaa
