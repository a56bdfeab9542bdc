/-
  The contract of the document's Of.
-/
import Derived.Test.YtnboajhcjgcpfaaRefA
import Derived.Deep.RegionLaw
namespace Go.Proofs.Ytnboajhcjgcpfaa
open Go.ChangeShapes Go.WideShapes Go.ChangeAt Go.RowKit
attribute [local go_sem ↓] Go.wp_at_zero Go.wp_at_succ

/-- What a map of 64 numbers asks of the laws on rows. -/
theorem iv_facts {m : List Int} (h : m.length = 64) : (iv m).length = 64 ∧ (Try.prog.info? 74).map (·.size) = some (iv m).length ∧ (iv m).toArray.all (·.oneCell') = true ∧ (Try.prog.info? 74).map (·.size) = some (iv m).toArray.size ∧ (iv m).toArray.size = 64 := by
  have hlen : (iv m).length = 64 := by rw [iv_length]; exact h
  exact ⟨hlen, by rw [hlen]; exact info29, iv_one _, by simpa [hlen] using info29, by simpa using hlen⟩
/-- A map in a block of its own. -/
structure MO (w : World) (b : Nat) (m : List Int) : Prop where
  r : w.rangeAt b 0 (iv m)
  t : w.there b 0 64
theorem MO.below {w w' : World} {b B : Nat} {m : List Int} (h : MO w b m) (hb : Below B w w') (hz : b < B) : MO w' b m := ⟨range_below hb hz h.r, there_below hb hz h.t⟩
theorem MO.lt {w : World} {b : Nat} {m : List Int} (h : MO w b m) : b < w.heap.size := by
  obtain ⟨u, hu, _⟩ := there_at h.t (k := 0) (by omega)
  exact cell_lt hu
theorem MO.new (w : World) (m : List Int) (hl : m.length = 64) : MO (w.alloc (.cells (iv m).toArray 74)) w.heap.size m :=
  ⟨by simpa using range_new (w := w) (C := (iv m).toArray) (t := 74), there_new (by simp [iv_length, hl])⟩
theorem MO.store {w : World} {b : Nat} {m : List Int} (h : MO w b m) (n : List Int) (hl : n.length = 64) : MO (w.setCells b 0 (iv n)) b n :=
  ⟨World.rangeAt_setCells_same _ _ _ _ (by rw [iv_length, hl]; exact h.t), World.there_setCells h.t _ _ _⟩
theorem heap_setCells (b : Nat) : ∀ (vs : List Value) (o : Nat) (w : World) (k : Nat), k ≠ b → (w.setCells b o vs).heap[k]? = w.heap[k]?
  | [], _, _, _, _ => rfl
  | v :: vs, o, w, k, hk => by
    show ((w.setCell ⟨b, o, none⟩ v).setCells b (o + 1) vs).heap[k]? = _
    rw [heap_setCells b vs (o + 1) _ k hk]
    exact Below.heap_setCell w ⟨b, o, none⟩ v k hk
theorem size_setCells (b : Nat) : ∀ (vs : List Value) (o : Nat) (w : World), (w.setCells b o vs).heap.size = w.heap.size
  | [], _, _ => rfl
  | v :: vs, o, w => by
    show ((w.setCell ⟨b, o, none⟩ v).setCells b (o + 1) vs).heap.size = _
    rw [size_setCells b vs (o + 1) _]
    simp
theorem MO.other {w : World} {b c : Nat} {m : List Int} {vs : List Value} (h : MO w b m) (hne : b ≠ c) : MO (w.setCells c 0 vs) b m :=
  ⟨fun j v hv => by rw [World.cell?_of_block (w := w) (a := ⟨b, 0 + j, none⟩) (heap_setCells c vs 0 w b hne)]; exact h.r j v hv, World.there_setCells h.t _ _ _⟩
set_option maxRecDepth 100000 in
theorem refOf_any {w : World} {v : Value} {l : List Ex} (hr : BkE.Row w v l) (hl : l.length ≤ 1000000) :
    Calls Try.prog 40 #[v] w fun e w' => e = .returned (.agg (iv (mOf l)).toArray) ∧ Below w.heap.size w w' := by
  obtain ⟨a, c, rfl⟩ := hr.slice
  have hr' := Hid.intro hr
  clear hr
  go_enter Try.func40, Try.ntmps40
  have hA : Hid (MO (w.alloc (.cells (iv (nTo 0)).toArray 74)) w.heap.size (nTo 0)) := Hid.intro (MO.new w _ (nTo_length (by omega)))
  have hB0 : Hid (Below w.heap.size w (w.alloc (.cells (iv (nTo 0)).toArray 74))) := Hid.intro ((Below.refl _ _).alloc (Nat.le_refl _) _)
  go_wp2_with fail
  change Calls _ _ _ (w.alloc (.cells (iv (nTo 0)).toArray 74)) _
  generalize w.alloc (.cells (iv (nTo 0)).toArray 74) = w0 at *
  refine (refNone_any _).mono ?_; rintro e w1 ⟨rfl, hb⟩
  have hB1 := hB0.out.trans (hb.mono hB0.out.size)
  have hA1 := hA.out.below hb hA.out.lt
  have hN := MO.new w1 (nTo 0) (nTo_length (by omega))
  obtain ⟨f1, f2, f3, f4, f5⟩ := iv_facts (m := mNone) (by simp [mNone])
  have hA2 := hA1.below ((Below.refl w1.heap.size w1).alloc (Nat.le_refl _) (.cells (iv (nTo 0)).toArray 74)) hA1.lt
  have hB2 := hB1.alloc hB1.size (.cells (iv (nTo 0)).toArray 74)
  have hne : w.heap.size ≠ w1.heap.size := by have := hA1.lt; omega
  have hlo : w.heap.size ≤ w1.heap.size := hB1.size
  have hth : Hid ((w1.alloc (.cells (iv (nTo 0)).toArray 74)).there w1.heap.size 0 (iv mNone).toArray.size) := Hid.intro (by rw [f5]; exact hN.t)
  have hS : Hid (MO ((w1.alloc (.cells (iv (nTo 0)).toArray 74)).setCells w1.heap.size 0 (iv mNone)) w1.heap.size mNone ∧ MO ((w1.alloc (.cells (iv (nTo 0)).toArray 74)).setCells w1.heap.size 0 (iv mNone)) w.heap.size (nTo 0) ∧ Below w.heap.size w ((w1.alloc (.cells (iv (nTo 0)).toArray 74)).setCells w1.heap.size 0 (iv mNone))) := Hid.intro ⟨hN.store _ (by simp [mNone]), hA2.other hne, below_setCells _ _ _ _ hB2 hlo⟩
  have hF := Hid.intro (And.intro f4 f3)
  clear hA1 hN f1 f2 f3 f4 f5 hA2 hB2 hB1 hb hB0 hA
  go_wp2_with (refine wpList_store_mid rfl 74 _ _ rfl w1.heap.size 0 (iv mNone).toArray rfl rfl hth.out hF.out.1 hF.out.2 ?_)
  clear hth hF
  generalize w1.heap.size = B at *
  go_loopw [4] (fun jv wr => ∃ i : Nat, i ≤ l.length ∧ jv = .int .i64 i ∧ MO wr B ((l.take i).foldl mSet mNone) ∧ MO wr w.heap.size (nTo 0) ∧ Below w.heap.size w wr) (fun jv _ => l.length - (intOf jv).toNat)
  case atStart => exact ⟨0, Nat.zero_le _, rfl, hS.out.1, hS.out.2.1, hS.out.2.2⟩
  case round =>
    clear hS
    obtain ⟨i, hi, rfl, hM, hD, hB⟩ := hrel
    have i0' : (0 : Int) ≤ (i : Int) := Int.natCast_nonneg _
    have hml : ((l.take i).foldl mSet mNone).length = 64 := (fold_sane (l.take i) mNone_sane).1
    by_cases hlt : i < l.length
    · obtain ⟨g, o, ⟨p, q, r⟩, rfl, hg, hp, d0, d1, d2⟩ := erow_at (hr'.out.below hB) hlt
      have hnx : Hid ((l.take (i + 1)).foldl mSet mNone = mSet ((l.take i).foldl mSet mNone) (p, q, r)) := Hid.intro (by
        rw [List.take_add_one, hp, List.foldl_append]; rfl)
      have i1 : (i : Int) < (l.length : Int) := by omega
      simp only at d0 d1 d2
      clear hp
      generalize (l.take i).foldl mSet mNone = cur at *
      have hnl : (mSet cur (p, q, r)).length = 64 := by rw [mSet_length]; exact hml
      have hF := Hid.intro (iv_facts hml)
      have hG := Hid.intro (iv_facts hnl)
      have hM0 := Hid.intro (hM.below below_drw hM.lt)
      have hD0 := Hid.intro (hD.below below_drw hD.lt)
      have hB0 := Hid.intro (hB.trans (below_drw.mono hB.size))
      have D0 : wr.drew.cell? ⟨g, o + i * 3, none⟩ = some (.int .i64 p) := d0
      have D1 : wr.drew.cell? ⟨g, o + i * 3 + 1, none⟩ = some (.int .i64 q) := d1
      have D2 : wr.drew.cell? ⟨g, o + i * 3 + 2, none⟩ = some (.int .i64 r) := d2
      have hml2 := Hid.intro hml
      have hnl2 := Hid.intro hnl
      clear hM hD hB hml hnl
      go_wp2_with fail
      clear d0 d1 d2
      refine wp_region_any (by kernel_rfl) ?_
      change wpAny _ _ _ _ _ _ _ wr.drew
      refine wpAny_take (i := 1) (v := .slice (some ⟨g, o, none⟩) l.length c) rfl (by kernel_rfl) (by kernel_rfl) (by kernel_rfl) (fun _ _ _ h => h) (Or.inl ⟨by rfl, by intro w; go_simp⟩) ?_
      change wpAny _ _ _ _ _ _ (Act.put _ (some 13) _) _
      simp only [Act.put, List.setIfInBounds_toArray, List.set_cons_zero, List.set_cons_succ]
      refine wpAny_take (i := 2) (v := .int .i64 (i : Int)) rfl (by kernel_rfl) (by kernel_rfl) (by kernel_rfl) (fun _ _ _ h => h) (Or.inl ⟨by rfl, by intro w; go_simp⟩) ?_
      change wpAny _ _ _ _ _ _ (Act.put _ (some 14) _) _
      simp only [Act.put, List.setIfInBounds_toArray, List.set_cons_zero, List.set_cons_succ]
      refine wpAny_take (i := 3) (v := .pointer (some ⟨g, o + i * 3, none⟩)) rfl (by kernel_rfl) (by kernel_rfl) (by kernel_rfl) (fun _ _ _ h => h) (Or.inl ⟨by rfl, by intro w; go_simp⟩) ?_
      change wpAny _ _ _ _ _ _ (Act.put _ (some 15) _) _
      simp only [Act.put, List.setIfInBounds_toArray, List.set_cons_zero, List.set_cons_succ]
      refine wpAny_ready (rs := [0, 4]) (by kernel_rfl) (by simp) ?_
      refine AllReady.cons rfl (fun K hK => ?_) (AllReady.cons rfl (fun K hK => ?_) AllReady.nil)
      · rw [if_pos (by rfl)]
        refine wp_load_mid 74 _ rfl B 0 rfl (iv cur) _ hM0.out.r Try.underlying74 rfl hF.out.2.1 ?_
        refine hK _ _ ?_; clear hK K
        change wpAny _ _ _ _ _ _ (Act.put _ (some 12) _) _
        simp only [Act.put, List.setIfInBounds_toArray, List.set_cons_zero, List.set_cons_succ]
        refine wpAny_ready (rs := [4]) (by kernel_rfl) (by simp) ?_
        refine AllReady.cons rfl (fun K hK => ?_) AllReady.nil
        go_simp
        refine hK _ _ ?_; clear hK K
        try change wpAny _ _ _ _ _ _ (Act.put _ (some 16) _) _
        try simp only [Act.put, List.setIfInBounds_toArray, List.set_cons_zero, List.set_cons_succ]
        refine wpAny_ready (rs := [5]) (by kernel_rfl) (by simp) ?_
        refine AllReady.cons rfl (fun K hK => ?_) AllReady.nil
        go_simp
        go_at_call 80
        refine (refMSet_any cur hml2.out (p, q, r) _).mono ?_; rintro e w4 ⟨rfl, hb4⟩
        try (go_wp2_with fail)
        have hM4 := hM0.out.below hb4 hM0.out.lt
        have hD4 := hD0.out.below hb4 hD0.out.lt
        have hB4 := hB0.out.trans (hb4.mono hB0.out.size)
        refine wpAny_ready (rs := [6]) (by kernel_rfl) (by simp) ?_
        refine AllReady.cons rfl (fun K hK => ?_) AllReady.nil
        rw [if_pos (by rfl)]
        refine wp_store_mid 74 _ _ rfl B 0 (iv (mSet cur (p, q, r))).toArray rfl rfl (by rw [hG.out.2.2.2.2]; exact hM4.t) hG.out.2.2.2.1 hG.out.2.2.1 ?_
        refine hK _ _ ?_; clear hK K
        refine wpAny_done (by kernel_rfl) ?_ _
        have hS := Hid.intro (And.intro (hM4.store (mSet cur (p, q, r)) hnl2.out) (And.intro (hD4.other (vs := iv (mSet cur (p, q, r))) hne) (below_setCells B (iv (mSet cur (p, q, r))) 0 w4 hB4 hlo)))
        clear hM4 hD4 hB4 hb4
        go_wp2
        go_roundw
        case rel => exact ⟨i + 1, by omega, by go_num, by rw [hnx.out]; exact hS.out.1, hS.out.2.1, hS.out.2.2⟩
        case measure => simp [intOf]; omega
      · go_simp
        refine hK _ _ ?_; clear hK K
        try change wpAny _ _ _ _ _ _ (Act.put _ (some 16) _) _
        try simp only [Act.put, List.setIfInBounds_toArray, List.set_cons_zero, List.set_cons_succ]
        refine wpAny_ready (rs := [0]) (by kernel_rfl) (by simp) ?_
        refine AllReady.cons rfl (fun K hK => ?_) AllReady.nil
        rw [if_pos (by rfl)]
        refine wp_load_mid 74 _ rfl B 0 rfl (iv cur) _ hM0.out.r Try.underlying74 rfl hF.out.2.1 ?_
        refine hK _ _ ?_; clear hK K
        change wpAny _ _ _ _ _ _ (Act.put _ (some 12) _) _
        simp only [Act.put, List.setIfInBounds_toArray, List.set_cons_zero, List.set_cons_succ]
        refine wpAny_ready (rs := [5]) (by kernel_rfl) (by simp) ?_
        refine AllReady.cons rfl (fun K hK => ?_) AllReady.nil
        go_simp
        go_at_call 80
        refine (refMSet_any cur hml2.out (p, q, r) _).mono ?_; rintro e w4 ⟨rfl, hb4⟩
        try (go_wp2_with fail)
        have hM4 := hM0.out.below hb4 hM0.out.lt
        have hD4 := hD0.out.below hb4 hD0.out.lt
        have hB4 := hB0.out.trans (hb4.mono hB0.out.size)
        refine wpAny_ready (rs := [6]) (by kernel_rfl) (by simp) ?_
        refine AllReady.cons rfl (fun K hK => ?_) AllReady.nil
        rw [if_pos (by rfl)]
        refine wp_store_mid 74 _ _ rfl B 0 (iv (mSet cur (p, q, r))).toArray rfl rfl (by rw [hG.out.2.2.2.2]; exact hM4.t) hG.out.2.2.2.1 hG.out.2.2.1 ?_
        refine hK _ _ ?_; clear hK K
        refine wpAny_done (by kernel_rfl) ?_ _
        have hS := Hid.intro (And.intro (hM4.store (mSet cur (p, q, r)) hnl2.out) (And.intro (hD4.other (vs := iv (mSet cur (p, q, r))) hne) (below_setCells B (iv (mSet cur (p, q, r))) 0 w4 hB4 hlo)))
        clear hM4 hD4 hB4 hb4
        go_wp2
        go_roundw
        case rel => exact ⟨i + 1, by omega, by go_num, by rw [hnx.out]; exact hS.out.1, hS.out.2.1, hS.out.2.2⟩
        case measure => simp [intOf]; omega
    · have hi' : i = l.length := by omega
      have hfull : (l.take i).foldl mSet mNone = mOf l := by rw [hi', List.take_length]; rfl
      rw [hfull] at hM hml
      clear hfull
      obtain ⟨f1, f2, f3, f4, f5⟩ := iv_facts hml
      have hF := Hid.intro (And.intro f2 (And.intro f4 f3))
      have hth : Hid (wr.there w.heap.size 0 (iv (mOf l)).toArray.size) := Hid.intro (by rw [f5]; exact hD.t)
      have hrm := Hid.intro hM.r
      have hdl := hD.lt
      have hthr : Hid (wr.there w.heap.size 0 (iv (mOf l)).length) := Hid.intro (by rw [f1]; exact hD.t)
      clear f1 f2 f3 f4 f5 hM hD
      go_wp2_with (first
        | (refine wpList_load_mid rfl 74 _ rfl B 0 rfl (iv (mOf l)) _ hrm.out Try.underlying74 rfl hF.out.1 ?_)
        | (refine wpList_store_mid rfl 74 _ _ rfl w.heap.size 0 (iv (mOf l)).toArray rfl rfl hth.out hF.out.2.1 hF.out.2.2 ?_))
      refine bodyPost_ret (v := .agg (iv (mOf l)).toArray) (results_mid Try.results40 _ _ w.heap.size (iv (mOf l)) _ rfl ?_ Try.underlying74 rfl hF.out.1) rfl ⟨rfl, ?_⟩
      · exact World.rangeAt_setCells_same _ _ _ _ hthr.out
      · exact below_setCells _ _ _ _ hB (Nat.le_refl _)
end Go.Proofs.Ytnboajhcjgcpfaa
