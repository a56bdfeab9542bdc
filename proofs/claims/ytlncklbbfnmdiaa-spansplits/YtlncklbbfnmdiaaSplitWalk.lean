/-
  SpanSplits' walk: of a whole span, where what Less and Meet answer are spans that have each block of it once, the law returns true; nothing that was there is written.
-/
import Derived.Test.YtlncklbbfnmdiaaSetLaws
import Derived.Test.YtlncklbbfnmdiaaLessZero
namespace Go.Proofs.Ytlncklbbfnmdiaa
open Go.ChangeShapes Go.WideShapes Go.ChangeAt Go.RowKit
attribute [local go_sem ↓] Go.wp_at_zero Go.wp_at_succ

def spansV (ps : List (Int × Int)) : List Value := ps.flatMap fun p => [.int .i64 p.1, .int .i64 p.2]
def sumN (ps : List (Int × Int)) : Int := ps.foldl (fun s p => s + p.2) 0

theorem spansV_get : ∀ (ps : List (Int × Int)) (i : Nat) (p : Int × Int), ps[i]? = some p → (spansV ps)[i * 2]? = some (.int .i64 p.1) ∧ (spansV ps)[i * 2 + 1]? = some (.int .i64 p.2)
  | [], i, p, h => by simp at h
  | q :: ps, 0, p, h => by simp at h; subst h; exact ⟨rfl, rfl⟩
  | q :: ps, i + 1, p, h => by
    have ih := spansV_get ps i p (by simpa using h)
    have e1 : (i + 1) * 2 = i * 2 + 1 + 1 := by omega
    rw [e1]
    exact ih
theorem sumN_snoc (ps : List (Int × Int)) (p : Int × Int) : sumN (ps ++ [p]) = sumN ps + p.2 := by simp [sumN]

theorem all_one (l : List Bool) : (bv l).toArray.all (·.oneCell') = true :=
  all_oneCell_toArray (by intro v hv; simp only [bv, List.mem_map] at hv; obtain ⟨b, _, rfl⟩ := hv; rfl)
theorem infoL {l : List Bool} (hl : l.length = 64) : (Try.prog.info? 26).map (·.size) = some (bv l).length := by rw [bv_length, hl]; exact info26
theorem infoA {l : List Bool} (hl : l.length = 64) : (Try.prog.info? 26).map (·.size) = some (bv l).toArray.size := by simpa using infoL hl

theorem grown_refl (w : World) (row : Option Nat) : w.grownBy w row := ⟨rfl, rfl, rfl, Nat.le_refl _, fun _ _ _ => rfl⟩
theorem grown_trans {a b c : World} {row : Option Nat} (h : a.grownBy b row) (k : b.grownBy c row) : a.grownBy c row :=
  ⟨k.os.trans h.os, k.tape.trans h.tape, k.output.trans h.output, Nat.le_trans h.size k.size, fun i hi hne => (k.block i (Nat.lt_of_lt_of_le hi h.size) hne).trans (h.block i hi hne)⟩
theorem grown_below {a b : World} {row : Option Nat} (h : Below a.heap.size a b) : a.grownBy b row := ⟨h.os, h.tape, h.output, h.size, fun i hi _ => h.block i hi⟩
theorem grown_setCell (w : World) (b o : Nat) (v : Value) : w.grownBy (w.setCell ⟨b, o, none⟩ v) (some b) := by
  have h : Below b w (w.setCell ⟨b, o, none⟩ v) := (Below.refl _ _).setCell (p := ⟨b, o, none⟩) (Nat.le_refl _) v
  exact ⟨h.os, h.tape, h.output, h.size, fun i hi hne => Below.heap_setCell w ⟨b, o, none⟩ v i (fun e => hne (by rw [e]))⟩
theorem grown_setCells (b : Nat) : ∀ (vs : List Value) (o : Nat) (w : World), w.grownBy (w.setCells b o vs) (some b)
  | [], _, w => grown_refl w _
  | v :: r, o, w => grown_trans (grown_setCell w b o v) (grown_setCells b r (o + 1) _)

/-- A set stored into a block: what is there behind it, and that all other blocks are as they were. -/
theorem wpList_store_set {ops : Array Oper} {rest : List Oper} {op : Oper} {a : Act} {w : World} {Q : Exit → Act → World → Prop} (hgd : op.guard = none) (x y : Operand) (ho : op.op = .store 26 x y)
    (b : Nat) (l : List Bool) (hl : l.length = 64) (hx : a.eval x = .pointer (some ⟨b, 0, none⟩)) (hy : a.eval y = .agg (bv l).toArray) (ht : w.there b 0 64)
    (h : ∀ w', w'.rangeAt b 0 (bv l) → w'.there b 0 64 → w.grownBy w' (some b) → wpList Try.prog ops Q rest (a.put op.dst undef) w') : wpList Try.prog ops Q (op :: rest) a w := by
  have hth : w.there b 0 (bv l).toArray.size := by simpa [bv_length, hl] using ht
  refine wpList_store_mid hgd 26 x y ho b 0 (bv l).toArray hx hy hth (infoA hl) (all_one l) (h _ ?_ (World.there_setCells ht _ _ _) (grown_setCells _ _ _ _))
  exact World.rangeAt_setCells_same _ _ _ _ (by simpa using hth)
theorem wp_store_set {op : Oper} {a : Act} {w : World} {K : Act → World → Prop} {Q : Exit → Act → World → Prop} (x y : Operand) (ho : op.op = .store 26 x y)
    (b : Nat) (l : List Bool) (hl : l.length = 64) (hx : a.eval x = .pointer (some ⟨b, 0, none⟩)) (hy : a.eval y = .agg (bv l).toArray) (ht : w.there b 0 64)
    (h : ∀ w', w'.rangeAt b 0 (bv l) → w'.there b 0 64 → w.grownBy w' (some b) → K (a.put op.dst undef) w') : op.wp Try.prog a w K Q := by
  have hth : w.there b 0 (bv l).toArray.size := by simpa [bv_length, hl] using ht
  refine wp_store_mid 26 x y ho b 0 (bv l).toArray hx hy hth (infoA hl) (all_one l) (h _ ?_ (World.there_setCells ht _ _ _) (grown_setCells _ _ _ _))
  exact World.rangeAt_setCells_same _ _ _ _ (by simpa using hth)

theorem new_set {w1 w2 : World} {o : Obj} (h : (w1.alloc o).grownBy w2 (some w1.heap.size)) : Below w1.heap.size w1 w2 ∧ w1.heap.size < w2.heap.size := by
  have hs := h.size
  simp at hs
  refine ⟨⟨h.os, h.tape, h.output, by omega, fun k hk => ?_⟩, by omega⟩
  rw [h.block k (by simp; omega) (by simp; omega)]
  exact Below.heap_alloc w1 o k hk

theorem row_cells {w : World} {base g cap : Nat} {ps : List (Int × Int)} (h : w.ownsRow base 23 2 (.slice (some ⟨g, 0, none⟩) ps.length cap) ps.length (spansV ps)) (i : Nat) (p : Int × Int) (hp : ps[i]? = some p) :
    w.cell? ⟨g, i * 2, none⟩ = some (.int .i64 p.1) ∧ w.cell? ⟨g, i * 2 + 1, none⟩ = some (.int .i64 p.2) := by
  have hi : i < ps.length := (List.getElem?_eq_some_iff.1 hp).1
  obtain ⟨h0, h1⟩ := spansV_get ps i p hp
  exact ⟨(h.cellAt (i * 2) (by omega)).trans h0, (h.cellAt (i * 2 + 1) (by omega)).trans h1⟩

theorem sumN_bound : ∀ (ps : List (Int × Int)), (∀ p ∈ ps, 0 ≤ p.1 ∧ 1 ≤ p.2 ∧ p.2 ≤ 64 - p.1) → ps.length ≤ 3 → ∀ i, 0 ≤ sumN (ps.take i) ∧ sumN (ps.take i) ≤ 192 := by
  intro ps hw hl i
  have key : ∀ (qs : List (Int × Int)) (s : Int), (∀ p ∈ qs, 0 ≤ p.1 ∧ 1 ≤ p.2 ∧ p.2 ≤ 64 - p.1) → s ≤ qs.foldl (fun s p => s + p.2) s ∧ qs.foldl (fun s p => s + p.2) s ≤ s + 64 * qs.length := by
    intro qs
    induction qs with
    | nil => intro s _; simp
    | cons q qs ih =>
      intro s h
      have h1 := h q (by simp)
      have h2 := ih (s + q.2) (fun p hp => h p (by simp [hp]))
      simp only [List.foldl_cons, List.length_cons]
      omega
  have h := key (ps.take i) 0 (fun p hp => hw p (List.mem_of_mem_take hp))
  have hlen : (ps.take i).length ≤ 3 := by rw [List.length_take]; omega
  unfold sumN
  omega

theorem wrap_small (n : Int) (h0 : 0 ≤ n) (h1 : n ≤ 1000) : IntKind.i64.wrap n = n := by
  rw [IntKind.wrap_i64]
  omega

theorem valid_at (f n k : Int) (w : World) (h1 : 0 ≤ f) (h2 : 1 ≤ n) (h3 : n ≤ 64 - f) (h4 : f + n ≤ k) :
    Calls Try.prog 15 #[.agg #[.int .i64 f, .int .i64 n], .int .i64 k] w fun e w' => e = .returned (.bool true) ∧ Below w.heap.size w w' := by
  have h := valid_yes f n k w h1 h2 h3
  rw [decide_eq_true h4] at h
  exact h

theorem own_mono {w : World} {base base' : Nat} {v : Value} {n : Nat} {xs : List Value} (h : w.ownsRow base 23 2 v n xs) (hb : base' ≤ base) : w.ownsRow base' 23 2 v n xs := by
  refine ⟨h.1, ?_⟩
  rcases h.2 with h0 | ⟨g, cap, cur, hv, hg, hr⟩
  · exact .inl h0
  · exact .inr ⟨g, cap, cur, hv, Nat.le_trans hb hg, hr⟩

set_option maxRecDepth 100000 in
set_option maxHeartbeats 1000000 in
theorem split_no (f n g m x y : Int) (ps : List (Int × Int)) (w : World) (h1 : 0 ≤ f) (h2 : 1 ≤ n) (h3 : n ≤ 64 - f)
    (hwh : Hid (∀ p ∈ ps, 0 ≤ p.1 ∧ 1 ≤ p.2 ∧ p.2 ≤ 64 - p.1)) (hne : Hid (0 < ps.length ∧ ps.length ≤ 3)) (hsum : Hid (sumN ps = n)) (hput : Hid (putL true zeros ps = putSpan true zeros (f, n)))
    (hl : Hid (∀ w, Calls Try.prog 13 #[.agg #[.int .i64 f, .int .i64 n], .agg #[.int .i64 g, .int .i64 m]] w fun e w' => ∃ v, e = .returned v ∧ w'.ownsRow w.heap.size 23 2 v ps.length (spansV ps) ∧ Below w.heap.size w w'))
    (hm : Hid (∀ w, Calls Try.prog 11 #[.agg #[.int .i64 f, .int .i64 n], .agg #[.int .i64 g, .int .i64 m]] w fun e w' => e = .returned (.tuple #[.agg #[.int .i64 x, .int .i64 y], .bool false]) ∧ Below w.heap.size w w')) :
    Calls Try.prog 5 #[.agg #[.int .i64 f, .int .i64 n], .agg #[.int .i64 g, .int .i64 m]] w fun e w' => e = .returned (.bool true) ∧ Below w.heap.size w w' := by
  go_enter Try.func5, Try.ntmps5
  go_wp2_with fail
  refine (refWhole_yes _ _ _ ⟨h1, h2, h3⟩).mono ?_; rintro e w0 ⟨rfl, hb⟩
  obtain ⟨zb, a0, a1, b0, b1⟩ := cells2 hb
  have za : w.heap.size < w0.heap.size := by omega
  have hB : Below w.heap.size w w0 := below2 hb
  clear hb
  go_wp2_with fail
  refine (alive_any _).mono ?_; rintro e w1 ⟨rfl, hb⟩
  have T := carry0 za a0 a1 hb; clear za a0 a1; obtain ⟨a0, a1, za⟩ := T
  have T := carry0 zb b0 b1 hb; clear zb b0 b1; obtain ⟨b0, b1, zb⟩ := T
  replace hB : Below w.heap.size w w1 := below_step hB hb
  clear hb
  have hps : w.heap.size < w1.heap.size := za
  go_wp2_with (refine wpList_store_set rfl _ _ rfl w1.heap.size zeros rfl rfl rfl (there_new (by simp)) ?_; intro w2 hr ht hgr; obtain ⟨hb, zs⟩ := new_set hgr; clear hgr; have T := carry0 za a0 a1 hb; clear za a0 a1; obtain ⟨a0, a1, za⟩ := T; have T := carry0 zb b0 b1 hb; clear zb b0 b1; obtain ⟨b0, b1, zb⟩ := T)
  replace hB : Below w.heap.size w w2 := below_step hB hb
  clear hb
  generalize w1.heap.size = bs at *
  refine (hl.out _).mono ?_; rintro e w3 ⟨v, rfl, hown, hb⟩
  have T := carry0 za a0 a1 hb; clear za a0 a1; obtain ⟨a0, a1, za⟩ := T
  have T := carry0 zb b0 b1 hb; clear zb b0 b1; obtain ⟨b0, b1, zb⟩ := T
  replace hr := range_below hb zs hr
  replace ht := there_below hb zs ht
  have hown := own_mono hown (Nat.succ_le_of_lt zs)
  replace zs : bs < w3.heap.size := Nat.lt_of_lt_of_le zs hb.size
  replace hB : Below w.heap.size w w3 := below_step hB hb
  clear hb
  go_wp2_with fail
  refine (hm.out _).mono ?_; rintro e w4 ⟨rfl, hb⟩
  have T := carry0 za a0 a1 hb; clear za a0 a1; obtain ⟨a0, a1, za⟩ := T
  clear zb b0 b1
  replace hr := range_below hb zs hr
  replace ht := there_below hb zs ht
  replace hown := own_below hown hb
  replace zs : bs < w4.heap.size := Nat.lt_of_lt_of_le zs hb.size
  replace hB : Below w.heap.size w w4 := below_step hB hb
  clear hb
  obtain ⟨gv, cv, rfl, hgb, hgz⟩ := hown.form hne.out.1
  go_wp2_with fail
  generalize hW : w4.alloc (.cells #[.int .i64 x, .int .i64 y] 23) = W
  have hb : Below w4.heap.size w4 W := by rw [← hW]; exact below_alc
  clear hW
  have T := carry0 za a0 a1 hb; clear za a0 a1; obtain ⟨a0, a1, za⟩ := T
  replace hr := range_below hb zs hr
  replace ht := there_below hb zs ht
  replace hown := own_below hown hb
  replace zs : bs < W.heap.size := Nat.lt_of_lt_of_le zs hb.size
  replace hB : Below w.heap.size w W := below_step hB hb
  clear hb hgz
  -- the loop: W: the world ahead of it
  have HW : Hid (W.ownsRow (bs + 1) 23 2 (.slice (some ⟨gv, 0, none⟩) ps.length cv) ps.length (spansV ps) ∧ W.cell? ⟨w.heap.size, 0, none⟩ = some (.int .i64 f) ∧ W.cell? ⟨w.heap.size, 1, none⟩ = some (.int .i64 n) ∧ w.heap.size < W.heap.size ∧ Below w.heap.size w W) := ⟨hown, a0, a1, za, hB⟩
  clear hown a0 a1 za hB
  go_loopw [5, 10] (fun nv iv wr => ∃ i : Nat, i ≤ ps.length ∧ iv = .int .i64 i ∧ nv = .int .i64 (sumN (ps.take i)) ∧ wr.rangeAt bs 0 (bv (putL true zeros (ps.take i))) ∧ wr.there bs 0 64 ∧ bs < wr.heap.size ∧ W.grownBy wr (some bs))
    (fun _ iv _ => ps.length - (intOf iv).toNat)
  case atStart => exact ⟨0, Nat.zero_le _, rfl, rfl, hr, ht, zs, grown_refl _ _⟩
  case round =>
    clear hr ht zs
    obtain ⟨i, hi, rfl, rfl, hr, ht, zs, hg⟩ := hrel
    by_cases hlt : i < ps.length
    · obtain ⟨p, hp⟩ : ∃ p, ps[i]? = some p := ⟨ps[i]'hlt, by simp [hlt]⟩
      have hpm : p ∈ ps := List.mem_of_getElem? hp
      obtain ⟨pa, pb⟩ := p
      obtain ⟨u1, u2, u3⟩ := hwh.out _ hpm
      have hcz : Hid (ps.length ≤ cv ∧ gv < W.heap.size ∧ bs + 1 ≤ gv) := by
        rcases HW.out.1.2 with ⟨hh, _⟩ | ⟨g', cap', cur', he, hge, hbl, hle, _⟩
        · cases hh
        · simp at he
          obtain ⟨rfl, rfl⟩ := he
          refine ⟨hle, ?_, hge⟩
          rcases Nat.lt_or_ge gv W.heap.size with hlt' | hge'
          · exact hlt'
          · rw [Array.getElem?_eq_none hge'] at hbl; cases hbl
      have hrc := row_cells HW.out.1 i (pa, pb) hp
      have d0 : wr.cell? ⟨gv, i * 2, none⟩ = some (.int .i64 pa) := by rw [hg.cell_far ⟨gv, i * 2, none⟩ hcz.out.2.1 (by have := hcz.out.2.2; simp; omega)]; exact hrc.1
      have d1 : wr.cell? ⟨gv, i * 2 + 1, none⟩ = some (.int .i64 pb) := by rw [hg.cell_far ⟨gv, i * 2 + 1, none⟩ hcz.out.2.1 (by have := hcz.out.2.2; simp; omega)]; exact hrc.2
      have hgr : gv < wr.heap.size := Nat.lt_of_lt_of_le hcz.out.2.1 hg.size
      have hSN : Hid (sumN (ps.take (i + 1)) = sumN (ps.take i) + pb ∧ putL true zeros (ps.take (i + 1)) = putL true (putL true zeros (ps.take i)) [(pa, pb)]) := by
        have e : ps.take (i + 1) = ps.take i ++ [(pa, pb)] := by rw [List.take_add_one, hp]; rfl
        exact ⟨by rw [e, sumN_snoc], by rw [e, putL, List.foldl_append]; rfl⟩
      have hsb := sumN_bound ps hwh.out hne.out.2 i
      obtain ⟨hs0, hs1⟩ := hsb
      have hLI : Hid ((putL true zeros (ps.take i)).length = 64) := by show _ = _; rw [putL_length]; rfl
      have i0 : (0 : Int) ≤ (i : Int) := Int.natCast_nonneg _
      have i1 : (i : Int) < (ps.length : Int) := by omega
      have i2 : (i : Int) + 1 ≤ (cv : Int) := by have := hcz.out.1; omega
      have hl3 : (ps.length : Int) ≤ 3 := by have := hne.out.2; omega
      have i3 : (0 : Int) ≤ (i : Int) + 1 := by omega
      have i4 : ¬ cv = i := by omega
      have i5 : IntKind.i64.wrap ((i : Int) + 1) = (i : Int) + 1 := wrap_small _ (by omega) (by omega)
      clear hp hpm hrc
      go_wp2_with fail
      refine (valid_at pa pb 64 _ u1 u2 u3 (by omega)).mono ?_; rintro e wz ⟨rfl, hb⟩
      replace d0 : wz.cell? ⟨gv, i * 2, none⟩ = some (.int .i64 pa) := by rw [hb.cell (p := ⟨gv, i * 2, none⟩) hgr]; exact d0
      replace d1 : wz.cell? ⟨gv, i * 2 + 1, none⟩ = some (.int .i64 pb) := by rw [hb.cell (p := ⟨gv, i * 2 + 1, none⟩) hgr]; exact d1
      replace hgr : gv < wz.heap.size := Nat.lt_of_lt_of_le hgr hb.size
      replace hr := range_below hb zs hr
      replace ht := there_below hb zs ht
      replace zs : bs < wz.heap.size := Nat.lt_of_lt_of_le zs hb.size
      replace hg := grown_trans hg (grown_below (row := some bs) hb)
      clear hb
      go_wp2_with fail
      refine wp_region_any (by kernel_rfl) ?_
      change wpAny _ _ _ _ _ _ _ (World.drew _)
      refine wpAny_take (i := 1) (v := .slice (some ⟨gv, 0, none⟩) ps.length cv) rfl (by kernel_rfl) (by kernel_rfl) (by kernel_rfl) (fun _ _ _ h => h) (Or.inl ⟨by rfl, fun w => by go_simp⟩) ?_
      change wpAny _ _ _ _ _ _ (Act.put _ (some 55) _) _
      simp only [Act.put, List.setIfInBounds_toArray, List.set_cons_zero, List.set_cons_succ]
      refine wpAny_take (i := 2) (v := .int .i64 i) rfl (by kernel_rfl) (by kernel_rfl) (by kernel_rfl) (fun _ _ _ h => h) (Or.inl ⟨by rfl, fun w => by go_simp⟩) ?_
      change wpAny _ _ _ _ _ _ (Act.put _ (some 56) _) _
      simp only [Act.put, List.setIfInBounds_toArray, List.set_cons_zero, List.set_cons_succ]
      refine wpAny_take (i := 3) (v := .int .i64 i) rfl (by kernel_rfl) (by kernel_rfl) (by kernel_rfl) (fun _ _ _ h => h) (Or.inl ⟨by rfl, fun w => by go_simp⟩) ?_
      change wpAny _ _ _ _ _ _ (Act.put _ (some 57) _) _
      simp only [Act.put, List.setIfInBounds_toArray, List.set_cons_zero, List.set_cons_succ]
      refine wpAny_take (i := 4) (v := .int .i64 (i + 1)) rfl (by kernel_rfl) (by kernel_rfl) (by kernel_rfl) (fun _ _ _ h => h) (Or.inl ⟨by rfl, fun w => by go_simp⟩) ?_
      change wpAny _ _ _ _ _ _ (Act.put _ (some 58) _) _
      simp only [Act.put, List.setIfInBounds_toArray, List.set_cons_zero, List.set_cons_succ]
      refine wpAny_take (i := 5) (v := .slice (some ⟨gv, i * 2, none⟩) 1 (cv - i)) rfl (by kernel_rfl) (by kernel_rfl) (by kernel_rfl) (fun _ _ _ h => h) (Or.inl ⟨by rfl, fun w => by go_simp⟩) ?_
      change wpAny _ _ _ _ _ _ (Act.put _ (some 59) _) _
      simp only [Act.put, List.setIfInBounds_toArray, List.set_cons_zero, List.set_cons_succ]
      refine wpAny_ready (rs := [0]) (by kernel_rfl) (by simp) ?_
      refine AllReady.cons rfl (fun K hK => ?_) AllReady.nil
      rw [if_pos (by rfl)]
      refine wp_load_mid 26 _ rfl bs 0 rfl (bv (putL true zeros (ps.take i))) _ ((World.rangeAt_drew _ _ _ _).2 hr) Try.underlying26 rfl (infoL hLI.out) ?_
      refine hK _ _ ?_; clear hK K
      change wpAny _ _ _ _ _ _ (Act.put _ (some 54) _) _
      simp only [Act.put, List.setIfInBounds_toArray, List.set_cons_zero, List.set_cons_succ]
      refine wpAny_ready (rs := [6]) (by kernel_rfl) (by simp) ?_
      refine AllReady.cons rfl (fun K hK => ?_) AllReady.nil
      go_simp
      refine (put_any (putL true zeros (ps.take i)) hLI.out gv (i * 2) 1 (cv - i) [(pa, pb)] rfl (by decide) true wz.drew (by exact hgr) ?_).mono ?_
      · intro j p hj
        match j, hj with
        | 0, hj => simp at hj; subst hj; simpa using ⟨d0, d1⟩
      rintro e wp ⟨rfl, hb⟩
      replace hb : Below wz.heap.size wz wp := below_drew hb
      replace ht := there_below hb zs ht
      replace zs : bs < wp.heap.size := Nat.lt_of_lt_of_le zs hb.size
      replace hg := grown_trans hg (grown_below (row := some bs) hb)
      clear hb hr d0 d1 hgr
      go_wp2_with fail
      refine wpAny_ready (rs := [7]) (by kernel_rfl) (by simp) ?_
      refine AllReady.cons rfl (fun K hK => ?_) AllReady.nil
      rw [if_pos (by rfl)]
      refine wp_store_set _ _ rfl bs (putL true (putL true zeros (ps.take i)) [(pa, pb)]) (by rw [putL_length]; exact hLI.out) rfl rfl ht ?_
      intro wq hr2 ht2 hg2
      refine hK _ _ ?_; clear hK K
      refine wpAny_done (by kernel_rfl) ?_ _
      replace zs : bs < wq.heap.size := Nat.lt_of_lt_of_le zs hg2.size
      replace hg := grown_trans hg hg2
      clear hg2 ht
      go_wp2
      go_roundw
      case rel => exact ⟨i + 1, by omega, by go_num, by rw [hSN.out.1], by rw [hSN.out.2]; exact hr2, ht2, zs, hg⟩
      case measure => simp [intOf]; omega
    · have hil : i = ps.length := by omega
      have htk : ps.take i = ps := by rw [hil]; exact List.take_length
      rw [htk] at hr ⊢
      rw [hsum.out]
      rw [hput.out] at hr
      subst hil
      clear htk
      have hXL : Hid ((putSpan true zeros (f, n)).length = 64) := by show _ = _; rw [putSpan_length]; rfl
      have c0 : wr.cell? ⟨w.heap.size, 0, none⟩ = some (.int .i64 f) := by rw [hg.cell_far ⟨w.heap.size, 0, none⟩ HW.out.2.2.2.1 (by simp; omega)]; exact HW.out.2.1
      have c1 : wr.cell? ⟨w.heap.size, 1, none⟩ = some (.int .i64 n) := by rw [hg.cell_far ⟨w.heap.size, 1, none⟩ HW.out.2.2.2.1 (by simp; omega)]; exact HW.out.2.2.1
      have hzw : w.heap.size < wr.heap.size := Nat.lt_of_lt_of_le HW.out.2.2.2.1 hg.size
      have hBr : Below w.heap.size w wr := HW.out.2.2.2.2.grown hg HW.out.2.2.2.2.size (fun k hk => by simp at hk; omega)
      clear ht hg
      go_wp2_with fail
      refine wp_region_held_drew (S := fun w' => w'.rangeAt bs 0 (bv (putSpan true zeros (f, n))) ∧ w'.cell? ⟨w.heap.size, 0, none⟩ = some (.int .i64 f) ∧ w'.cell? ⟨w.heap.size, 1, none⟩ = some (.int .i64 n)) (by kernel_rfl) ⟨(World.rangeAt_drew _ _ _ _).2 hr, c0, c1⟩ (fun hHeld => ?_)
      refine wpAnyH_take (i := 0) (v := .int .i64 n) rfl (by kernel_rfl) (by kernel_rfl) (by kernel_rfl) (fun _ _ _ h => h) (Or.inl ⟨by rfl, fun w hSw => by obtain ⟨s0, s1, s2⟩ := hSw; clear s0; go_simp⟩) hHeld ?_
      change wpAnyH _ _ _ _ _ _ _ (Act.put _ (some 61) _) _
      simp only [Act.put, List.setIfInBounds_toArray, List.set_cons_zero, List.set_cons_succ]
      refine wpAnyH_take (i := 1) (v := .pointer (some ⟨w.heap.size, 1, none⟩)) rfl (by kernel_rfl) (by kernel_rfl) (by kernel_rfl) (fun _ _ _ h => h) (Or.inl ⟨by rfl, fun w' hSw => by clear hSw; go_simp⟩) hHeld ?_
      change wpAnyH _ _ _ _ _ _ _ (Act.put _ (some 62) _) _
      simp only [Act.put, List.setIfInBounds_toArray, List.set_cons_zero, List.set_cons_succ]
      refine wpAnyH_take (i := 2) (v := .int .i64 n) rfl (by kernel_rfl) (by kernel_rfl) (by kernel_rfl) (fun _ _ _ h => h) (Or.inl ⟨by rfl, fun w hSw => by obtain ⟨s0, s1, s2⟩ := hSw; clear s0; go_simp⟩) hHeld ?_
      change wpAnyH _ _ _ _ _ _ _ (Act.put _ (some 63) _) _
      simp only [Act.put, List.setIfInBounds_toArray, List.set_cons_zero, List.set_cons_succ]
      refine wpAnyH_take (i := 3) (v := .bool true) rfl (by kernel_rfl) (by kernel_rfl) (by kernel_rfl) (fun _ _ _ h => h) (Or.inl ⟨by rfl, fun w hSw => by obtain ⟨s0, s1, s2⟩ := hSw; clear s0; go_simp⟩) hHeld ?_
      change wpAnyH _ _ _ _ _ _ _ (Act.put _ (some 64) _) _
      simp only [Act.put, List.setIfInBounds_toArray, List.set_cons_zero, List.set_cons_succ]
      refine wpAnyH_take (i := 4) (v := .bool true) rfl (by kernel_rfl) (by kernel_rfl) (by kernel_rfl) (fun _ _ _ h => h) (Or.inl ⟨by rfl, fun w hSw => by obtain ⟨s0, s1, s2⟩ := hSw; clear s0; go_simp⟩) hHeld ?_
      change wpAnyH _ _ _ _ _ _ _ (Act.put _ (some 65) _) _
      simp only [Act.put, List.setIfInBounds_toArray, List.set_cons_zero, List.set_cons_succ]
      refine wpAnyH_take (i := 5) (v := .agg (bv (putSpan true zeros (f, n))).toArray) rfl (by kernel_rfl) (by kernel_rfl) (by kernel_rfl) (fun _ _ _ h => h) (yieldsIf_load_mid (by rfl) 26 _ rfl bs 0 rfl (bv (putSpan true zeros (f, n))) _ (fun w h => h.1) Try.underlying26 rfl (infoL hXL.out)) hHeld ?_
      change wpAnyH _ _ _ _ _ _ _ (Act.put _ (some 66) _) _
      simp only [Act.put, List.setIfInBounds_toArray, List.set_cons_zero, List.set_cons_succ]
      refine wpAnyH_take (i := 6) (v := .agg #[.int .i64 f, .int .i64 n]) rfl (by kernel_rfl) (by kernel_rfl) (by kernel_rfl) (fun _ _ _ h => h) (Or.inl ⟨by rfl, fun w hSw => by obtain ⟨s0, s1, s2⟩ := hSw; clear s0; go_simp⟩) hHeld ?_
      change wpAnyH _ _ _ _ _ _ _ (Act.put _ (some 67) _) _
      simp only [Act.put, List.setIfInBounds_toArray, List.set_cons_zero, List.set_cons_succ]
      refine wpAnyH_ready (rs := [7]) (by kernel_rfl) (by simp) ?_
      refine AllReadyH.cons rfl (fun K hK => ?_) AllReadyH.nil
      go_simp
      refine (set_any f n _).mono ?_; rintro e wt ⟨rfl, hb⟩
      replace hb : Below wr.heap.size wr wt := below_drew hb
      refine hK.out _ _ ⟨range_below hb zs hr, by rw [hb.cell (p := ⟨w.heap.size, 0, none⟩) hzw]; exact c0, by rw [hb.cell (p := ⟨w.heap.size, 1, none⟩) hzw]; exact c1⟩ (fun hHeld => ?_); clear hK K
      have heq := sets_eq _ _ hXL.out hXL.out
      refine wpAnyH_take (i := 8) (v := .bool true) rfl (by kernel_rfl) (by kernel_rfl) (by kernel_rfl) (fun _ _ _ h => h) (Or.inl ⟨by rfl, fun w' hSw => by clear hSw; go_simp⟩) hHeld ?_
      change wpAnyH _ _ _ _ _ _ _ (Act.put _ (some 69) _) _
      simp only [Act.put, List.setIfInBounds_toArray, List.set_cons_zero, List.set_cons_succ]
      refine wpAnyH_take (i := 9) (v := .bool true) rfl (by kernel_rfl) (by kernel_rfl) (by kernel_rfl) (fun _ _ _ h => h) (Or.inl ⟨by rfl, fun w hSw => by obtain ⟨s0, s1, s2⟩ := hSw; clear s0; go_simp⟩) hHeld ?_
      change wpAnyH _ _ _ _ _ _ _ (Act.put _ (some 70) _) _
      simp only [Act.put, List.setIfInBounds_toArray, List.set_cons_zero, List.set_cons_succ]
      refine wpAnyH_take (i := 10) (v := .bool true) rfl (by kernel_rfl) (by kernel_rfl) (by kernel_rfl) (fun _ _ _ h => h) (Or.inl ⟨by rfl, fun w hSw => by obtain ⟨s0, s1, s2⟩ := hSw; clear s0; go_simp⟩) hHeld ?_
      change wpAnyH _ _ _ _ _ _ _ (Act.put _ (some 4) _) _
      simp only [Act.put, List.setIfInBounds_toArray, List.set_cons_zero, List.set_cons_succ]
      refine wpAnyH_done (by kernel_rfl) ?_ _
      go_wp2
      go_ret
      exact ⟨rfl, below_step hBr hb⟩
end Go.Proofs.Ytlncklbbfnmdiaa
