/-
  The contract of slices.Delete at a bucket, one item: it is taken out, all else of the list stays; of memory nothing but the bucket's own block.
-/
import Derived.Test.YtdmamanlclajjaaGreatInsD
namespace Go.Proofs.YtdmamanlclajjaaGreat
open Go.ChangeShapes Go.WideShapes Go.ChangeAt Go.RowKit

set_option maxHeartbeats 1000000 in
set_option maxRecDepth 100000 in
theorem delete_row (n cap i g : Nat) (cur tail : List Value) (w : World) (hi : i < n) (hl : n ≤ 1000) (hnc : n ≤ cap) (hm : cap ≤ 9223372036854775807)
    (hg : w.heap[g]? = some (.cells cur.toArray 104 (0, 0))) (hcl : cur.length = cap * 2)
    (htl : tail.length = (n - (i + 1)) * 2) (ht : ∀ (j : Nat) v, tail[j]? = some v → cur[(i + 1) * 2 + j]? = some v) (h1 : ∀ v ∈ tail, v.oneCell' = true) :
    Calls Tryz.prog 93 #[.slice (some ⟨g, 0, none⟩) n cap, .int .i64 (i : Nat), .int .i64 ((i : Int) + 1)] w fun e w' =>
      Hid (e = .returned (.slice (some ⟨g, 0, none⟩) (i + (n - (i + 1))) cap) ∧ ∃ q, w' = ((w.drewN q).setRow g (spl (spl cur (i * 2) tail) ((i + (n - (i + 1))) * 2) (pv (0, 0))).toArray)) := by
  obtain ⟨i0, hi0, hz0', hz1', hz2'⟩ := info_parts Tryz.info104
  obtain ⟨A, hA, hsrc⟩ : ∃ A : Addr, (if cap = i + 1 then some (⟨g, 0, none⟩ : Addr) else some ⟨g, (i + 1) * 2, none⟩) = some A ∧ Hid (∀ (t : Nat) u, tail[t]? = some u → w.drew.cell? (A.add t) = some u) := by
    by_cases h : cap = i + 1
    · refine ⟨⟨g, 0, none⟩, by simp [h], fun t u hu => ?_⟩
      have h0 : tail.length = 0 := by rw [htl]; omega
      rw [List.length_eq_zero_iff.1 h0] at hu
      simp at hu
    · refine ⟨⟨g, (i + 1) * 2, none⟩, by simp [h], fun t u hu => ?_⟩
      rw [Addr.add_lit]; show w.cell? _ = _; simp only [World.cell?, hg]; simpa using ht t u hu
  have hap : ∀ ty c, (Builtin.append_ #[99, 99] ty #[.slice (some ⟨g, 0, none⟩) i cap, .slice (some A) (n - (i + 1)) c]).run Tryz.prog w.drew = .ok (.slice (some ⟨g, 0, none⟩) (i + (n - (i + 1))) cap) (w.drew.setRow g (spl cur (i * 2) tail).toArray) := fun ty c =>
    run_append_row w.drew 99 ty 104 i0 2 Tryz.underlying99 hi0 hz1' g i cap cur hg A (n - (i + 1)) c tail htl hsrc.out h1 (by omega) (by omega)
  obtain ⟨W1, hW1⟩ : ∃ W1, W1 = w.drew.setRow g (spl cur (i * 2) tail).toArray := ⟨_, rfl⟩
  rw [← hW1] at hap
  have hg1 : W1.heap[g]? = some (.cells (spl cur (i * 2) tail).toArray 104 (0, 0)) := by rw [hW1]; exact setRow_at (w := w.drew) _ hg
  have hsl : (spl cur (i * 2) tail).length = cap * 2 := by rw [spl_length _ _ _ (by omega)]; exact hcl
  have hcr : ∀ ty c, (Builtin.clear_ #[99] ty #[.slice (some ⟨g, (i + (n - (i + 1))) * 2, none⟩) (n - (i + (n - (i + 1)))) c]).run Tryz.prog W1 = .ok (.tuple #[]) (W1.setRow g (spl (spl cur (i * 2) tail) ((i + (n - (i + 1))) * 2) (pv (0, 0))).toArray) := fun ty c =>
    run_clear_row W1 99 104 ty _ (pv (0, 0)) _ Tryz.underlying99 Tryz.zeroValue104 g _ _ c (by omega) (by rw [show n - (i + (n - (i + 1))) = 1 by omega, zero_cells]; rfl) hg1 (by rw [hsl]; simp [pv]; omega) (by simp [pv, Value.oneCell'])
  have hfin : Hid (∃ q, W1.setRow g (spl (spl cur (i * 2) tail) ((i + (n - (i + 1))) * 2) (pv (0, 0))).toArray = ((w.drewN q).setRow g (spl (spl cur (i * 2) tail) ((i + (n - (i + 1))) * 2) (pv (0, 0))).toArray)) := ⟨1, by rw [hW1, setRow_setRow]; rfl⟩
  generalize W1.setRow g (spl (spl cur (i * 2) tail) ((i + (n - (i + 1))) * 2) (pv (0, 0))).toArray = W2 at hcr hfin
  have hic : i ≤ cap := by omega
  have hjc : i + 1 ≤ cap := by omega
  have hw1 : IntKind.i64.wrap ((i : Int) + 1) = (i : Int) + 1 := by rw [IntKind.wrap_i64]; omega
  have hb1 : (0 : Int) ≤ (i : Int) + 1 := by omega
  have htn : ((i : Int) + 1).toNat = i + 1 := by omega
  have hb5 : (i : Int) + 1 ≤ (n : Int) := by omega
  have hb4 : ¬ (cap = i) := by omega
  have hne : ((i : Int) == (i : Int) + 1) = false := by simp; omega
  clear hW1 hg1 hsl hg ht h1 htl hcl
  go_enter Tryz.func93, Tryz.ntmps93
  go_wp2_with fail
  go_region_law (refine step_append_runI rfl (.tmp 22) (.tmp 25) 99 99 rfl (.slice (some ⟨g, 0, none⟩) i cap) (.slice (some A) (n - (i + 1)) (cap - (i + 1))) (by simp [Act.eval, Act.put]) (by simp [Act.eval, Act.put]) (hap _ _) ?_)
  all_goals
    go_wp2
    go_ret
    exact ⟨rfl, hfin.out⟩

theorem cut_list (l : List It) (i : Nat) (r : List Value) (hi : i < l.length) :
    spl (spl (itemsV l ++ r) (i * 2) (itemsV (l.drop (i + 1)))) ((i + (l.length - (i + 1))) * 2) (pv (0, 0)) = itemsV (l.take i ++ l.drop (i + 1)) ++ (pv (0, 0) ++ r) := by
  have hA : (itemsV (l.take i)).length = i * 2 := by rw [itemsV_length, List.length_take]; omega
  have hT : (itemsV (l.drop (i + 1))).length = (l.length - (i + 1)) * 2 := by rw [itemsV_length, List.length_drop]
  have hD : (itemsV (l.drop i)).length = (l.length - i) * 2 := by rw [itemsV_length, List.length_drop]
  have e0 : itemsV l = itemsV (l.take i) ++ itemsV (l.drop i) := by rw [← itemsV_append, List.take_append_drop]
  have e1 : itemsV l ++ r = itemsV (l.take i) ++ (itemsV (l.drop i)).take ((l.length - (i + 1)) * 2) ++ ((itemsV (l.drop i)).drop ((l.length - (i + 1)) * 2) ++ r) := by
    rw [e0]
    have e2 := List.take_append_drop ((l.length - (i + 1)) * 2) (itemsV (l.drop i))
    conv => lhs; rw [← e2]
    simp only [List.append_assoc]
  have hE : ((itemsV (l.drop i)).drop ((l.length - (i + 1)) * 2)).length = 2 := by rw [List.length_drop, hD]; omega
  have hX : ((itemsV (l.drop i)).take ((l.length - (i + 1)) * 2)).length = (itemsV (l.drop (i + 1))).length := by rw [List.length_take, hD, hT]; omega
  rw [e1, spl_parts _ _ _ _ _ hA hX]
  have e2 : ∀ E : List Value, itemsV (l.take i) ++ itemsV (l.drop (i + 1)) ++ (E ++ r) = (itemsV (l.take i) ++ itemsV (l.drop (i + 1))) ++ E ++ r := by intro E; simp
  rw [e2, spl_parts (itemsV (l.take i) ++ itemsV (l.drop (i + 1))) _ r (pv (0, 0)) _ (by simp [hA, hT]; omega) (by rw [hE]; rfl), itemsV_append]
  simp

theorem delete_any {w : World} {b : Nat} {v : Value} {l : List It} (i : Nat) (h : Buk w b v l) (hl : l.length ≤ 1000) (hi : i < l.length) :
    Calls Tryz.prog 93 #[v, .int .i64 (i : Nat), .int .i64 ((i : Int) + 1)] w fun e w' => ∃ v', e = .returned v' ∧ Put1 w w' b v v' (l.take i ++ l.drop (i + 1)) := by
  rcases buk_cases h with ⟨_, rfl⟩ | ⟨g, cap, rfl, hbg, hg, hc⟩
  · simp at hi
  · obtain ⟨_, _, hlc, hcm, r, hgb, hr⟩ := buk_block h
    have hnL : (l.take i ++ l.drop (i + 1)).length = i + (l.length - (i + 1)) := by simp; omega
    refine (delete_row l.length cap i g _ (itemsV (l.drop (i + 1))) w hi hl hlc (by unfold maxLen at hcm; omega) hgb (by simp [itemsV_length, hr]; omega) (by rw [itemsV_length, List.length_drop]) (tail_cells l (i + 1) r) (itemsV_one _)).mono ?_
    rintro e w' ⟨rfl, q, rfl⟩
    refine ⟨_, rfl, ?_, ⟨rfl, rfl, rfl, by simp, fun k _ hk => ?_⟩, fun g' hg' => .inl hg'⟩
    · have key : ∀ (W : World) (m : Nat), m = (l.take i ++ l.drop (i + 1)).length → Buk W b (.slice (some ⟨g, 0, none⟩) (l.take i ++ l.drop (i + 1)).length cap) (l.take i ++ l.drop (i + 1)) → Buk W b (.slice (some ⟨g, 0, none⟩) m cap) (l.take i ++ l.drop (i + 1)) := fun W m e h => by rw [e]; exact h
      refine key _ _ hnL.symm ?_
      refine buk_make hbg (by omega) hcm (r := pv (0, 0) ++ r) ?_ (by simp [hr, pv]; omega)
      rw [← cut_list l i r hi]
      exact setRow_at (w := w.drewN q) _ hgb
    · exact setRow_other _ _ _ _ (fun e => hk (by rw [e]; rfl))
end Go.Proofs.YtdmamanlclajjaaGreat
