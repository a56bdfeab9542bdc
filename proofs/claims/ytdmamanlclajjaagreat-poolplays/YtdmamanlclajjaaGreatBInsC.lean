/-
  The contract of slices.Insert at a bucket, one item, ahead of its end, where there is no room: a new block.
-/
import Derived.Test.YtdmamanlclajjaaGreatBInsB
namespace Go.Proofs.YtdmamanlclajjaaGreat.B
open Go.ChangeShapes Go.WideShapes Go.ChangeAt Go.RowKit

theorem below_row (w : World) (g : Nat) (cs : Array Value) : Below g w (w.setRow g cs) :=
  ⟨rfl, rfl, rfl, by simp, fun k hk => setRow_other w g k cs (by omega)⟩

set_option maxHeartbeats 1000000 in
set_option maxRecDepth 100000 in
theorem insert_grow (n cap i g vb : Nat) (p : Bl) (cur : List Value) (heads tail : List Value) (w : World) (hi : i < n) (hl : n ≤ 1000) (hnc : n ≤ cap) (hroom : cap < n + 1)
    (hg : w.heap[g]? = some (.cells cur.toArray 56 (0, 0))) (hv : w.heap[vb]? = some (.cells #[.int .i64 p.1, .int .i64 p.2.1, .string (str p.2.2)] 56 (0, 0)))
    (hhl : heads.length = i * 3) (hh : ∀ (j : Nat) v, heads[j]? = some v → cur[j]? = some v)
    (htl : tail.length = (n - i) * 3) (ht : ∀ (j : Nat) v, tail[j]? = some v → cur[i * 3 + j]? = some v) (h1 : ∀ v ∈ tail, v.oneCell' = true) :
    Calls Tryz.prog 66 #[.slice (some ⟨g, 0, none⟩) n cap, .int .i64 (i : Nat), .slice (some ⟨vb, 0, none⟩) 1 1] w fun e w' =>
      Hid (∃ G, n + 1 ≤ G ∧ G ≤ maxLen ∧ e = .returned (.slice (some ⟨w.heap.size, 0, none⟩) (n + 1) G) ∧
        Below w.heap.size w w' ∧ w'.heap[w.heap.size]? = some (.cells (spl (spl (heads ++ itemsV (List.replicate (n + 1 - i) (0, 0, [])) ++ itemsV (List.replicate (G - (n + 1)) (0, 0, []))) (i * 3) [.int .i64 p.1, .int .i64 p.2.1, .string (str p.2.2)]) ((i + 1) * 3) tail).toArray 56 (0, 0))) := by
  obtain ⟨i0, hi0, hz0', hz1', hz2'⟩ := info_parts Tryz.info56
  have hik : i + (n + 1 - i) = n + 1 := by omega
  have hkk : (n : Int) + 1 - (i : Int) = ((n + 1 - i : Nat) : Int) := by omega
  have hold : (Builtin.firstCells i0.size i (.slice (some ⟨g, 0, none⟩) i cap)).run Tryz.prog w.drew = .ok heads.toArray w.drew := by
    rw [hz1']
    exact run_firstCells_some w.drew 3 i ⟨g, 0, none⟩ i cap heads hhl (fun j v hj => by
      rw [Addr.add_lit]; show w.cell? _ = _; simp only [World.cell?, hg]; simpa using hh j v hj)
  have hGn : n + 1 ≤ grownCap w (n + 1) cap 56 := grownCap_ge w _ _ _
  have hGm : grownCap w (n + 1) cap 56 ≤ maxLen := grownCap_le_maxLen w (n + 1) cap 56 (by unfold maxLen; omega)
  have hrz : ∀ ty, (Builtin.append_ #[26, 3] ty #[.slice (some ⟨g, 0, none⟩) i cap, .int .i64 ((n : Int) + 1 - (i : Int))]).run Tryz.prog w =
      .ok (.slice (some ⟨w.heap.size, 0, none⟩) (n + 1) (grownCap w (n + 1) cap 56)) (w.drew.alloc (.cells (heads ++ itemsV (List.replicate (n + 1 - i) (0, 0, [])) ++ itemsV (List.replicate (grownCap w (n + 1) cap 56 - (n + 1)) (0, 0, []))).toArray 56)) := fun ty => by
    have h := Lib.run_append_grow_zeros w 26 3 ty 56 i0 _ .i64 .i64 Tryz.underlying26 Tryz.underlying3 hi0 hz0' (some ⟨g, 0, none⟩) i cap heads hold (n + 1 - i) (by omega) (by omega) (by omega) (by omega) (by rw [hz2']; omega) (by rw [hz2', hik]; exact growslice_fits hroom (by omega))
    rw [hik] at h
    rw [hkk, h]
    congr 3
    apply Array.ext'
    simp [zero_cells]
  generalize grownCap w (n + 1) cap 56 = G at hGn hGm hrz
  have hG63 : G ≤ 9223372036854775807 := by unfold maxLen at hGm; omega
  obtain ⟨H, hH⟩ : ∃ H, H = w.heap.size := ⟨_, rfl⟩
  generalize hrow : heads ++ itemsV (List.replicate (n + 1 - i) (0, 0, [])) ++ itemsV (List.replicate (G - (n + 1)) (0, 0, [])) = row at hrz
  have hrl : row.length = G * 3 := by rw [← hrow]; simp [itemsV_length, hhl]; omega
  have hgw : g < w.heap.size := (Array.getElem?_eq_some_iff.1 hg).1
  have hvw : vb < w.heap.size := (Array.getElem?_eq_some_iff.1 hv).1
  obtain ⟨W1, hW1⟩ : ∃ W1, W1 = w.drew.alloc (.cells row.toArray 56) := ⟨_, rfl⟩
  rw [← hW1] at hrz
  have hg1 : W1.heap[H]? = some (.cells row.toArray 56 (0, 0)) := by rw [hW1, hH]; exact heap_alloc_new w.drew _
  have hv1 : W1.heap[vb]? = some (.cells #[.int .i64 p.1, .int .i64 p.2.1, .string (str p.2.2)] 56 (0, 0)) := by
    have := ((Below.refl w.heap.size w).drew.alloc (Nat.le_refl _) (.cells row.toArray 56)).block vb hvw
    rw [hW1, this]; exact hv
  have hG1 : W1.heap[g]? = some (.cells cur.toArray 56 (0, 0)) := by
    have := ((Below.refl w.heap.size w).drew.alloc (Nat.le_refl _) (.cells row.toArray 56)).block g hgw
    rw [hW1, this]; exact hg
  have hcp1 : ∀ ty dc, (Builtin.copy_ #[26, 26] ty #[.slice (some ⟨w.heap.size, i * 3, none⟩) (n + 1 - i) dc, .slice (some ⟨vb, 0, none⟩) 1 1]).run Tryz.prog W1 = .ok (goInt (Nat.min 1 (n + 1 - i))) (W1.setRow w.heap.size (spl row (i * 3) [.int .i64 p.1, .int .i64 p.2.1, .string (str p.2.2)]).toArray) := fun ty dc =>
    run_copy_row W1 26 26 ty 56 i0 3 w.heap.size _ _ _ ⟨vb, 0, none⟩ _ _ _ _ Tryz.underlying26 hi0 hz1' (by simp only [Nat.min_def, List.length_cons, List.length_nil]; split <;> omega)
      (World.news_of_block hv1) (by rw [← hH]; exact hg1) (by rw [hrl]; simp; omega) (by simp [Value.oneCell'])
  obtain ⟨W2, hW2⟩ : ∃ W2, W2 = W1.setRow w.heap.size (spl row (i * 3) [.int .i64 p.1, .int .i64 p.2.1, .string (str p.2.2)]).toArray := ⟨_, rfl⟩
  rw [← hW2] at hcp1
  have hg2 : W2.heap[w.heap.size]? = some (.cells (spl row (i * 3) [.int .i64 p.1, .int .i64 p.2.1, .string (str p.2.2)]).toArray 56 (0, 0)) := by rw [hW2]; exact setRow_at _ (by rw [← hH]; exact hg1)
  have hG2 : W2.heap[g]? = some (.cells cur.toArray 56 (0, 0)) := by rw [hW2, setRow_other _ _ _ _ (by omega)]; exact hG1
  have hsl : (spl row (i * 3) [.int .i64 p.1, .int .i64 p.2.1, .string (str p.2.2)]).length = G * 3 := by rw [spl_length _ _ _ (by rw [hrl]; simp; omega)]; exact hrl
  have hcp2 : ∀ ty dc sc, (Builtin.copy_ #[26, 26] ty #[.slice (some ⟨w.heap.size, (i + 1) * 3, none⟩) (n - i) dc, .slice (some ⟨g, i * 3, none⟩) (n - i) sc]).run Tryz.prog W2.drew = .ok (goInt (Nat.min (n - i) (n - i))) (W2.drew.setRow w.heap.size (spl (spl row (i * 3) [.int .i64 p.1, .int .i64 p.2.1, .string (str p.2.2)]) ((i + 1) * 3) tail).toArray) := fun ty dc sc =>
    run_copy_row W2.drew 26 26 ty 56 i0 3 w.heap.size _ _ _ ⟨g, i * 3, none⟩ _ _ tail _ Tryz.underlying26 hi0 hz1' (by rw [htl]; simp only [Nat.min_def]; split <;> omega)
      (fun j v hj => by rw [Addr.add_lit]; show W2.cell? _ = _; simp only [World.cell?, hG2]; simpa using ht j v hj) hg2 (by rw [hsl]; omega) h1
  have hfin1 : Hid (Below w.heap.size w (W2.drew.setRow w.heap.size (spl (spl row (i * 3) [.int .i64 p.1, .int .i64 p.2.1, .string (str p.2.2)]) ((i + 1) * 3) tail).toArray)) := by
    have h1 : Below w.heap.size w W1 := by rw [hW1]; exact (Below.refl w.heap.size w).drew.alloc (Nat.le_refl _) (.cells row.toArray 56)
    have h2 : Below w.heap.size w W2 := by rw [hW2]; exact h1.trans (below_row _ _ _)
    exact h2.drew.trans (below_row _ _ _)
  have hfin2 : Hid ((W2.drew.setRow w.heap.size (spl (spl row (i * 3) [.int .i64 p.1, .int .i64 p.2.1, .string (str p.2.2)]) ((i + 1) * 3) tail).toArray).heap[w.heap.size]? = some (.cells (spl (spl row (i * 3) [.int .i64 p.1, .int .i64 p.2.1, .string (str p.2.2)]) ((i + 1) * 3) tail).toArray 56 (0, 0))) := setRow_at (w := W2.drew) _ hg2
  have hrow' := Hid.intro hrow
  generalize W2.drew.setRow w.heap.size (spl (spl row (i * 3) [.int .i64 p.1, .int .i64 p.2.1, .string (str p.2.2)]) ((i + 1) * 3) tail).toArray = W3 at hcp2 hfin1 hfin2
  have hw1 : IntKind.i64.wrap ((i : Int) + 1) = (i : Int) + 1 := by rw [IntKind.wrap_i64]; omega
  have hb1 : (0 : Int) ≤ (i : Int) + 1 := by omega
  have hin : i ≤ n := by omega
  have htn : ((i : Int) + 1).toNat = i + 1 := by omega
  have hb3 : (i : Int) ≤ (n : Int) + 1 := by omega
  have hb5 : (i : Int) + 1 ≤ (n : Int) + 1 := by omega
  have hb4 : ¬ (cap = i) := by omega
  have hGi : ¬ (G = i) := by omega
  have hGi1 : ¬ (G = i + 1) := by omega
  have hG' := Hid.intro (And.intro hGn hGm)
  clear hW1 hW2 hg1 hg2 hv1 hG1 hG2 hsl hg hv ht h1 htl hh hhl hold hrow hrl hgw hvw hH hkk hik
  go_enter Tryz.func66, Tryz.ntmps66
  go_wp2_with (first
    | (at_builtin; refine Lib.wpList_append_run _ rfl _ _ _ _ rfl _ _ rfl rfl _ _ (hrz _) ?_)
    | (at_builtin; refine wpList_copy_runI _ rfl _ _ 26 26 rfl _ _ rfl rfl (hcp1 _ _) ?_))
  go_region_law (refine step_copy_runI rfl _ _ 26 26 rfl (.slice (some ⟨w.heap.size, (i + 1) * 3, none⟩) (n - i) (G - (i + 1))) (.slice (some ⟨g, i * 3, none⟩) (n - i) (cap - i)) (by simp [Act.eval, Act.put]) (by simp [Act.eval, Act.put]) (hcp2 _ _ _) ?_)
  all_goals
    go_wp2
    go_ret
    exact ⟨G, hG'.out.1, hG'.out.2, rfl, hfin1.out, by rw [hrow'.out]; exact hfin2.out⟩
end Go.Proofs.YtdmamanlclajjaaGreat.B
