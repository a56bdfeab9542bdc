/-
  The contract of slices.Insert at a bucket, one item, at its end: all that was there stays but the bucket's own block.
-/
import Derived.Test.YtdmamanlclajjaaGreatBMem
namespace Go.Proofs.YtdmamanlclajjaaGreat.B
open Go.ChangeShapes Go.WideShapes Go.ChangeAt Go.RowKit

/-- What a call that changes a bucket leaves: another list, in the same block or a new one; all else stays. -/
def Put1 (w w' : World) (b : Nat) (v v' : Value) (l' : List Bl) : Prop :=
  Buk w' b v' l' ∧ w.grownBy w' v.ownBlock ∧ ∀ g, v'.ownBlock = some g → v.ownBlock = some g ∨ w.heap.size ≤ g

set_option maxHeartbeats 1000000 in
set_option maxRecDepth 100000 in
theorem insert_end {w : World} {b : Nat} {v : Value} {l : List Bl} (p : Bl) (vb : Nat) (h : Buk w b v l) (hb : b ≤ w.heap.size) (hl : l.length ≤ 1000)
    (hv : w.heap[vb]? = some (.cells #[.int .i64 p.1, .int .i64 p.2.1, .string (str p.2.2)] 56 (0, 0))) :
    Calls Tryz.prog 66 #[v, .int .i64 (l.length : Nat), .slice (some ⟨vb, 0, none⟩) 1 1] w fun e w' => ∃ v', e = .returned v' ∧ Put1 w w' b v v' (l ++ [p]) := by
  obtain ⟨i0, hi0, hz0', hz1', hz2'⟩ := info_parts Tryz.info56
  have hn := Hid.intro (World.news_of_block (cs := #[.int .i64 p.1, .int .i64 p.2.1, .string (str p.2.2)]) hv)
  have h' := Hid.intro h
  have eL : (l ++ [p]).length = l.length + 1 := by simp
  have eV : itemsV (l ++ [p]) = itemsV l ++ [.int .i64 p.1, .int .i64 p.2.1, .string (str p.2.2)] := by rw [itemsV_append]; rfl
  rcases buk_cases h with ⟨rfl, rfl⟩ | ⟨g, cap, rfl, hbg, hg, hc⟩
  · clear hv h
    go_enter Tryz.func66, Tryz.ntmps66
    go_wp2_with (at_builtin; refine wpList_append_lies _ rfl _ _ 26 rfl b 56 i0 (.agg #[.int .i64 0, .int .i64 0, .string ByteArray.empty]) 3 32 Tryz.underlying26 hi0 hz0' hz1' hz2' rfl (by decide) _ 0 (itemsV []) rfl h'.out ⟨vb, 0, none⟩ 1 1 [.int .i64 p.1, .int .i64 p.2.1, .string (str p.2.2)] rfl rfl hn.out (by simp [Value.oneCell']) (by decide) (by unfold maxLen; omega) (by omega) hb w.heap.size rfl ?_; intro g5 cap5 w5 hown5 hgrow5 hat5 hlt5)
    all_goals
      go_ret
      refine ⟨_, rfl, ?_, hgrow5, fun g hg => ?_⟩
      · show w5.ownsRow b 56 3 _ _ _
        first | exact hown5 | (rw [eV, eL]; exact hown5)
      · cases hg
        rcases hat5 with h | h
        · exact .inl h
        · exact .inr (by show w.heap.size ≤ g5; omega)
  · clear hv h hc
    go_enter Tryz.func66, Tryz.ntmps66
    go_wp2_with (at_builtin; refine wpList_append_lies _ rfl _ _ 26 rfl b 56 i0 (.agg #[.int .i64 0, .int .i64 0, .string ByteArray.empty]) 3 32 Tryz.underlying26 hi0 hz0' hz1' hz2' rfl (by decide) _ l.length (itemsV l) rfl h'.out ⟨vb, 0, none⟩ 1 1 [.int .i64 p.1, .int .i64 p.2.1, .string (str p.2.2)] rfl rfl hn.out (by simp [Value.oneCell']) (by decide) (by unfold maxLen; omega) (by omega) hb w.heap.size rfl ?_; intro g5 cap5 w5 hown5 hgrow5 hat5 hlt5)
    all_goals
      go_ret
      refine ⟨_, rfl, ?_, hgrow5, fun g hg => ?_⟩
      · show w5.ownsRow b 56 3 _ _ _
        first | exact hown5 | (rw [eV, eL]; exact hown5)
      · cases hg
        rcases hat5 with h | h
        · exact .inl h
        · exact .inr (by show w.heap.size ≤ g5; omega)
end Go.Proofs.YtdmamanlclajjaaGreat.B

namespace Go.Proofs.YtdmamanlclajjaaGreat.B
open Go.ChangeShapes Go.WideShapes Go.ChangeAt Go.RowKit

theorem setRow_at {w : World} {g : Nat} {cur : List Value} (cs : List Value) (hg : w.heap[g]? = some (.cells cur.toArray 56 (0, 0))) : (w.setRow g cs.toArray).heap[g]? = some (.cells cs.toArray 56 (0, 0)) := setRow_heap w g _ _ _ _ hg

set_option maxHeartbeats 1000000 in
set_option maxRecDepth 100000 in
theorem insert_shift (n cap i g vb : Nat) (p : Bl) (cur : List Value) (tail : List Value) (w : World) (hi : i < n) (hl : n ≤ 1000) (hroom : n + 1 ≤ cap) (_hm : cap ≤ 9223372036854775807)
    (hg : w.heap[g]? = some (.cells cur.toArray 56 (0, 0))) (hv : w.heap[vb]? = some (.cells #[.int .i64 p.1, .int .i64 p.2.1, .string (str p.2.2)] 56 (0, 0))) (hne : vb ≠ g) (hcl : cur.length = cap * 3)
    (htl : tail.length = (n - i) * 3) (ht : ∀ j v, tail[j]? = some v → cur[i * 3 + j]? = some v) (h1 : ∀ v ∈ tail, v.oneCell' = true) :
    Calls Tryz.prog 66 #[.slice (some ⟨g, 0, none⟩) n cap, .int .i64 (i : Nat), .slice (some ⟨vb, 0, none⟩) 1 1] w fun e w' =>
      e = .returned (.slice (some ⟨g, 0, none⟩) (n + 1) cap) ∧ Hid (∃ q, w' = ((w.drewN q).setRow g (spl (spl cur ((i + 1) * 3) tail) (i * 3) [.int .i64 p.1, .int .i64 p.2.1, .string (str p.2.2)]).toArray)) := by
  obtain ⟨i0, hi0, hz0', hz1', hz2'⟩ := info_parts Tryz.info56
  have hov : ∀ lb cb, (callFunc 90 #[.slice (some ⟨vb, 0, none⟩) 1 1, .slice (some ⟨g, (i + 1) * 3, none⟩) lb cb]).run Tryz.prog w = .ok (.value (.bool false)) w := fun lb cb => by
    rw [run_callFunc_extern Tryz.func90 (by kernel_rfl) (by kernel_rfl) (by kernel_rfl) (e := Extern.SlicesOverlaps.overlaps #[26, 26] #[4]) (by kernel_rfl),
      Lib.run_overlaps_apart w 26 4 56 Tryz.underlying26 3 Tryz.sizeOf56 ⟨vb, 0, none⟩ ⟨g, (i + 1) * 3, none⟩ 1 1 lb cb hne 56 56 3 (cap * 3) (by simp [World.shape?, hv]) (by simp [World.shape?, hg, hcl]) (by omega) (by simp [World.frozen?, hv]) (by simp [World.frozen?, hv])]
    rfl
  have hcp1 : ∀ ty dc sc, (Builtin.copy_ #[26, 26] ty #[.slice (some ⟨g, (i + 1) * 3, none⟩) (n - i) dc, .slice (some ⟨g, i * 3, none⟩) (n + 1 - i) sc]).run Tryz.prog w.drew = .ok (goInt (Nat.min (n + 1 - i) (n - i))) (w.drew.setRow g (spl cur ((i + 1) * 3) tail).toArray) := fun ty dc sc =>
    run_copy_row w.drew 26 26 ty 56 i0 3 g _ _ _ ⟨g, i * 3, none⟩ _ _ tail cur Tryz.underlying26 hi0 hz1' (by rw [htl]; simp only [Nat.min_def]; split <;> omega)
      (fun j v hj => by rw [Addr.add_lit]; show w.cell? _ = _; simp only [World.cell?, hg]; simpa using ht j v hj) hg (by omega) h1
  obtain ⟨W1, hW1⟩ : ∃ W1, W1 = w.drew.setRow g (spl cur ((i + 1) * 3) tail).toArray := ⟨_, rfl⟩
  rw [← hW1] at hcp1
  have hg1 : W1.heap[g]? = some (.cells (spl cur ((i + 1) * 3) tail).toArray 56 (0, 0)) := by rw [hW1]; exact setRow_at _ hg
  have hv1 : W1.heap[vb]? = some (.cells #[.int .i64 p.1, .int .i64 p.2.1, .string (str p.2.2)] 56 (0, 0)) := by rw [hW1, setRow_other _ _ _ _ hne]; exact hv
  have hsl : (spl cur ((i + 1) * 3) tail).length = cap * 3 := by rw [spl_length _ _ _ (by omega)]; exact hcl
  have hcp2 : ∀ ty dc, (Builtin.copy_ #[26, 26] ty #[.slice (some ⟨g, i * 3, none⟩) (n + 1 - i) dc, .slice (some ⟨vb, 0, none⟩) 1 1]).run Tryz.prog W1 = .ok (goInt (Nat.min 1 (n + 1 - i))) (W1.setRow g (spl (spl cur ((i + 1) * 3) tail) (i * 3) [.int .i64 p.1, .int .i64 p.2.1, .string (str p.2.2)]).toArray) := fun ty dc =>
    run_copy_row W1 26 26 ty 56 i0 3 g _ _ _ ⟨vb, 0, none⟩ _ _ _ _ Tryz.underlying26 hi0 hz1' (by simp only [Nat.min_def, List.length_cons, List.length_nil]; split <;> omega)
      (World.news_of_block hv1) hg1 (by rw [hsl]; simp; omega) (by simp [Value.oneCell'])
  have hfin : Hid (∃ q, W1.setRow g (spl (spl cur ((i + 1) * 3) tail) (i * 3) [.int .i64 p.1, .int .i64 p.2.1, .string (str p.2.2)]).toArray = ((w.drewN q).setRow g (spl (spl cur ((i + 1) * 3) tail) (i * 3) [.int .i64 p.1, .int .i64 p.2.1, .string (str p.2.2)]).toArray)) := ⟨1, by rw [hW1, setRow_setRow]; rfl⟩
  generalize W1.setRow g (spl (spl cur ((i + 1) * 3) tail) (i * 3) [.int .i64 p.1, .int .i64 p.2.1, .string (str p.2.2)]).toArray = W2 at hcp2 hfin
  clear hW1 hg1 hv1 hsl hg hv ht h1 htl hcl
  have hw1 : IntKind.i64.wrap ((i : Int) + 1) = (i : Int) + 1 := by rw [IntKind.wrap_i64]; omega
  have hb1 : (0 : Int) ≤ (i : Int) + 1 := by omega
  have hin : i ≤ n := by omega
  have htn : ((i : Int) + 1).toNat = i + 1 := by omega
  have hb2 : ¬ (cap = i + 1) := by omega
  have hb3 : (i : Int) ≤ (n : Int) + 1 := by omega
  have hb5 : (i : Int) + 1 ≤ (n : Int) + 1 := by omega
  have hb4 : ¬ (cap = i) := by omega
  go_enter Tryz.func66, Tryz.ntmps66
  go_wp2_with (simp only [hov])
  go_region_law (refine step_copy_runI rfl _ _ 26 26 rfl _ _ (by simp [Act.eval, Act.put]) (by simp [Act.eval, Act.put]) (hcp1 _ _ _) ?_)
  all_goals
    go_wp2_with (at_builtin; refine wpList_copy_runI _ rfl _ _ 26 26 rfl _ _ rfl rfl (hcp2 _ _) ?_)
    go_ret
    exact ⟨rfl, hfin⟩
end Go.Proofs.YtdmamanlclajjaaGreat.B
