/-
  The contract of slices.Insert at a bucket, one item, at its end: all that was there stays but the bucket's own block.
-/
import Derived.Test.YtdmamanlclajjaaMem
namespace Go.Proofs.Ytdmamanlclajjaa
open Go.ChangeShapes Go.WideShapes Go.ChangeAt Go.RowKit

/-- What a call that changes a bucket leaves: another list, in the same block or a new one; all else stays. -/
def Put1 (w w' : World) (b : Nat) (v v' : Value) (l' : List It) : Prop :=
  Buk w' b v' l' ∧ w.grownBy w' v.ownBlock ∧ ∀ g, v'.ownBlock = some g → v.ownBlock = some g ∨ w.heap.size ≤ g

set_option maxHeartbeats 1000000 in
set_option maxRecDepth 100000 in
theorem insert_end {w : World} {b : Nat} {v : Value} {l : List It} (p : It) (vb : Nat) (h : Buk w b v l) (hb : b ≤ w.heap.size) (hl : l.length ≤ 1000)
    (hv : w.heap[vb]? = some (.cells #[.int .u32 p.1, .int .i64 p.2] 68 (0, 0))) :
    Calls Try.prog 39 #[v, .int .i64 (l.length : Nat), .slice (some ⟨vb, 0, none⟩) 1 1] w fun e w' => ∃ v', e = .returned v' ∧ Put1 w w' b v v' (l ++ [p]) := by
  obtain ⟨i0, hi0, hz0', hz1', hz2'⟩ := info_parts Try.info68
  have hn := Hid.intro (World.news_of_block (cs := #[.int .u32 p.1, .int .i64 p.2]) hv)
  have h' := Hid.intro h
  have eL : (l ++ [p]).length = l.length + 1 := by simp
  have eV : itemsV (l ++ [p]) = itemsV l ++ [.int .u32 p.1, .int .i64 p.2] := by rw [itemsV_append]; rfl
  rcases buk_cases h with ⟨rfl, rfl⟩ | ⟨g, cap, rfl, hbg, hg, hc⟩
  · clear hv h
    go_enter Try.func39, Try.ntmps39
    go_wp2_with (at_builtin; refine wpList_append_lies _ rfl _ _ 63 rfl b 68 i0 (.agg #[.int .u32 0, .int .i64 0]) 2 16 Try.underlying63 hi0 hz0' hz1' hz2' rfl (by decide) _ 0 (itemsV []) rfl h'.out ⟨vb, 0, none⟩ 1 1 [.int .u32 p.1, .int .i64 p.2] rfl rfl hn.out (by simp [Value.oneCell']) (by decide) (by unfold maxLen; omega) (by omega) hb w.heap.size rfl ?_; intro g5 cap5 w5 hown5 hgrow5 hat5 hlt5)
    all_goals
      go_ret
      refine ⟨_, rfl, ?_, hgrow5, fun g hg => ?_⟩
      · show w5.ownsRow b 68 2 _ _ _
        first | exact hown5 | (rw [eV, eL]; exact hown5)
      · cases hg
        rcases hat5 with h | h
        · exact .inl h
        · exact .inr (by show w.heap.size ≤ g5; omega)
  · clear hv h hc
    go_enter Try.func39, Try.ntmps39
    go_wp2_with (at_builtin; refine wpList_append_lies _ rfl _ _ 63 rfl b 68 i0 (.agg #[.int .u32 0, .int .i64 0]) 2 16 Try.underlying63 hi0 hz0' hz1' hz2' rfl (by decide) _ l.length (itemsV l) rfl h'.out ⟨vb, 0, none⟩ 1 1 [.int .u32 p.1, .int .i64 p.2] rfl rfl hn.out (by simp [Value.oneCell']) (by decide) (by unfold maxLen; omega) (by omega) hb w.heap.size rfl ?_; intro g5 cap5 w5 hown5 hgrow5 hat5 hlt5)
    all_goals
      go_ret
      refine ⟨_, rfl, ?_, hgrow5, fun g hg => ?_⟩
      · show w5.ownsRow b 68 2 _ _ _
        first | exact hown5 | (rw [eV, eL]; exact hown5)
      · cases hg
        rcases hat5 with h | h
        · exact .inl h
        · exact .inr (by show w.heap.size ≤ g5; omega)
end Go.Proofs.Ytdmamanlclajjaa
