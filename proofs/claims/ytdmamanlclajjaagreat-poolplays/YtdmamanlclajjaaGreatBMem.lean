/-
  Blocks in memory: their zero, a slice's own block.
-/
import Derived.Test.YtdmamanlclajjaaGreatBRow
import Derived.Test.YtdmamanlclajjaaGreatMem
namespace Go.Proofs.YtdmamanlclajjaaGreat.B
open Go.ChangeShapes Go.WideShapes Go.ChangeAt Go.RowKit

theorem Tryz.info56 : (Tryz.prog.info? 56).map (fun i => (i.zero, i.size, i.bytes)) = some (some (.agg #[.int .i64 0, .int .i64 0, .string ByteArray.empty]), 3, 32) := by kernel_rfl
theorem str_nil : str [] = ByteArray.empty := rfl
/-- The cells of zero blocks. -/
theorem zero_cells (n : Nat) : (Builtin.zeroCells (Value.agg #[.int .i64 0, .int .i64 0, .string ByteArray.empty]).cells n).toList = itemsV (List.replicate n (0, 0, [])) := by
  have hz : (Value.agg #[.int .i64 0, .int .i64 0, .string ByteArray.empty]).cells = #[.int .i64 0, .int .i64 0, .string ByteArray.empty] := by first | rfl | simp [Value.cells]
  rw [hz]
  apply List.ext_getElem
  · rw [itemsV_length]
    simp [Builtin.zeroCells]
  · intro i h1 h2
    rw [itemsV_length] at h2
    simp only [List.length_replicate] at h2
    have hq : (List.replicate n ((0, 0, []) : Bl))[i / 3]? = some (0, 0, []) := by rw [List.getElem?_replicate, if_pos (by omega)]
    obtain ⟨g0, g1, g2⟩ := itemsV_get _ _ _ hq
    have e : i = i / 3 * 3 ∨ i = i / 3 * 3 + 1 ∨ i = i / 3 * 3 + 2 := by omega
    rcases e with e | e | e
    · have hm : i % 3 = 0 := by omega
      rw [← e] at g0
      have := (List.getElem?_eq_some_iff.1 g0).2
      rw [this]
      simp [Builtin.zeroCells, hm]
    · have hm : i % 3 = 1 := by omega
      rw [← e] at g1
      have := (List.getElem?_eq_some_iff.1 g1).2
      rw [this]
      simp [Builtin.zeroCells, hm]
    · have hm : i % 3 = 2 := by omega
      rw [← e] at g2
      have := (List.getElem?_eq_some_iff.1 g2).2
      rw [this]
      simp [Builtin.zeroCells, hm, str_nil]

/-- A bucket that has a block: the block's cells. -/
theorem buk_block {w : World} {b g n cap : Nat} {l : List Bl} (h : Buk w b (.slice (some ⟨g, 0, none⟩) n cap) l) :
    n = l.length ∧ b ≤ g ∧ l.length ≤ cap ∧ cap ≤ maxLen ∧ ∃ r : List Value, w.heap[g]? = some (.cells (itemsV l ++ r).toArray 56 (0, 0)) ∧ r.length = (cap - l.length) * 3 := by
  rcases h.2 with ⟨h, _⟩ | ⟨g', cap', cur, hv, hb, hg, h1, h2, h3, h4⟩
  · cases h
  · cases hv
    refine ⟨rfl, hb, h1, h2, cur.toList.drop (l.length * 3), ?_, ?_⟩
    · rw [hg, ← h4, List.take_append_drop]
    · simp [h3]; omega
theorem buk_make {w : World} {b g cap : Nat} {l : List Bl} {r : List Value} (hb : b ≤ g) (h1 : l.length ≤ cap) (h2 : cap ≤ maxLen) (hg : w.heap[g]? = some (.cells (itemsV l ++ r).toArray 56 (0, 0))) (hr : r.length = (cap - l.length) * 3) :
    Buk w b (.slice (some ⟨g, 0, none⟩) l.length cap) l := by
  refine ⟨itemsV_length l, .inr ⟨g, cap, _, rfl, hb, hg, h1, h2, ?_, ?_⟩⟩
  · simp [itemsV_length, hr]; omega
  · simp [← itemsV_length]
end Go.Proofs.YtdmamanlclajjaaGreat.B
