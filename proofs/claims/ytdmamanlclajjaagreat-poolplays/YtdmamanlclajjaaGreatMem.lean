/-
  copy, clear and append at items (two cells each) as runs: what a block's cells are behind each.
-/
import Derived.Test.YtdmamanlclajjaaGreatSearch
import Derived.Shelf.Spec.SlicesInsert
import Derived.Lib.AppendZerosOnto
import Derived.Laws.NewBlocks
import Derived.Laws.CopyRow
namespace Go.Proofs.YtdmamanlclajjaaGreat
open Go.ChangeShapes Go.WideShapes Go.ChangeAt Go.RowKit

/-- cells from o on are vs now. -/
def spl (cur : List Value) (o : Nat) (vs : List Value) : List Value := cur.take o ++ vs ++ cur.drop (o + vs.length)
theorem spl_length (cur : List Value) (o : Nat) (vs : List Value) (h : o + vs.length ≤ cur.length) : (spl cur o vs).length = cur.length := by
  simp [spl]; omega

theorem run_copy_row {P : Program} (w : World) (dT sT ty elem : TypeId) (i : TypeInfo) (k g o dLen dCap : Nat) (a : Addr) (sLen sCap : Nat) (cs : List Value) (cur : List Value)
    (hu : P.underlying dT = some (.slice elem)) (hi : P.info? elem = some i) (hk : i.size = k) (hn : cs.length = Nat.min sLen dLen * k)
    (hsrc : ∀ j v, cs[j]? = some v → w.cell? (a.add j) = some v) (hg : w.heap[g]? = some (.cells cur.toArray elem (0, 0))) (hf : o + cs.length ≤ cur.length) (h1 : ∀ v ∈ cs, v.oneCell' = true) :
    (Builtin.copy_ #[dT, sT] ty #[.slice (some ⟨g, o, none⟩) dLen dCap, .slice (some a) sLen sCap]).run P w = .ok (goInt (Nat.min sLen dLen)) (w.setRow g (spl cur o cs).toArray) := by
  have hl := run_loadCells_list (P := P) w a cs hsrc
  have hst := run_storeCells_at P g o elem cs 0 cur.toArray w hg (by simpa using hf) h1
  simp only [Nat.add_zero] at hst
  simp [Builtin.copy_, run_underlying hu, Builtin.lenOf, Builtin.firstCells, sizeOf, typeInfo, hi, hk, ← hn, hl, hst, spl]

theorem run_clear_row {P : Program} (w : World) (t e ty : TypeId) (z : Value) (cs : List Value) (cur : List Value) (ht : P.underlying t = some (.slice e)) (hv : ∀ w, (zeroValue e).run P w = .ok z w) (g o n c : Nat) (hn : 0 < n)
    (hz : (Builtin.zeroCells z.cells n).toList = cs) (hg : w.heap[g]? = some (.cells cur.toArray e (0, 0))) (hf : o + cs.length ≤ cur.length) (h1 : ∀ v ∈ cs, v.oneCell' = true) :
    (Builtin.clear_ #[t] ty #[.slice (some ⟨g, o, none⟩) n c]).run P w = .ok (.tuple #[]) (w.setRow g (spl cur o cs).toArray) := by
  have hst := run_storeCells_at P g o e cs 0 cur.toArray w hg (by simpa using hf) h1
  simp only [Nat.add_zero] at hst
  obtain ⟨m, rfl⟩ : ∃ m, n = m + 1 := ⟨n - 1, by omega⟩
  simp [Builtin.clear_, run_underlying ht, hv, hz, hst, spl]

theorem run_append_row {P : Program} (w : World) (t ty e : TypeId) (i : TypeInfo) (k : Nat) (ht : P.underlying t = some (.slice e)) (hi : P.info? e = some i) (hk : i.size = k)
    (g sLen sCap : Nat) (cur : List Value) (hg : w.heap[g]? = some (.cells cur.toArray e (0, 0)))
    (a : Addr) (m c : Nat) (news : List Value) (hl : news.length = m * k) (hnews : ∀ j u, news[j]? = some u → w.cell? (a.add j) = some u) (h1 : ∀ u ∈ news, u.oneCell' = true)
    (hroom : sLen + m ≤ sCap) (hfit : sLen * k + news.length ≤ cur.length) :
    (Builtin.append_ #[t, t] ty #[.slice (some ⟨g, 0, none⟩) sLen sCap, .slice (some a) m c]).run P w =
      .ok (.slice (some ⟨g, 0, none⟩) (sLen + m) sCap) (w.setRow g (spl cur (sLen * k) news).toArray) := by
  subst hk
  have := run_append_room (P := P) w t ty e i ht hi g sLen sCap cur.toArray hg a m c news hl hnews h1 hroom (by simpa using hfit)
  simpa [spl] using this

/-- .. as one step of a region that draws. -/
theorem step_append_runI {P : Program} {ops : Array Oper} {o : Oper} {a : Act} {w : World} {K : Act → World → Prop} {Q : Exit → Act → World → Prop} {E : Prop}
    (hg : o.guard = none) (d x : Operand) (dT sT : TypeId) (hop : o.op = Op.call { callee := Callee.builtin Builtin.append, args := #[d, x], argTypes := #[dT, sT] })
    (v u : Value) (hd : a.eval d = v) (hx : a.eval x = u) {v' : Value} {w' : World} (hr : (Builtin.append_ #[dT, sT] o.type #[v, u]).run P w = .ok v' w') (hK : K (a.put o.dst v') w') :
    if Region.wanted o (yielded ops a.tmps) = true then Oper.wp P o a w K Q else E := by
  have hw : Region.wanted o (yielded ops a.tmps) = true := by simp [Region.wanted, hg]
  rw [if_pos hw]
  unfold Oper.wp
  simp [execOp, hop, resolve, invoke, builtin, hd, hx, hr, Result.andThen]
  exact hK

theorem Tryz.info104 : (Tryz.prog.info? 104).map (fun i => (i.zero, i.size, i.bytes)) = some (some (.agg #[.int .u32 0, .int .i64 0]), 2, 16) := by kernel_rfl
/-- The cells of zero items. -/
theorem zero_cells (n : Nat) : (Builtin.zeroCells (Value.agg #[.int .u32 0, .int .i64 0]).cells n).toList = itemsV (List.replicate n (0, 0)) := by
  have hz : (Value.agg #[.int .u32 0, .int .i64 0]).cells = #[.int .u32 0, .int .i64 0] := by first | rfl | simp [Value.cells]
  rw [hz]
  apply List.ext_getElem
  · rw [itemsV_length]
    simp [Builtin.zeroCells]
  · intro i h1 h2
    rw [itemsV_length] at h2
    simp only [List.length_replicate] at h2
    have hq : (List.replicate n ((0 : Int), (0 : Int)))[i / 2]? = some (0, 0) := by rw [List.getElem?_replicate, if_pos (by omega)]
    obtain ⟨g0, g1⟩ := itemsV_get _ _ _ hq
    have e : i = i / 2 * 2 ∨ i = i / 2 * 2 + 1 := by omega
    rcases e with e | e
    · have hm : i % 2 = 0 := by omega
      rw [← e] at g0
      have := (List.getElem?_eq_some_iff.1 g0).2
      rw [this]
      simp [Builtin.zeroCells, hm]
    · have hm : i % 2 = 1 := by omega
      rw [← e] at g1
      have := (List.getElem?_eq_some_iff.1 g1).2
      rw [this]
      simp [Builtin.zeroCells, hm]

/-- A bucket that has a block: the block's cells. -/
theorem buk_block {w : World} {b g n cap : Nat} {l : List It} (h : Buk w b (.slice (some ⟨g, 0, none⟩) n cap) l) :
    n = l.length ∧ b ≤ g ∧ l.length ≤ cap ∧ cap ≤ maxLen ∧ ∃ r : List Value, w.heap[g]? = some (.cells (itemsV l ++ r).toArray 104 (0, 0)) ∧ r.length = (cap - l.length) * 2 := by
  rcases h.2 with ⟨h, _⟩ | ⟨g', cap', cur, hv, hb, hg, h1, h2, h3, h4⟩
  · cases h
  · cases hv
    refine ⟨rfl, hb, h1, h2, cur.toList.drop (l.length * 2), ?_, ?_⟩
    · rw [hg, ← h4, List.take_append_drop]
    · simp [h3]; omega
theorem buk_make {w : World} {b g cap : Nat} {l : List It} {r : List Value} (hb : b ≤ g) (h1 : l.length ≤ cap) (h2 : cap ≤ maxLen) (hg : w.heap[g]? = some (.cells (itemsV l ++ r).toArray 104 (0, 0))) (hr : r.length = (cap - l.length) * 2) :
    Buk w b (.slice (some ⟨g, 0, none⟩) l.length cap) l := by
  refine ⟨itemsV_length l, .inr ⟨g, cap, _, rfl, hb, hg, h1, h2, ?_, ?_⟩⟩
  · simp [itemsV_length, hr]; omega
  · simp [← itemsV_length]
end Go.Proofs.YtdmamanlclajjaaGreat
