/-
  A []Op that is handed in: of each what is done, and its list of spans.
-/
import Derived.Test.YtpdbnldbdmhhfaaArgs
namespace Go.Proofs.Ytpdbnldbdmhhfaa
open Go.ChangeShapes Go.WideShapes Go.ChangeAt Go.RowKit Go.Deep

abbrev OpE := Int × Value × List Sp
def OpsAt (W : World) (v : Value) (os : List OpE) : Prop :=
  (os = [] ∧ ∃ a c, v = .slice a 0 c) ∨ ∃ g o cap, v = .slice (some ⟨g, o, none⟩) os.length cap ∧ g < W.heap.size ∧
    ∀ (i : Nat) (e : OpE), os[i]? = some e → W.cell? ⟨g, o + i * 2, none⟩ = some (.int .i64 e.1) ∧ W.cell? ⟨g, o + i * 2 + 1, none⟩ = some e.2.1 ∧ Handed W e.2.1 e.2.2

theorem cells43 : Try.prog.cellsOf 43 = 2 := by kernel_rfl

set_option maxRecDepth 100000 in
theorem spans_of_trod {H : Type} {enc : TypeId × Value → H} {W : World} {v : Value} {fuel : Nat} {x : DataW H × List MemPlace} (hf : DataW.trod enc Try.prog W 0 (fun _ => true) true fuel 22 [v] = some x) : ∃ l, Handed W v l := by
  rcases open_slice_pairs Try.underlying22 Try.underlying49 cells49 rfl rfl (by kernel_rfl) (by kernel_rfl) hf with ⟨hcs, _⟩ | ⟨a, len, cap, m, n, V0, V1, D0, D1, P0, P1, hcs, _, hl, hm, hmm, hx, hcell⟩
  · cases hcs
    exact ⟨[], .inl ⟨⟨_, _, rfl⟩, rfl⟩, fun p hp => by simp at hp, none, 0, rfl, Nat.le_refl _, Nat.zero_le _⟩
  · cases hcs
    simp at hmm
    subst hmm
    have each : ∀ i, i < m → ∃ q : Int × Int, V0 i = .int .i64 q.1 ∧ V1 i = .int .i64 q.2 ∧ q.1 ≤ 9223372036854775807 := by
      intro i hi
      obtain ⟨_, _, t0, t1⟩ := hcell i hi
      obtain ⟨x, ex, _, wx⟩ := DataW.trod_int Try.underlying3 t0
      obtain ⟨y, ey, _, wy⟩ := DataW.trod_int Try.underlying3 t1
      simp at ex ey
      exact ⟨(x, y), ex, ey, (bounds_i64 wx).2⟩
    obtain ⟨q, hq⟩ := choose_lt each
    refine ⟨(List.range len).map q, ?_, ?_, some a, m, by simp, by simpa using hl, hm⟩
    · by_cases h0 : len = 0
      · subst h0; exact .inl ⟨⟨_, _, rfl⟩, rfl⟩
      · obtain ⟨b, off, spot⟩ := a
        have hc0 := (hcell 0 (by omega)).1
        have hspot : spot = none := by simpa [Addr.add] using World.cell?_spot hc0
        subst hspot
        have hbl : b < W.heap.size := World.block_lt_of_cell? W _ hc0
        refine .inr ⟨b, off, m, by simp, hbl, fun i p hp => ?_⟩
        have hi : i < len := by have := (List.getElem?_eq_some_iff.1 hp).1; simpa using this
        have hp' : p = q i := by simp [hi] at hp; exact hp.symm
        obtain ⟨c0, c1, _, _⟩ := hcell i (by omega)
        obtain ⟨e0, e1, _⟩ := hq i (by omega)
        rw [Addr.add_mid] at c0 c1
        rw [hp', ← e0, ← e1, Nat.add_assoc]
        exact ⟨c0, c1⟩
    · intro p hp
      simp only [List.mem_map, List.mem_range] at hp
      obtain ⟨i, hi, rfl⟩ := hp
      exact (hq i (by omega)).2.2

set_option maxRecDepth 100000 in
theorem open_ops {H : Type} {enc : TypeId × Value → H} {W : World} {base : Nat} {v : Value} {d : DataW H} {p : List MemPlace} (hv : Value.okWide Try.prog W .any base 23 v)
    (h : DataW.Trod enc Try.prog W 0 (fun _ => true) true 23 v d p) : (∃ os, OpsAt W v os) ∧ ∀ x ∈ p, x.block < W.heap.size := by
  refine ⟨?_, by obtain ⟨m, hm⟩ := h; exact DataW.trod_lt m _ _ _ hm⟩
  obtain ⟨a0, len0, cap0, rfl⟩ := okWide_slice Try.underlying23 hv
  obtain ⟨fuel, hf⟩ := h
  rcases open_slice_pairs Try.underlying23 Try.underlying43 cells43 rfl rfl (by kernel_rfl) (by kernel_rfl) hf with ⟨hcs, _⟩ | ⟨a, len, cap, m, n, V0, V1, D0, D1, P0, P1, hcs, _, hl, hm, hmm, hx, hcell⟩
  · simp [Value.cells] at hcs
    obtain ⟨rfl, rfl, rfl⟩ := hcs
    exact ⟨[], .inl ⟨rfl, _, _, rfl⟩⟩
  · simp [Value.cells] at hcs
    obtain ⟨rfl, rfl, rfl⟩ := hcs
    simp at hmm
    subst hmm
    have each : ∀ i, i < m → ∃ q : OpE, V0 i = .int .i64 q.1 ∧ V1 i = q.2.1 ∧ Handed W q.2.1 q.2.2 := by
      intro i hi
      obtain ⟨_, _, t0, t1⟩ := hcell i hi
      obtain ⟨x, ex, _, wx⟩ := DataW.trod_int Try.underlying3 t0
      obtain ⟨l, hl⟩ := spans_of_trod t1
      simp at ex
      exact ⟨(x, V1 i, l), ex, rfl, hl⟩
    obtain ⟨q, hq⟩ := choose_lt each
    refine ⟨(List.range len0).map q, ?_⟩
    by_cases h0 : len0 = 0
    · subst h0; exact .inl ⟨rfl, _, _, rfl⟩
    · obtain ⟨b, off, spot⟩ := a
      have hc0 := (hcell 0 (by omega)).1
      have hspot : spot = none := by simpa [Addr.add] using World.cell?_spot hc0
      subst hspot
      have hbl : b < W.heap.size := World.block_lt_of_cell? W _ hc0
      refine .inr ⟨b, off, m, by simp, hbl, fun i e hp => ?_⟩
      have hi : i < len0 := by have := (List.getElem?_eq_some_iff.1 hp).1; simpa using this
      have hp' : e = q i := by simp [hi] at hp; exact hp.symm
      obtain ⟨c0, c1, _, _⟩ := hcell i (by omega)
      obtain ⟨e0, e1, e2⟩ := hq i (by omega)
      rw [Addr.add_mid] at c0 c1
      subst hp'
      rw [← e0, Nat.add_assoc]
      exact ⟨c0, by rw [← e1]; exact c1, e2⟩
end Go.Proofs.Ytpdbnldbdmhhfaa
