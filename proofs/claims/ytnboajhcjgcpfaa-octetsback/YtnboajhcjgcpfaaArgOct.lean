/-
  A []Op that is handed in: of each what is done, a number, how many bytes, a text, and a map.
-/
import Derived.Test.YtnboajhcjgcpfaaELent
import Derived.Test.YtnboajhcjgcpfaaEValid
import Derived.Deep.SlicePairs
import Derived.OpenShut
import Derived.ProofKit
namespace Go.Proofs.Ytnboajhcjgcpfaa
open Go.ChangeShapes Go.WideShapes Go.ChangeAt Go.RowKit Go.Deep

/-- What is done, a number, how many bytes, a text, a map. -/
structure OpE where
  k : Int
  v : Int
  n : Int
  s : List UInt8
  lv : Value
  l : List Ex
instance : Inhabited OpE := ⟨⟨0, 0, 0, [], .slice none 0 0, []⟩⟩
structure OpAt (W : World) (g o i : Nat) (e : OpE) : Prop where
  c0 : W.cell? ⟨g, o + i * 5, none⟩ = some (.int .i64 e.k)
  c1 : W.cell? ⟨g, o + i * 5 + 1, none⟩ = some (.int .i64 e.v)
  c2 : W.cell? ⟨g, o + i * 5 + 2, none⟩ = some (.int .i64 e.n)
  c3 : W.cell? ⟨g, o + i * 5 + 3, none⟩ = some (.string (str e.s))
  c4 : W.cell? ⟨g, o + i * 5 + 4, none⟩ = some e.lv
  row : BkE.Row W e.lv e.l
  hi : Hi e.l
  hv : e.v ≤ 9223372036854775807
def OpsAt (W : World) (v : Value) (os : List OpE) : Prop :=
  (os = [] ∧ ∃ a c, v = .slice a 0 c) ∨ ∃ g o cap, v = .slice (some ⟨g, o, none⟩) os.length cap ∧ g < W.heap.size ∧ ∀ (i : Nat) (e : OpE), os[i]? = some e → OpAt W g o i e
theorem OpAt.below {W W' : World} {g o i : Nat} {e : OpE} (h : OpAt W g o i e) (hb : Below W.heap.size W W') (hg : g < W.heap.size) : OpAt W' g o i e := by
  have hc : ∀ j, W'.cell? ⟨g, j, none⟩ = W.cell? ⟨g, j, none⟩ := fun j => hb.cell (p := ⟨g, j, none⟩) hg
  exact ⟨by rw [hc]; exact h.c0, by rw [hc]; exact h.c1, by rw [hc]; exact h.c2, by rw [hc]; exact h.c3, by rw [hc]; exact h.c4, h.row.below hb, h.hi, h.hv⟩
theorem OpsAt.below {W W' : World} {v : Value} {os : List OpE} (h : OpsAt W v os) (hb : Below W.heap.size W W') : OpsAt W' v os := by
  rcases h with h | ⟨g, o, cap, hv, hg, hc⟩
  · exact .inl h
  · exact .inr ⟨g, o, cap, hv, Nat.lt_of_lt_of_le hg hb.size, fun i e he => (hc i e he).below hb hg⟩
theorem OpsAt.slice {W : World} {v : Value} {os : List OpE} (h : OpsAt W v os) : ∃ a c, v = .slice a os.length c := by
  rcases h with ⟨rfl, a, c, rfl⟩ | ⟨g, o, cap, rfl, _⟩
  · exact ⟨_, _, rfl⟩
  · exact ⟨_, _, rfl⟩
theorem op_at {W : World} {os : List OpE} {a : Option Addr} {n c : Nat} (h : OpsAt W (.slice a n c) os) {i : Nat} (hi : i < os.length) : ∃ g o e, a = some ⟨g, o, none⟩ ∧ g < W.heap.size ∧ os[i]? = some e ∧ OpAt W g o i e := by
  rcases h with ⟨rfl, _⟩ | ⟨g, o, cap, he, hg, hc⟩
  · simp at hi
  · cases he
    exact ⟨g, o, os[i], rfl, hg, by simp [hi], hc i _ (by simp [hi])⟩

theorem cells32 : Try.prog.cellsOf 32 = 5 := by kernel_rfl
theorem cells71 : Try.prog.cellsOf 71 = 3 := by kernel_rfl
theorem cells30 : Try.prog.cellsOf 30 = 1 := by kernel_rfl
theorem cellsI : Try.prog.cellsOf 3 = 1 := by kernel_rfl
theorem cellsS : Try.prog.cellsOf 9 = 1 := by kernel_rfl
theorem laidOut : laidOutB Try.prog = true := by kernel_rfl

set_option maxRecDepth 100000 in
theorem ext_cells {H : Type} {enc : TypeId × Value → H} {W : World} {base : Nat} {spare : Nat → Bool} {held : Bool} {n : Nat} {cs : List Value} {x : DataW H × List MemPlace} (hl : cs.length = 3)
    (h : DataW.trod enc Try.prog W base spare held n 71 cs = some x) : ∃ e : Ex, cs = [.int .i64 e.1, .int .i64 e.2.1, .int .i64 e.2.2] ∧ e.1 ≤ 9223372036854775807 := by
  obtain ⟨xs, k, hk, hxy, _, hxl, hf⟩ := DataW.trod_struct Try.underlying71 h
  match cs, hl with
  | [v0, v1, v2], _ =>
    have g0 : DataW.trod enc Try.prog W base spare held k 3 (List.take (Try.prog.cellsOf 3) [v0, v1, v2]) = xs[0]? := hf 0 _ rfl
    have g1 : DataW.trod enc Try.prog W base spare held k 3 (List.take (Try.prog.cellsOf 3) [v1, v2]) = xs[1]? := hf 1 _ rfl
    have g2 : DataW.trod enc Try.prog W base spare held k 3 (List.take (Try.prog.cellsOf 3) [v2]) = xs[2]? := hf 2 _ rfl
    rw [cellsI] at g0 g1 g2
    match xs, hxl with
    | [y0, y1, y2], _ =>
      obtain ⟨a0, e0, _, w0⟩ := DataW.trod_int Try.underlying3 (show DataW.trod enc Try.prog W base spare held k 3 [v0] = some y0 from g0)
      obtain ⟨a1, e1, _, w1⟩ := DataW.trod_int Try.underlying3 (show DataW.trod enc Try.prog W base spare held k 3 [v1] = some y1 from g1)
      obtain ⟨a2, e2, _, w2⟩ := DataW.trod_int Try.underlying3 (show DataW.trod enc Try.prog W base spare held k 3 [v2] = some y2 from g2)
      simp at e0 e1 e2
      subst e0; subst e1; subst e2
      exact ⟨(a0, a1, a2), rfl, (bounds_i64 w0).2⟩

set_option maxRecDepth 100000 in
theorem exts_of_trod {H : Type} {enc : TypeId × Value → H} {W : World} {v : Value} {fuel : Nat} {x : DataW H × List MemPlace}
    (hf : DataW.trod enc Try.prog W 0 (fun _ => true) true fuel 30 [v] = some x) : ∃ l, BkE.Row W v l ∧ Hi l := by
  rcases open_slice Try.underlying30 hf with ⟨hcs, _⟩ | ⟨a, len, cap, m, n, D, Pl, hcs, _, hl, hm, hmm, hx, hcell⟩
  · cases hcs
    exact ⟨[], .inl ⟨⟨_, _, rfl⟩, rfl⟩, fun x hx => by cases hx⟩
  · cases hcs
    simp at hmm
    subst hmm
    rw [cells71] at hcell
    have each : ∀ i, i < m → ∃ q : Ex, (W.cell? (a.add (i * 3)) = some (.int .i64 q.1) ∧ W.cell? (a.add (i * 3 + 1)) = some (.int .i64 q.2.1) ∧ W.cell? (a.add (i * 3 + 2)) = some (.int .i64 q.2.2)) ∧ q.1 ≤ 9223372036854775807 := by
      intro i hi
      obtain ⟨cs', h1, h2⟩ := hcell i hi
      obtain ⟨_, hlen, hc⟩ := World.cells?_some h1
      obtain ⟨e, rfl, hle⟩ := ext_cells hlen h2
      have e0 := hc 0 (by omega)
      have e1 := hc 1 (by omega)
      have e2 := hc 2 (by omega)
      rw [add_add] at e0 e1 e2
      exact ⟨e, ⟨by simpa using e0, by simpa using e1, by simpa using e2⟩, hle⟩
    obtain ⟨q, hq⟩ := choose_lt each
    refine ⟨(List.range len).map q, ?_, fun x hx => ?_⟩
    · by_cases h0 : len = 0
      · subst h0; exact .inl ⟨⟨_, _, rfl⟩, rfl⟩
      · obtain ⟨b, off, spot⟩ := a
        have hc0 := (hq 0 (by omega)).1.1
        have hspot : spot = none := by simpa [Addr.add] using World.cell?_spot hc0
        subst hspot
        have hbl : b < W.heap.size := World.block_lt_of_cell? W _ hc0
        refine .inr ⟨b, off, m, by simp, hbl, fun i e hp => ?_⟩
        have hi : i < len := by have := (List.getElem?_eq_some_iff.1 hp).1; simpa using this
        have hp' : e = q i := by simp [hi] at hp; exact hp.symm
        subst hp'
        obtain ⟨⟨c0, c1, c2⟩, _⟩ := hq i (by omega)
        rw [Addr.add_mid] at c0 c1 c2
        exact ⟨c0, by rw [Nat.add_assoc]; exact c1, by rw [Nat.add_assoc]; exact c2⟩
    · simp only [List.mem_map, List.mem_range] at hx
      obtain ⟨i, hi, rfl⟩ := hx
      exact (hq i (by omega)).2

set_option maxRecDepth 100000 in
theorem op_cells {H : Type} {enc : TypeId × Value → H} {W : World} {n : Nat} {cs : List Value} {x : DataW H × List MemPlace} (hl : cs.length = 5)
    (h : DataW.trod enc Try.prog W 0 (fun _ => true) true n 32 cs = some x) : ∃ e : OpE, cs = [.int .i64 e.k, .int .i64 e.v, .int .i64 e.n, .string (str e.s), e.lv] ∧ BkE.Row W e.lv e.l ∧ Hi e.l ∧ e.v ≤ 9223372036854775807 := by
  obtain ⟨xs, k, hk, hxy, _, hxl, hf⟩ := DataW.trod_struct Try.underlying32 h
  match cs, hl with
  | [v0, v1, v2, v3, v4], _ =>
    have g0 : DataW.trod enc Try.prog W 0 (fun _ => true) true k 3 (List.take (Try.prog.cellsOf 3) [v0, v1, v2, v3, v4]) = xs[0]? := hf 0 _ rfl
    have g1 : DataW.trod enc Try.prog W 0 (fun _ => true) true k 3 (List.take (Try.prog.cellsOf 3) [v1, v2, v3, v4]) = xs[1]? := hf 1 _ rfl
    have g2 : DataW.trod enc Try.prog W 0 (fun _ => true) true k 3 (List.take (Try.prog.cellsOf 3) [v2, v3, v4]) = xs[2]? := hf 2 _ rfl
    have g3 : DataW.trod enc Try.prog W 0 (fun _ => true) true k 9 (List.take (Try.prog.cellsOf 9) [v3, v4]) = xs[3]? := hf 3 _ rfl
    have g4 : DataW.trod enc Try.prog W 0 (fun _ => true) true k 30 (List.take (Try.prog.cellsOf 30) [v4]) = xs[4]? := hf 4 _ rfl
    rw [cellsI] at g0 g1 g2
    rw [cellsS] at g3
    rw [cells30] at g4
    match xs, hxl with
    | [y0, y1, y2, y3, y4], _ =>
      obtain ⟨a0, e0, _, w0⟩ := DataW.trod_int Try.underlying3 (show DataW.trod enc Try.prog W 0 (fun _ => true) true k 3 [v0] = some y0 from g0)
      obtain ⟨a1, e1, _, w1⟩ := DataW.trod_int Try.underlying3 (show DataW.trod enc Try.prog W 0 (fun _ => true) true k 3 [v1] = some y1 from g1)
      obtain ⟨a2, e2, _, w2⟩ := DataW.trod_int Try.underlying3 (show DataW.trod enc Try.prog W 0 (fun _ => true) true k 3 [v2] = some y2 from g2)
      obtain ⟨a3, e3, _, _⟩ := DataW.trod_string Try.underlying9 (show DataW.trod enc Try.prog W 0 (fun _ => true) true k 9 [v3] = some y3 from g3)
      obtain ⟨l, hr, hh⟩ := exts_of_trod (show DataW.trod enc Try.prog W 0 (fun _ => true) true k 30 [v4] = some y4 from g4)
      simp at e0 e1 e2 e3
      subst e0; subst e1; subst e2; subst e3
      obtain ⟨T, rfl⟩ := str_ex a3
      exact ⟨⟨a0, a1, a2, T, v4, l⟩, rfl, hr, hh, (bounds_i64 w1).2⟩

set_option maxRecDepth 100000 in
theorem open_ops {H : Type} {enc : TypeId × Value → H} {W : World} {base : Nat} {v : Value} {d : DataW H} {p : List MemPlace} (hv : Value.okWide Try.prog W .any base 22 v)
    (h : DataW.Trod enc Try.prog W 0 (fun _ => true) true 22 v d p) : (∃ os, OpsAt W v os) ∧ ∀ x ∈ p, x.block < W.heap.size := by
  refine ⟨?_, by obtain ⟨m, hm⟩ := h; exact DataW.trod_lt m _ _ _ hm⟩
  obtain ⟨a0, len0, cap0, rfl⟩ := okWide_slice Try.underlying22 hv
  obtain ⟨fuel, hf⟩ := h
  rcases open_slice Try.underlying22 hf with ⟨hcs, _⟩ | ⟨a, len, cap, m, n, D, Pl, hcs, _, hl, hm, hmm, hx, hcell⟩
  · simp [Value.cells] at hcs
    obtain ⟨rfl, rfl, rfl⟩ := hcs
    exact ⟨[], .inl ⟨rfl, _, _, rfl⟩⟩
  · simp [Value.cells] at hcs
    obtain ⟨rfl, rfl, rfl⟩ := hcs
    simp at hmm
    subst hmm
    rw [cells32] at hcell
    have each : ∀ i, i < m → ∃ q : OpE, (W.cell? (a.add (i * 5)) = some (.int .i64 q.k) ∧ W.cell? (a.add (i * 5 + 1)) = some (.int .i64 q.v) ∧ W.cell? (a.add (i * 5 + 2)) = some (.int .i64 q.n) ∧ W.cell? (a.add (i * 5 + 3)) = some (.string (str q.s)) ∧ W.cell? (a.add (i * 5 + 4)) = some q.lv) ∧ BkE.Row W q.lv q.l ∧ Hi q.l ∧ q.v ≤ 9223372036854775807 := by
      intro i hi
      obtain ⟨cs', h1, h2⟩ := hcell i hi
      obtain ⟨_, hlen, hc⟩ := World.cells?_some h1
      obtain ⟨e, rfl, he⟩ := op_cells hlen h2
      have e0 := hc 0 (by omega)
      have e1 := hc 1 (by omega)
      have e2 := hc 2 (by omega)
      have e3 := hc 3 (by omega)
      have e4 := hc 4 (by omega)
      rw [add_add] at e0 e1 e2 e3 e4
      exact ⟨e, ⟨by simpa using e0, by simpa using e1, by simpa using e2, by simpa using e3, by simpa using e4⟩, he⟩
    obtain ⟨q, hq⟩ := choose_lt each
    refine ⟨(List.range len0).map q, ?_⟩
    by_cases h0 : len0 = 0
    · subst h0; exact .inl ⟨rfl, _, _, rfl⟩
    · obtain ⟨b, off, spot⟩ := a
      have hc0 := (hq 0 (by omega)).1.1
      have hspot : spot = none := by simpa [Addr.add] using World.cell?_spot hc0
      subst hspot
      have hbl : b < W.heap.size := World.block_lt_of_cell? W _ hc0
      refine .inr ⟨b, off, m, by simp, hbl, fun i e hp => ?_⟩
      have hi : i < len0 := by have := (List.getElem?_eq_some_iff.1 hp).1; simpa using this
      have hp' : e = q i := by simp [hi] at hp; exact hp.symm
      subst hp'
      obtain ⟨⟨c0, c1, c2, c3, c4⟩, r1, r2, r3⟩ := hq i (by omega)
      rw [Addr.add_mid] at c0 c1 c2 c3 c4
      exact ⟨c0, by rw [Nat.add_assoc]; exact c1, by rw [Nat.add_assoc]; exact c2, by rw [Nat.add_assoc]; exact c3, by rw [Nat.add_assoc]; exact c4, r1, r2, r3⟩
end Go.Proofs.Ytnboajhcjgcpfaa
