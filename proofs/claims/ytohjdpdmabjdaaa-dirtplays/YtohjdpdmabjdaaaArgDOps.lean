/-
  A []Op that is handed in, as a list of four integers each.
-/
import Derived.Test.YtohjdpdmabjdaaaArgs
namespace Go.Proofs.Ytohjdpdmabjdaaa
open Go.ChangeShapes Go.WideShapes Go.ChangeAt Go.RowKit Go.Deep

abbrev DOp := Int × Int × Int × Int
/-- What is known of ops that were handed in. -/
def DOpsAt (W : World) (v : Value) (os : List DOp) : Prop :=
  (os = [] ∧ ∃ a c, v = .slice a 0 c) ∨ ∃ g o cap, v = .slice (some ⟨g, o, none⟩) os.length cap ∧ g < W.heap.size ∧ ∀ i e, os[i]? = some e →
    W.cell? ⟨g, o + i * 4, none⟩ = some (.int .i64 e.1) ∧ W.cell? ⟨g, o + i * 4 + 1, none⟩ = some (.int .i64 e.2.1) ∧ W.cell? ⟨g, o + i * 4 + 2, none⟩ = some (.int .i64 e.2.2.1) ∧ W.cell? ⟨g, o + i * 4 + 3, none⟩ = some (.int .i64 e.2.2.2) ∧ e.2.2.1 ≤ 9223372036854775807

theorem cells41 : Try.prog.cellsOf 41 = 4 := by kernel_rfl
theorem cellsI : Try.prog.cellsOf 3 = 1 := by kernel_rfl

set_option maxRecDepth 100000 in
theorem op_cells {H : Type} {enc : TypeId × Value → H} {W : World} {base : Nat} {spare : Nat → Bool} {held : Bool} {n : Nat} {cs : List Value} {x : DataW H × List MemPlace} (hl : cs.length = 4)
    (h : DataW.trod enc Try.prog W base spare held n 41 cs = some x) : ∃ e : DOp, cs = [.int .i64 e.1, .int .i64 e.2.1, .int .i64 e.2.2.1, .int .i64 e.2.2.2] ∧ e.2.2.1 ≤ 9223372036854775807 := by
  obtain ⟨xs, k, hk, hxy, _, hxl, hf⟩ := DataW.trod_struct Try.underlying41 h
  match cs, hl with
  | [v0, v1, v2, v3], _ =>
    have g0 : DataW.trod enc Try.prog W base spare held k 3 (List.take (Try.prog.cellsOf 3) [v0, v1, v2, v3]) = xs[0]? := hf 0 _ rfl
    have g1 : DataW.trod enc Try.prog W base spare held k 3 (List.take (Try.prog.cellsOf 3) [v1, v2, v3]) = xs[1]? := hf 1 _ rfl
    have g2 : DataW.trod enc Try.prog W base spare held k 39 (List.take (Try.prog.cellsOf 39) [v2, v3]) = xs[2]? := hf 2 _ rfl
    rw [cellsI] at g0 g1
    rw [cells49] at g2
    match xs, hxl with
    | [y0, y1, y2], _ =>
      obtain ⟨a0, e0, _, _⟩ := DataW.trod_int Try.underlying3 (show DataW.trod enc Try.prog W base spare held k 3 [v0] = some y0 from g0)
      obtain ⟨a1, e1, _, _⟩ := DataW.trod_int Try.underlying3 (show DataW.trod enc Try.prog W base spare held k 3 [v1] = some y1 from g1)
      obtain ⟨zs, k2, _, _, _, hzl, hz⟩ := DataW.trod_struct Try.underlying39 (show DataW.trod enc Try.prog W base spare held k 39 [v2, v3] = some y2 from g2)
      have p0 : DataW.trod enc Try.prog W base spare held k2 3 (List.take (Try.prog.cellsOf 3) [v2, v3]) = zs[0]? := hz 0 _ rfl
      have p1 : DataW.trod enc Try.prog W base spare held k2 3 (List.take (Try.prog.cellsOf 3) [v3]) = zs[1]? := hz 1 _ rfl
      rw [cellsI] at p0 p1
      match zs, hzl with
      | [z0, z1], _ =>
        obtain ⟨a2, e2, _, w2⟩ := DataW.trod_int Try.underlying3 (show DataW.trod enc Try.prog W base spare held k2 3 [v2] = some z0 from p0)
        obtain ⟨a3, e3, _, _⟩ := DataW.trod_int Try.underlying3 (show DataW.trod enc Try.prog W base spare held k2 3 [v3] = some z1 from p1)
        simp at e0 e1 e2 e3
        subst e0; subst e1; subst e2; subst e3
        exact ⟨(a0, a1, a2, a3), rfl, (bounds_i64 w2).2⟩

set_option maxRecDepth 100000 in
theorem open_dops {H : Type} {enc : TypeId × Value → H} {W : World} {base : Nat} {v : Value} {d : DataW H} {p : List MemPlace} (hv : Value.okWide Try.prog W .any base 22 v)
    (h : DataW.Trod enc Try.prog W 0 (fun _ => true) true 22 v d p) : (∃ os, DOpsAt W v os) ∧ ∀ x ∈ p, x.block < W.heap.size := by
  refine ⟨?_, by obtain ⟨m, hm⟩ := h; exact DataW.trod_lt m _ _ _ hm⟩
  obtain ⟨a0, len0, cap0, rfl⟩ := okWide_slice Try.underlying22 hv
  obtain ⟨fuel, hf⟩ := h
  rcases open_slice Try.underlying22 hf with ⟨hcs, _⟩ | ⟨a, len, cap, m, n, D, Pl, hcs, _, hl, hm, hmm, hx, hcell⟩
  · simp [Value.cells] at hcs
    obtain ⟨rfl, rfl, rfl⟩ := hcs
    exact ⟨[], .inl ⟨rfl, _, _, rfl⟩⟩
  · simp [Value.cells] at hcs
    obtain ⟨rfl, rfl, rfl⟩ := hcs
    simp at hmm
    subst hmm
    rw [cells41] at hcell
    have each : ∀ i, i < m → ∃ q : DOp, W.cell? (a.add (i * 4)) = some (.int .i64 q.1) ∧ W.cell? (a.add (i * 4 + 1)) = some (.int .i64 q.2.1) ∧ W.cell? (a.add (i * 4 + 2)) = some (.int .i64 q.2.2.1) ∧ W.cell? (a.add (i * 4 + 3)) = some (.int .i64 q.2.2.2) ∧ q.2.2.1 ≤ 9223372036854775807 := by
      intro i hi
      obtain ⟨cs', h1, h2⟩ := hcell i hi
      obtain ⟨_, hlen, hc⟩ := World.cells?_some h1
      obtain ⟨e, rfl, he⟩ := op_cells hlen h2
      have e0 := hc 0 (by omega)
      have e1 := hc 1 (by omega)
      have e2 := hc 2 (by omega)
      have e3 := hc 3 (by omega)
      rw [add_add] at e0 e1 e2 e3
      exact ⟨e, by simpa using e0, by simpa using e1, by simpa using e2, by simpa using e3, he⟩
    obtain ⟨q, hq⟩ := choose_lt each
    refine ⟨(List.range len0).map q, ?_⟩
    by_cases h0 : len0 = 0
    · subst h0; exact .inl ⟨rfl, _, _, rfl⟩
    · obtain ⟨b, off, spot⟩ := a
      have hc0 := (hq 0 (by omega)).1
      have hspot : spot = none := by simpa [Addr.add] using World.cell?_spot hc0
      subst hspot
      have hbl : b < W.heap.size := World.block_lt_of_cell? W _ hc0
      refine .inr ⟨b, off, m, by simp, hbl, fun i e hp => ?_⟩
      have hi : i < len0 := by have := (List.getElem?_eq_some_iff.1 hp).1; simpa using this
      have hp' : e = q i := by simp [hi] at hp; exact hp.symm
      subst hp'
      obtain ⟨c0, c1, c2, c3, c4⟩ := hq i (by omega)
      rw [Addr.add_mid] at c0 c1 c2 c3
      exact ⟨c0, by rw [Nat.add_assoc]; exact c1, by rw [Nat.add_assoc]; exact c2, by rw [Nat.add_assoc]; exact c3, c4⟩

theorem DOpsAt.slice {W : World} {v : Value} {os : List DOp} (h : DOpsAt W v os) : ∃ a c, v = .slice a os.length c := by
  rcases h with ⟨rfl, a, c, rfl⟩ | ⟨g, o, cap, rfl, _⟩
  · exact ⟨_, _, rfl⟩
  · exact ⟨_, _, rfl⟩
theorem DOpsAt.at {w wr : World} {a : Option Addr} {n c : Nat} {os : List DOp} (h : DOpsAt w (.slice a n c) os) (hb : Below w.heap.size w wr) (i : Nat) (hi : i < os.length) :
    ∃ g o kd nn f m, a = some ⟨g, o, none⟩ ∧ g < w.heap.size ∧ wr.cell? ⟨g, o + i * 4, none⟩ = some (.int .i64 kd) ∧ wr.cell? ⟨g, o + i * 4 + 1, none⟩ = some (.int .i64 nn) ∧ wr.cell? ⟨g, o + i * 4 + 2, none⟩ = some (.int .i64 f) ∧ wr.cell? ⟨g, o + i * 4 + 3, none⟩ = some (.int .i64 m) ∧ f ≤ 9223372036854775807 := by
  rcases h with ⟨rfl, _⟩ | ⟨g, o, cap, hv, hg, hc⟩
  · simp at hi
  · cases hv
    obtain ⟨⟨kd, nn, f, m⟩, he⟩ : ∃ e, os[i]? = some e := ⟨os[i]'hi, by simp [hi]⟩
    obtain ⟨c0, c1, c2, c3, c4⟩ := hc i _ he
    exact ⟨g, o, kd, nn, f, m, rfl, hg, by rw [hb.cell (p := ⟨g, o + i * 4, none⟩) hg]; exact c0, by rw [hb.cell (p := ⟨g, o + i * 4 + 1, none⟩) hg]; exact c1, by rw [hb.cell (p := ⟨g, o + i * 4 + 2, none⟩) hg]; exact c2, by rw [hb.cell (p := ⟨g, o + i * 4 + 3, none⟩) hg]; exact c3, c4⟩
end Go.Proofs.Ytohjdpdmabjdaaa
