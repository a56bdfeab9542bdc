/-
  What is handed in: a []bool; a []Op: of each what is done, a number, bytes, and which pages are kept; the law's Light.
-/
import Derived.Test.YtjjfdkgnagfbcaaPPage
import Derived.Deep.SlicePairs
import Derived.OpenShut
namespace Go.Proofs.Ytjjfdkgnagfbcaa
open Go.ChangeShapes Go.WideShapes Go.ChangeAt Go.RowKit Go.Deep
attribute [local go_sem ↓] Go.wp_at_zero Go.wp_at_succ
attribute [local go_sem] str_size str_extract str_append str_toList

/-- What is done, a number, bytes, which pages are kept. -/
structure OpE where
  k : Int
  n : Int
  s : List UInt8
  kv : Value
  l : List Bool
instance : Inhabited OpE := ⟨⟨0, 0, [], .slice none 0 0, []⟩⟩
structure OpAt (W : World) (g o i : Nat) (e : OpE) : Prop where
  c0 : W.cell? ⟨g, o + i * 4, none⟩ = some (.int .i64 e.k)
  c1 : W.cell? ⟨g, o + i * 4 + 1, none⟩ = some (.int .i64 e.n)
  c2 : W.cell? ⟨g, o + i * 4 + 2, none⟩ = some (.string (str e.s))
  c3 : W.cell? ⟨g, o + i * 4 + 3, none⟩ = some e.kv
  row : BoolsAt W e.kv e.l
  hn : e.n ≤ 9223372036854775807
  hn0 : -9223372036854775808 ≤ e.n
def OpsAt (W : World) (v : Value) (os : List OpE) : Prop :=
  (os = [] ∧ ∃ a c, v = .slice a 0 c) ∨ ∃ g o cap, v = .slice (some ⟨g, o, none⟩) os.length cap ∧ g < W.heap.size ∧ ∀ (i : Nat) (e : OpE), os[i]? = some e → OpAt W g o i e
theorem OpAt.below {W W' : World} {g o i : Nat} {e : OpE} (h : OpAt W g o i e) (hb : Below W.heap.size W W') (hg : g < W.heap.size) : OpAt W' g o i e := by
  have hc : ∀ j, W'.cell? ⟨g, j, none⟩ = W.cell? ⟨g, j, none⟩ := fun j => hb.cell (p := ⟨g, j, none⟩) hg
  exact ⟨by rw [hc]; exact h.c0, by rw [hc]; exact h.c1, by rw [hc]; exact h.c2, by rw [hc]; exact h.c3, h.row.below hb, h.hn, h.hn0⟩
theorem OpsAt.below {W W' : World} {v : Value} {os : List OpE} (h : OpsAt W v os) (hb : Below W.heap.size W W') : OpsAt W' v os := by
  rcases h with h | ⟨g, o, cap, hv, hg, hc⟩
  · exact .inl h
  · exact .inr ⟨g, o, cap, hv, Nat.lt_of_lt_of_le hg hb.size, fun i e he => (hc i e he).below hb hg⟩
theorem OpsAt.slice {W : World} {v : Value} {os : List OpE} (h : OpsAt W v os) : ∃ a c, v = .slice a os.length c := by
  rcases h with ⟨rfl, a, c, rfl⟩ | ⟨g, o, cap, rfl, _⟩
  · exact ⟨_, _, rfl⟩
  · exact ⟨_, _, rfl⟩
theorem op_at {W : World} {os : List OpE} {a : Option Addr} {n c : Nat} (h : OpsAt W (.slice a n c) os) {i : Nat} (hi : i < os.length) : ∃ g o e, a = some ⟨g, o, none⟩ ∧ g < W.heap.size ∧ os[i]? = some e ∧ OpAt W g o i e := by
  rcases h with ⟨rfl, _⟩ | ⟨g, o, cap, he, hg, hc⟩
  · simp at hi
  · cases he
    exact ⟨g, o, os[i], rfl, hg, by simp [hi], hc i _ (by simp [hi])⟩
theorem BoolsAt.lt {w : World} {v : Value} {l : List Bool} (h : BoolsAt w v l) (hl : l ≠ []) {g : Nat} (hg : v.ownBlock = some g) : g < w.heap.size := by
  rcases h with ⟨h, _⟩ | ⟨g', o, cap, rfl, h2, _⟩
  · exact absurd h hl
  · cases hg; exact h2

theorem cells32 : Try.prog.cellsOf 32 = 4 := by kernel_rfl
theorem cells30 : Try.prog.cellsOf 30 = 1 := by kernel_rfl
theorem cellsI : Try.prog.cellsOf 3 = 1 := by kernel_rfl
theorem cellsB : Try.prog.cellsOf 4 = 1 := by kernel_rfl
theorem cellsS : Try.prog.cellsOf 9 = 1 := by kernel_rfl
theorem laidOut : laidOutB Try.prog = true := by kernel_rfl

set_option maxRecDepth 100000 in
theorem bools_of_trod {H : Type} {enc : TypeId × Value → H} {W : World} {v : Value} {fuel : Nat} {x : DataW H × List MemPlace}
    (hf : DataW.trod enc Try.prog W 0 (fun _ => true) true fuel 30 [v] = some x) : ∃ l, BoolsAt W v l := by
  rcases open_slice1 Try.underlying30 cellsB hf with ⟨hcs, _⟩ | ⟨a, len, cap, m, n, V, D, Pl, hcs, _, hl, hm, hmm, hx, hcell⟩
  · cases hcs
    exact ⟨[], .inl ⟨rfl, _, _, rfl⟩⟩
  · cases hcs
    simp at hmm
    subst hmm
    have each : ∀ i, i < m → ∃ b : Bool, W.cell? (a.add i) = some (.bool b) := by
      intro i hi
      obtain ⟨h1, h2⟩ := hcell i hi
      obtain ⟨b, hb, _⟩ := DataW.trod_bool Try.underlying4 h2
      have hv : V i = .bool b := by simpa using hb
      exact ⟨b, by rw [h1, hv]⟩
    obtain ⟨q, hq⟩ := choose_lt each
    refine ⟨(List.range len).map q, ?_⟩
    by_cases h0 : len = 0
    · subst h0; exact .inl ⟨rfl, _, _, rfl⟩
    · obtain ⟨b, off, spot⟩ := a
      have hc0 := hq 0 (by omega)
      have hspot : spot = none := by simpa [Addr.add] using World.cell?_spot hc0
      subst hspot
      have hbl : b < W.heap.size := World.block_lt_of_cell? W _ hc0
      refine .inr ⟨b, off, m, by simp, hbl, by simpa using hl, fun i e hp => ?_⟩
      have hi : i < len := by have := (List.getElem?_eq_some_iff.1 hp).1; simpa using this
      have hp' : e = q i := by simp [hi] at hp; exact hp.symm
      subst hp'
      have := hq i (by omega)
      rw [Addr.add_mid] at this
      exact this
set_option maxRecDepth 100000 in
theorem open_bools {H : Type} {enc : TypeId × Value → H} {W : World} {base : Nat} {v : Value} {d : DataW H} {p : List MemPlace} (hv : Value.okWide Try.prog W .any base 30 v)
    (h : DataW.Trod enc Try.prog W 0 (fun _ => true) true 30 v d p) : (∃ l, BoolsAt W v l) ∧ ∀ x ∈ p, x.block < W.heap.size := by
  refine ⟨?_, by obtain ⟨m, hm⟩ := h; exact DataW.trod_lt m _ _ _ hm⟩
  obtain ⟨a0, len0, cap0, rfl⟩ := okWide_slice Try.underlying30 hv
  obtain ⟨fuel, hf⟩ := h
  exact bools_of_trod (by simpa [Value.cells] using hf)

set_option maxRecDepth 100000 in
theorem op_cells {H : Type} {enc : TypeId × Value → H} {W : World} {n : Nat} {cs : List Value} {x : DataW H × List MemPlace} (hl : cs.length = 4)
    (h : DataW.trod enc Try.prog W 0 (fun _ => true) true n 32 cs = some x) : ∃ e : OpE, cs = [.int .i64 e.k, .int .i64 e.n, .string (str e.s), e.kv] ∧ BoolsAt W e.kv e.l ∧ e.n ≤ 9223372036854775807 ∧ -9223372036854775808 ≤ e.n := by
  obtain ⟨xs, k, hk, hxy, _, hxl, hf⟩ := DataW.trod_struct Try.underlying32 h
  match cs, hl with
  | [v0, v1, v2, v3], _ =>
    have g0 : DataW.trod enc Try.prog W 0 (fun _ => true) true k 3 (List.take (Try.prog.cellsOf 3) [v0, v1, v2, v3]) = xs[0]? := hf 0 _ rfl
    have g1 : DataW.trod enc Try.prog W 0 (fun _ => true) true k 3 (List.take (Try.prog.cellsOf 3) [v1, v2, v3]) = xs[1]? := hf 1 _ rfl
    have g2 : DataW.trod enc Try.prog W 0 (fun _ => true) true k 9 (List.take (Try.prog.cellsOf 9) [v2, v3]) = xs[2]? := hf 2 _ rfl
    have g3 : DataW.trod enc Try.prog W 0 (fun _ => true) true k 30 (List.take (Try.prog.cellsOf 30) [v3]) = xs[3]? := hf 3 _ rfl
    rw [cellsI] at g0 g1
    rw [cellsS] at g2
    rw [cells30] at g3
    match xs, hxl with
    | [y0, y1, y2, y3], _ =>
      obtain ⟨a0, e0, _, w0⟩ := DataW.trod_int Try.underlying3 (show DataW.trod enc Try.prog W 0 (fun _ => true) true k 3 [v0] = some y0 from g0)
      obtain ⟨a1, e1, _, w1⟩ := DataW.trod_int Try.underlying3 (show DataW.trod enc Try.prog W 0 (fun _ => true) true k 3 [v1] = some y1 from g1)
      obtain ⟨a2, e2, _, _⟩ := DataW.trod_string Try.underlying9 (show DataW.trod enc Try.prog W 0 (fun _ => true) true k 9 [v2] = some y2 from g2)
      obtain ⟨l, hr⟩ := bools_of_trod (show DataW.trod enc Try.prog W 0 (fun _ => true) true k 30 [v3] = some y3 from g3)
      simp at e0 e1 e2
      subst e0; subst e1; subst e2
      obtain ⟨T, rfl⟩ := str_ex a2
      exact ⟨⟨a0, a1, T, v3, l⟩, rfl, hr, (bounds_i64 w1).2, (bounds_i64 w1).1⟩

set_option maxRecDepth 100000 in
theorem open_ops {H : Type} {enc : TypeId × Value → H} {W : World} {base : Nat} {v : Value} {d : DataW H} {p : List MemPlace} (hv : Value.okWide Try.prog W .any base 22 v)
    (h : DataW.Trod enc Try.prog W 0 (fun _ => true) true 22 v d p) : (∃ os, OpsAt W v os) ∧ ∀ x ∈ p, x.block < W.heap.size := by
  refine ⟨?_, by obtain ⟨m, hm⟩ := h; exact DataW.trod_lt m _ _ _ hm⟩
  obtain ⟨a0, len0, cap0, rfl⟩ := okWide_slice Try.underlying22 hv
  obtain ⟨fuel, hf⟩ := h
  rcases open_slice Try.underlying22 hf with ⟨hcs, _⟩ | ⟨a, len, cap, m, n, D, Pl, hcs, _, hl, hm, hmm, hx, hcell⟩
  · simp [Value.cells] at hcs
    obtain ⟨rfl, rfl, rfl⟩ := hcs
    exact ⟨[], .inl ⟨rfl, _, _, rfl⟩⟩
  · simp [Value.cells] at hcs
    obtain ⟨rfl, rfl, rfl⟩ := hcs
    simp at hmm
    subst hmm
    rw [cells32] at hcell
    have each : ∀ i, i < m → ∃ q : OpE, (W.cell? (a.add (i * 4)) = some (.int .i64 q.k) ∧ W.cell? (a.add (i * 4 + 1)) = some (.int .i64 q.n) ∧ W.cell? (a.add (i * 4 + 2)) = some (.string (str q.s)) ∧ W.cell? (a.add (i * 4 + 3)) = some q.kv) ∧ BoolsAt W q.kv q.l ∧ q.n ≤ 9223372036854775807 ∧ -9223372036854775808 ≤ q.n := by
      intro i hi
      obtain ⟨cs', h1, h2⟩ := hcell i hi
      obtain ⟨_, hlen, hc⟩ := World.cells?_some h1
      obtain ⟨e, rfl, he⟩ := op_cells hlen h2
      have e0 := hc 0 (by omega)
      have e1 := hc 1 (by omega)
      have e2 := hc 2 (by omega)
      have e3 := hc 3 (by omega)
      rw [add_add] at e0 e1 e2 e3
      exact ⟨e, ⟨by simpa using e0, by simpa using e1, by simpa using e2, by simpa using e3⟩, he⟩
    obtain ⟨q, hq⟩ := choose_lt each
    refine ⟨(List.range len0).map q, ?_⟩
    by_cases h0 : len0 = 0
    · subst h0; exact .inl ⟨rfl, _, _, rfl⟩
    · obtain ⟨b, off, spot⟩ := a
      have hc0 := (hq 0 (by omega)).1.1
      have hspot : spot = none := by simpa [Addr.add] using World.cell?_spot hc0
      subst hspot
      have hbl : b < W.heap.size := World.block_lt_of_cell? W _ hc0
      refine .inr ⟨b, off, m, by simp, hbl, fun i e hp => ?_⟩
      have hi : i < len0 := by have := (List.getElem?_eq_some_iff.1 hp).1; simpa using this
      have hp' : e = q i := by simp [hi] at hp; exact hp.symm
      subst hp'
      obtain ⟨⟨c0, c1, c2, c3⟩, r1, r2, r3⟩ := hq i (by omega)
      rw [Addr.add_mid] at c0 c1 c2 c3
      exact ⟨c0, by rw [Nat.add_assoc]; exact c1, by rw [Nat.add_assoc]; exact c2, by rw [Nat.add_assoc]; exact c3, r1, r2, r3⟩

/-! ### Light -/
def okE (e : OpE) : Bool := decide (e.s.length ≤ 100) && decide (e.l.length ≤ 60)
def LightB (os : List OpE) : Bool := decide (os.length ≤ 60) && (os.take 100).all okE
theorem light_all {os : List OpE} (h : LightB os = true) : os.length ≤ 60 ∧ ∀ e ∈ os, e.s.length ≤ 100 ∧ e.l.length ≤ 60 := by
  unfold LightB at h
  rw [Bool.and_eq_true, decide_eq_true_eq, List.all_eq_true] at h
  refine ⟨h.1, fun e he => ?_⟩
  have := h.2 e (by rw [List.take_of_length_le (by omega)]; exact he)
  unfold okE at this
  rw [Bool.and_eq_true, decide_eq_true_eq, decide_eq_true_eq] at this
  exact this
set_option maxRecDepth 100000 in
theorem light_any {w : World} {v : Value} {os : List OpE} (h : OpsAt w v os) :
    Calls Try.prog 7 #[v] w fun e w' => e = .returned (.bool (LightB os)) ∧ w' = w := by
  obtain ⟨a, c, rfl⟩ := h.slice
  have h' := Hid.intro h
  clear h
  have n0 : (0 : Int) ≤ (os.length : Int) := Int.natCast_nonneg _
  obtain ⟨R, hR⟩ : ∃ R, Hid (LightB os = R) := ⟨_, rfl⟩
  rw [hR.out]
  have hno : Hid (∀ (i : Nat) (e : OpE), os[i]? = some e → i < 100 → okE e = false → R = false) := Hid.intro (fun i e he hi hb => by
    rw [← hR.out]
    unfold LightB
    rw [Bool.and_eq_false_iff]
    refine .inr (List.all_eq_false.2 ⟨e, ?_, by rw [hb]; decide⟩)
    exact List.mem_of_getElem? (i := i) (by rw [List.getElem?_take, if_pos hi]; exact he))
  go_enter Try.func7, Try.ntmps7
  go_wp2_with fail
  go_loopw [3] (fun jv wr => ∃ i : Nat, i ≤ os.length ∧ i ≤ 100 ∧ jv = .int .i64 i ∧ (os.take i).all okE = true ∧ wr = w) (fun jv _ => os.length - (intOf jv).toNat)
  case atStart => exact ⟨0, Nat.zero_le _, Nat.zero_le _, rfl, rfl, rfl⟩
  case round =>
    obtain ⟨i, hi, hi60, rfl, hf, rfl⟩ := hrel
    have i0 : (0 : Int) ≤ (i : Int) := Int.natCast_nonneg _
    have hf' := Hid.intro hf
    clear hf
    by_cases hlt : i < os.length
    · have i1 : (i : Int) < (os.length : Int) := by omega
      by_cases h60 : i < 100
      · have i2 : (i : Int) < 100 := by omega
        obtain ⟨g, o, ⟨ek, en, es, elv, el⟩, rfl, hg, he, hop⟩ := op_at h'.out hlt
        obtain ⟨d0, d1, d2, d3, hrow, _, _⟩ := hop
        simp only at d0 d1 d2 d3 hrow
        obtain ⟨la, lc, rfl⟩ := hrow.form
        have he' := Hid.intro he
        clear he hrow d0 d1
        by_cases c1 : 100 < es.length
        · have c1i : (100 : Int) < (es.length : Int) := by omega
          have hRf := Hid.intro (hno.out i _ he'.out h60 (by unfold okE; simp only; rw [decide_eq_false (by omega)]; rfl))
          go_wp2
          go_ret
          exact ⟨by rw [hRf.out]; rfl, rfl⟩
        · have c1i : ¬ (100 : Int) < (es.length : Int) := by omega
          by_cases c2 : 60 < el.length
          · have c2i : (60 : Int) < (el.length : Int) := by omega
            have hRf := Hid.intro (hno.out i _ he'.out h60 (by unfold okE; simp only; rw [decide_eq_false (p := el.length ≤ 60) (by omega), Bool.and_false]))
            go_wp2
            go_ret
            exact ⟨by rw [hRf.out]; rfl, rfl⟩
          · have c2i : ¬ (60 : Int) < (el.length : Int) := by omega
            have hnx := Hid.intro (show (os.take (i + 1)).all okE = true by
              rw [List.take_add_one, he'.out, Option.toList_some, List.all_append, hf'.out, Bool.true_and]
              simp only [List.all_cons, List.all_nil, Bool.and_true]
              unfold okE; simp only
              rw [decide_eq_true (by omega), decide_eq_true (by omega)]; rfl)
            go_wp2
            go_roundw
            case rel => exact ⟨i + 1, by omega, by omega, by go_num, hnx.out, trivial⟩
            case measure => simp [intOf]; omega
      · have i2 : ¬ (i : Int) < 100 := by omega
        have hRf := Hid.intro (show R = false from by
          rw [← hR.out]; unfold LightB; rw [decide_eq_false (by omega)]; rfl)
        have i3 : ¬ (os.length : Int) ≤ 60 := by omega
        go_wp2
        go_ret
        exact ⟨by rw [hRf.out]; rfl, rfl⟩
    · have i1 : ¬ (i : Int) < (os.length : Int) := by omega
      have hii : i = os.length := by omega
      have hRf := Hid.intro (show R = decide (os.length ≤ 60) from by
        rw [← hR.out]; unfold LightB; rw [List.take_of_length_le (by omega)]
        have := hf'.out
        rw [hii, List.take_length] at this
        rw [this, Bool.and_true])
      by_cases h40 : os.length ≤ 60
      · have i3 : (os.length : Int) ≤ 60 := by omega
        go_wp2
        go_ret
        exact ⟨by rw [hRf.out, decide_eq_true h40]; rfl, rfl⟩
      · have i3 : ¬ (os.length : Int) ≤ 60 := by omega
        go_wp2
        go_ret
        exact ⟨by rw [hRf.out, decide_eq_false h40]; rfl, rfl⟩
end Go.Proofs.Ytjjfdkgnagfbcaa
