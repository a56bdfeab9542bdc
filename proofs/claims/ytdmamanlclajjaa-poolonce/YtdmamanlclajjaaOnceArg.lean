/-
  A []string that is handed in, as a list of bytes each; the document's Zero.
-/
import Derived.Test.YtdmamanlclajjaaOnceMath
import Derived.Deep.SlicePairs
import Derived.OpenShut
import Derived.ProofKit
namespace Go.Proofs.Ytdmamanlclajjaa
open Go.ChangeShapes Go.WideShapes Go.ChangeAt Go.RowKit Go.Deep

theorem laidOut : laidOutB Try.prog = true := by kernel_rfl
/-- What is known of strings that were handed in. -/
def StrsAt (W : World) (v : Value) (os : List (List UInt8)) : Prop :=
  (os = [] ∧ ∃ a c, v = .slice a 0 c) ∨ ∃ g o cap, v = .slice (some ⟨g, o, none⟩) os.length cap ∧ g < W.heap.size ∧ ∀ i e, os[i]? = some e → W.cell? ⟨g, o + i, none⟩ = some (.string (str e))
theorem cellsS : Try.prog.cellsOf 9 = 1 := by kernel_rfl
set_option maxRecDepth 100000 in
theorem open_strs {H : Type} {enc : TypeId × Value → H} {W : World} {base : Nat} {v : Value} {d : DataW H} {p : List MemPlace} (hv : Value.okWide Try.prog W .any base 22 v)
    (h : DataW.Trod enc Try.prog W 0 (fun _ => true) true 22 v d p) : (∃ os, StrsAt W v os) ∧ ∀ x ∈ p, x.block < W.heap.size := by
  refine ⟨?_, by obtain ⟨m, hm⟩ := h; exact DataW.trod_lt m _ _ _ hm⟩
  obtain ⟨a0, len0, cap0, rfl⟩ := okWide_slice Try.underlying22 hv
  obtain ⟨fuel, hf⟩ := h
  rcases open_slice Try.underlying22 hf with ⟨hcs, _⟩ | ⟨a, len, cap, m, n, D, Pl, hcs, _, hl, hm, hmm, hx, hcell⟩
  · simp [Value.cells] at hcs
    obtain ⟨rfl, rfl, rfl⟩ := hcs
    exact ⟨[], .inl ⟨rfl, _, _, rfl⟩⟩
  · simp [Value.cells] at hcs
    obtain ⟨rfl, rfl, rfl⟩ := hcs
    simp at hmm
    subst hmm
    rw [cellsS] at hcell
    have each : ∀ i, i < m → ∃ q : List UInt8, W.cell? (a.add i) = some (.string (str q)) := by
      intro i hi
      obtain ⟨cs', h1, h2⟩ := hcell i hi
      obtain ⟨_, hlen, hc⟩ := World.cells?_some h1
      match cs', hlen with
      | [v0], _ =>
        obtain ⟨s, e0, _, _⟩ := DataW.trod_string Try.underlying9 h2
        simp at e0
        subst e0
        obtain ⟨T, rfl⟩ := str_ex s
        have e0 := hc 0 (by omega)
        rw [add_add] at e0
        exact ⟨T, by simpa using e0⟩
    obtain ⟨q, hq⟩ := choose_lt each
    refine ⟨(List.range len0).map q, ?_⟩
    by_cases h0 : len0 = 0
    · subst h0; exact .inl ⟨rfl, _, _, rfl⟩
    · obtain ⟨b, off, spot⟩ := a
      have hc0 := hq 0 (by omega)
      have hspot : spot = none := by simpa [Addr.add] using World.cell?_spot hc0
      subst hspot
      have hbl : b < W.heap.size := World.block_lt_of_cell? W _ hc0
      refine .inr ⟨b, off, m, by simp, hbl, fun i e hp => ?_⟩
      have hi : i < len0 := by have := (List.getElem?_eq_some_iff.1 hp).1; simpa using this
      have hp' : e = q i := by simp [hi] at hp; exact hp.symm
      subst hp'
      have c0 := hq i (by omega)
      rw [Addr.add_mid] at c0
      exact c0
theorem StrsAt.slice {W : World} {v : Value} {os : List (List UInt8)} (h : StrsAt W v os) : ∃ a c, v = .slice a os.length c := by
  rcases h with ⟨rfl, a, c, rfl⟩ | ⟨g, o, cap, rfl, _⟩
  · exact ⟨_, _, rfl⟩
  · exact ⟨_, _, rfl⟩
theorem StrsAt.at {w wr : World} {a : Option Addr} {n c : Nat} {os : List (List UInt8)} (h : StrsAt w (.slice a n c) os) (hb : Below w.heap.size w wr) (i : Nat) (T : List UInt8) (hi : os[i]? = some T) :
    ∃ g o, a = some ⟨g, o, none⟩ ∧ g < w.heap.size ∧ wr.cell? ⟨g, o + i, none⟩ = some (.string (str T)) := by
  rcases h with ⟨rfl, _⟩ | ⟨g, o, cap, hv, hg, hc⟩
  · simp at hi
  · cases hv
    exact ⟨g, o, rfl, hg, by rw [hb.cell (p := ⟨g, o + i, none⟩) hg]; exact hc i _ hi⟩
theorem StrsAt.cell {w wr : World} {g o n c i : Nat} {T : List UInt8} {os : List (List UInt8)} (h : StrsAt w (.slice (some ⟨g, o, none⟩) n c) os) (hb : Below w.heap.size w wr) (hi : os[i]? = some T) : wr.cell? ⟨g, o + i, none⟩ = some (.string (str T)) := by
  obtain ⟨g', o', e, _, hc⟩ := h.at hb i T hi
  cases e
  exact hc

def allZ (T : List UInt8) : Bool := T.all (· == 0)
theorem allZ_no {T : List UInt8} {i : Nat} {x : UInt8} (h : T[i]? = some x) (e : x ≠ 0) : allZ T = false := by
  cases hq : allZ T with
  | false => rfl
  | true =>
    have := List.all_eq_true.1 hq x (List.mem_of_getElem? h)
    simp at this
    exact absurd this e
theorem allZ_zer {b : List UInt8} (h8 : b.length = 8) : allZ b = decide (b = zer) := by
  by_cases e : b = zer
  · subst e; rfl
  · rw [decide_eq_false e]
    match b, h8 with
    | [a0, a1, a2, a3, a4, a5, a6, a7], _ =>
      cases hq : allZ [a0, a1, a2, a3, a4, a5, a6, a7] with
      | false => rfl
      | true =>
        simp [allZ] at hq
        obtain ⟨rfl, rfl, rfl, rfl, rfl, rfl, rfl, rfl⟩ := hq
        exact absurd rfl e
theorem str_at0 (T : List UInt8) (i : Nat) (x : UInt8) (h : T[i]? = some x) (w : World) : (Instr.index 9 (.string (str T)) (.int .i64 (i : Int))).run Try.prog w = .ok (.int .u8 (x.toNat : Int)) w := by
  obtain ⟨h1, h2⟩ := List.getElem?_eq_some_iff.1 h
  rw [run_index_string w 9 (str T) .i64 (i : Int) Try.underlying9, dif_pos (by rw [str_size]; omega)]
  subst h2
  rfl
attribute [local go_sem] str_size
set_option maxRecDepth 100000 in
theorem refZero_any (T : List UInt8) (w : World) (hT : T.length ≤ 1000000) :
    Calls Try.prog 8 #[.string (str T)] w fun e w' => e = .returned (.bool (allZ T)) ∧ w' = w := by
  go_enter Try.func8, Try.ntmps8
  go_wp2_with fail
  go_loopw [3] (fun iv wr => ∃ i : Nat, i ≤ T.length ∧ iv = .int .i64 i ∧ allZ (T.take i) = true ∧ wr = w) (fun iv _ => T.length - (intOf iv).toNat)
  case atStart => exact ⟨0, Nat.zero_le _, rfl, rfl, rfl⟩
  case round =>
    obtain ⟨i, hi, rfl, hz, rfl⟩ := hrel
    have i0 : (0 : Int) ≤ (i : Int) := Int.natCast_nonneg _
    have hz' := Hid.intro hz
    clear hz
    by_cases hl : i < T.length
    · have i1 : (i : Int) < (T.length : Int) := by omega
      obtain ⟨x, hx⟩ : ∃ x, T[i]? = some x := ⟨T[i], by simp [hl]⟩
      have hat := str_at0 T i x hx wr
      have hx' := Hid.intro hx
      clear hx
      by_cases e : x = 0
      · subst e
        change _ = Result.ok (Value.int .u8 0) wr at hat
        go_wp2
        go_roundw
        case rel => exact ⟨i + 1, by omega, by go_num, by rw [List.take_add_one, hx'.out, allZ, List.all_append]; simpa [allZ] using hz'.out, trivial⟩
        case measure => simp [intOf]; omega
      · have hf : allZ T = false := allZ_no hx'.out e
        have hf' := Hid.intro hf
        clear hf
        have m0 : ¬ (x.toNat : Int) = 0 := fun h => e (UInt8.toNat_inj.1 (by simpa using h))
        generalize x.toNat = m at *
        go_wp2
        go_ret
        exact ⟨by rw [hf'.out]; rfl, rfl⟩
    · have hii : i = T.length := by omega
      subst hii
      have hq : allZ T = true := by have := hz'.out; rwa [List.take_length] at this
      have hq' := Hid.intro hq
      clear hq
      go_wp2
      go_ret
      exact ⟨by rw [hq'.out]; rfl, rfl⟩
end Go.Proofs.Ytdmamanlclajjaa
