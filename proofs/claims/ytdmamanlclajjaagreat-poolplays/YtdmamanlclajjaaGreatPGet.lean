/-
  The contracts of the pool's held, Refs, Get, gap.
-/
import Derived.Test.YtdmamanlclajjaaGreatPObj
namespace Go.Proofs.YtdmamanlclajjaaGreat
open Go.ChangeShapes Go.WideShapes Go.ChangeAt Go.RowKit

theorem sel_zero {most : Nat} {L : List Bl} (h : Inv most L) : sel L 0 = none := by
  cases e : sel L 0 with
  | none => rfl
  | some q =>
    obtain ⟨h1, h2⟩ := sel_mem L 0 q e
    have := h.ids q h1
    omega
/-- Where the block of an id is, and whether it may be held. -/
def heldL (L : List Bl) (i : Int) : Int × Int := if i = 0 then (-1, 0) else match sel L i with
  | some _ => (((B.pos L i : Nat) : Int), 0)
  | none => (-1, 2)

theorem held_any {w : World} {F Fs : Nat → Prop} {p s most : Nat} {v : Value} {L : List Bl} {bs : List (List It)} (h : PObj w F Fs p s v most L bs) (x : Int) :
    Calls Tryz.prog 30 #[.pointer (some ⟨p, 0, none⟩), .int .i64 x] w fun e w' => e = .returned (.tuple #[.int .i64 (heldL L x).1, .int .i64 (heldL L x).2]) ∧ Below w.heap.size w w' := by
  have hn := Hid.intro (pnone_any h)
  by_cases hx : x = 0
  · subst hx
    clear h
    go_enter Tryz.func30, Tryz.ntmps30
    go_wp2_with fail
    refine hn.out.mono ?_; rintro e w1 ⟨rfl, rfl⟩
    go_wp2
    go_ret2
    exact ⟨rfl, Below.refl _ _⟩
  · have hxe : (x == 0) = false := by simpa using hx
    cases hs : sel L x with
    | none =>
      have hp := pplace_any h x
      rw [has_no hs] at hp
      have hp' := Hid.intro hp
      have e1 : heldL L x = (-1, 2) := by unfold heldL; rw [if_neg hx, hs]
      rw [e1]
      clear h hp hs e1
      generalize B.pos L x = i at *
      go_enter Tryz.func30, Tryz.ntmps30
      go_wp2_with fail
      refine hn.out.mono ?_; rintro e w1 ⟨rfl, rfl⟩
      go_wp2_with fail
      refine hp'.out.mono ?_; rintro e w2 ⟨rfl, hb⟩
      go_wp2
      go_ret2
      exact ⟨rfl, hb⟩
    | some q =>
      have hp := pplace_any h x
      rw [has_yes h.inv.ord hs] at hp
      have hp' := Hid.intro hp
      have e1 : heldL L x = (((B.pos L x : Nat) : Int), 0) := by unfold heldL; rw [if_neg hx, hs]
      rw [e1]
      clear h hp hs e1
      generalize B.pos L x = i at *
      go_enter Tryz.func30, Tryz.ntmps30
      go_wp2_with fail
      refine hn.out.mono ?_; rintro e w1 ⟨rfl, rfl⟩
      go_wp2_with fail
      refine hp'.out.mono ?_; rintro e w2 ⟨rfl, hb⟩
      go_wp2
      go_ret2
      exact ⟨rfl, hb⟩

/-- The block at a place, in memory. -/
theorem PObj.at {w : World} {F Fs : Nat → Prop} {p s most : Nat} {v : Value} {L : List Bl} {bs : List (List It)} (h : PObj w F Fs p s v most L bs) {i : Nat} {q : Bl} (hq : L[i]? = some q) :
    ∃ g cap, v = .slice (some ⟨g, 0, none⟩) L.length cap ∧ i < L.length ∧ L.length ≤ 60 ∧ w.cell? ⟨g, i * 3, none⟩ = some (.int .i64 q.1) ∧ w.cell? ⟨g, i * 3 + 1, none⟩ = some (.int .i64 q.2.1) ∧ w.cell? ⟨g, i * 3 + 2, none⟩ = some (.string (str q.2.2)) := by
  have hi := (List.getElem?_eq_some_iff.1 hq).1
  have h1 := h.inv.len
  have h2 := h.inv.m60
  rcases B.buk_cases h.row with ⟨_, rfl⟩ | ⟨g, cap, hv, _, hg, hc⟩
  · simp at hq
  · obtain ⟨c0, c1, c2⟩ := hc i q hq
    exact ⟨g, cap, hv, hi, by omega, c0, c1, c2⟩

def refsL (L : List Bl) (i : Int) : Int := match sel L i with
  | some q => q.2.1
  | none => 0
theorem refs_any {w : World} {F : Nat → Prop} {p most : Nat} {L : List Bl} (h : Pl w F p most L) (x : Int) :
    Calls Tryz.prog 18 #[.pointer (some ⟨p, 0, none⟩), .int .i64 x] w fun e w' => e = .returned (.int .i64 (refsL L x)) ∧ Below w.heap.size w w' := by
  obtain ⟨Fs, s, v, bs, h⟩ := h
  have hh := held_any h x
  cases hs : sel L x with
  | none =>
    have e1 : (heldL L x).1 = -1 := by
      unfold heldL
      split
      · rfl
      · rw [hs]
    have e2 : refsL L x = 0 := by unfold refsL; rw [hs]
    rw [e1] at hh
    rw [e2]
    have hh' := Hid.intro hh
    clear h hs hh e1 e2
    generalize (heldL L x).2 = er at *
    go_enter Tryz.func18, Tryz.ntmps18
    go_wp2_with fail
    refine hh'.out.mono ?_; rintro e w1 ⟨rfl, hb⟩
    go_wp2
    go_ret
    exact ⟨rfl, hb⟩
  | some q =>
    have hx : x ≠ 0 := fun e => by rw [e, sel_zero h.inv] at hs; cases hs
    have e1 : heldL L x = (((B.pos L x : Nat) : Int), 0) := by unfold heldL; rw [if_neg hx, hs]
    have e2 : refsL L x = q.2.1 := by unfold refsL; rw [hs]
    rw [e1] at hh
    rw [e2]
    have hh' := Hid.intro hh
    have hq := pos_sel L x q h.inv.ord hs
    have h' := Hid.intro h
    have hq' := Hid.intro hq
    clear h hs hh e1 e2 hq
    generalize B.pos L x = i at *
    go_enter Tryz.func18, Tryz.ntmps18
    go_wp2_with fail
    refine hh'.out.mono ?_; rintro e w1 ⟨rfl, hb⟩
    have h1 := h'.out.below hb
    obtain ⟨c0, c1, c2⟩ := h1.cells
    obtain ⟨g, cap, rfl, hi, hL, d0, d1, d2⟩ := h1.at hq'.out
    clear h1
    go_wp2
    go_ret
    exact ⟨rfl, hb⟩

def getL (L : List Bl) (i : Int) : List UInt8 × Int := if i = 0 then (zer, 0) else match sel L i with
  | some q => (q.2.2, 0)
  | none => ([], 2)
theorem get_any {w : World} {F : Nat → Prop} {p most : Nat} {L : List Bl} (h : Pl w F p most L) (x : Int) :
    Calls Tryz.prog 14 #[.pointer (some ⟨p, 0, none⟩), .int .i64 x] w fun e w' => e = .returned (.tuple #[.string (str (getL L x).1), .int .i64 (getL L x).2]) ∧ Below w.heap.size w w' := by
  obtain ⟨Fs, s, v, bs, h⟩ := h
  have hh := held_any h x
  by_cases hx : x = 0
  · subst hx
    rw [show heldL L 0 = (-1, 0) by unfold heldL; simp] at hh
    rw [show getL L 0 = (zer, 0) by unfold getL; simp]
    have hh' := Hid.intro hh
    clear h hh
    go_enter Tryz.func14, Tryz.ntmps14
    go_wp2_with fail
    refine hh'.out.mono ?_; rintro e w1 ⟨rfl, hb⟩
    go_wp2
    go_ret2
    exact ⟨rfl, hb⟩
  · cases hs : sel L x with
    | none =>
      have e1 : heldL L x = (-1, 2) := by unfold heldL; rw [if_neg hx, hs]
      have e2 : getL L x = ([], 2) := by unfold getL; rw [if_neg hx, hs]
      rw [e1] at hh
      rw [e2]
      have hh' := Hid.intro hh
      clear h hs hh e1 e2
      go_enter Tryz.func14, Tryz.ntmps14
      go_wp2_with fail
      refine hh'.out.mono ?_; rintro e w1 ⟨rfl, hb⟩
      go_wp2
      go_ret2
      exact ⟨rfl, hb⟩
    | some q =>
      have e1 : heldL L x = (((B.pos L x : Nat) : Int), 0) := by unfold heldL; rw [if_neg hx, hs]
      have e2 : getL L x = (q.2.2, 0) := by unfold getL; rw [if_neg hx, hs]
      rw [e1] at hh
      rw [e2]
      have hh' := Hid.intro hh
      have hq := pos_sel L x q h.inv.ord hs
      have h' := Hid.intro h
      have hq' := Hid.intro hq
      clear h hs hh e1 e2 hq
      generalize B.pos L x = i at *
      go_enter Tryz.func14, Tryz.ntmps14
      go_wp2_with fail
      refine hh'.out.mono ?_; rintro e w1 ⟨rfl, hb⟩
      have h1 := h'.out.below hb
      obtain ⟨c0, c1, c2⟩ := h1.cells
      obtain ⟨g, cap, rfl, hi, hL, d0, d1, d2⟩ := h1.at hq'.out
      clear h1
      go_wp2
      go_ret2
      exact ⟨rfl, hb⟩
end Go.Proofs.YtdmamanlclajjaaGreat
