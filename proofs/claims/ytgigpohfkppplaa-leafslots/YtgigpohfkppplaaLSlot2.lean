/-
  The contracts of Slot, of all gens and lists, and of Unslot.
-/
import Derived.Test.YtgigpohfkppplaaLSlot
namespace Go.Proofs.Ytgigpohfkppplaa
open Go.ChangeShapes Go.WideShapes Go.ChangeAt Go.RowKit
attribute [local go_sem] str_size str_extract str_append str_toList

set_option maxRecDepth 100000 in
theorem slot_low (gen : Int) (a : Option Addr) (n c : Nat) (w : World) (h : gen < 1) :
    Calls Try.prog 18 #[.int .i64 gen, .slice a n c] w fun e w' => e = .returned (.tuple #[.string (str []), .int .i64 1]) ∧ w = w' := by
  have c1 : decide (gen < 1) = true := decide_eq_true h
  go_enter Try.func18, Try.ntmps18
  go_wp2
  go_ret2
  exact ⟨rfl, rfl⟩
set_option maxRecDepth 100000 in
theorem slot_high (gen : Int) (a : Option Addr) (n c : Nat) (w : World) (h : ¬ gen < 1) (h2 : 1000000000 < gen) :
    Calls Try.prog 18 #[.int .i64 gen, .slice a n c] w fun e w' => e = .returned (.tuple #[.string (str []), .int .i64 1]) ∧ w = w' := by
  have c1 : decide (gen < 1) = false := decide_eq_false h
  have c2 : decide (1000000000 < gen) = true := decide_eq_true h2
  go_enter Try.func18, Try.ntmps18
  go_wp2
  go_ret2
  exact ⟨rfl, rfl⟩
set_option maxRecDepth 100000 in
theorem slot_bad (gen : Int) (a : Option Addr) (n c : Nat) (w : World) (h : ¬ gen < 1) (h2 : ¬ 1000000000 < gen)
    (hnm : Hid (Calls Try.prog 30 #[.slice a n c] w fun e w'' => e = .returned (.bool false) ∧ w = w'')) :
    Calls Try.prog 18 #[.int .i64 gen, .slice a n c] w fun e w' => e = .returned (.tuple #[.string (str []), .int .i64 1]) ∧ w = w' := by
  have c1 : decide (gen < 1) = false := decide_eq_false h
  have c2 : decide (1000000000 < gen) = false := decide_eq_false h2
  go_enter Try.func18, Try.ntmps18
  go_wp2_with fail
  refine hnm.out.mono ?_; rintro e w9 ⟨rfl, rfl⟩
  go_wp2
  go_ret2
  exact ⟨rfl, rfl⟩
/-- What Slot tells. -/
def slS (gen : Int) (ps : List Int) : List UInt8 := if Sl gen ps then slL gen.toNat ps else []
def slE (gen : Int) (ps : List Int) : Int := if Sl gen ps then 0 else 1
theorem slS_no {gen : Int} {ps : List Int} (h : ¬ Sl gen ps) : slS gen ps = [] ∧ slE gen ps = 1 := ⟨if_neg h, if_neg h⟩
theorem slS_yes {gen : Int} {ps : List Int} (h : Sl gen ps) : slS gen ps = slL gen.toNat ps ∧ slE gen ps = 0 := ⟨if_pos h, if_pos h⟩
theorem slot_any {w : World} {v : Value} {ps : List Int} (gen : Int) (h : BkI.Row w v ps) :
    Calls Try.prog 18 #[.int .i64 gen, v] w fun e w' => e = .returned (.tuple #[.string (str (slS gen ps)), .int .i64 (slE gen ps)]) ∧ Below w.heap.size w w' := by
  have hrow := h
  have hno : ∀ {cl : Prop}, (Calls Try.prog 18 #[.int .i64 gen, v] w fun e w' => e = .returned (.tuple #[.string (str []), .int .i64 1]) ∧ w = w') → ¬ Sl gen ps → (Calls Try.prog 18 #[.int .i64 gen, v] w fun e w' => e = .returned (.tuple #[.string (str (slS gen ps)), .int .i64 (slE gen ps)]) ∧ Below w.heap.size w w') := fun {_} hc hs =>
    hc.mono fun e w' ⟨a, b⟩ => ⟨by rw [(slS_no hs).1, (slS_no hs).2]; exact a, by rw [← b]; exact Below.refl _ _⟩
  obtain ⟨a, c, rfl⟩ := h.slice
  by_cases h1 : gen < 1
  · exact hno (cl := True) (slot_low gen a _ c w h1) (fun h => by have := h.1.1; omega)
  by_cases h2 : 1000000000 < gen
  · exact hno (cl := True) (slot_high gen a _ c w h1 h2) (fun h => by have := h.1.2; omega)
  by_cases hn : Nm ps
  · have hS : Sl gen ps := ⟨by omega, hn⟩
    rw [(slS_yes hS).1, (slS_yes hS).2]
    obtain ⟨g, rfl⟩ : ∃ g : Nat, gen = (g : Int) := ⟨gen.toNat, by omega⟩
    rw [Int.toNat_natCast]
    refine slot_yes g ps a c w (by omega) hn (Hid.intro fun w' hb => ?_) (Hid.intro fun hp => ?_)
    · refine (nameable_any (hrow.below hb)).mono fun e w'' ⟨e1, e2⟩ => ⟨?_, e2.symm⟩
      rw [e1, decide_eq_true hn]
    · rcases hrow with ⟨_, h0⟩ | ⟨b, o, cap, hv, hg, hc⟩
      · rw [h0] at hp; exact absurd hp (by simp)
      · cases hv; exact ⟨b, o, rfl, hg, hc⟩
  · refine hno (cl := True) (slot_bad gen a _ c w h1 h2 (Hid.intro ?_)) (fun h => hn h.2)
    refine (nameable_any hrow).mono fun e w'' ⟨e1, e2⟩ => ⟨?_, e2.symm⟩
    rw [e1, decide_eq_false hn]

theorem un_iff {P : List UInt8} (hl : P.length = 32) : slS (sgL P) (psN (min (cnL P) 11) P) = P ↔ Iss P := by
  constructor
  · intro e
    by_cases hs : Sl (sgL P) (psN (min (cnL P) 11) P)
    · rw [(slS_yes hs).1, Int.toNat_natCast] at e
      have hc := cn_slot (sgL P) (ps := psN (min (cnL P) 11) P) (by have := hs.2.1; omega)
      rw [e, psN_length hl (by omega)] at hc
      have hm : min (cnL P) 11 = cnL P := hc.symm
      rw [hm] at hs e
      exact ⟨hl, by omega, hs, e⟩
    · rw [(slS_no hs).1] at e
      rw [← e] at hl; exact absurd hl (by decide)
  · rintro ⟨_, h2, h3, h4⟩
    rw [Nat.min_eq_left h2]
    have h3' : Sl (sgL P) (psN (cnL P) P) := h3
    rw [(slS_yes h3').1, Int.toNat_natCast]; exact h4
set_option maxRecDepth 100000 in
set_option maxHeartbeats 1000000 in
theorem unslot_any (P : List UInt8) (w : World) :
    Calls Try.prog 21 #[.string (str P)] w fun e w' => ∃ v, e = .returned (.tuple #[.int .i64 (usG P), v, .int .i64 (usE P)]) ∧ w'.ownsRow w.heap.size 3 1 v (usP P).length (BkI.itemsV (usP P)) ∧ Below w.heap.size w w' := by
  by_cases hl : P.length = 32
  · have h1 := Hid.intro (fun w => genOf_any P w hl)
    have h2 := Hid.intro (fun w => names_row P (min (cnL P) 11) w hl (by omega) (by omega))
    have hX := psN_length (n := min (cnL P) 11) hl (by omega)
    have h3 := Hid.intro (fun (w w' : World) (v : Value) (hr : w'.ownsRow w.heap.size 3 1 v (min (cnL P) 11) (BkI.itemsV (psN (min (cnL P) 11) P))) => slot_any (w := w') (v := v) (ps := psN (min (cnL P) 11) P) (sgL P) (BkI.own_row (by rw [hX]; exact hr)))
    have hiff := un_iff hl
    have hlen : (P.length : Int) = 32 := by omega
    by_cases hI : Iss P
    · have e1 : usG P = (sgL P : Int) := if_pos hI
      have e2 : usE P = 0 := by unfold usE; rw [if_neg (by omega), if_pos hI]
      have e3 : usP P = psN (min (cnL P) 11) P := by rw [usP, if_pos hI, psL, Nat.min_eq_left hI.2.1]
      have hb := eq_yes (hiff.2 hI)
      rw [e1, e2, e3, hX]
      clear e1 e2 e3 hI hiff hX
      generalize psN (min (cnL P) 11) P = X at *
      generalize min (cnL P) 11 = n at *
      generalize slS (sgL P) X = L at *
      generalize slE (sgL P) X = E at *
      generalize sgL P = G at *
      go_enter Try.func21, Try.ntmps21
      go_wp2_with fail
      refine (h1.out _).mono ?_; rintro e w9 ⟨rfl, hw9⟩
      obtain rfl : w = w9 := hw9.symm
      go_wp2_with fail
      refine (h2.out _).mono ?_; rintro e w2 ⟨v, rfl, hv, hb2⟩
      have hv' := Hid.intro hv
      have hb2' := Hid.intro hb2
      clear hv hb2
      go_wp2_with fail
      refine (h3.out _ _ _ hv'.out).mono ?_; rintro e w3 ⟨rfl, hb3⟩
      have hb3' := Hid.intro (hb2'.out.trans (hb3.mono hb2'.out.size))
      have hv3 := Hid.intro (BkI.own_below hv'.out hb3)
      clear hb3
      go_wp2
      go_ret3
      exact ⟨_, rfl, hv3.out, hb3'.out⟩
    · have e1 : usG P = 0 := if_neg hI
      have e2 : usE P = 6 := by unfold usE; rw [if_neg (by omega), if_neg hI]
      have e3 : usP P = [] := if_neg hI
      have hb := eq_no (fun h => hI (hiff.1 h))
      rw [e1, e2, e3]
      clear e1 e2 e3 hI hiff hX
      generalize psN (min (cnL P) 11) P = X at *
      generalize min (cnL P) 11 = n at *
      generalize slS (sgL P) X = L at *
      generalize slE (sgL P) X = E at *
      generalize sgL P = G at *
      go_enter Try.func21, Try.ntmps21
      go_wp2_with fail
      refine (h1.out _).mono ?_; rintro e w9 ⟨rfl, hw9⟩
      obtain rfl : w = w9 := hw9.symm
      go_wp2_with fail
      refine (h2.out _).mono ?_; rintro e w2 ⟨v, rfl, hv, hb2⟩
      have hv' := Hid.intro hv
      have hb2' := Hid.intro hb2
      clear hv hb2
      go_wp2_with fail
      refine (h3.out _ _ _ hv'.out).mono ?_; rintro e w3 ⟨rfl, hb3⟩
      have hb3' := Hid.intro (hb2'.out.trans (hb3.mono hb2'.out.size))
      clear hb3
      go_wp2
      go_ret3
      exact ⟨_, rfl, World.ownsRow_nil _ _ _ _, hb3'.out⟩
  · have hI : ¬ Iss P := fun h => hl h.1
    rw [show usG P = 0 from if_neg hI, show usE P = 8 by unfold usE; rw [if_pos hl], show usP P = [] from if_neg hI]
    have hl' : ¬ (P.length : Int) = 32 := by omega
    go_enter Try.func21, Try.ntmps21
    go_wp2
    go_ret3
    exact ⟨_, rfl, World.ownsRow_nil _ _ _ _, Below.refl _ _⟩
end Go.Proofs.Ytgigpohfkppplaa
