/-
  The contract of the document's Slot.
-/
import Derived.Test.YtgigpohfkppplaaLSlot2
namespace Go.Proofs.Ytgigpohfkppplaa
open Go.ChangeShapes Go.WideShapes Go.ChangeAt Go.RowKit

theorem a5_eq : (⟨#[165]⟩ : ByteArray) = str [165] := rfl
attribute [local go_sem] str_size str_extract str_append str_toList a5_eq

set_option maxRecDepth 100000 in
theorem rslot_low (gen : Int) (a : Option Addr) (n c : Nat) (w : World) (h : gen < 1) :
    Calls Try.prog 19 #[.int .i64 gen, .slice a n c] w fun e w' => e = .returned (.tuple #[.string (str []), .bool false]) ∧ w = w' := by
  have c1 : decide (gen < 1) = true := decide_eq_true h
  go_enter Try.func19, Try.ntmps19
  go_wp2
  go_ret2
  exact ⟨rfl, rfl⟩
set_option maxRecDepth 100000 in
theorem rslot_high (gen : Int) (a : Option Addr) (n c : Nat) (w : World) (h : ¬ gen < 1) (h2 : 1000000000 < gen) :
    Calls Try.prog 19 #[.int .i64 gen, .slice a n c] w fun e w' => e = .returned (.tuple #[.string (str []), .bool false]) ∧ w = w' := by
  have c1 : decide (gen < 1) = false := decide_eq_false h
  have c2 : decide (1000000000 < gen) = true := decide_eq_true h2
  go_enter Try.func19, Try.ntmps19
  go_wp2
  go_ret2
  exact ⟨rfl, rfl⟩
set_option maxRecDepth 100000 in
theorem rslot_long (gen : Int) (a : Option Addr) (n c : Nat) (w : World) (h : ¬ gen < 1) (h2 : ¬ 1000000000 < gen) (h3 : 11 < n) :
    Calls Try.prog 19 #[.int .i64 gen, .slice a n c] w fun e w' => e = .returned (.tuple #[.string (str []), .bool false]) ∧ w = w' := by
  have c1 : decide (gen < 1) = false := decide_eq_false h
  have c2 : decide (1000000000 < gen) = false := decide_eq_false h2
  have l1 : (11 : Int) < (n : Int) := by omega
  go_enter Try.func19, Try.ntmps19
  go_wp2
  go_ret2
  exact ⟨rfl, rfl⟩
/-- The bytes so far. -/
def sB (g : Nat) (ps : List Int) (i : Nat) : List UInt8 := [165] ++ num g 4 ++ num ps.length 1 ++ nb (ps.take i)
theorem sB_zero (g : Nat) (ps : List Int) : sB g ps 0 = [165] ++ num g 4 ++ num ps.length 1 := by rw [sB, List.take_zero]; simp [nb]
theorem sB_step {g : Nat} {ps : List Int} {i : Nat} {x : Int} (h : ps[i]? = some x) (hx : Gd x) : sB g ps (i + 1) = sB g ps i ++ num x.toNat 1 := by
  have e : nb (ps.take (i + 1)) = nb (ps.take i) ++ [UInt8.ofNat x.toNat] := by
    rw [nb, nb, List.take_add_one, h, Option.toList_some, List.map_append]; rfl
  have h2 := hx.2
  rw [sB, e, num_one (n := x.toNat) (by omega), sB, ← List.append_assoc]
theorem sB_all {g : Nat} {ps : List Int} (h : ps.length ≤ 11) : sB g ps ps.length = slB g ps := by
  rw [sB, List.take_length, num_one (by omega), slB]; simp
theorem sB_length {g : Nat} {ps : List Int} {i : Nat} (h : i ≤ ps.length) : (sB g ps i).length = 6 + i := by
  simp [sB, num_length, nb]; omega
set_option maxRecDepth 100000 in
set_option maxHeartbeats 4000000 in
theorem rslot_in (g : Nat) (ps : List Int) (a : Option Addr) (cp : Nat) (w : World) (hg : 1 ≤ g ∧ g ≤ 1000000000) (hn : ps.length ≤ 11)
    (hA : Hid (0 < ps.length → ∃ b o, a = some ⟨b, o, none⟩ ∧ b < w.heap.size ∧ BkI.Cells w b o ps)) :
    Calls Try.prog 19 #[.int .i64 (g : Int), .slice a ps.length cp] w fun e w' => e = .returned (.tuple #[.string (str (slS g ps)), .bool (decide (Sl g ps))]) ∧ Below w.heap.size w w' := by
  have hY : Hid ((∀ x ∈ ps, Gd x) → slS g ps = pgL (slB g ps) ∧ decide (Sl g ps) = true) := Hid.intro fun h => by
    have hs : Sl g ps := ⟨by omega, hn, h⟩
    rw [(slS_yes hs).1, Int.toNat_natCast]; exact ⟨rfl, decide_eq_true hs⟩
  have hNo : Hid ((¬ ∀ x ∈ ps, Gd x) → slS g ps = [] ∧ decide (Sl g ps) = false) := Hid.intro fun h => ⟨(slS_no (fun hs => h hs.2.2)).1, decide_eq_false (fun hs => h hs.2.2)⟩
  generalize slS g ps = RS at *
  generalize decide (Sl g ps) = RB at *
  have h1 := Hid.intro (fun w => rnum_any g 4 w (by omega) (by omega))
  have h2 := Hid.intro (fun w => rnum_any ps.length 1 w (by omega) (by omega))
  have h3 := Hid.intro (fun (x : Int) (hx : Gd x) w => (by have := rnum_any x.toNat 1 w (by have := hx.2; omega) (by omega); rw [show ((x.toNat : Nat) : Int) = x by have := hx.1; omega] at this; exact this : Calls Try.prog 28 #[.int .i64 x, .int .i64 1] w fun e w' => e = .returned (.string (str (num x.toNat 1))) ∧ Below w.heap.size w w'))
  have h4 := Hid.intro (fun w => page_any (slB g ps) w (by rw [slB_length]; omega))
  have g1 : (1 : Int) ≤ (g : Int) := by omega
  have g2 : (g : Int) ≤ 1000000000 := by omega
  have n0 : (0 : Int) ≤ (ps.length : Int) := Int.natCast_nonneg _
  have n1 : (ps.length : Int) ≤ 11 := by omega
  have c1 : decide ((g : Int) < 1) = false := decide_eq_false (by omega)
  have c2 : decide (1000000000 < (g : Int)) = false := decide_eq_false (by omega)
  have hz := sB_zero g ps
  have ln4 := num_length 4 g
  have ln1 := num_length 1 ps.length
  clear hg
  go_enter Try.func19, Try.ntmps19
  go_wp2_with fail
  refine (h1.out _).mono ?_; rintro e w1 ⟨rfl, hb1⟩
  have hb1' := Hid.intro hb1
  clear hb1
  go_wp2_with fail
  refine (h2.out _).mono ?_; rintro e w2 ⟨rfl, hb2⟩
  have hb2' := Hid.intro (hb1'.out.trans (hb2.mono hb1'.out.size))
  clear hb2
  go_wp2_with fail
  go_loopw [6, 7] (fun sv iv wr => ∃ i : Nat, i ≤ ps.length ∧ sv = .string (str (sB g ps i)) ∧ iv = .int .i64 i ∧ (∀ x ∈ ps.take i, Gd x) ∧ Below w.heap.size w wr) (fun _ iv _ => ps.length - (intOf iv).toNat)
  case atStart => exact ⟨0, Nat.zero_le _, by rw [hz]; rfl, rfl, by simp, hb2'.out⟩
  case round =>
    obtain ⟨i, hi, rfl, rfl, hgd, hL⟩ := hrel
    have hgd' := Hid.intro hgd
    have hL' := Hid.intro hL
    have i0 : (0 : Int) ≤ (i : Int) := Int.natCast_nonneg _
    clear hgd hz ln4 ln1
    by_cases hlt : i < ps.length
    · have i1 : (i : Int) < (ps.length : Int) := by omega
      obtain ⟨b, o, rfl, hb, hcl⟩ := hA.out (by omega)
      obtain ⟨pa, hp⟩ : ∃ p, ps[i]? = some p := ⟨ps[i]'hlt, by simp [hlt]⟩
      have ld := (hcl.below hL hb) i pa hp
      have hp' := Hid.intro hp
      clear hL hp hcl
      by_cases d1 : pa < 2
      · have hno := Hid.intro (hNo.out (fun hh => by have := (hh pa (List.mem_of_getElem? hp'.out)).1; omega))
        have d1' : decide (pa < 2) = true := decide_eq_true d1
        go_wp2
        go_ret2
        exact ⟨by rw [hno.out.1, hno.out.2]; rfl, hL'.out⟩
      · have d1' : decide (pa < 2) = false := decide_eq_false d1
        by_cases d2 : 250 ≤ pa
        · have hno := Hid.intro (hNo.out (fun hh => by have := (hh pa (List.mem_of_getElem? hp'.out)).2; omega))
          go_wp2
          go_ret2
          exact ⟨by rw [hno.out.1, hno.out.2]; rfl, hL'.out⟩
        · have hG : Gd pa := ⟨by omega, by omega⟩
          have hs := Hid.intro (gd_step hgd'.out hp'.out hG)
          have hst := Hid.intro (sB_step (g := g) hp'.out hG)
          have hk := h3.out pa hG
          have lsb := sB_length (g := g) hi
          have lnn := num_length 1 pa.toNat
          have hk' := Hid.intro hk
          clear hk
          generalize sB g ps i = SB at *
          generalize num pa.toNat 1 = NN at *
          go_wp2_with fail
          refine (hk'.out _).mono ?_; rintro e w5 ⟨rfl, hb5⟩
          have hb5' := Hid.intro (hL'.out.trans (hb5.mono hL'.out.size))
          clear hb5
          go_wp2
          go_roundw
          case rel => exact ⟨i + 1, by omega, by rw [hst.out], by go_num, hs.out, hb5'.out⟩
          case measure => simp [intOf]; omega
    · obtain rfl : i = ps.length := by omega
      have hy := hgd'.out
      rw [List.take_length] at hy
      have hyes := Hid.intro (hY.out hy)
      have hal := sB_all (g := g) hn
      rw [hal]
      clear hy hL hal
      have lsb := slB_length g ps
      generalize hPe : pgL (slB g ps) = PG at *
      have hPe' := Hid.intro hPe
      clear hPe
      generalize slB g ps = SB at *
      go_wp2_with fail
      refine (h4.out _).mono ?_; rintro e w5 ⟨rfl, hb5⟩
      have hb5' := Hid.intro (hL'.out.trans (hb5.mono hL'.out.size))
      clear hb5
      go_wp2
      go_ret2
      exact ⟨by rw [hyes.out.1, hyes.out.2]; rfl, hb5'.out⟩
theorem rslot_any {w : World} {v : Value} {ps : List Int} (gen : Int) (h : BkI.Row w v ps) :
    Calls Try.prog 19 #[.int .i64 gen, v] w fun e w' => e = .returned (.tuple #[.string (str (slS gen ps)), .bool (decide (Sl gen ps))]) ∧ Below w.heap.size w w' := by
  have hrow := h
  have hno : ∀ {cl : Prop}, (Calls Try.prog 19 #[.int .i64 gen, v] w fun e w' => e = .returned (.tuple #[.string (str []), .bool false]) ∧ w = w') → ¬ Sl gen ps → (Calls Try.prog 19 #[.int .i64 gen, v] w fun e w' => e = .returned (.tuple #[.string (str (slS gen ps)), .bool (decide (Sl gen ps))]) ∧ Below w.heap.size w w') := fun {_} hc hs =>
    hc.mono fun e w' ⟨a, b⟩ => ⟨by rw [(slS_no hs).1, decide_eq_false hs]; exact a, by rw [← b]; exact Below.refl _ _⟩
  obtain ⟨a, c, rfl⟩ := h.slice
  by_cases h1 : gen < 1
  · exact hno (cl := True) (rslot_low gen a _ c w h1) (fun h => by have := h.1.1; omega)
  by_cases h2 : 1000000000 < gen
  · exact hno (cl := True) (rslot_high gen a _ c w h1 h2) (fun h => by have := h.1.2; omega)
  by_cases hn : 11 < ps.length
  · exact hno (cl := True) (rslot_long gen a _ c w h1 h2 hn) (fun h => by have := h.2.1; omega)
  · obtain ⟨g, rfl⟩ : ∃ g : Nat, gen = (g : Int) := ⟨gen.toNat, by omega⟩
    refine rslot_in g ps a c w (by omega) (by omega) (Hid.intro fun hp => ?_)
    rcases hrow with ⟨_, h0⟩ | ⟨b, o, cap, hv, hg, hc⟩
    · rw [h0] at hp; exact absurd hp (by simp)
    · cases hv; exact ⟨b, o, rfl, hg, hc⟩
end Go.Proofs.Ytgigpohfkppplaa
