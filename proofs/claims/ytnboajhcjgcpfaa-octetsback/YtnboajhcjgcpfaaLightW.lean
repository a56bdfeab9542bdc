/-
  The contract of emulsionlaw13's Light.
-/
import Derived.Test.YtnboajhcjgcpfaaArgOct
import Derived.Test.YtnboajhcjgcpfaaRLay
namespace Go.Proofs.Ytnboajhcjgcpfaa
open Go.ChangeShapes Go.WideShapes Go.ChangeAt Go.RowKit
attribute [local go_sem ↓] Go.wp_at_zero Go.wp_at_succ
attribute [local go_sem] str_size str_extract str_append str_toList

def okE (e : OpE) : Bool := decide (e.s.length ≤ 300) && decide (e.l.length ≤ 80)
def LightB (os : List OpE) : Bool := decide (os.length ≤ 40) && (os.take 60).all okE
theorem light_all {os : List OpE} (h : LightB os = true) : os.length ≤ 40 ∧ ∀ e ∈ os, e.s.length ≤ 300 ∧ e.l.length ≤ 80 := by
  unfold LightB at h
  rw [Bool.and_eq_true, decide_eq_true_eq, List.all_eq_true] at h
  refine ⟨h.1, fun e he => ?_⟩
  have := h.2 e (by rw [List.take_of_length_le (by omega)]; exact he)
  unfold okE at this
  rw [Bool.and_eq_true, decide_eq_true_eq, decide_eq_true_eq] at this
  exact this
set_option maxRecDepth 100000 in
theorem light_any {w : World} {v : Value} {os : List OpE} (h : OpsAt w v os) :
    Calls Try.prog 8 #[v] w fun e w' => e = .returned (.bool (LightB os)) ∧ w' = w := by
  obtain ⟨a, c, rfl⟩ := h.slice
  have h' := Hid.intro h
  clear h
  have n0 : (0 : Int) ≤ (os.length : Int) := Int.natCast_nonneg _
  obtain ⟨R, hR⟩ : ∃ R, Hid (LightB os = R) := ⟨_, rfl⟩
  rw [hR.out]
  have hno : Hid (∀ (i : Nat) (e : OpE), os[i]? = some e → i < 60 → okE e = false → R = false) := Hid.intro (fun i e he hi hb => by
    rw [← hR.out]
    unfold LightB
    rw [Bool.and_eq_false_iff]
    refine .inr (List.all_eq_false.2 ⟨e, ?_, by rw [hb]; decide⟩)
    exact List.mem_of_getElem? (i := i) (by rw [List.getElem?_take, if_pos hi]; exact he))
  go_enter Try.func8, Try.ntmps8
  go_wp2_with fail
  go_loopw [3] (fun jv wr => ∃ i : Nat, i ≤ os.length ∧ i ≤ 60 ∧ jv = .int .i64 i ∧ (os.take i).all okE = true ∧ wr = w) (fun jv _ => os.length - (intOf jv).toNat)
  case atStart => exact ⟨0, Nat.zero_le _, Nat.zero_le _, rfl, rfl, rfl⟩
  case round =>
    obtain ⟨i, hi, hi60, rfl, hf, rfl⟩ := hrel
    have i0 : (0 : Int) ≤ (i : Int) := Int.natCast_nonneg _
    have hf' := Hid.intro hf
    clear hf
    by_cases hlt : i < os.length
    · have i1 : (i : Int) < (os.length : Int) := by omega
      by_cases h60 : i < 60
      · have i2 : (i : Int) < 60 := by omega
        obtain ⟨g, o, ⟨ek, ev, en, es, elv, el⟩, rfl, hg, he, hop⟩ := op_at h'.out hlt
        obtain ⟨d0, d1, d2, d3, d4, hrow, _, _⟩ := hop
        simp only at d0 d1 d2 d3 d4 hrow
        obtain ⟨la, lc, rfl⟩ := hrow.slice
        have he' := Hid.intro he
        clear he hrow d0 d1 d2
        by_cases c1 : 300 < es.length
        · have c1i : (300 : Int) < (es.length : Int) := by omega
          have hRf := Hid.intro (hno.out i _ he'.out h60 (by unfold okE; simp only; rw [decide_eq_false (by omega)]; rfl))
          go_wp2
          go_ret
          exact ⟨by rw [hRf.out]; rfl, rfl⟩
        · have c1i : ¬ (300 : Int) < (es.length : Int) := by omega
          by_cases c2 : 80 < el.length
          · have c2i : (80 : Int) < (el.length : Int) := by omega
            have hRf := Hid.intro (hno.out i _ he'.out h60 (by unfold okE; simp only; rw [decide_eq_false (p := el.length ≤ 80) (by omega), Bool.and_false]))
            go_wp2
            go_ret
            exact ⟨by rw [hRf.out]; rfl, rfl⟩
          · have c2i : ¬ (80 : Int) < (el.length : Int) := by omega
            have hnx := Hid.intro (show (os.take (i + 1)).all okE = true by
              rw [List.take_add_one, he'.out, Option.toList_some, List.all_append, hf'.out, Bool.true_and]
              simp only [List.all_cons, List.all_nil, Bool.and_true]
              unfold okE; simp only
              rw [decide_eq_true (by omega), decide_eq_true (by omega)]; rfl)
            go_wp2
            go_roundw
            case rel => exact ⟨i + 1, by omega, by omega, by go_num, hnx.out, trivial⟩
            case measure => simp [intOf]; omega
      · have i2 : ¬ (i : Int) < 60 := by omega
        have hRf := Hid.intro (show R = false from by
          rw [← hR.out]; unfold LightB; rw [decide_eq_false (by omega)]; rfl)
        have i3 : ¬ (os.length : Int) ≤ 40 := by omega
        go_wp2
        go_ret
        exact ⟨by rw [hRf.out]; rfl, rfl⟩
    · have i1 : ¬ (i : Int) < (os.length : Int) := by omega
      have hii : i = os.length := by omega
      have hRf := Hid.intro (show R = decide (os.length ≤ 40) from by
        rw [← hR.out]; unfold LightB; rw [List.take_of_length_le (by omega)]
        have := hf'.out
        rw [hii, List.take_length] at this
        rw [this, Bool.and_true])
      by_cases h40 : os.length ≤ 40
      · have i3 : (os.length : Int) ≤ 40 := by omega
        go_wp2
        go_ret
        exact ⟨by rw [hRf.out, decide_eq_true h40]; rfl, rfl⟩
      · have i3 : ¬ (os.length : Int) ≤ 40 := by omega
        go_wp2
        go_ret
        exact ⟨by rw [hRf.out, decide_eq_false h40]; rfl, rfl⟩
end Go.Proofs.Ytnboajhcjgcpfaa
