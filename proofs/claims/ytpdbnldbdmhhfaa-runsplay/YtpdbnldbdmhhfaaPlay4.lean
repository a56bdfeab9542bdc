/-
  Helpers of RunsPlay's walk; one of its regions, taken out of the translation.
-/
import Derived.Test.YtpdbnldbdmhhfaaPlay3
namespace Go.Proofs.Ytpdbnldbdmhhfaa
open Go.ChangeShapes Go.WideShapes Go.ChangeAt Go.RowKit
attribute [local go_sem ↓] Go.wp_at_zero Go.wp_at_succ

set_option maxRecDepth 100000 in
/-- Too many: alive's answer. -/
theorem play_out (a b : Option Addr) (n m c d : Nat) (x : Int) (w : World) (h : (40 : Int) < (n : Int) ∨ ((n : Int) ≤ 40 ∧ (50 : Int) < (m : Int))) :
    Calls Try.prog 3 #[.slice a n c, .slice b m d, .int .i64 x] w fun e w' => e = .returned (.bool true) ∧ Below w.heap.size w w' := by
  rcases h with h | ⟨h0, h⟩
  · have hd : decide ((40 : Int) < (n : Int)) = true := decide_eq_true h
    go_enter Try.func3, Try.ntmps3
    go_wp2_with fail
    refine (alive_any _).mono ?_; rintro e w1 ⟨rfl, hb1⟩
    go_wp2
    go_ret
    exact ⟨rfl, hb1⟩
  · have hd0 : decide ((40 : Int) < (n : Int)) = false := decide_eq_false (by omega)
    have hd : decide ((50 : Int) < (m : Int)) = true := decide_eq_true h
    go_enter Try.func3, Try.ntmps3
    go_wp2_with fail
    refine (alive_any _).mono ?_; rintro e w1 ⟨rfl, hb1⟩
    go_wp2
    go_ret
    exact ⟨rfl, hb1⟩

theorem mode_of (x : Int) : x < 0 ∨ 64 ≤ x ∨ ∃ xN : Nat, xN < 64 ∧ x = (xN : Int) := by
  by_cases h : x < 0
  · exact .inl h
  · by_cases h2 : 64 ≤ x
    · exact .inr (.inl h2)
    · exact .inr (.inr ⟨x.toNat, by omega, by omega⟩)
theorem nextR_cons (p : Sp) (l : List Sp) (x : Int) : nextR (p :: l) x = if x < p.1 + p.2 then some (if x < p.1 then p.1 else x, p.1 + p.2 - (if x < p.1 then p.1 else x)) else nextR l x := rfl
def NextIs (ps : List Sp) (x : Int) (b : Bool) (nf nn : Int) : Prop := (b = true ∧ nextR ps x = some (nf, nn)) ∨ (b = false ∧ nextR ps x = none ∧ nf = 0 ∧ nn = 0)
theorem next_sym {w : World} {b : Nat} {ps : List Sp} (h : RObj w b ps) (hc : Canon ps) (x : Int) :
    Calls Try.prog 21 #[.pointer (some ⟨b, 0, none⟩), .int .i64 x] w fun e w' => ∃ (bN : Bool) (nf nn : Int), e = .returned (.tuple #[.agg #[.int .i64 nf, .int .i64 nn], .bool bN]) ∧ NextIs ps x bN nf nn ∧ Below w.heap.size w w' := by
  cases hn : nextR ps x with
  | none => exact (next_f h hc x hn).mono fun e w' ⟨he, hb⟩ => ⟨false, 0, 0, he, .inr ⟨rfl, hn, rfl, rfl⟩, hb⟩
  | some q => exact (next_t h hc x q.1 q.2 hn).mono fun e w' ⟨he, hb⟩ => ⟨true, q.1, q.2, he, .inl ⟨rfl, hn⟩, hb⟩
theorem next_end_t {ps : List Sp} {x nf nn wf wn : Int} {b : Bool} (h : NextIs ps x b nf nn) (hr : nextR ps x = some (wf, wn)) : b = true ∧ nf = wf ∧ nn = wn := by
  rcases h with ⟨hb, h⟩ | ⟨_, h, _⟩
  · rw [hr] at h; cases h; exact ⟨hb, rfl, rfl⟩
  · rw [hr] at h; cases h
theorem next_end_f {ps : List Sp} {x nf nn : Int} {b : Bool} (h : NextIs ps x b nf nn) (hr : nextR ps x = nextR [] x) : b = false ∧ nf = 0 ∧ nn = 0 := by
  rcases h with ⟨_, h⟩ | ⟨hb, _, h1, h2⟩
  · rw [hr] at h; cases h
  · exact ⟨hb, h1, h2⟩
theorem has_no' {w : World} {b : Nat} {ps : List Sp} (h : RObj w b ps) (hc : Canon ps) {k : Int} (hno : ¬ In ps k) :
    Calls Try.prog 24 #[.pointer (some ⟨b, 0, none⟩), .int .i64 k] w fun e w' => e = .returned (.bool false) ∧ Below w.heap.size w w' := by
  have := has_any h hc k
  rwa [decide_eq_false hno] at this
theorem below_set2 {B H n : Nat} {a w : World} {u v : Value} (h : Below B a w) (hH : B ≤ H) : Below B a (((w.drewN n).setCell ⟨H, 0, none⟩ u).setCell ⟨H, 1, none⟩ v) := by
  have h1 : Below B a (w.drewN n) := h.trans ⟨rfl, rfl, rfl, Nat.le_refl _, fun _ _ => rfl⟩
  exact (h1.setCell hH u).setCell hH v

/-- The op number i, in a world that keeps what was there. -/
theorem OpsAt.at {w wr : World} {v : Value} {os : List OpE} (h : OpsAt w v os) (hB : Below w.heap.size w wr) (i : Nat) (hi : i < os.length) :
    ∃ g o cap kd lv L, v = .slice (some ⟨g, o, none⟩) os.length cap ∧ wr.cell? ⟨g, o + i * 2, none⟩ = some (.int .i64 kd) ∧ wr.cell? ⟨g, o + i * 2 + 1, none⟩ = some lv ∧ Handed w lv L := by
  rcases h with ⟨rfl, _⟩ | ⟨g, o, cap, hv, hg, hc⟩
  · simp at hi
  · obtain ⟨⟨kd, lv, L⟩, he⟩ : ∃ e, os[i]? = some e := ⟨os[i]'hi, by simp [hi]⟩
    obtain ⟨c0, c1, c2⟩ := hc i _ he
    refine ⟨g, o, cap, kd, lv, L, hv, ?_, ?_, c2⟩
    · rw [hB.cell (p := ⟨g, o + i * 2, none⟩) hg]; exact c0
    · rw [hB.cell (p := ⟨g, o + i * 2 + 1, none⟩) hg]; exact c1

def findRegion (n : Nat) : Code → Option Code
  | .region id ops m => if id = n then some (.region id ops m) else none
  | .loop c => findRegion n c
  | .seq a b => match findRegion n a with
    | some c => some c
    | none => findRegion n b
  | .block _ c => findRegion n c
  | .scope c => findRegion n c
  | .cond _ a b => match findRegion n a with
    | some c => some c
    | none => findRegion n b
  | _ => none
noncomputable def reg47 : Code := ((Try.f3.body.bind (findRegion 47)).getD .skip)
end Go.Proofs.Ytpdbnldbdmhhfaa
