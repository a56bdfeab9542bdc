/-
  The contract of span.Join: of two spans that touch the one that has both, of others none; nothing that was there is written.
-/
import Derived.Test.YtfikkbmilhcahaaTouchB
namespace Go.Proofs.Ytfikkbmilhcahaa
open Go.ChangeShapes Go.WideShapes Go.ChangeAt Go.RowKit
attribute [local go_sem ↓] Go.wp_at_zero Go.wp_at_succ

theorem keepB {H B : Nat} {f n g m : Value} {w2 w3 : World} (hz : H + 1 < B) (a0 : w2.cell? ⟨H, 0, none⟩ = some f) (a1 : w2.cell? ⟨H, 1, none⟩ = some n) (b0 : w2.cell? ⟨H + 1, 0, none⟩ = some g) (b1 : w2.cell? ⟨H + 1, 1, none⟩ = some m) (hb : Below B w2 w3) :
    w3.cell? ⟨H, 0, none⟩ = some f ∧ w3.cell? ⟨H, 1, none⟩ = some n ∧ w3.cell? ⟨H + 1, 0, none⟩ = some g ∧ w3.cell? ⟨H + 1, 1, none⟩ = some m ∧ Below B w2 w3 := by
  refine ⟨?_, ?_, ?_, ?_, hb⟩
  · rw [hb.cell (p := ⟨H, 0, none⟩) (by show H < B; omega)]; exact a0
  · rw [hb.cell (p := ⟨H, 1, none⟩) (by show H < B; omega)]; exact a1
  · rw [hb.cell (p := ⟨H + 1, 0, none⟩) (by show H + 1 < B; omega)]; exact b0
  · rw [hb.cell (p := ⟨H + 1, 1, none⟩) (by show H + 1 < B; omega)]; exact b1

theorem keepR {R : Nat} {x y : Value} {w2 w3 : World} (hz : R < w2.heap.size) (r0 : w2.cell? ⟨R, 0, none⟩ = some x) (r1 : w2.cell? ⟨R, 1, none⟩ = some y) (z0 : w2.frozen? ⟨R, 0, none⟩ = false) (z1 : w2.frozen? ⟨R, 1, none⟩ = false) (hb : Below w2.heap.size w2 w3) :
    w3.cell? ⟨R, 0, none⟩ = some x ∧ w3.cell? ⟨R, 1, none⟩ = some y ∧ w3.frozen? ⟨R, 0, none⟩ = false ∧ w3.frozen? ⟨R, 1, none⟩ = false := by
  obtain ⟨hc, hf⟩ := bcell hb
  exact ⟨by rw [hc _ _ hz]; exact r0, by rw [hc _ _ hz]; exact r1, by rw [hf _ _ hz]; exact z0, by rw [hf _ _ hz]; exact z1⟩

/-- Where Touch says no. -/
theorem join_no (f n g m : Int) (w : World) (ht : ∀ w, Calls Try.prog 46 #[.agg #[.int .i64 f, .int .i64 n], .agg #[.int .i64 g, .int .i64 m]] w fun e w' => e = .returned (.bool false) ∧ Below w.heap.size w w') :
    Calls Try.prog 47 #[.agg #[.int .i64 f, .int .i64 n], .agg #[.int .i64 g, .int .i64 m]] w fun e w' => e = .returned (.tuple #[.agg #[.int .i64 0, .int .i64 0], .bool false]) ∧ Below w.heap.size w w' := by
  have hh : Hid (∀ w, Calls Try.prog 46 #[.agg #[.int .i64 f, .int .i64 n], .agg #[.int .i64 g, .int .i64 m]] w fun e w' => e = .returned (.bool false) ∧ Below w.heap.size w w') := ht
  clear ht
  go_enter Try.func47, Try.ntmps47
  go_wp2_with fail
  refine (hh.out _).mono ?_; rintro e w1 ⟨rfl, hb⟩; obtain ⟨hc, hfz⟩ := bcell hb
  go_wp2
  exact bodyPost_ret (v := .tuple #[.agg #[.int .i64 0, .int .i64 0], .bool false]) (by simp [results, Try.results47, go_sem, hc]) rfl ⟨rfl, ((below3 hb).setCell (by simp; omega) _).setCell (by simp; omega) _⟩

theorem join_yes (f n g m lo hi : Int) (w : World) (h1 : 0 ≤ f) (h2 : 1 ≤ n) (h3 : n ≤ 64 - f) (k1 : 0 ≤ g) (k2 : 1 ≤ m) (k3 : m ≤ 64 - g)
    (ht1 : f ≤ g + m) (ht2 : g ≤ f + n) (hlo : (if g < f then g else f) = lo) (hhi : (if f + n < g + m then g + m else f + n) = hi) (hl0 : 0 ≤ lo) (hl1 : lo ≤ 64) (hh0 : 0 ≤ hi) (hh1 : hi ≤ 64) :
    Calls Try.prog 47 #[.agg #[.int .i64 f, .int .i64 n], .agg #[.int .i64 g, .int .i64 m]] w fun e w' => e = .returned (.tuple #[.agg #[.int .i64 lo, .int .i64 (hi - lo)], .bool true]) ∧ Below w.heap.size w w' := by
  have hd : decide (g ≤ f + n) = true := by simp; omega
  go_enter Try.func47, Try.ntmps47
  go_wp2_with fail
  refine (touch_yes _ _ _ _ _ h1 h2 h3 k1 k2 k3 ht1).mono ?_; rintro e w2 ⟨rfl, hb⟩; obtain ⟨hc, hfz⟩ := bcell hb
  obtain ⟨hz2, a0, a1, b0, b1, r0, r1, z0, z1⟩ := cells3 hb
  have hB : Below w.heap.size w w2 := below3 hb
  clear hb hc hfz
  go_wp2_with fail
  go_region_held3 (fun w' => w'.cell? ⟨w.heap.size, 0, none⟩ = some (.int .i64 f) ∧ w'.cell? ⟨w.heap.size, 1, none⟩ = some (.int .i64 n) ∧ w'.cell? ⟨w.heap.size + 1, 0, none⟩ = some (.int .i64 g) ∧ w'.cell? ⟨w.heap.size + 1, 1, none⟩ = some (.int .i64 m) ∧ Below (w.heap.size + 1 + 1) w2 w')
    (first
      | exact ⟨a0, a1, b0, b1, (Below.refl _ _).drew⟩
      | exact keepB (by omega) a0 a1 b0 b1 ((((below_step (below_step (below_drew hb3) hb4) hb5).mono (Nat.le_of_lt hz2)).setCell (by simp) _).setCell (by simp) _)
      | exact keepB (by omega) a0 a1 b0 b1 ((below_step (below_step (below_drew hb3) hb4) hb5).mono (Nat.le_of_lt hz2))
      | exact keepB (by omega) a0 a1 b0 b1 ((below_step (below_drew hb3) hb4).mono (Nat.le_of_lt hz2))
      | exact keepB (by omega) a0 a1 b0 b1 ((below_drew hb3).mono (Nat.le_of_lt hz2)))
    (first
      | (go_at_call_of 79 (Value.agg #[.int .i64 f, .int .i64 n]); refine (end_yes _ _ _ ⟨h1, h2, h3⟩).mono ?_; rintro e w3 ⟨rfl, hb3⟩)
      | (go_at_call_of 79 (Value.agg #[.int .i64 g, .int .i64 m]); refine (end_yes _ _ _ ⟨k1, k2, k3⟩).mono ?_; rintro e w4 ⟨rfl, hb4⟩)
      | (go_at_call 82; refine (between_any _ _ _ hl0 hl1 hh0 hh1).mono ?_; rintro e w5 ⟨rfl, hb5⟩; obtain ⟨q0, q1, y0, y1⟩ := keepR hz2 r0 r1 z0 z1 (below_step (below_step (below_drew hb3) hb4) hb5)))
  all_goals
    go_wp2
    exact bodyPost_ret (v := .tuple #[.agg #[.int .i64 lo, .int .i64 (hi - lo)], .bool true]) (by simp [results, Try.results47, go_sem, q0, q1]) rfl ⟨rfl, ((hB.trans ((below_step (below_step (below_drew hb3) hb4) hb5).mono hB.size)).setCell (by simp; omega) _).setCell (by simp; omega) _⟩
end Go.Proofs.Ytfikkbmilhcahaa
