/-
  The contract of runs' Both: a new set of what both have; nothing that was there is written.
-/
import Derived.Test.YtpdbnldbdmhhfaaCuts
import Derived.Deep.RegionLaw
namespace Go.Proofs.Ytpdbnldbdmhhfaa
open Go.ChangeShapes Go.WideShapes Go.ChangeAt Go.RowKit
attribute [local go_sem ↓] Go.wp_at_zero Go.wp_at_succ

theorem meet_t (a b c : Sp) (w : World) (ha : Wh a) (hb : Wh b) (h : meetS a b = some c) :
    Calls Try.prog 65 #[.agg #[.int .i64 a.1, .int .i64 a.2], .agg #[.int .i64 b.1, .int .i64 b.2]] w fun e w' => e = .returned (.tuple #[.agg #[.int .i64 c.1, .int .i64 c.2], .bool true]) ∧ Below w.heap.size w w' := by
  obtain ⟨h1, h2, h3⟩ := id ha
  obtain ⟨k1, k2, k3⟩ := id hb
  have hx := lo_hi a b
  unfold meetS at h
  by_cases hlt : loM a b < hiM a b
  · rw [if_pos hlt] at h
    cases h
    exact meet_some a.1 a.2 b.1 b.2 (loM a b) (hiM a b) w h1 h2 h3 k1 k2 k3 rfl rfl hlt (by omega) (by omega)
  · rw [if_neg hlt] at h
    cases h
theorem meet_f (a b : Sp) (w : World) (ha : Wh a) (hb : Wh b) (h : meetS a b = none) :
    Calls Try.prog 65 #[.agg #[.int .i64 a.1, .int .i64 a.2], .agg #[.int .i64 b.1, .int .i64 b.2]] w fun e w' => e = .returned (.tuple #[.agg #[.int .i64 0, .int .i64 0], .bool false]) ∧ Below w.heap.size w w' := by
  obtain ⟨h1, h2, h3⟩ := id ha
  obtain ⟨k1, k2, k3⟩ := id hb
  unfold meetS at h
  by_cases hlt : loM a b < hiM a b
  · rw [if_pos hlt] at h
    cases h
  · exact meet_none a.1 a.2 b.1 b.2 (loM a b) (hiM a b) w h1 h2 h3 k1 k2 k3 rfl rfl (by omega)

theorem own_drew {w : World} {base : Nat} {v : Value} {n : Nat} {xs : List Value} (h : w.ownsRow base 49 2 v n xs) : w.drew.ownsRow base 49 2 v n xs := own_below h (Below.refl _ _).drew

/-- The new set at block B: its one cell, and the list that it owns. -/
def BObj (w : World) (B : Nat) (v : Value) (outs : List Sp) : Prop :=
  w.heap[B]? = some (.cells #[v] 60 (0, 0)) ∧ w.ownsRow (B + 1) 49 2 v outs.length (spansV outs)

theorem BObj.below {w w' : World} {B : Nat} {v : Value} {outs : List Sp} (h : BObj w B v outs) (hb : Below w.heap.size w w') : BObj w' B v outs :=
  ⟨by rw [hb.block B (lt_of_block h.1)]; exact h.1, own_below h.2 hb⟩
theorem BObj.lt {w : World} {B : Nat} {v : Value} {outs : List Sp} (h : BObj w B v outs) : B < w.heap.size := lt_of_block h.1
theorem BObj.cell {w : World} {B : Nat} {v : Value} {outs : List Sp} (h : BObj w B v outs) : w.cell? ⟨B, 0, none⟩ = some v ∧ w.frozen? ⟨B, 0, none⟩ = false := by
  exact ⟨by simp [World.cell?, h.1], by simp [World.frozen?, h.1]⟩
theorem BObj.robj {w : World} {B : Nat} {v : Value} {outs : List Sp} (h : BObj w B v outs) : RObj w B outs := ⟨v, h.1, own_row h.2, own_t49 h.2⟩
theorem bobj_new (w : World) : BObj (w.alloc (.cells #[.slice none 0 0] 60)) w.heap.size (.slice none 0 0) [] :=
  ⟨by have := heap_alloc_new w (.cells #[.slice none 0 0] 60); simpa using this, World.ownsRow_nil _ _ _ _⟩
/-- The list has grown, and is stored. -/
theorem BObj.grow {w w5 : World} {B : Nat} {v v5 : Value} {outs outs5 : List Sp} (h : BObj w B v outs) (hg : w.grownBy w5 v.ownBlock) (ho : w5.ownsRow (B + 1) 49 2 v5 outs5.length (spansV outs5)) :
    BObj (w5.setCell ⟨B, 0, none⟩ v5) B v5 outs5 := by
  refine ⟨?_, own_set ho (Nat.lt_succ_self _) _⟩
  have e : w5.heap[B]? = some (.cells #[v] 60 (0, 0)) := by
    rw [hg.block B h.lt (fun e => by have := (h.2.lt B e.symm).1; omega)]; exact h.1
  simp [World.setCell, Array.getElem?_modify, e]

theorem BObj.cellGrown {w w5 : World} {B : Nat} {v : Value} {outs : List Sp} (h : BObj w B v outs) (hg : w.grownBy w5 v.ownBlock) : w5.cell? ⟨B, 0, none⟩ = some v ∧ w5.frozen? ⟨B, 0, none⟩ = false := by
  have e : w5.heap[B]? = some (.cells #[v] 60 (0, 0)) := by
    rw [hg.block B h.lt (fun e => by have := (h.2.lt B e.symm).1; omega)]; exact h.1
  exact ⟨by simp [World.cell?, e], by simp [World.frozen?, e]⟩
theorem Box.setFar {w : World} {H B o : Nat} {x y v : Value} (h : Box w H x y) (hne : B ≠ H) : Box (w.setCell ⟨B, o, none⟩ v) H x y := by
  have e : (w.setCell ⟨B, o, none⟩ v).heap[H]? = w.heap[H]? := Below.heap_setCell w ⟨B, o, none⟩ v H (fun e => hne e.symm)
  exact ⟨by rw [World.cell?_of_block (w := w) (a := ⟨H, 0, none⟩) e]; exact h.1, by rw [World.cell?_of_block (w := w) (a := ⟨H, 1, none⟩) e]; exact h.2.1, by rw [World.frozen?_of_block (w := w) (a := ⟨H, 0, none⟩) e]; exact h.2.2.1, by rw [World.frozen?_of_block (w := w) (a := ⟨H, 1, none⟩) e]; exact h.2.2.2⟩

theorem meetRow_succ {a b : Sp} {qs : List Sp} {j : Nat} (h : qs[j]? = some b) : meetRow a (qs.take (j + 1)) = meetRow a (qs.take j) ++ (meetS a b).toList := by
  unfold meetRow
  rw [List.take_add_one, h, List.filterMap_append]
  cases hm : meetS a b <;> simp [hm]
theorem bothL_succ {a : Sp} {ps qs : List Sp} {i : Nat} (h : ps[i]? = some a) : bothL (ps.take (i + 1)) qs = bothL (ps.take i) qs ++ meetRow a qs := by
  unfold bothL
  rw [List.take_add_one, h, List.flatMap_append]
  simp

set_option maxRecDepth 100000 in
theorem both_any {w : World} {r s : Nat} {ps qs : List Sp} (hr : RObj w r ps) (hs : RObj w s qs) (hp : Canon ps) (hq : Canon qs) :
    Calls Try.prog 26 #[.pointer (some ⟨r, 0, none⟩), .pointer (some ⟨s, 0, none⟩)] w fun e w' => e = .returned (.pointer (some ⟨w.heap.size, 0, none⟩)) ∧ RObj w' w.heap.size (bothL ps qs) ∧ Below w.heap.size w w' := by
  obtain ⟨i0, hi0, hz0', hz1', hz2'⟩ := info_parts Try.info49
  have hrl := hr.lt
  have hsl := hs.lt
  obtain ⟨v0, hv0, _, hrow0⟩ := hr.cell
  obtain ⟨v1, hv1, _, hrow1⟩ := hs.cell
  obtain ⟨a0, c0, rfl⟩ := hrow0.slice
  obtain ⟨a1, c1, rfl⟩ := hrow1.slice
  have h64p := canon_64 hp
  have h64q := canon_64 hq
  have hp' : Hid (∀ p ∈ ps, Wh p) := canon_whole hp
  have hq' : Hid (∀ p ∈ qs, Wh p) := canon_whole hq
  have hR0 : Hid (Row w (.slice a0 ps.length c0) ps) := hrow0
  have hR1 : Hid (Row w (.slice a1 qs.length c1) qs) := hrow1
  have hvs : Hid (w.cell? ⟨s, 0, none⟩ = some (.slice a1 qs.length c1)) := hv1
  have hv0' : Hid (w.cell? ⟨r, 0, none⟩ = some (.slice a0 ps.length c0)) := hv0
  clear hr hs hp hq hrow0 hrow1 hv1 hv0
  have hba : Below w.heap.size w (w.alloc (.cells #[.slice none 0 0] 60)) := (Below.refl _ _).alloc (Nat.le_refl _) _
  go_enter Try.func26, Try.ntmps26
  go_wp2_with fail
  refine (list_some r (.slice a0 ps.length c0) _ (by rw [hba.cell (p := ⟨r, 0, none⟩) hrl]; exact hv0'.out)).mono ?_; rintro e w1 ⟨rfl, hw1⟩; subst hw1
  go_wp2_with fail
  go_loopw [17] (fun iv wr => ∃ (i : Nat) (v : Value) (outs : List Sp), i ≤ ps.length ∧ iv = .int .i64 i ∧ BObj wr w.heap.size v outs ∧ outs = bothL (ps.take i) qs ∧ outs.length ≤ 64 * i ∧ Below w.heap.size w wr) (fun iv _ => ps.length - (intOf iv).toNat)
  case atStart => exact ⟨0, _, [], Nat.zero_le _, rfl, bobj_new w, rfl, Nat.zero_le _, hba⟩
  case round =>
    obtain ⟨i, v, outs, hi, rfl, hbo, heq, hol, hB⟩ := hrel
    have i0' : (0 : Int) ≤ (i : Int) := Int.natCast_nonneg _
    by_cases hlt : i < ps.length
    · rcases hR0.out with ⟨_, h0⟩ | ⟨g, o, cap, he, hg, hc⟩
      · subst h0; simp at hlt
      cases he
      obtain ⟨⟨f, n⟩, hpi⟩ : ∃ p, ps[i]? = some p := ⟨ps[i]'hlt, by simp [hlt]⟩
      have hwa : Hid (Wh (f, n)) := hp'.out _ (List.mem_of_getElem? hpi)
      obtain ⟨d0, d1⟩ := (hc.below hB hg) i _ hpi
      have hnx : Hid (bothL (ps.take (i + 1)) qs = outs ++ meetRow (f, n) qs) := (show bothL (ps.take (i + 1)) qs = outs ++ meetRow (f, n) qs by rw [heq]; exact bothL_succ hpi)
      have i1 : (i : Int) < (ps.length : Int) := by omega
      have hgr : g < wr.heap.size := Nat.lt_of_lt_of_le hg hB.size
      simp only at d0 d1
      have hsr : Hid (wr.cell? ⟨s, 0, none⟩ = some (.slice a1 qs.length c1)) := (show wr.cell? ⟨s, 0, none⟩ = some (.slice a1 qs.length c1) by rw [hB.cell (p := ⟨s, 0, none⟩) hsl]; exact hvs.out)
      have hba2 : Below wr.heap.size wr (wr.alloc (.cells #[.int .i64 f, .int .i64 n] 49)) := (Below.refl _ _).alloc (Nat.le_refl _) _
      have hsl2 : s < wr.heap.size := Nat.lt_of_lt_of_le hsl hB.size
      have hbo' : Hid (BObj wr w.heap.size v outs) := hbo
      have hoT : Hid (∀ k, v.ownBlock = some k → k ≠ wr.heap.size) := (show ∀ k, v.ownBlock = some k → k ≠ wr.heap.size from fun k hk => by have := (hbo.2.lt k hk).2; omega)
      clear hpi heq hc hbo
      go_wp2_with fail
      refine (list_some s (.slice a1 qs.length c1) _ (by rw [hba2.cell (p := ⟨s, 0, none⟩) hsl2]; exact hsr.out)).mono ?_; rintro e w2 ⟨rfl, hw2⟩; subst hw2
      go_wp2_with fail
      have hT : Hid (wr.heap.size < (wr.alloc (.cells #[.int .i64 f, .int .i64 n] 49)).heap.size) := (show wr.heap.size < (wr.alloc (.cells #[.int .i64 f, .int .i64 n] 49)).heap.size by simp)
      have hBx : Hid (Box (wr.alloc (.cells #[.int .i64 f, .int .i64 n] 49)) wr.heap.size (.int .i64 f) (.int .i64 n)) := Box.new wr (.int .i64 f) (.int .i64 n) 49
      have hb2 : Hid (BObj (wr.alloc (.cells #[.int .i64 f, .int .i64 n] 49)) w.heap.size v outs) := hbo'.out.below hba2
      have hB2 : Hid (Below w.heap.size w (wr.alloc (.cells #[.int .i64 f, .int .i64 n] 49))) := hB.trans (hba2.mono hB.size)
      have hTw : w.heap.size < wr.heap.size := hbo'.out.lt
      clear hsr hba2 hbo' hB d0 d1
      generalize wr.alloc (.cells #[.int .i64 f, .int .i64 n] 49) = w3 at *
      generalize wr.heap.size = O at *
      go_loopw [24] (fun jv wk => ∃ (j : Nat) (u : Value) (more : List Sp), j ≤ qs.length ∧ jv = .int .i64 j ∧ BObj wk w.heap.size u (outs ++ more) ∧ more = meetRow (f, n) (qs.take j) ∧ more.length ≤ j ∧ Box wk O (.int .i64 f) (.int .i64 n) ∧ (∀ k, u.ownBlock = some k → k ≠ O) ∧ Below w.heap.size w wk) (fun jv _ => qs.length - (intOf jv).toNat)
      case atStart => exact ⟨0, v, [], Nat.zero_le _, rfl, by rw [List.append_nil]; exact hb2.out, rfl, Nat.zero_le _, hBx.out, hoT.out, hB2.out⟩
      case round =>
        clear hBx hb2 hB2 hoT hT
        obtain ⟨j, u, more, hj, rfl, hbo, heq, hml, hbx, hoT, hB⟩ := hrel
        have j0 : (0 : Int) ≤ (j : Int) := Int.natCast_nonneg _
        have hbx' : Hid (Box wr O (.int .i64 f) (.int .i64 n)) := hbx
        have hbo' : Hid (BObj wr w.heap.size u (outs ++ more)) := hbo
        have hoT' : Hid (∀ k, u.ownBlock = some k → k ≠ O) := hoT
        obtain ⟨x0, x1, x2, x3⟩ := hbx
        have hOl : O < wr.heap.size := hbx'.out.lt
        have hBl : w.heap.size < wr.heap.size := hbo.lt
        clear hbo hoT
        by_cases hlt2 : j < qs.length
        · rcases hR1.out with ⟨_, h0⟩ | ⟨g1, o1, cap, he, hg1, hc1⟩
          · subst h0; simp at hlt2
          cases he
          obtain ⟨⟨x, y⟩, hqj⟩ : ∃ p, qs[j]? = some p := ⟨qs[j]'hlt2, by simp [hlt2]⟩
          have hwb : Hid (Wh (x, y)) := hq'.out _ (List.mem_of_getElem? hqj)
          obtain ⟨e0, e1⟩ := (hc1.below hB hg1) j _ hqj
          have j1 : (j : Int) < (qs.length : Int) := by omega
          have hgr1 : g1 < wr.heap.size := Nat.lt_of_lt_of_le hg1 hB.size
          simp only at e0 e1
          have hba3 : Below wr.heap.size wr (wr.alloc (.cells #[.int .i64 x, .int .i64 y] 49)) := (Below.refl _ _).alloc (Nat.le_refl _) _
          cases hm : meetS (f, n) (x, y) with
          | none =>
            have hm' : Hid (meetS (f, n) (x, y) = none) := hm
            have hnx2 : Hid (meetRow (f, n) (qs.take (j + 1)) = more) := (show meetRow (f, n) (qs.take (j + 1)) = more by rw [meetRow_succ hqj, hm, heq]; simp)
            clear hqj hm heq hc1
            go_wp2_with fail
            refine (meet_f (f, n) (x, y) _ hwa.out hwb.out hm'.out).mono ?_; rintro e w4 ⟨rfl, hb4⟩
            have hb4' : Below wr.heap.size wr w4 := hba3.trans (hb4.mono (by simp))
            have hb5 : Below w4.heap.size w4 (w4.alloc (.cells #[.int .i64 0, .int .i64 0] 49)) := (Below.refl _ _).alloc (Nat.le_refl _) _
            go_wp2
            go_roundw
            case rel => exact ⟨j + 1, u, more, by omega, by go_num, (hbo'.out.below hb4').below hb5, hnx2.out.symm, by omega, (hbx'.out.below hb4' hOl).below hb5 (Nat.lt_of_lt_of_le hOl hb4'.size), hoT'.out, below_step (below_step hB hb4') hb5⟩
            case measure => simp [intOf]; omega
          | some c =>
            obtain ⟨m1, m2⟩ := c
            have hm' : Hid (meetS (f, n) (x, y) = some (m1, m2)) := hm
            have hnx2 : Hid (meetRow (f, n) (qs.take (j + 1)) = more ++ [(m1, m2)]) := (show meetRow (f, n) (qs.take (j + 1)) = more ++ [(m1, m2)] by rw [meetRow_succ hqj, hm, heq]; simp)
            clear hqj hm heq hc1
            go_wp2_with fail
            refine (meet_t (f, n) (x, y) (m1, m2) _ hwa.out hwb.out hm'.out).mono ?_; rintro e w4 ⟨rfl, hb4⟩
            have hb4' : Below wr.heap.size wr w4 := hba3.trans (hb4.mono (by simp))
            have hb5 : Below w4.heap.size w4 (w4.alloc (.cells #[.int .i64 m1, .int .i64 m2] 49)) := (Below.refl _ _).alloc (Nat.le_refl _) _
            have hbo5 : Hid (BObj (w4.alloc (.cells #[.int .i64 m1, .int .i64 m2] 49)) w.heap.size u (outs ++ more)) := (hbo'.out.below hb4').below hb5
            have hbx5 : Hid (Box (w4.alloc (.cells #[.int .i64 m1, .int .i64 m2] 49)) O (.int .i64 f) (.int .i64 n)) := (hbx'.out.below hb4' hOl).below hb5 (Nat.lt_of_lt_of_le hOl hb4'.size)
            have hB5 : Below w.heap.size w (w4.alloc (.cells #[.int .i64 m1, .int .i64 m2] 49)) := below_step (below_step hB hb4') hb5
            obtain ⟨y0, y1, y2, y3⟩ := Box.new w4 (.int .i64 m1) (.int .i64 m2) 49
            have hM : w4.heap.size < (w4.alloc (.cells #[.int .i64 m1, .int .i64 m2] 49)).heap.size := by simp
            clear hb4 hb4' hb5 hba3 hbo' hbx' e0 e1 x0 x1 x2 x3 hB
            go_wp2_with fail
            generalize w4.alloc (.cells #[.int .i64 m1, .int .i64 m2] 49) = w5 at *
            generalize w4.heap.size = M at *
            obtain ⟨q0, q1⟩ := hbo5.out.cell
            have hBl5 : w.heap.size < w5.heap.size := hbo5.out.lt
            have hlen : (outs ++ more).length ≤ 64 * i + j := by rw [List.length_append]; omega
            have hown5 := hbo5.out.2
            obtain ⟨all, hall⟩ : ∃ all, Hid (outs ++ more = all) := ⟨_, rfl⟩
            rw [hall.out] at hbo5 hlen hown5
            obtain ⟨a5, c5, rfl⟩ := own_slice hown5
            have hba6 : Below w5.heap.size w5 (w5.alloc (.cells #[.int .i64 m1, .int .i64 m2] 49)).drew := ((Below.refl _ _).alloc (Nat.le_refl _) _).drew
            have hbo6 : Hid (BObj (w5.alloc (.cells #[.int .i64 m1, .int .i64 m2] 49)).drew w.heap.size (.slice a5 all.length c5) all) := hbo5.out.below hba6
            have hbx6 : Hid (Box (w5.alloc (.cells #[.int .i64 m1, .int .i64 m2] 49)).drew O (.int .i64 f) (.int .i64 n)) := hbx5.out.below hba6 hbx5.out.lt
            have hOM : O < w5.heap.size := hbx5.out.lt
            go_region_law (first
              | (refine step_append_lies _ (by rfl) _ _ 22 (by rfl) (w.heap.size + 1) 49 i0 (.agg #[.int .i64 0, .int .i64 0]) 2 16 Try.underlying22 hi0 hz0' hz1' hz2' rfl (by decide) (.slice a5 all.length c5) all.length (spansV all) (by rfl) (own_drew (hown5.alloc _)) ⟨w5.heap.size, 0, none⟩ 1 1 [.int .i64 m1, .int .i64 m2] (by rfl) (by rfl) (World.news_of_block (cs := #[.int .i64 m1, .int .i64 m2]) (t := 49) (fr := (0, 0)) (heap_alloc_new w5 _)) (by simp [Value.oneCell']) (by decide) (by unfold maxLen; omega) (by omega) (by simp; omega) (w5.heap.size + 1) (by simp) ?_; intro g6 cap6 w6 hown6 hgrow6 hat6 hlt6; obtain ⟨p0, p1⟩ := hbo6.out.cellGrown hgrow6))
            all_goals
              go_wp2
              go_roundw
              case rel =>
                refine ⟨j + 1, .slice (some ⟨g6, 0, none⟩) (all.length + 1) cap6, more ++ [(m1, m2)], by omega, by go_num, ?_, hnx2.out.symm, by rw [List.length_append]; simp; omega, ?_, ?_, ?_⟩
                · rw [← List.append_assoc, hall.out]
                  exact hbo6.out.grow (outs5 := all ++ [(m1, m2)]) hgrow6 (by rw [List.length_append, spansV_append]; exact hown6)
                · exact (hbx6.out.grown hgrow6 (fun e => hoT'.out O e.symm rfl)).setFar (by omega)
                · intro k hk
                  cases hk
                  rcases hat6 with h | h
                  · exact hoT'.out _ h
                  · show g6 ≠ O
                    omega
                · exact ((hB5.trans (hba6.mono hB5.size)).grown hgrow6 (Nat.le_trans hB5.size hba6.size) (fun k hk => by have := (hown5.lt k hk).1; omega)).setCell (Nat.le_refl _) _
              case measure => simp [intOf]; omega
        · have hjj : j = qs.length := by omega
          subst hjj
          rw [List.take_length] at heq
          subst heq
          go_wp2
          go_roundw
          case rel => exact ⟨i + 1, u, outs ++ meetRow (f, n) qs, by omega, by go_num, hbo'.out, hnx.out.symm, by rw [List.length_append]; omega, hB⟩
          case measure => simp [intOf]; omega
    · have hii : i = ps.length := by omega
      subst hii
      rw [List.take_length] at heq
      subst heq
      go_wp2
      go_ret
      exact ⟨rfl, hbo.robj, hB⟩
end Go.Proofs.Ytpdbnldbdmhhfaa
