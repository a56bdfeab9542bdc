/-
  The contracts of emulsionbook's still and marked.
-/
import Derived.Test.YtgigpohfkppplaaBkIB
namespace Go.Proofs.Ytgigpohfkppplaa.BkI
open Go.ChangeShapes Go.WideShapes Go.ChangeAt Go.RowKit
attribute [local go_sem ↓] Go.wp_at_zero Go.wp_at_succ


theorem own_at {w : World} {base : Nat} {e : TypeId} {v : Value} {n : Nat} {xs : List Value} (h : w.ownsRow base e 1 v n xs) (hn : 0 < n) :
    ∃ g cap, v = .slice (some ⟨g, 0, none⟩) n cap ∧ g < w.heap.size ∧ ∀ i, i < n → w.cell? ⟨g, i, none⟩ = xs[i]? := by
  obtain ⟨g, cap, rfl, _, hg⟩ := h.form hn
  exact ⟨g, cap, rfl, hg, fun i hi => h.cellAt i (by omega)⟩

theorem cells_stay4 {B K gs gw i : Nat} {a b c d : Value} {w w' : World} (hb : Below B w w') (hK : K < B) (hs : gs < B) (hw : gw < B)
    (h : w.cell? ⟨K, 2, none⟩ = some a ∧ w.cell? ⟨K, 3, none⟩ = some b ∧ w.cell? ⟨gs, i, none⟩ = some c ∧ w.cell? ⟨gw, i, none⟩ = some d) :
    w'.cell? ⟨K, 2, none⟩ = some a ∧ w'.cell? ⟨K, 3, none⟩ = some b ∧ w'.cell? ⟨gs, i, none⟩ = some c ∧ w'.cell? ⟨gw, i, none⟩ = some d :=
  ⟨by rw [hb.cell (p := ⟨K, 2, none⟩) hK]; exact h.1, by rw [hb.cell (p := ⟨K, 3, none⟩) hK]; exact h.2.1, by rw [hb.cell (p := ⟨gs, i, none⟩) hs]; exact h.2.2.1, by rw [hb.cell (p := ⟨gw, i, none⟩) hw]; exact h.2.2.2⟩

set_option maxRecDepth 100000 in
theorem still_own {w : World} {G : Nat → Prop} {K base : Nat} {es : List Ent} (hk : Kept w G K base es) (hn : es.length ≤ 250) (hl : ∀ e ∈ es, e.2.length ≤ 1000000) :
    Calls Try.prog 35 #[.pointer (some ⟨K, 0, none⟩)] w fun e w' => e = .returned (.bool true) ∧ Below w.heap.size w w' := by
  obtain ⟨sv, wv, cs, hs, _⟩ := hk
  obtain ⟨a1, c1, rfl⟩ := own_form hs.sown
  obtain ⟨a2, c2, rfl⟩ := own_form hs.wown
  obtain ⟨cK, _⟩ := book_cell hs.block
  have c4 := cK 2
  have c5 := cK 3
  simp only [bookCells] at c4 c5
  change w.cell? ⟨K, 2, none⟩ = some (.slice a1 es.length c1) at c4
  change w.cell? ⟨K, 3, none⟩ = some (.slice a2 es.length c2) at c5
  have hKl := lt_of_block hs.block
  have hs' := Hid.intro hs
  have hl' := Hid.intro hl
  have h4 := Hid.intro c4
  have h5 := Hid.intro c5
  clear hs hl cK c4 c5
  go_enter Try.func35, Try.ntmps35
  go_wp2_with fail
  go_loopw [3] (fun iv wr => ∃ i : Nat, i ≤ es.length ∧ iv = .int .i64 i ∧ Below w.heap.size w wr) (fun iv _ => es.length - (intOf iv).toNat)
  case atStart => exact ⟨0, Nat.zero_le _, rfl, Below.refl _ _⟩
  case round =>
    obtain ⟨i, hi, rfl, hB⟩ := hrel
    have i0 : (0 : Int) ≤ (i : Int) := Int.natCast_nonneg _
    have d4 : wr.cell? ⟨K, 2, none⟩ = some (.slice a1 es.length c1) := by rw [hB.cell (p := ⟨K, 2, none⟩) hKl]; exact h4.out
    by_cases hlt : i < es.length
    · obtain ⟨gs, c1', he1, hgs, hcs⟩ := own_at hs'.out.sown (by omega)
      obtain ⟨gw, c2', he2, hgw, hcw⟩ := own_at hs'.out.wown (by omega)
      cases he1
      cases he2
      have hcl : cs.length = es.length := by have := hs'.out.wown.1; simpa using this
      obtain ⟨⟨v, l⟩, he⟩ : ∃ e, es[i]? = some e := ⟨es[i]'hlt, by simp [hlt]⟩
      obtain ⟨c, hc⟩ : ∃ c, cs[i]? = some c := ⟨cs[i]'(by omega), by simp [hcl, hlt]⟩
      have hr1 := own_row (hs'.out.lists.own i _ he)
      have hr2 := (hs'.out.copies i _ c he hc).1
      have hll := hl'.out _ (List.mem_of_getElem? he)
      have e1 : w.cell? ⟨gs, i, none⟩ = some v := by rw [hcs i hlt]; simp [he]
      have e2 : w.cell? ⟨gw, i, none⟩ = some c := by rw [hcw i hlt]; exact hc
      have d5 : wr.cell? ⟨K, 3, none⟩ = some (.slice (some ⟨gw, 0, none⟩) es.length c2) := by rw [hB.cell (p := ⟨K, 3, none⟩) hKl]; exact h5.out
      have f1 : wr.cell? ⟨gs, i, none⟩ = some v := by rw [hB.cell (p := ⟨gs, i, none⟩) hgs]; exact e1
      have f2 : wr.cell? ⟨gw, i, none⟩ = some c := by rw [hB.cell (p := ⟨gw, i, none⟩) hgw]; exact e2
      have i1 : (i : Int) < (es.length : Int) := by omega
      have hR1 := Hid.intro (hr1.below hB)
      have hR2 := Hid.intro (hr2.below hB)
      have zK : K < wr.heap.size := Nat.lt_of_lt_of_le hKl hB.size
      have zs : gs < wr.heap.size := Nat.lt_of_lt_of_le hgs hB.size
      have zw : gw < wr.heap.size := Nat.lt_of_lt_of_le hgw hB.size
      simp only at hll
      clear hr1 hr2 he hc hcs hcw e1 e2
      go_wp2_with fail
      go_region_held3 (fun w' => w'.cell? ⟨K, 2, none⟩ = some (.slice (some ⟨gs, 0, none⟩) es.length c1) ∧ w'.cell? ⟨K, 3, none⟩ = some (.slice (some ⟨gw, 0, none⟩) es.length c2) ∧ w'.cell? ⟨gs, i, none⟩ = some v ∧ w'.cell? ⟨gw, i, none⟩ = some c)
        (first
          | exact ⟨d4, d5, f1, f2⟩
          | exact cells_stay4 (below_drew hb2) zK zs zw ⟨d4, d5, f1, f2⟩)
        (first
          | (go_at_call 24; refine (same_rows (ps := l) ?_ ?_ hll).mono ?_; exact hR1.out.below below_drw; exact hR2.out.below below_drw; rintro e w2 ⟨rfl, hb2⟩))
      all_goals
        go_wp2
        go_roundw
        case rel => exact ⟨i + 1, by omega, by go_num, below_step hB (below_drew hb2)⟩
        case measure => simp [intOf]; omega
    · have i1 : ¬ (i : Int) < (es.length : Int) := by omega
      go_wp2
      go_ret
      exact ⟨rfl, hB⟩

theorem marked_none (w : World) : Calls Try.prog 56 #[.slice none 0 0] w fun e w' => e = .returned (.bool true) ∧ Below w.heap.size w w' := by
  go_enter Try.func56, Try.ntmps56
  go_wp2_with fail
  go_loop [3] (fun iv => iv = .int .i64 0) (fun _ => 0)
  case atStart => rfl
  case round =>
    subst hrel
    go_wp2
    go_ret
    exact ⟨rfl, Below.refl _ _⟩

set_option maxRecDepth 100000 in
theorem marked_some {w : World} {g n cap : Nat} {vs : List Value} (hg : g < w.heap.size) (hc : Hid (∀ i, i < n → w.cell? ⟨g, i, none⟩ = vs[i]?)) (hvl : vs.length = n) (hm : Hid (∀ (i : Nat) x, vs[i]? = some x → ∃ k, k ≤ 1000000 ∧ Row w x (marks i 0 k))) (hn : n ≤ 250) :
    Calls Try.prog 56 #[.slice (some ⟨g, 0, none⟩) n cap] w fun e w' => e = .returned (.bool true) ∧ Below w.heap.size w w' := by
  go_enter Try.func56, Try.ntmps56
  go_wp2_with fail
  go_loopw [3] (fun iv wr => ∃ i : Nat, i ≤ n ∧ iv = .int .i64 i ∧ Below w.heap.size w wr) (fun iv _ => n - (intOf iv).toNat)
  case atStart => exact ⟨0, Nat.zero_le _, rfl, Below.refl _ _⟩
  case round =>
    obtain ⟨i, hi, rfl, hB⟩ := hrel
    have i0 : (0 : Int) ≤ (i : Int) := Int.natCast_nonneg _
    by_cases hlt : i < n
    · obtain ⟨x, hx⟩ : ∃ x, vs[i]? = some x := ⟨vs[i]'(by omega), by simp [hvl, hlt]⟩
      obtain ⟨k, hk, hr⟩ := hm.out i x hx
      obtain ⟨a, c, rfl⟩ := hr.slice
      rw [marks_length] at *
      have f1 : wr.cell? ⟨g, i, none⟩ = some (.slice a k c) := by rw [hB.cell (p := ⟨g, i, none⟩) hg, hc.out i hlt]; exact hx
      have i1 : (i : Int) < (n : Int) := by omega
      have i2 : (i : Int) ≤ 1000 := by omega
      have hR := Hid.intro (hr.below hB)
      have zg : g < wr.heap.size := Nat.lt_of_lt_of_le hg hB.size
      clear hr hx
      go_wp2_with fail
      go_region_held3 (fun w' => w'.cell? ⟨g, i, none⟩ = some (.slice a k c))
        (first
          | exact f1
          | (rw [(below_step (below_drew hb2) hb3).cell (p := ⟨g, i, none⟩) zg]; exact f1)
          | (rw [(below_drew hb2).cell (p := ⟨g, i, none⟩) zg]; exact f1))
        (first
          | (go_at_call 74; refine (bmark_any (i : Int) 0 k _ i0 i2 (Int.le_refl _) (by decide) hk).mono ?_; rintro e w2 ⟨mv, rfl, hmv, hb2⟩; have hmr := Hid.intro (own_row (ps := marks (i : Int) 0 k) (by rw [marks_length]; exact hmv)))
          | (go_at_call 24; refine (same_rows (ps := marks (i : Int) 0 k) ?_ ?_ (by rw [marks_length]; exact hk)).mono ?_; exact hR.out.below (below_drew hb2); exact hmr.out; rintro e w3 ⟨rfl, hb3⟩))
      all_goals
        go_wp2
        go_roundw
        case rel => exact ⟨i + 1, by omega, by go_num, below_step hB (below_step (below_drew hb2) hb3)⟩
        case measure => simp [intOf]; omega
    · have i1 : ¬ (i : Int) < (n : Int) := by omega
      go_wp2
      go_ret
      exact ⟨rfl, hB⟩

theorem marked_any {w : World} {base : Nat} {v : Value} {n : Nat} {vs : List Value} (h : w.ownsRow base 33 1 v n vs) (hm : ∀ (i : Nat) x, vs[i]? = some x → ∃ k, k ≤ 1000000 ∧ Row w x (marks i 0 k)) (hn : n ≤ 250) :
    Calls Try.prog 56 #[v] w fun e w' => e = .returned (.bool true) ∧ Below w.heap.size w w' := by
  have hvl : vs.length = n := by have := h.1; simpa using this
  rcases Nat.eq_zero_or_pos n with h0 | h0
  · subst h0
    rcases h.2 with ⟨rfl, _⟩ | ⟨g, cap, cur, rfl, _, hg, _⟩
    · exact marked_none w
    · exact marked_some (vs := vs) (lt_of_block hg) (fun i hi => absurd hi (Nat.not_lt_zero _)) hvl hm (by omega)
  · obtain ⟨g, cap, rfl, hg, hc⟩ := own_at h h0
    exact marked_some hg hc hvl hm hn
end Go.Proofs.Ytgigpohfkppplaa.BkI
