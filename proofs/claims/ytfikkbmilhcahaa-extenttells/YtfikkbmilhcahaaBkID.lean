
/-
  The contracts of emulsionbook's still and marked.
-/
import Derived.Test.YtfikkbmilhcahaaBkIB
import Derived.OneCell
namespace Go.Proofs.Ytfikkbmilhcahaa.BkI
open Go.ChangeShapes Go.WideShapes Go.ChangeAt Go.RowKit Go.Proofs.Ytfikkbmilhcahaa.Bk0
attribute [local go_sem ↓] Go.wp_at_zero Go.wp_at_succ


theorem cells_stay4 {B K gs gw i : Nat} {a b c d : Value} {w w' : World} (hb : Below B w w') (hK : K < B) (hs : gs < B) (hw : gw < B)
    (h : w.cell? ⟨K, 2, none⟩ = some a ∧ w.cell? ⟨K, 3, none⟩ = some b ∧ w.cell? ⟨gs, i, none⟩ = some c ∧ w.cell? ⟨gw, i, none⟩ = some d) :
    w'.cell? ⟨K, 2, none⟩ = some a ∧ w'.cell? ⟨K, 3, none⟩ = some b ∧ w'.cell? ⟨gs, i, none⟩ = some c ∧ w'.cell? ⟨gw, i, none⟩ = some d :=
  ⟨by rw [hb.cell (p := ⟨K, 2, none⟩) hK]; exact h.1, by rw [hb.cell (p := ⟨K, 3, none⟩) hK]; exact h.2.1, by rw [hb.cell (p := ⟨gs, i, none⟩) hs]; exact h.2.2.1, by rw [hb.cell (p := ⟨gw, i, none⟩) hw]; exact h.2.2.2⟩

set_option maxRecDepth 100000 in
theorem still_own {r : Cls} {w : World} {G : Nat → Prop} {K base : Nat} {es : List Ent} (hk : Kept r w G K base es) (hn : es.length ≤ 250) (hl : ∀ e ∈ es, e.2.length ≤ 1000000) :
    Calls Try.prog 51 #[.pointer (some ⟨K, 0, none⟩)] w fun e w' => e = .returned (.bool true) ∧ Below w.heap.size w w' := by
  obtain ⟨sv, wv, cs, hs, _⟩ := hk
  obtain ⟨a1, c1, rfl⟩ := ow_form hs.sown
  obtain ⟨a2, c2, rfl⟩ := ow_form hs.wown
  obtain ⟨cK, _⟩ := book_cell hs.block
  have c4 := cK 2
  have c5 := cK 3
  simp only [bookCells] at c4 c5
  change w.cell? ⟨K, 2, none⟩ = some (.slice a1 es.length c1) at c4
  change w.cell? ⟨K, 3, none⟩ = some (.slice a2 es.length c2) at c5
  have hKl := lt_of_block hs.block
  have hs' := Hid.intro hs
  have hl' := Hid.intro hl
  have h4 := Hid.intro c4
  have h5 := Hid.intro c5
  clear hs hl cK c4 c5
  go_enter Try.func51, Try.ntmps51
  go_wp2_with fail
  go_loopw [3] (fun iv wr => ∃ i : Nat, i ≤ es.length ∧ iv = .int .i64 i ∧ Below w.heap.size w wr) (fun iv _ => es.length - (intOf iv).toNat)
  case atStart => exact ⟨0, Nat.zero_le _, rfl, Below.refl _ _⟩
  case round =>
    obtain ⟨i, hi, rfl, hB⟩ := hrel
    have i0 : (0 : Int) ≤ (i : Int) := Int.natCast_nonneg _
    have d4 : wr.cell? ⟨K, 2, none⟩ = some (.slice a1 es.length c1) := by rw [hB.cell (p := ⟨K, 2, none⟩) hKl]; exact h4.out
    by_cases hlt : i < es.length
    · obtain ⟨gs, c1', he1, hgs, hcs⟩ := ow_at hs'.out.sown (by omega)
      obtain ⟨gw, c2', he2, hgw, hcw⟩ := ow_at hs'.out.wown (by omega)
      cases he1
      cases he2
      have hcl : cs.length = es.length := by have := hs'.out.wown.1; simpa using this
      obtain ⟨⟨v, l⟩, he⟩ : ∃ e, es[i]? = some e := ⟨es[i]'hlt, by simp [hlt]⟩
      obtain ⟨c, hc⟩ : ∃ c, cs[i]? = some c := ⟨cs[i]'(by omega), by simp [hcl, hlt]⟩
      have hr1 := own_row (hs'.out.lists.own i _ he)
      have hr2 := (hs'.out.copies i _ c he hc).1
      have hll := hl'.out _ (List.mem_of_getElem? he)
      have e1 : w.cell? ⟨gs, i, none⟩ = some v := by rw [hcs i hlt]; simp [he]
      have e2 : w.cell? ⟨gw, i, none⟩ = some c := by rw [hcw i hlt]; exact hc
      have d5 : wr.cell? ⟨K, 3, none⟩ = some (.slice (some ⟨gw, 0, none⟩) es.length c2) := by rw [hB.cell (p := ⟨K, 3, none⟩) hKl]; exact h5.out
      have f1 : wr.cell? ⟨gs, i, none⟩ = some v := by rw [hB.cell (p := ⟨gs, i, none⟩) hgs]; exact e1
      have f2 : wr.cell? ⟨gw, i, none⟩ = some c := by rw [hB.cell (p := ⟨gw, i, none⟩) hgw]; exact e2
      have i1 : (i : Int) < (es.length : Int) := by omega
      have hR1 := Hid.intro (hr1.below hB)
      have hR2 := Hid.intro (hr2.below hB)
      have zK : K < wr.heap.size := Nat.lt_of_lt_of_le hKl hB.size
      have zs : gs < wr.heap.size := Nat.lt_of_lt_of_le hgs hB.size
      have zw : gw < wr.heap.size := Nat.lt_of_lt_of_le hgw hB.size
      simp only at hll
      clear hr1 hr2 he hc hcs hcw e1 e2
      go_wp2_with fail
      go_region_held3 (fun w' => w'.cell? ⟨K, 2, none⟩ = some (.slice (some ⟨gs, 0, none⟩) es.length c1) ∧ w'.cell? ⟨K, 3, none⟩ = some (.slice (some ⟨gw, 0, none⟩) es.length c2) ∧ w'.cell? ⟨gs, i, none⟩ = some v ∧ w'.cell? ⟨gw, i, none⟩ = some c)
        (first
          | exact ⟨d4, d5, f1, f2⟩
          | exact cells_stay4 (blw_drew hb2) zK zs zw ⟨d4, d5, f1, f2⟩)
        (first
          | (go_at_call 28; refine (same_rows (ps := l) ?_ ?_ hll).mono ?_; exact hR1.out.below blw_drw; exact hR2.out.below blw_drw; rintro e w2 ⟨rfl, hb2⟩))
      all_goals
        go_wp2
        go_roundw
        case rel => exact ⟨i + 1, by omega, by go_num, blw_step hB (blw_drew hb2)⟩
        case measure => simp [intOf]; omega
    · have i1 : ¬ (i : Int) < (es.length : Int) := by omega
      go_wp2
      go_ret
      exact ⟨rfl, hB⟩

theorem marked_none (w : World) : Calls Try.prog 72 #[.slice none 0 0] w fun e w' => e = .returned (.bool true) ∧ Below w.heap.size w w' := by
  go_enter Try.func72, Try.ntmps72
  go_wp2_with fail
  go_loop [3] (fun iv => iv = .int .i64 0) (fun _ => 0)
  case atStart => rfl
  case round =>
    subst hrel
    go_wp2
    go_ret
    exact ⟨rfl, Below.refl _ _⟩

set_option maxRecDepth 100000 in
theorem marked_some {w : World} {g n cap : Nat} {vs : List Value} (hg : g < w.heap.size) (hc : Hid (∀ i, i < n → w.cell? ⟨g, i, none⟩ = vs[i]?)) (hvl : vs.length = n) (hm : Hid (∀ (i : Nat) x, vs[i]? = some x → ∃ k, k ≤ 1000000 ∧ Row w x (marks i 0 k))) (hn : n ≤ 250) :
    Calls Try.prog 72 #[.slice (some ⟨g, 0, none⟩) n cap] w fun e w' => e = .returned (.bool true) ∧ Below w.heap.size w w' := by
  go_enter Try.func72, Try.ntmps72
  go_wp2_with fail
  go_loopw [3] (fun iv wr => ∃ i : Nat, i ≤ n ∧ iv = .int .i64 i ∧ Below w.heap.size w wr) (fun iv _ => n - (intOf iv).toNat)
  case atStart => exact ⟨0, Nat.zero_le _, rfl, Below.refl _ _⟩
  case round =>
    obtain ⟨i, hi, rfl, hB⟩ := hrel
    have i0 : (0 : Int) ≤ (i : Int) := Int.natCast_nonneg _
    by_cases hlt : i < n
    · obtain ⟨x, hx⟩ : ∃ x, vs[i]? = some x := ⟨vs[i]'(by omega), by simp [hvl, hlt]⟩
      obtain ⟨k, hk, hr⟩ := hm.out i x hx
      obtain ⟨a, c, rfl⟩ := hr.slice
      rw [marks_length] at *
      have f1 : wr.cell? ⟨g, i, none⟩ = some (.slice a k c) := by rw [hB.cell (p := ⟨g, i, none⟩) hg, hc.out i hlt]; exact hx
      have i1 : (i : Int) < (n : Int) := by omega
      have i2 : (i : Int) ≤ 1000 := by omega
      have hR := Hid.intro (hr.below hB)
      have zg : g < wr.heap.size := Nat.lt_of_lt_of_le hg hB.size
      clear hr hx
      go_wp2_with fail
      go_region_held3 (fun w' => w'.cell? ⟨g, i, none⟩ = some (.slice a k c))
        (first
          | exact f1
          | (rw [(blw_step (blw_drew hb2) hb3).cell (p := ⟨g, i, none⟩) zg]; exact f1)
          | (rw [(blw_drew hb2).cell (p := ⟨g, i, none⟩) zg]; exact f1))
        (first
          | (go_at_call 89; refine (bmark_any (i : Int) 0 k _ i0 i2 (Int.le_refl _) (by decide) hk).mono ?_; rintro e w2 ⟨mv, rfl, hmv, hb2⟩; have hmr := Hid.intro (own_row (ps := marks (i : Int) 0 k) (by rw [marks_length]; exact hmv)))
          | (go_at_call 28; refine (same_rows (ps := marks (i : Int) 0 k) ?_ ?_ (by rw [marks_length]; exact hk)).mono ?_; exact hR.out.below (blw_drew hb2); exact hmr.out; rintro e w3 ⟨rfl, hb3⟩))
      all_goals
        go_wp2
        go_roundw
        case rel => exact ⟨i + 1, by omega, by go_num, blw_step hB (blw_step (blw_drew hb2) hb3)⟩
        case measure => simp [intOf]; omega
    · have i1 : ¬ (i : Int) < (n : Int) := by omega
      go_wp2
      go_ret
      exact ⟨rfl, hB⟩

theorem marked_any {w : World} {base : Nat} {v : Value} {n : Nat} {vs : List Value} (h : w.ownsRow base 51 1 v n vs) (hm : ∀ (i : Nat) x, vs[i]? = some x → ∃ k, k ≤ 1000000 ∧ Row w x (marks i 0 k)) (hn : n ≤ 250) :
    Calls Try.prog 72 #[v] w fun e w' => e = .returned (.bool true) ∧ Below w.heap.size w w' := by
  have hvl : vs.length = n := by have := h.1; simpa using this
  rcases Nat.eq_zero_or_pos n with h0 | h0
  · subst h0
    rcases h.2 with ⟨rfl, _⟩ | ⟨g, cap, cur, rfl, _, hg, _⟩
    · exact marked_none w
    · exact marked_some (vs := vs) (lt_of_block hg) (fun i hi => absurd hi (Nat.not_lt_zero _)) hvl hm (by omega)
  · obtain ⟨g, cap, rfl, hg, hc⟩ := ow_at h h0
    exact marked_some hg hc hvl hm hn
end Go.Proofs.Ytfikkbmilhcahaa.BkI

namespace Go.Proofs.Ytfikkbmilhcahaa.BkI
open Go.ChangeShapes Go.WideShapes Go.ChangeAt Go.RowKit Go.Proofs.Ytfikkbmilhcahaa.Bk0
attribute [local go_sem ↓] Go.wp_at_zero Go.wp_at_succ


/-- The Book without its copies. -/
structure Pad (r : Cls) (w : World) (K base : Nat) (es : List Ent) (sv wv : Value) : Prop where
  block : w.heap[K]? = some (.cells (bookCells r sv wv) 45 (0, 0))
  sown : w.ownsRow base 51 1 sv es.length (es.map (·.1))
  lists : Own w base es

theorem Pad.stay {r : Cls} {w w' : World} {K base : Nat} {es : List Ent} {sv wv : Value} (h : Pad r w K base es sv wv) (hs : Sty TB w w') : Pad r w' K base es sv wv :=
  ⟨hs.block _ _ _ _ h.block TB41, ow_stay h.sown hs TB22, h.lists.stay hs TB49⟩
theorem Pad.below {r : Cls} {w w' : World} {K base : Nat} {es : List Ent} {sv wv : Value} (h : Pad r w K base es sv wv) (hb : Below w.heap.size w w') : Pad r w' K base es sv wv := h.stay (Sty.of hb)

theorem cells_set : ∀ (l : List Sp) (k : Nat) (p : Sp), (itemsV l).set (k) (.int .i64 p) = itemsV (l.set k p)
  | [], k, p => rfl
  | q :: l, 0, p => rfl
  | q :: l, k + 1, p => by
    have ih := cells_set l k p
    have e1 : (k + 1) = k + 1 := by omega
    have e2 : itemsV (q :: l) = .int .i64 q :: itemsV l := rfl
    rw [e1, e2, List.set_cons_succ, ih]
    rfl

theorem own_put {w : World} {base g cap n : Nat} {l : List Sp} (h : w.ownsRow base 3 1 (.slice (some ⟨g, 0, none⟩) n cap) n (itemsV l)) (k : Nat) (p : Sp) :
    (w.setCell ⟨g, k, none⟩ (.int .i64 p)).ownsRow base 3 1 (.slice (some ⟨g, 0, none⟩) n cap) n (itemsV (l.set k p)) := by
  rw [← cells_set]
  exact (h.stored (k) _).1

theorem sty_write {w : World} {base g cap n : Nat} {xs : List Value} (hown : w.ownsRow base 3 1 (.slice (some ⟨g, 0, none⟩) n cap) n xs) (k : Nat) (p : Sp) : Sty (fun e => e ≠ 3) w (w.setCell ⟨g, k, none⟩ (.int .i64 p)) := by
  obtain ⟨_, cur, hg⟩ := ow_block hown g rfl
  exact (Sty.of (Below.refl _ _)).setCell _ _ hg (by simp)
/-- One list's contents are others, in its own block. -/
theorem Pad.write {r : Cls} {w : World} {K base g cap i : Nat} {es : List Ent} {sv wv : Value} {l : List Sp} (h : Pad r w K base es sv wv) (he : es[i]? = some (.slice (some ⟨g, 0, none⟩) l.length cap, l)) (k : Nat) (p : Sp) :
    Pad r (w.setCell ⟨g, k, none⟩ (.int .i64 p)) K base (es.set i (.slice (some ⟨g, 0, none⟩) l.length cap, l.set k p)) sv wv := by
  have hown := h.lists.own i _ he
  obtain ⟨_, cur, hg⟩ := ow_block hown g rfl
  have hil : i < es.length := (List.getElem?_eq_some_iff.1 he).1
  have hst : Sty (fun e => e ≠ 3) w (w.setCell ⟨g, k, none⟩ (.int .i64 p)) := by
    exact (Sty.of (Below.refl _ _)).setCell _ _ hg (by simp)
  have hmap : (es.set i (Value.slice (some ⟨g, 0, none⟩) l.length cap, l.set k p)).map (·.1) = es.map (·.1) := by
    apply List.ext_getElem?
    intro j
    rw [List.getElem?_map, List.getElem?_map, List.getElem?_set]
    split
    · rename_i e; subst e; rw [he]; rfl
    · rfl
  refine ⟨hst.block _ _ _ _ h.block (by decide), by rw [hmap, List.length_set]; exact ow_stay h.sown hst (by decide), ⟨fun j e hj => ?_, fun j j' e f b hj hj' hb hf => ?_⟩⟩
  · rw [List.getElem?_set] at hj
    split at hj
    · simp at hj
      subst hj
      rw [List.length_set]
      exact own_put hown k p
    · rename_i hne
      have ho := h.lists.own j e hj
      exact ownsRow_setCell_other ho (fun hb => hne (h.lists.apart i j _ e g he hj rfl hb)) _
  · have back : ∀ (j : Nat) (e : Ent), (es.set i (Value.slice (some ⟨g, 0, none⟩) l.length cap, l.set k p))[j]? = some e → ∃ e0, es[j]? = some e0 ∧ e0.1 = e.1 := by
      intro j e hj
      rw [List.getElem?_set] at hj
      split at hj
      · rename_i e1; subst e1
        simp at hj
        subst hj
        exact ⟨_, he, rfl⟩
      · exact ⟨e, hj, rfl⟩
    obtain ⟨e0, h0, q0⟩ := back j e hj
    obtain ⟨f0, h1, q1⟩ := back j' f hj'
    exact h.lists.apart j j' e0 f0 b h0 h1 (by rw [q0]; exact hb) (by rw [q1]; exact hf)

def Short (es : List Ent) : Prop := ∀ e ∈ es, e.2.length ≤ 100000
def Marked (es : List Ent) (n : Nat) : Prop := ∀ (j : Nat) (e : Ent), es[j]? = some e → j < n → e.2 = marks j 0 e.2.length

theorem marks_step (i : Int) (l : List Sp) (k : Nat) (hk : k < l.length) : (marks i 0 k ++ l.drop k).set k (mark i (0 + (k : Int))) = marks i 0 (k + 1) ++ l.drop (k + 1) := by
  rw [marks_succ, List.set_append, if_neg (by rw [marks_length]; omega), marks_length, Nat.sub_self, List.drop_eq_getElem_cons hk, List.set_cons_zero]
  simp

theorem marks_get (i : Int) (n k : Nat) (hk : k < n) : (marks i 0 n)[k]? = some (mark i (0 + (k : Int))) := by
  simp [marks, hk]

theorem far4 {K gs gm g i o p : Nat} {a b x0 u0 : Value} {w : World} (h1 : K ≠ g) (h2 : gs ≠ g) (h3 : gm ≠ g)
    (h : w.cell? ⟨K, 2, none⟩ = some a ∧ w.cell? ⟨gs, i, none⟩ = some b ∧ w.cell? ⟨gm, o, none⟩ = some x0) :
    (w.setCell ⟨g, p, none⟩ u0).cell? ⟨K, 2, none⟩ = some a ∧ (w.setCell ⟨g, p, none⟩ u0).cell? ⟨gs, i, none⟩ = some b ∧ (w.setCell ⟨g, p, none⟩ u0).cell? ⟨gm, o, none⟩ = some x0 := by
  have far : ∀ (B o' : Nat), B ≠ g → (w.setCell ⟨g, p, none⟩ u0).cell? ⟨B, o', none⟩ = w.cell? ⟨B, o', none⟩ := fun B o' hB => by
    rw [World.cell?_of_block (w := w) (a := ⟨B, o', none⟩) (Below.heap_setCell _ ⟨g, p, none⟩ u0 B hB)]
  exact ⟨by rw [far K (2) h1]; exact h.1, by rw [far gs (i) h2]; exact h.2.1, by rw [far gm (o) h3]; exact h.2.2⟩

set_option maxRecDepth 100000 in
theorem put_own {r : Cls} {w : World} {K base : Nat} {es : List Ent} {sv wv : Value} (hk : Pad r w K base es sv wv) (hn : es.length ≤ 250) (hl : Short es) :
    Calls Try.prog 59 #[.pointer (some ⟨K, 0, none⟩)] w fun e w' => e = .returned (.tuple #[]) ∧ ∃ es', Pad r w' K base es' sv wv ∧ es'.length = es.length ∧ Marked es' es.length ∧ Short es' ∧ Below base w w' ∧ Sty (fun e => e ≠ 3) w w' := by
  obtain ⟨a1, c1, rfl⟩ := ow_form hk.sown
  have hKl := lt_of_block hk.block
  have hk' := Hid.intro hk
  have hl' := Hid.intro hl
  clear hk hl
  go_enter Try.func59, Try.ntmps59
  go_wp2_with fail
  go_loopw [2] (fun iv wr => ∃ (i : Nat) (cur : List Ent), i ≤ es.length ∧ iv = .int .i64 i ∧ Pad r wr K base cur (.slice a1 es.length c1) wv ∧ cur.length = es.length ∧ Marked cur i ∧ Short cur ∧ Below base w wr ∧ Sty (fun e => e ≠ 3) w wr) (fun iv _ => es.length - (intOf iv).toNat)
  case atStart => exact ⟨0, es, Nat.zero_le _, rfl, hk'.out, rfl, fun j e _ h => absurd h (Nat.not_lt_zero _), hl'.out, Below.refl _ _, Sty.of (Below.refl _ _)⟩
  case round =>
    obtain ⟨i, cur, hi, rfl, hp, hcl, hm, hll, hB, hSy⟩ := hrel
    have hSy' := Hid.intro hSy
    clear hSy
    have i0 : (0 : Int) ≤ (i : Int) := Int.natCast_nonneg _
    obtain ⟨cK, _⟩ := book_cell hp.block
    have d4 := cK 2
    simp only [bookCells] at d4
    change wr.cell? ⟨K, 2, none⟩ = some (.slice a1 es.length c1) at d4
    have zK := lt_of_block hp.block
    have hp' := Hid.intro hp
    have hm' := Hid.intro hm
    have hll' := Hid.intro hll
    clear cK hp hm hll
    by_cases hlt : i < es.length
    · obtain ⟨gs, c1', he1, hgs, hcs⟩ := ow_at hp'.out.sown (by omega)
      rw [hcl] at he1
      cases he1
      obtain ⟨⟨v, l⟩, he⟩ : ∃ e, cur[i]? = some e := ⟨cur[i]'(by omega), by simp [hcl, hlt]⟩
      have hvo := hp'.out.lists.own i _ he
      obtain ⟨av, cv, hva⟩ := ow_form hvo
      simp only at hva
      subst hva
      have e1 : wr.cell? ⟨gs, i, none⟩ = some (.slice av l.length cv) := by rw [hcs i (by omega)]; simp [he]
      have i1 : (i : Int) < (es.length : Int) := by omega
      have i2 : (i : Int) ≤ 1000 := by omega
      have hle0 : l.length ≤ 100000 := hll'.out _ (List.mem_of_getElem? he)
      have hle : l.length ≤ 1000000 := by omega
      have he' := Hid.intro he
      have hvb := Hid.intro (fun b hb => (hvo.lt b hb).2)
      obtain ⟨H2, hH2⟩ : ∃ H2, wr.heap.size = H2 := ⟨_, rfl⟩
      rw [hH2] at hvb
      have hH2' := Hid.intro hH2
      clear he hvo hcs hH2
      go_wp2_with fail
      refine (bmark_any (i : Int) 0 l.length _ i0 i2 (Int.le_refl _) (by decide) hle).mono ?_; rintro e w2 ⟨mv, rfl, hmv, hb2⟩
      rw [hH2'.out] at hmv
      have hmr := Hid.intro hmv
      obtain ⟨am, cm, rfl⟩ := ow_form hmv
      have hp2 := Hid.intro (hp'.out.below hb2)
      have hB2 : Below base w w2 := hB.trans (hb2.mono (by have := hp'.out.sown; have := (ow_block this gs rfl).1; omega))
      have hz2 := hb2.size
      have hSy2 := Hid.intro (hSy'.out.trans (Sty.of hb2))
      clear hmv d4 e1
      go_wp2_with fail
      go_loopw [4] (fun kv wk => ∃ k : Nat, k ≤ l.length ∧ kv = .int .i64 k ∧ Pad r wk K base (cur.set i (.slice av l.length cv, marks (i : Int) 0 k ++ l.drop k)) (.slice (some ⟨gs, 0, none⟩) es.length c1) wv ∧ wk.ownsRow H2 3 1 (.slice am l.length cm) l.length (itemsV (marks (i : Int) 0 l.length)) ∧ Below base w wk ∧ Sty (fun e => e ≠ 3) w wk) (fun kv _ => l.length - (intOf kv).toNat)
      case atStart =>
        refine ⟨0, Nat.zero_le _, rfl, ?_, hmr.out, hB2, hSy2.out⟩
        have e : cur.set i (.slice av l.length cv, marks (i : Int) 0 0 ++ l.drop 0) = cur := by
          apply List.ext_getElem?
          intro j
          rw [List.getElem?_set]
          split
          · rename_i e; subst e; rw [if_pos (by omega), he'.out]; rfl
          · rfl
        rw [e]
        exact hp2.out
      case round =>
        clear hp2 hmr hB2
        obtain ⟨k, hk, rfl, hpk, hmk, hBk, hSk⟩ := hrel
        have hSk' := Hid.intro hSk
        clear hSk
        have k0 : (0 : Int) ≤ (k : Int) := Int.natCast_nonneg _
        by_cases hkl : k < l.length
        · have hset : (cur.set i (.slice av l.length cv, marks (i : Int) 0 k ++ l.drop k))[i]? = some (.slice av l.length cv, marks (i : Int) 0 k ++ l.drop k) := by
            rw [List.getElem?_set_self (by omega)]
          have hlen : (marks (i : Int) 0 k ++ l.drop k).length = l.length := by rw [List.length_append, marks_length, List.length_drop]; omega
          have hov := hpk.lists.own i _ hset
          simp only at hov
          rw [hlen] at hov
          obtain ⟨g, cap, hvf, hgb, hgl⟩ := hov.form (by omega)
          cases hvf
          obtain ⟨gm, cpm, hmf, hgmb, hgml⟩ := hmk.form (by omega)
          cases hmf
          obtain ⟨gs', c1'', he1, hgs', hcs'⟩ := ow_at hpk.sown (by rw [List.length_set]; omega)
          rw [List.length_set, hcl] at he1
          cases he1
          obtain ⟨cK, _⟩ := book_cell hpk.block
          have d4 := cK 2
          simp only [bookCells] at d4
          change wr.cell? ⟨K, 2, none⟩ = some (.slice (some ⟨gs, 0, none⟩) es.length c1) at d4
          have e1 : wr.cell? ⟨gs, i, none⟩ = some (.slice (some ⟨g, 0, none⟩) l.length cv) := by
            rw [hcs' i (by rw [List.length_set]; omega), List.getElem?_map, hset]; rfl
          have m0 : wr.cell? ⟨gm, k, none⟩ = some (.int .i64 (-1000000 * (i : Int) - (0 + (k : Int)) - 7)) := by
            rw [hmk.cellAt (k) (by omega)]; exact (itemsV_get _ k _ (marks_get (i : Int) l.length k hkl))
          obtain ⟨q, hq⟩ : ∃ q, (marks (i : Int) 0 k ++ l.drop k)[k]? = some q := ⟨_, List.getElem?_eq_getElem (by omega)⟩
          have s0 : wr.cell? ⟨g, k, none⟩ = some (.int .i64 q) := by rw [hov.cellAt (k) (by omega)]; exact (itemsV_get _ k _ hq)
          have z0 : wr.frozen? ⟨g, k, none⟩ = false := hov.frozenAt _
          have n1 : K ≠ g := fun e => by obtain ⟨_, cur', hg⟩ := ow_block hov g rfl; rw [← e, hpk.block] at hg; cases hg
          have n2 : gs ≠ g := fun e => by obtain ⟨_, cur', hg⟩ := ow_block hov g rfl; obtain ⟨_, cur2, hg2⟩ := ow_block hpk.sown gs rfl; rw [← e, hg2] at hg; cases hg
          have n3 : gm ≠ g := by have : g < H2 := hvb.out g rfl; omega
          have k1 : (k : Int) < (l.length : Int) := by omega
          have hpk' := Hid.intro hpk
          have hmk' := Hid.intro hmk
          have hset' := Hid.intro hset
          have hlen' := Hid.intro hlen
          clear cK hcs' hov hset hq hpk hmk hlen
          go_wp2_with fail
          go_region_held3 (fun w' => w'.cell? ⟨K, 2, none⟩ = some (.slice (some ⟨gs, 0, none⟩) es.length c1) ∧ w'.cell? ⟨gs, i, none⟩ = some (.slice (some ⟨g, 0, none⟩) l.length cv) ∧ w'.cell? ⟨gm, k, none⟩ = some (.int .i64 (-1000000 * (i : Int) - (0 + (k : Int)) - 7)))
            (first
              | exact ⟨d4, e1, m0⟩
              | exact far4 n1 n2 n3 ⟨d4, e1, m0⟩)
            (fail)
          all_goals
            go_wp2
            go_roundw
            case rel =>
              have hst := marks_step (i : Int) l k hkl
              rw [Int.zero_add] at hst
              have hw := hpk'.out.write (l := marks (i : Int) 0 k ++ l.drop k) (cap := cv) (by rw [hlen'.out]; exact hset'.out) k (mark (i : Int) (k : Int))
              rw [hst, hlen'.out, List.set_set] at hw
              refine ⟨k + 1, by omega, by go_num, hw.below blw_drw, ?_⟩
              refine ⟨(ownsRow_setCell_other hmk'.out (fun e => n3 (by cases e; rfl)) _).drew, (hBk.setCell (by show base ≤ g; exact hgb) _).drew, ?_⟩
              exact hSk'.out.trans ((sty_write (show wr.ownsRow base 3 1 (.slice (some ⟨g, 0, none⟩) l.length cv) l.length _ from by have h9 := hpk'.out.lists.own i _ hset'.out; simp only at h9; rw [hlen'.out] at h9; exact h9) k (mark (i : Int) (k : Int))).trans (Sty.of blw_drw))
            case measure => simp [intOf]; omega
        · have hkk : k = l.length := by omega
          have k1 : ¬ (k : Int) < (l.length : Int) := by omega
          subst hkk
          go_wp2
          go_roundw
          case rel =>
            rw [List.drop_length, List.append_nil] at hpk
            refine ⟨i + 1, cur.set i (.slice av l.length cv, marks (i : Int) 0 l.length), by omega, by go_num, hpk, by rw [List.length_set]; exact hcl, ?_, ?_, hBk, hSk'.out⟩
            · intro j e hj hji
              rw [List.getElem?_set] at hj
              split at hj
              · rename_i e1; subst e1; simp at hj; obtain ⟨_, rfl⟩ := hj; simp only [marks_length]
              · exact hm'.out j e hj (by omega)
            · intro e hmem
              rcases List.mem_or_eq_of_mem_set hmem with h1 | h1
              · exact hll'.out e h1
              · subst h1; simp only [marks_length]; exact hle0
          case measure => simp [intOf]; omega
    · have i1 : ¬ (i : Int) < (es.length : Int) := by omega
      have hii : i = es.length := by omega
      subst hii
      go_wp2
      go_end0
      exact ⟨rfl, cur, hp'.out, hcl, hm'.out, hll'.out, hB, hSy'.out⟩
end Go.Proofs.Ytfikkbmilhcahaa.BkI
