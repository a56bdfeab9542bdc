/-
  The contracts of emulsionref1's Set: Put of no spans and of whatever list, Count, Spans.
-/
import Derived.Test.YtfikkbmilhcahaaBits
import Derived.Test.YtfikkbmilhcahaaCuts
namespace Go.Proofs.Ytfikkbmilhcahaa
open Go.ChangeShapes Go.WideShapes Go.ChangeAt Go.RowKit
attribute [local go_sem ↓] Go.wp_at_zero Go.wp_at_succ

theorem bit_cell {w : World} {b : Nat} {ps : List Sp} (h : w.rangeAt b 0 (bv (bitsOf ps))) (k : Nat) (hk : k < 64) : w.cell? ⟨b, k, none⟩ = some (.bool (decide (In ps (k : Int)))) := by
  have := h k (.bool (decide (In ps (k : Int)))) (by unfold bv; rw [List.getElem?_map, bitsOf_get _ k hk]; rfl)
  simpa using this

theorem range_grown {w w' : World} {b o : Nat} {cs : List Value} {row : Option Nat} (hg : w.grownBy w' row) (hz : b < w.heap.size) (hr : some b ≠ row) (h : w.rangeAt b o cs) : w'.rangeAt b o cs := fun j v hv => by
  rw [World.cell?_of_block (w := w) (a := ⟨b, o + j, none⟩) (hg.block b hz hr)]; exact h j v hv
theorem range_far {w : World} {b o g j : Nat} {cs : List Value} {u : Value} (hne : b ≠ g) (h : w.rangeAt b o cs) : (w.setCell ⟨g, j, none⟩ u).rangeAt b o cs := fun i v hv => by
  rw [World.cell?_of_block (w := w) (a := ⟨b, o + i, none⟩) (Below.heap_setCell w ⟨g, j, none⟩ u b hne)]; exact h i v hv

/-- The last span's N is one more. -/
theorem own_bump {w : World} {base g cap m : Nat} {init : List Sp} {f n : Int} (hm : init.length = m) (h : w.ownsRow base 26 2 (.slice (some ⟨g, 0, none⟩) (m + 1) cap) (m + 1) (spansV (init ++ [(f, n)]))) :
    (w.setCell ⟨g, m * 2 + 1, none⟩ (.int .i64 (n + 1))).ownsRow base 26 2 (.slice (some ⟨g, 0, none⟩) (m + 1) cap) (m + 1) (spansV (init ++ [(f, n + 1)])) := by
  have := h.stored (m * 2 + 1) (.int .i64 (n + 1))
  have e : (spansV (init ++ [(f, n)])).set (m * 2 + 1) (.int .i64 (n + 1)) = spansV (init ++ [(f, n + 1)]) := by
    rw [spansV_append, spansV_append, List.set_append, if_neg (by rw [spansV_length]; omega), spansV_length]
    congr 1
    have : m * 2 + 1 - init.length * 2 = 1 := by omega
    rw [this]
    rfl
  rw [e] at this
  exact this.1

set_option maxRecDepth 100000 in
theorem refSpans_any (ps : List Sp) (w : World) (hc : Hid (Canon ps)) :
    Calls Try.prog 27 #[.agg (bv (bitsOf ps)).toArray] w fun e w' => ∃ v, e = .returned v ∧ w'.ownsRow w.heap.size 26 2 v ps.length (spansV ps) ∧ Below w.heap.size w w' := by
  obtain ⟨i0, hi0, hz0', hz1', hz2'⟩ := info_parts Try.info26
  go_enter Try.func27, Try.ntmps27
  go_wp2_with fail
  go_loopw [3, 4] (fun out kv wr => ∃ (k : Nat) (L : List Sp), k ≤ 64 ∧ kv = .int .i64 k ∧ wr.ownsRow (w.heap.size + 1) 26 2 out L.length (spansV L) ∧ Canon L ∧ (∀ x, In L x ↔ In ps x ∧ x < k) ∧ wr.rangeAt w.heap.size 0 (bv (bitsOf ps)) ∧ w.heap.size < wr.heap.size ∧ Below w.heap.size w wr) (fun _ kv _ => 64 - (intOf kv).toNat)
  case atStart => exact ⟨0, [], by omega, rfl, World.ownsRow_nil _ _ _ _, trivial, fun x => by simp only [in_nil, false_iff]; rintro ⟨⟨p, hp, hx⟩, h⟩; have := hx.1.1; have := hx.2.1; simp at h; omega, by simpa using range_new (w := w) (C := (bv (bitsOf ps)).toArray) (t := 61), by simp, (Below.refl _ _).alloc (Nat.le_refl _) _⟩
  case round =>
    obtain ⟨k, L, hk, rfl, hown, hcl, hin, hr, hz, hB⟩ := hrel
    have k0 : (0 : Int) ≤ (k : Int) := Int.natCast_nonneg _
    have hr' : Hid (wr.rangeAt w.heap.size 0 (bv (bitsOf ps))) := hr
    have hin' : Hid (∀ x, In L x ↔ In ps x ∧ x < k) := hin
    have hcl' : Hid (Canon L) := hcl
    have hL64 := canon_64 hcl
    have hob := fun j hj => hown.lt j hj
    have hlow : Hid (∀ x, In L x → x < (k : Int)) := (show ∀ x, In L x → x < (k : Int) from fun x hx => ((hin x).1 hx).2)
    by_cases hlt : k < 64
    · have k1 : (k : Int) < 64 := by omega
      have hd := bit_cell hr k hlt
      by_cases hik : In ps (k : Int)
      · rw [decide_eq_true hik] at hd
        have hik' : Hid (In ps (k : Int)) := hik
        have hnew : Hid (∀ M : List Sp, (∀ x, In M x ↔ In L x ∨ x = (k : Int)) → ∀ x, In M x ↔ In ps x ∧ x < ((k + 1 : Nat) : Int)) := Hid.intro (by
          intro M hM x
          rw [hM, hin]
          constructor
          · rintro (h | h)
            · exact ⟨h.1, by omega⟩
            · subst h; exact ⟨hik, by omega⟩
          · rintro ⟨h1, h2⟩
            by_cases e : x = (k : Int)
            · exact .inr e
            · exact .inl ⟨h1, by omega⟩)
        rcases Nat.eq_zero_or_pos k with hk0 | hk0
        · subst hk0
          have hno : Hid (¬ In L ((0 : Int) - 1)) := Hid.intro (by intro h; obtain ⟨p, hp, hx⟩ := h; have := hx.1.1; have := hx.2.1; omega)
          clear hr hin hcl hik
          go_wp2_with (at_builtin; refine wpList_append_lies _ rfl _ _ 49 rfl (w.heap.size + 1) 26 i0 (.agg #[.int .i64 0, .int .i64 0]) 2 16 Try.underlying49 hi0 hz0' hz1' hz2' rfl (by decide) _ _ _ rfl (hown.alloc _) ⟨wr.heap.size, 0, none⟩ 1 1 [.int .i64 0, .int .i64 1] rfl rfl (World.news_of_block (cs := #[.int .i64 0, .int .i64 1]) (t := 26) (fr := (0, 0)) (heap_alloc_new wr _)) (by simp [Value.oneCell']) (by decide) (by unfold maxLen; omega) (by omega) (by simp; omega) (wr.heap.size + 1) (by simp) ?_; intro g5 cap5 w5 hown5 hgrow5 hat5 hlt5)
          obtain ⟨q1, q2⟩ := push_canon hcl'.out (by omega) (by omega) hlow.out hno.out
          have hgb : (wr.alloc (.cells #[.int .i64 0, .int .i64 1] 26)).rangeAt w.heap.size 0 (bv (bitsOf ps)) := range_below ((Below.refl wr.heap.size wr).alloc (Nat.le_refl _) _) hz hr'.out
          go_roundw
          case rel =>
            refine ⟨0 + 1, L ++ [((0 : Int), 1)], by omega, by go_num, ?_, q1, hnew.out _ q2, range_grown hgrow5 (by simp; omega) (fun h => by have := hob _ h.symm; omega) hgb, by have := hgrow5.size; simp at this; omega, app_below hB (by omega) hgrow5 (fun j hj => by have := hob j hj; omega)⟩
            rw [List.length_append, spansV_append]; exact hown5
          case measure => simp [intOf]
        · have hd1 := bit_cell hr (k - 1) (by omega)
          have ek : ((k - 1 : Nat) : Int) = (k : Int) - 1 := by omega
          rw [ek] at hd1
          have kp : (0 : Int) < (k : Int) := by omega
          by_cases hi1 : In ps ((k : Int) - 1)
          · rw [decide_eq_true hi1] at hd1
            obtain ⟨init, f, n, rfl, hfn⟩ := last_at hcl (fun x hx => ((hin x).1 hx).2) ((hin _).2 ⟨hi1, by omega⟩)
            have hlen : (init ++ [(f, n)]).length = init.length + 1 := by simp
            rw [hlen] at hown
            obtain ⟨g, cap, rfl⟩ : ∃ g cap, u3 = .slice (some ⟨g, 0, none⟩) (init.length + 1) cap := by
              rcases own_room hown with ⟨_, h⟩ | ⟨g, c, h, _⟩
              · omega
              · exact ⟨g, c, h⟩
            have hw := canon_whole hcl (f, n) (by simp)
            unfold Wh at hw
            simp only at hw
            have c1 : wr.cell? ⟨g, init.length * 2 + 1, none⟩ = some (.int .i64 n) := by
              rw [hown.cellAt (init.length * 2 + 1) (by omega)]
              have := (spansV_get (init ++ [(f, n)]) init.length (f, n) (by simp)).2
              simpa using this
            have c2 : wr.frozen? ⟨g, init.length * 2 + 1, none⟩ = false := hown.frozenAt _
            have hown' : Hid (wr.ownsRow (w.heap.size + 1) 26 2 (.slice (some ⟨g, 0, none⟩) (init.length + 1) cap) (init.length + 1) (spansV (init ++ [(f, n)]))) := hown
            obtain ⟨n0, n1, n2, n3⟩ : 0 ≤ f ∧ 1 ≤ n ∧ n ≤ 64 - f ∧ f + n = k := ⟨hw.1, hw.2.1, hw.2.2, hfn⟩
            have hfn' : Hid (f + n = (k : Int)) := n3
            have hgb := (hown.lt g rfl).1
            have hml : init.length ≤ 64 := by omega
            clear hr hin hcl hik hi1 hown hfn hw hlow hlen n3
            go_wp2
            go_roundw
            case rel =>
              obtain ⟨q1, q2⟩ := bump_canon hcl'.out (by rw [hfn'.out]; omega)
              rw [hfn'.out] at q2
              refine ⟨k + 1, init ++ [(f, n + 1)], by omega, by go_num, ?_, q1, hnew.out _ q2, range_far (by omega) hr'.out, by simpa using hz, hB.setCell (by show w.heap.size ≤ g; omega) _⟩
              have := own_bump rfl hown'.out
              simpa using this
            case measure => simp [intOf]; omega
          · rw [decide_eq_false hi1] at hd1
            have hno : Hid (¬ In L ((k : Int) - 1)) := Hid.intro (by intro h; exact hi1 ((hin _).1 h).1)
            clear hr hin hcl hik hi1
            go_wp2_with (at_builtin; refine wpList_append_lies _ rfl _ _ 49 rfl (w.heap.size + 1) 26 i0 (.agg #[.int .i64 0, .int .i64 0]) 2 16 Try.underlying49 hi0 hz0' hz1' hz2' rfl (by decide) _ _ _ rfl (hown.alloc _) ⟨wr.heap.size, 0, none⟩ 1 1 [.int .i64 (k : Int), .int .i64 1] rfl rfl (World.news_of_block (cs := #[.int .i64 (k : Int), .int .i64 1]) (t := 26) (fr := (0, 0)) (heap_alloc_new wr _)) (by simp [Value.oneCell']) (by decide) (by unfold maxLen; omega) (by omega) (by simp; omega) (wr.heap.size + 1) (by simp) ?_; intro g5 cap5 w5 hown5 hgrow5 hat5 hlt5)
            obtain ⟨q1, q2⟩ := push_canon hcl'.out (by omega) (by omega) hlow.out hno.out
            have hgb : (wr.alloc (.cells #[.int .i64 (k : Int), .int .i64 1] 26)).rangeAt w.heap.size 0 (bv (bitsOf ps)) := range_below ((Below.refl wr.heap.size wr).alloc (Nat.le_refl _) _) hz hr'.out
            go_roundw
            case rel =>
              refine ⟨k + 1, L ++ [((k : Int), 1)], by omega, by go_num, ?_, q1, hnew.out _ q2, range_grown hgrow5 (by simp; omega) (fun h => by have := hob _ h.symm; omega) hgb, by have := hgrow5.size; simp at this; omega, app_below hB (by omega) hgrow5 (fun j hj => by have := hob j hj; omega)⟩
              rw [List.length_append, spansV_append]; exact hown5
            case measure => simp [intOf]; omega
      · rw [decide_eq_false hik] at hd
        have hnew : Hid (∀ x, In L x ↔ In ps x ∧ x < ((k + 1 : Nat) : Int)) := Hid.intro (by
          intro x
          rw [hin]
          constructor
          · rintro ⟨h1, h2⟩; exact ⟨h1, by omega⟩
          · rintro ⟨h1, h2⟩
            refine ⟨h1, ?_⟩
            by_cases e : x = (k : Int)
            · subst e; exact absurd h1 hik
            · omega)
        clear hr hin hcl hik hlow
        go_wp2
        go_roundw
        case rel => exact ⟨k + 1, L, by omega, by go_num, hown, hcl'.out, hnew.out, hr'.out, hz, hB⟩
        case measure => simp [intOf]; omega
    · have hk' : k = 64 := by omega
      subst hk'
      have heq : L = ps := canon_ext hcl hc.out fun x => by
        rw [hin]
        constructor
        · exact fun h => h.1
        · intro h
          refine ⟨h, ?_⟩
          obtain ⟨p, hp, hx⟩ := h
          have := hx.1.2.2; have := hx.2.2
          omega
      subst heq
      clear hlow hin hin' hr hcl
      go_wp2
      go_ret
      exact ⟨_, rfl, own_mono hown (Nat.le_succ _), hB⟩

theorem bv_nil : (bv (bitsOf [])).toArray = (List.replicate 64 (Value.bool false)).toArray := by rw [bitsOf_nil]; simp [bv]
end Go.Proofs.Ytfikkbmilhcahaa
