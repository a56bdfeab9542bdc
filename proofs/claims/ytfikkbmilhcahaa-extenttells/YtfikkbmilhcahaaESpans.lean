/-
  The contract of extent.Spans, of every tidy list: the blocks of which it says something.
-/
import Derived.Test.YtfikkbmilhcahaaECut
import Derived.Test.YtfikkbmilhcahaaSetMath
import Derived.Test.YtfikkbmilhcahaaBits
import Derived.BigQuiet
namespace Go.Proofs.Ytfikkbmilhcahaa
open Go.ChangeShapes Go.WideShapes Go.ChangeAt Go.RowKit
attribute [local go_sem ↓] Go.wp_at_zero Go.wp_at_succ

/-- The spans of the first ones: where they end, and their blocks. -/
structure Sps (l : List Ex) (i : Nat) (ps : List Sp) : Prop where
  can : Canon ps
  mem : ∀ k, In ps k ↔ 0 ≤ val (l.take i) k
  fin : ∀ p ∈ ps, p.1 + p.2 ≤ (lst e0 (l.take i)).1 + (lst e0 (l.take i)).2.1
  last : ∀ init x, ps = init ++ [x] → x.1 + x.2 = (lst e0 (l.take i)).1 + (lst e0 (l.take i)).2.1
  zero : ps = [] → i = 0
theorem sps_0 (l : List Ex) : Sps l 0 [] := ⟨trivial, fun k => by simp [in_nil, val], fun p hp => by simp at hp, fun init x h => by simp at h, fun _ => rfl⟩
theorem sps_val {l : List Ex} (h : Ti l) {i : Nat} {x : Ex} (hx : l[i]? = some x) (k : Int) : 0 ≤ val (l.take (i + 1)) k ↔ 0 ≤ val (l.take i) k ∨ (x.1 ≤ k ∧ k < x.1 + x.2.1) := by
  have e : l.take (i + 1) = l.take i ++ [x] := by rw [List.take_add_one, hx]; rfl
  have ht : Tp e0 (l.take i ++ l.drop i) := by rw [List.take_append_drop]; exact h
  have h1 := (tp_app.1 ht).1
  have hal := (tp_al h x (List.mem_of_getElem? hx)).1
  rw [e, val_app h1]
  by_cases h0 : 0 ≤ val (l.take i) k
  · rw [if_pos h0]; exact ⟨fun _ => .inl h0, fun _ => h0⟩
  · rw [if_neg h0]
    simp only [val]
    by_cases hk : x.1 ≤ k ∧ k < x.1 + x.2.1
    · rw [if_pos hk]; exact ⟨fun _ => .inr hk, fun _ => idA_low hal hk.1⟩
    · rw [if_neg hk]; exact ⟨fun g => by omega, fun g => g.elim (fun g => absurd g h0) (fun g => absurd g hk)⟩
theorem sps_lst {l : List Ex} {i : Nat} {x : Ex} (hx : l[i]? = some x) : lst e0 (l.take (i + 1)) = x := by
  rw [List.take_add_one, hx, lst_app]; rfl
theorem sps_next {l : List Ex} (h : Ti l) {i : Nat} {x : Ex} (hx : l[i]? = some x) : (lst e0 (l.take i)).1 + (lst e0 (l.take i)).2.1 ≤ x.1 := by
  have ht : Tp e0 (l.take i ++ l.drop i) := by rw [List.take_append_drop]; exact h
  have h2 := (tp_app.1 ht).2
  rw [drop_at hx] at h2
  exact h2.1
theorem sps_push {l : List Ex} (h : Ti l) {i : Nat} {x : Ex} {ps : List Sp} (hs : Sps l i ps) (hx : l[i]? = some x) (hne : ∀ init y, ps = init ++ [y] → y.1 + y.2 ≠ x.1) : Sps l (i + 1) (ps ++ [(x.1, x.2.1)]) := by
  have hal := (tp_al h x (List.mem_of_getElem? hx)).1
  have hle := sps_next h hx
  have hlt : ∀ p ∈ ps, p.1 + p.2 < x.1 := fun p hp => by
    rcases List.eq_nil_or_concat ps with rfl | ⟨init, y, rfl⟩
    · simp at hp
    · rw [List.concat_eq_append] at *
      have hy := hs.last init y rfl
      have := hne init y rfl
      rcases List.mem_append.1 hp with hp | hp
      · have := (canon_split hs.can).2.2 p hp y (by simp)
        have hw := canon_whole hs.can y (by simp)
        unfold Wh at hw
        omega
      · rw [List.mem_singleton.1 hp]; omega
  refine ⟨canon_append hs.can ⟨al_wh hal, by simp, trivial⟩ fun p hp q hq => by rw [List.mem_singleton.1 hq]; exact hlt p hp, fun k => ?_, fun p hp => ?_, fun init y e => ?_, fun e => by simp at e⟩
  · rw [in_append, hs.mem, sps_val h hx, in_cons, hasW_iff (al_wh hal)]
    simp [in_nil]
  · rw [sps_lst hx]
    rcases List.mem_append.1 hp with hp | hp
    · have := hlt p hp; unfold Al at hal; omega
    · rw [List.mem_singleton.1 hp]; exact Int.le_refl _
  · obtain ⟨_, e2⟩ := List.append_inj' e rfl
    simp at e2
    rw [sps_lst hx, ← e2]
theorem sps_join {l : List Ex} (h : Ti l) {i : Nat} {x : Ex} {init : List Sp} {f n : Int} (hs : Sps l i (init ++ [(f, n)])) (hx : l[i]? = some x) (he : f + n = x.1) : Sps l (i + 1) (init ++ [(f, n + x.2.1)]) := by
  have hal := (tp_al h x (List.mem_of_getElem? hx)).1
  have ax := hal; unfold Al at ax
  obtain ⟨c1, c2, c3⟩ := canon_split hs.can
  have hw : Wh (f, n) := canon_whole hs.can (f, n) (by simp)
  have hw2 : Wh (f, n + x.2.1) := by unfold Wh at hw ⊢; simp only at hw ⊢; omega
  unfold Wh at hw; simp only at hw
  have c4 : ∀ p ∈ init, p.1 + p.2 < f := fun p hp => c3 p hp (f, n) (by simp)
  refine ⟨canon_append c1 ⟨hw2, by simp, trivial⟩ fun p hp q hq => by rw [List.mem_singleton.1 hq]; exact c4 p hp, fun k => ?_, fun p hp => ?_, fun init' y e => ?_, fun e => by simp at e⟩
  · rw [sps_val h hx, ← hs.mem, in_append, in_append, in_cons, in_cons, hasW_iff hw2, hasW_iff (by unfold Wh; simp only; omega)]
    simp only [in_nil, or_false]
    constructor
    · rintro (g | g)
      · exact .inl (.inl g)
      · by_cases hk : k < f + n
        · exact .inl (.inr ⟨g.1, hk⟩)
        · exact .inr ⟨by omega, by omega⟩
    · rintro ((g | g) | g)
      · exact .inl g
      · exact .inr ⟨g.1, by omega⟩
      · exact .inr ⟨by omega, by omega⟩
  · rw [sps_lst hx]
    rcases List.mem_append.1 hp with hp | hp
    · have := c4 p hp; omega
    · rw [List.mem_singleton.1 hp]; simp only; omega
  · obtain ⟨_, e2⟩ := List.append_inj' e rfl
    simp at e2
    rw [sps_lst hx, ← e2]; simp only; omega
theorem sps_len {l : List Ex} {i : Nat} {ps : List Sp} (h : Sps l i ps) : ps.length ≤ 64 := canon_64 h.can
/-- The last span's N grows. -/
theorem own_join {w : World} {base g cap m : Nat} {init : List Sp} {f n c : Int} (hm : init.length = m) (h : w.ownsRow base 26 2 (.slice (some ⟨g, 0, none⟩) (m + 1) cap) (m + 1) (spansV (init ++ [(f, n)]))) :
    ((w.setCell ⟨g, m * 2, none⟩ (.int .i64 f)).setCell ⟨g, m * 2 + 1, none⟩ (.int .i64 c)).ownsRow base 26 2 (.slice (some ⟨g, 0, none⟩) (m + 1) cap) (m + 1) (spansV (init ++ [(f, c)])) := by
  have h1 := (h.stored (m * 2) (.int .i64 f)).1
  have h2 := (h1.stored (m * 2 + 1) (.int .i64 c)).1
  have e : ((spansV (init ++ [(f, n)])).set (m * 2) (.int .i64 f)).set (m * 2 + 1) (.int .i64 c) = spansV (init ++ [(f, c)]) := by
    rw [spansV_append, spansV_append, List.set_append, if_neg (by rw [spansV_length]; omega), List.set_append, if_neg (by rw [spansV_length]; omega), spansV_length]
    congr 1
    have e0 : m * 2 - init.length * 2 = 0 := by omega
    have e1 : m * 2 + 1 - init.length * 2 = 1 := by omega
    rw [e0, e1]
    rfl
  rw [e] at h2
  exact h2
theorem keep22 {W W' : World} {O g o : Nat} {x y u v : Value} (h : W.cell? ⟨O, 0, none⟩ = some x ∧ W.cell? ⟨O, 1, none⟩ = some y ∧ W.cell? ⟨g, o, none⟩ = some u ∧ W.cell? ⟨g, o + 1, none⟩ = some v) (hb : Below W.heap.size W W') :
    W'.cell? ⟨O, 0, none⟩ = some x ∧ W'.cell? ⟨O, 1, none⟩ = some y ∧ W'.cell? ⟨g, o, none⟩ = some u ∧ W'.cell? ⟨g, o + 1, none⟩ = some v ∧ Below W.heap.size W W' := by
  obtain ⟨a, b, d, e⟩ := h
  obtain ⟨hc, _⟩ := bcell hb
  exact ⟨by rw [hc _ _ (cell_lt a)]; exact a, by rw [hc _ _ (cell_lt a)]; exact b, by rw [hc _ _ (cell_lt d)]; exact d, by rw [hc _ _ (cell_lt d)]; exact e, hb⟩
theorem held5 {W0 W : World} {A B C D : Prop} (h : A ∧ B ∧ C ∧ D ∧ Below W0.heap.size W0 W) : Below W0.heap.size W0 W := h.2.2.2.2

theorem own_spush {w : World} {base g cap : Nat} {L : List Sp} {x y : Int} (h : w.ownsRow base 26 2 (.slice (some ⟨g, 0, none⟩) (L.length + 1) cap) (L.length + 1) (spansV L ++ [.int .i64 x, .int .i64 y])) : w.ownsRow base 26 2 (.slice (some ⟨g, 0, none⟩) (L.length + 1) cap) (L ++ [(x, y)]).length (spansV (L ++ [(x, y)])) := by
  rw [List.length_append, spansV_append]; exact h
set_option maxRecDepth 100000 in
set_option maxHeartbeats 1000000 in
theorem spans_row {w : World} {v : Value} {l : List Ex} (hr : BkE.Row w v l) (ht : Ti l) :
    Calls Try.prog 17 #[v] w fun e w' => ∃ v ps, e = .returned v ∧ w'.ownsRow w.heap.size 26 2 v ps.length (spansV ps) ∧ Canon ps ∧ (∀ k, In ps k ↔ 0 ≤ val l k) ∧ Below w.heap.size w w' := by
  obtain ⟨i0, hi0, hz0', hz1', hz2'⟩ := info_parts Try.info26
  obtain ⟨a, c, rfl⟩ := hr.slice
  have hl := ti_len ht
  have hr' := Hid.intro hr
  have ht' := Hid.intro ht
  clear hr ht
  go_enter Try.func17, Try.ntmps17
  go_wp2_with fail
  go_loopw [3, 10] (fun ov jv wr => ∃ (i : Nat) (ps : List Sp), i ≤ l.length ∧ jv = .int .i64 i ∧ wr.ownsRow w.heap.size 26 2 ov ps.length (spansV ps) ∧ Sps l i ps ∧ Below w.heap.size w wr) (fun _ jv _ => l.length - (intOf jv).toNat)
  case atStart => exact ⟨0, [], Nat.zero_le _, rfl, World.ownsRow_nil _ _ _ _, sps_0 l, Below.refl _ _⟩
  case round =>
    obtain ⟨i, ps, hi, rfl, hown, hsp, hB⟩ := hrel
    have i0' : (0 : Int) ≤ (i : Int) := Int.natCast_nonneg _
    have hpl := sps_len hsp
    by_cases hlt : i < l.length
    · obtain ⟨g, o, ⟨p, q, r⟩, rfl, hg, hp, d0, d1, d2⟩ := erow_at (hr'.out.below hB) hlt
      have hal : Al (p, q, r) := (tp_al ht'.out _ (List.mem_of_getElem? hp)).1
      obtain ⟨h1, h2, h3⟩ : 0 ≤ p ∧ 1 ≤ q ∧ q ≤ 64 - p := ⟨hal.1, hal.2.1, hal.2.2.1⟩
      have hwx : Hid (Wh (p, q)) := Hid.intro ⟨h1, h2, h3⟩
      have i1 : (i : Int) < (l.length : Int) := by omega
      have hle : (lst e0 (l.take i)).1 + (lst e0 (l.take i)).2.1 ≤ p := sps_next ht'.out hp
      have hpu := Hid.intro (fun hne => sps_push ht'.out hsp hp hne)
      have hjo : Hid (∀ init f n, ps = init ++ [(f, n)] → f + n = p → Sps l (i + 1) (init ++ [(f, n + q)])) := Hid.intro (fun init f n e he => by subst e; exact sps_join ht'.out hsp hp he)
      have hls := Hid.intro hsp
      simp only at d0 d1 d2 hpu
      have hba : Below wr.heap.size wr (wr.alloc (.cells #[.int .i64 p, .int .i64 q, .int .i64 r] 24)) := (Below.refl _ _).alloc (Nat.le_refl _) _
      have hwa := Hid.intro (own_below hown hba)
      have hBa := Hid.intro (hB.trans (hba.mono hB.size))
      clear hp hal hown hB hba hsp
      go_wp2_with fail
      clear d0 d1 d2
      generalize wr.alloc (.cells #[.int .i64 p, .int .i64 q, .int .i64 r] 24) = w2 at *
      refine (spanOf_any p q r _).mono ?_; rintro e w3 ⟨rfl, hb3⟩
      have hw3 := Hid.intro (own_below hwa.out hb3)
      have hB3 := Hid.intro (hBa.out.trans (hb3.mono hBa.out.size))
      clear hb3 hwa hBa
      rcases List.eq_nil_or_concat ps with hpe | ⟨init, ⟨f, n⟩, hpe⟩
      · subst hpe
        have hpp := Hid.intro (hpu.out (fun init y e => by simp at e))
        obtain ⟨a3, c3, rfl⟩ := own_slice hw3.out
        have hba : Below w3.heap.size w3 (w3.alloc (.cells #[.int .i64 p, .int .i64 q] 26)) := (Below.refl _ _).alloc (Nat.le_refl _) _
        have hbs := Hid.intro (Box.new w3 (.int .i64 p) (.int .i64 q) 26)
        have hw4 := Hid.intro (own_below hw3.out hba)
        have hB4 := Hid.intro (hB3.out.trans (hba.mono hB3.out.size))
        clear hpu hjo hls hle hba hw3 hB3
        simp only [List.length_nil] at *
        go_wp2_with fail
        generalize w3.alloc (.cells #[.int .i64 p, .int .i64 q] 26) = w4 at *
        generalize w3.heap.size = B at *
        have hBz : Hid (w.heap.size ≤ w4.heap.size) := Hid.intro hB4.out.size
        have hbs5 : Hid (Box w4.drew B (.int .i64 p) (.int .i64 q)) := Hid.intro (hbs.out.below below_drw hbs.out.lt)
        have hw5 : Hid (w4.drew.ownsRow w.heap.size 26 2 (.slice a3 0 c3) 0 (spansV [])) := Hid.intro (own_below hw4.out below_drw)
        have hB5 : Hid (Below w.heap.size w w4.drew) := Hid.intro (hB4.out.trans (below_drw.mono hB4.out.size))
        clear hbs hw4 hB4
        go_big_region
        all_goals
          obtain ⟨s0, s1, _⟩ := hbs5.out
          go_wp2_with (at_builtin; refine wpList_append_lies _ rfl _ _ 49 rfl w.heap.size 26 i0 (.agg #[.int .i64 0, .int .i64 0]) 2 16 Try.underlying49 hi0 hz0' hz1' hz2' rfl (by decide) _ 0 (spansV ([] : List Sp)) rfl (hw5.out.alloc _) ⟨w4.drew.heap.size, 0, none⟩ 1 1 [.int .i64 p, .int .i64 q] rfl rfl (World.news_of_block (cs := #[.int .i64 p, .int .i64 q]) (t := 26) (fr := (0, 0)) (heap_alloc_new w4.drew _)) (by simp [Value.oneCell']) (by decide) (by unfold maxLen; omega) (by omega) (by have := hBz.out; simp; omega) (w4.drew.heap.size + 1) (by simp) ?_; intro g5 cap5 w5 hown5 hgrow5 hat5 hlt5)
          have hB6 := Hid.intro ((hB5.out.trans ((Below.refl w4.drew.heap.size w4.drew).mono hB5.out.size)))
          have hBf := Hid.intro (app_below hB5.out hB5.out.size hgrow5 (fun j hj => (hw5.out.lt j hj).1))
          have hwf := Hid.intro (own_spush hown5)
          clear hgrow5 hat5 hlt5 hown5 s0 s1 hB6
          go_roundw
          case rel => exact ⟨i + 1, _, by omega, by go_num, hwf.out, hpp.out, hBf.out⟩
          case measure => simp [intOf]; omega
      · rw [List.concat_eq_append] at hpe
        have hfn := hls.out.last init (f, n) hpe
        subst hpe
        have hwf : Hid (Wh (f, n)) := Hid.intro (canon_whole hls.out.can (f, n) (by simp))
        obtain ⟨k1, k2, k3⟩ := id hwf.out
        simp only at k1 k2 k3 hfn
        have hlen : (init ++ [(f, n)]).length = init.length + 1 := by simp
        have hw3' := hw3.out
        obtain ⟨nn, hnn⟩ : ∃ nn, Hid (init.length + 1 = nn) := ⟨_, rfl⟩
        rw [hlen, hnn.out] at hw3' hpl
        have hnv := hnn.out
        obtain ⟨g3, c3, rfl, hgb, hgl⟩ := hw3'.form (by omega)
        have c0' : w3.cell? ⟨g3, init.length * 2, none⟩ = some (.int .i64 f) := by
          rw [hw3'.cellAt (init.length * 2) (by omega)]
          exact (spansV_get (init ++ [(f, n)]) init.length (f, n) (by simp)).1
        have c1' : w3.cell? ⟨g3, init.length * 2 + 1, none⟩ = some (.int .i64 n) := by
          rw [hw3'.cellAt (init.length * 2 + 1) (by omega)]
          exact (spansV_get (init ++ [(f, n)]) init.length (f, n) (by simp)).2
        have hba : Below w3.heap.size w3 (w3.alloc (.cells #[.int .i64 p, .int .i64 q] 26)) := (Below.refl _ _).alloc (Nat.le_refl _) _
        have hbs := Hid.intro (Box.new w3 (.int .i64 p) (.int .i64 q) 26)
        have hw4 := Hid.intro (own_below hw3' hba)
        have hB4 := Hid.intro (hB3.out.trans (hba.mono hB3.out.size))
        have hc0 : Hid ((w3.alloc (.cells #[.int .i64 p, .int .i64 q] 26)).cell? ⟨g3, init.length * 2, none⟩ = some (.int .i64 f) ∧ (w3.alloc (.cells #[.int .i64 p, .int .i64 q] 26)).cell? ⟨g3, init.length * 2 + 1, none⟩ = some (.int .i64 n)) := Hid.intro ⟨by rw [hba.cell (p := ⟨g3, init.length * 2, none⟩) hgl]; exact c0', by rw [hba.cell (p := ⟨g3, init.length * 2 + 1, none⟩) hgl]; exact c1'⟩
        have hgB : Hid (g3 ≠ w3.heap.size ∧ g3 < w3.heap.size) := Hid.intro ⟨by omega, hgl⟩
        have m0 : (0 : Int) ≤ (init.length : Int) := Int.natCast_nonneg _
        have m1 : (init.length : Int) < (nn : Int) := by omega
        have m2 : (nn : Int) ≤ 64 := by omega
        have hw1 : IntKind.i64.wrap (init.length : Int) = (init.length : Int) := IntWalk.i64_in _ (by omega)
        have hw2 : IntKind.i64.wrap ((nn : Int) - 1) = (init.length : Int) := by rw [show (nn : Int) - 1 = init.length by omega]; exact hw1
        have hls' := hls.out.last
        clear hba hw3 hw3' hB3 c0' c1' hls hlen hnv
        go_wp2_with fail
        generalize w3.alloc (.cells #[.int .i64 p, .int .i64 q] 26) = w4 at *
        generalize w3.heap.size = B at *
        have hBz : Hid (w.heap.size ≤ w4.heap.size) := Hid.intro hB4.out.size
        have hC := Hid.intro (show w4.cell? ⟨B, 0, none⟩ = some (.int .i64 p) ∧ w4.cell? ⟨B, 1, none⟩ = some (.int .i64 q) ∧ w4.cell? ⟨g3, init.length * 2, none⟩ = some (.int .i64 f) ∧ w4.cell? ⟨g3, init.length * 2 + 1, none⟩ = some (.int .i64 n) from ⟨hbs.out.1, hbs.out.2.1, hc0.out.1, hc0.out.2⟩)
        have hBz := Hid.intro hB4.out.size
        by_cases ht : f + n = p
        · have hjn := Hid.intro (hjo.out init f n rfl ht)
          have hjs : Hid (joinS (f, n) (p, q) = (f, n + q)) := Hid.intro (by unfold joinS; simp only; rw [if_neg (by omega), if_pos (by omega)]; congr 1; omega)
          have htt : Hid (touchD (f, n) (p, q)) := Hid.intro ⟨by simp only; omega, by simp only; omega⟩
          have hb64 : n + q ≤ 64 := by omega
          clear ht hfn hls' hpu hjo hle
          go_region_held3 (fun w' => w'.cell? ⟨B, 0, none⟩ = some (.int .i64 p) ∧ w'.cell? ⟨B, 1, none⟩ = some (.int .i64 q) ∧ w'.cell? ⟨g3, init.length * 2, none⟩ = some (.int .i64 f) ∧ w'.cell? ⟨g3, init.length * 2 + 1, none⟩ = some (.int .i64 n) ∧ Below w4.heap.size w4 w')
            (first
              | exact keep22 hC.out below_drw
              | exact keep22 hC.out (below_step (held5 (by assumption)) hb7))
            (first
              | (go_at_call 46; refine (touch_t f n p q _ hwf.out hwx.out (htt.out)).mono ?_; rintro e w7 ⟨rfl, hb7⟩))
          all_goals
            have hb47 : Below w4.heap.size w4 w7 := held5 (W := w7) (W0 := w4) (by assumption)
            have hw7 := Hid.intro (own_below hw4.out hb47)
            have hB7 := Hid.intro (hB4.out.trans (hb47.mono hB4.out.size))
            have hbs7 := Hid.intro (hbs.out.below hb47 hbs.out.lt)
            have hc7 := Hid.intro (show w7.cell? ⟨g3, init.length * 2, none⟩ = some (.int .i64 f) ∧ w7.cell? ⟨g3, init.length * 2 + 1, none⟩ = some (.int .i64 n) from ⟨by rw [hb47.cell (p := ⟨g3, init.length * 2, none⟩) (cell_lt hc0.out.1)]; exact hc0.out.1, by rw [hb47.cell (p := ⟨g3, init.length * 2 + 1, none⟩) (cell_lt hc0.out.1)]; exact hc0.out.2⟩)
            have hBz7 : Hid (w.heap.size ≤ w7.heap.size) := Hid.intro hB7.out.size
            clear hb47 hb7
            obtain ⟨s0, s1, _⟩ := hbs7.out
            obtain ⟨t0, t1⟩ := hc7.out
            have jt := Hid.intro (fun W => join_t f n p q W hwf.out hwx.out htt.out)
            rw [hjs.out] at jt
            simp only at jt
            go_wp2_with fail
            go_region_with (go_at_call 47; refine (jt.out _).mono ?_; rintro e w8 ⟨rfl, hb8⟩; have hw8 : w8.ownsRow w.heap.size 26 2 (.slice (some ⟨g3, 0, none⟩) nn c3) nn (spansV (init ++ [(f, n)])) := own_below hw7.out (below_drew hb8); have r0 : w8.cell? ⟨g3, init.length * 2, none⟩ = some (.int .i64 f) := (by rw [(below_drew hb8).cell (p := ⟨g3, init.length * 2, none⟩) (cell_lt t0)]; exact t0); have r1 : w8.cell? ⟨g3, init.length * 2 + 1, none⟩ = some (.int .i64 n) := (by rw [(below_drew hb8).cell (p := ⟨g3, init.length * 2 + 1, none⟩) (cell_lt t1)]; exact t1); have f0 := hw8.frozenAt (init.length * 2); have f1 := hw8.frozenAt (init.length * 2 + 1))
            all_goals
              have hB8 := Hid.intro (hB7.out.trans ((below_drew hb8).mono hB7.out.size))
              have hw8' := hw8
              rw [← hnn.out] at hw8'
              have hw9 := Hid.intro (own_join (c := n + q) rfl hw8')
              clear hb8 hw8 hw8' r0 r1 f0 f1 s0 s1 t0 t1 hw7 hB7 hbs7 hc7
              go_wp2
              go_roundw
              case rel => exact ⟨i + 1, _, by omega, by go_num, by rw [← hnn.out, List.length_append]; exact hw9.out, hjn.out, (hB8.out.setCell (by show w.heap.size ≤ g3; omega) _).setCell (by show w.heap.size ≤ g3; omega) _⟩
              case measure => simp [intOf]; omega
        · have htt : Hid (¬ touchD (f, n) (p, q)) := Hid.intro (fun h => by unfold touchD at h; simp only at h; omega)
          have hpp := Hid.intro (hpu.out (fun init' y e => by
            obtain ⟨_, e2⟩ := List.append_inj' e rfl
            simp at e2
            rw [← e2]; exact ht))
          clear ht hfn hls' hpu hjo hle
          go_region_held3 (fun w' => w'.cell? ⟨B, 0, none⟩ = some (.int .i64 p) ∧ w'.cell? ⟨B, 1, none⟩ = some (.int .i64 q) ∧ w'.cell? ⟨g3, init.length * 2, none⟩ = some (.int .i64 f) ∧ w'.cell? ⟨g3, init.length * 2 + 1, none⟩ = some (.int .i64 n) ∧ Below w4.heap.size w4 w')
            (first
              | exact keep22 hC.out below_drw
              | exact keep22 hC.out (below_step (held5 (by assumption)) hb7))
            (first
              | (go_at_call 46; refine (touch_f f n p q _ hwf.out hwx.out (htt.out)).mono ?_; rintro e w7 ⟨rfl, hb7⟩))
          all_goals
            have hb47 : Below w4.heap.size w4 w7 := held5 (W := w7) (W0 := w4) (by assumption)
            have hw7 := Hid.intro (own_below hw4.out hb47)
            have hB7 := Hid.intro (hB4.out.trans (hb47.mono hB4.out.size))
            have hbs7 := Hid.intro (hbs.out.below hb47 hbs.out.lt)
            have hc7 := Hid.intro (show w7.cell? ⟨g3, init.length * 2, none⟩ = some (.int .i64 f) ∧ w7.cell? ⟨g3, init.length * 2 + 1, none⟩ = some (.int .i64 n) from ⟨by rw [hb47.cell (p := ⟨g3, init.length * 2, none⟩) (cell_lt hc0.out.1)]; exact hc0.out.1, by rw [hb47.cell (p := ⟨g3, init.length * 2 + 1, none⟩) (cell_lt hc0.out.1)]; exact hc0.out.2⟩)
            have hBz7 : Hid (w.heap.size ≤ w7.heap.size) := Hid.intro hB7.out.size
            clear hb47 hb7
            have hbs5 := hbs7
            have hw5 := hw7
            have hB5 := hB7
            have hln := Hid.intro (show nn = (init ++ [(f, n)]).length by rw [← hnn.out]; simp)
            have hBz := hBz7
            clear hbs7 hw7 hB7 hc7 hBz7
            obtain ⟨s0, s1, _⟩ := hbs5.out
            go_wp2_with (at_builtin; refine wpList_append_lies _ rfl _ _ 49 rfl w.heap.size 26 i0 (.agg #[.int .i64 0, .int .i64 0]) 2 16 Try.underlying49 hi0 hz0' hz1' hz2' rfl (by decide) _ nn (spansV (init ++ [(f, n)])) rfl (hw5.out.alloc _) ⟨w7.heap.size, 0, none⟩ 1 1 [.int .i64 p, .int .i64 q] rfl rfl (World.news_of_block (cs := #[.int .i64 p, .int .i64 q]) (t := 26) (fr := (0, 0)) (heap_alloc_new w7 _)) (by simp [Value.oneCell']) (by decide) (by unfold maxLen; omega) (by omega) (by have := hBz.out; simp; omega) (w7.heap.size + 1) (by simp) ?_; intro g5 cap5 w5 hown5 hgrow5 hat5 hlt5)
            have hBf := Hid.intro (app_below hB5.out hB5.out.size hgrow5 (fun j hj => (hw5.out.lt j hj).1))
            rw [hln.out] at hown5
            have hwf5 := Hid.intro (own_spush hown5)
            clear hgrow5 hat5 hlt5 hown5 s0 s1
            go_roundw
            case rel => exact ⟨i + 1, _, by omega, by go_num, by rw [hln.out]; exact hwf5.out, hpp.out, hBf.out⟩
            case measure => simp [intOf]; omega
    · have hi' : i = l.length := by omega
      have hm : Hid (∀ k, In ps k ↔ 0 ≤ val l k) := Hid.intro (fun k => by have := hsp.mem k; rw [hi', List.take_length] at this; exact this)
      have hc := Hid.intro hsp.can
      clear hsp
      go_wp2
      go_ret
      exact ⟨_, ps, rfl, hown, hc.out, hm.out, hB⟩
end Go.Proofs.Ytfikkbmilhcahaa
