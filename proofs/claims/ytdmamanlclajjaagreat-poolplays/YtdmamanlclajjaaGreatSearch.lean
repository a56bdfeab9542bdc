/-
  The contracts of the search in a bucket and of the shelf's place: where an item lies or would lie in a list that is in order, and whether it is there; nothing that was there is written.
-/
import Derived.Test.YtdmamanlclajjaaGreatRowz
namespace Go.Proofs.YtdmamanlclajjaaGreat
open Go.ChangeShapes Go.WideShapes Go.ChangeAt Go.RowKit

/-- A box of two cells. -/
def Box (w : World) (H : Nat) (x y : Value) : Prop := w.cell? ⟨H, 0, none⟩ = some x ∧ w.cell? ⟨H, 1, none⟩ = some y
theorem Box.below {w w' : World} {H B : Nat} {x y : Value} (h : Box w H x y) (hb : Below B w w') (hz : H < B) : Box w' H x y :=
  ⟨by rw [hb.cell (p := ⟨H, 0, none⟩) hz]; exact h.1, by rw [hb.cell (p := ⟨H, 1, none⟩) hz]; exact h.2⟩
theorem Box.new (w : World) (x y : Value) (t : TypeId) : Box (w.alloc (.cells #[x, y] t)) w.heap.size x y := by
  unfold Box; simp [go_sem]
theorem Box.lt {w : World} {H : Nat} {x y : Value} (h : Box w H x y) : H < w.heap.size := by
  rcases Nat.lt_or_ge H w.heap.size with hl | hl
  · exact hl
  · have := h.1; simp [World.cell?, Array.getElem?_eq_none hl] at this

theorem below_drw {a b : World} (h : Below a.drew.heap.size a.drew b) : Below a.heap.size a b := ((Below.refl _ a).drew).trans h
theorem below_stp {a b c : World} (h1 : Below a.heap.size a b) (h2 : Below b.heap.size b c) : Below a.heap.size a c := h1.trans (h2.mono h1.size)

set_option maxHeartbeats 1000000 in
set_option maxRecDepth 100000 in
theorem search_some (l : List It) (p : It) (g c : Nat) (w : World) (hl : l.length ≤ 1000) (hg : g < w.heap.size) (hc : Hid (Cells w g l)) (ho : Hid (Ord l)) :
    Calls Tryz.prog 95 #[.slice (some ⟨g, 0, none⟩) l.length c, .agg #[.int .u32 p.1, .int .i64 p.2], .func (.func 96) #[] #[]] w fun e w' =>
      e = .returned (.tuple #[.int .i64 (pos l p : Nat), .bool (decide (l[pos l p]? = some p))]) ∧ Below w.heap.size w w' := by
  obtain ⟨a, b⟩ := p
  simp only
  go_enter Tryz.func95, Tryz.ntmps95
  go_wp2_with fail
  go_loopw [9, 10] (fun lv hv wr => ∃ lo hi : Nat, lo ≤ hi ∧ hi ≤ l.length ∧ lv = .int .i64 (lo : Int) ∧ hv = .int .i64 (hi : Int) ∧ Hid (∀ t q, t < lo → l[t]? = some q → lt q (a, b) = true) ∧ Hid (∀ t q, hi ≤ t → l[t]? = some q → lt q (a, b) = false) ∧ Box wr w.heap.size (.int .u32 a) (.int .i64 b) ∧ Below w.heap.size w wr) (fun lv hv _ => (intOf hv).toNat - (intOf lv).toNat)
  case atStart => exact ⟨0, l.length, by omega, by omega, rfl, rfl, fun t q h => by omega, fun t q h k => by have := (List.getElem?_eq_some_iff.1 k).1; omega, Box.new _ _ _ _, (Below.refl _ _).alloc (Nat.le_refl _) _⟩
  case round =>
    obtain ⟨lo, hi, h1, h2, rfl, rfl, hlo, hhi, hx, hB⟩ := hrel
    have hzx := hx.lt
    obtain ⟨b0, b1⟩ := hx
    have hgr : g < wr.heap.size := Nat.lt_of_lt_of_le hg hB.size
    by_cases hlt : lo < hi
    · obtain ⟨m, hm⟩ : ∃ m : Nat, m = (lo + hi) / 2 := ⟨_, rfl⟩
      have em : ((lo : Int) + (hi : Int)) / 2 = (m : Int) := by omega
      obtain ⟨⟨q, r⟩, hq⟩ : ∃ q, l[m]? = some q := ⟨l[m]'(by omega), by rw [List.getElem?_eq_getElem]⟩
      have hq' := Hid.intro hq
      obtain ⟨c0, c1⟩ := (hc.out.below hB hg) m _ hq
      clear hq
      simp only at c0 c1
      have hmn : m < l.length := by omega
      have hm' := Hid.intro hm
      have hmlo : lo ≤ m := by omega
      have hmhi : m < hi := by omega
      clear hm
      by_cases hcm : cmpI (q, r) (a, b) < 0
      · have hcm' := Hid.intro ((cmpI_lt _ _).1 hcm)
        go_wp2_with fail
        go_region_held3 (fun w' => w'.cell? ⟨w.heap.size, 0, none⟩ = some (.int .u32 a) ∧ w'.cell? ⟨w.heap.size, 1, none⟩ = some (.int .i64 b) ∧ w'.cell? ⟨g, m * 2, none⟩ = some (.int .u32 q) ∧ w'.cell? ⟨g, m * 2 + 1, none⟩ = some (.int .i64 r) ∧ Below wr.heap.size wr w')
          (first
            | exact ⟨b0, b1, c0, c1, (Below.refl _ _).drew⟩
            | exact ⟨by rw [hb1.cell (p := ⟨w.heap.size, 0, none⟩) hzx]; exact b0, by rw [hb1.cell (p := ⟨w.heap.size, 1, none⟩) hzx]; exact b1, by rw [hb1.cell (p := ⟨g, m * 2, none⟩) hgr]; exact c0, by rw [hb1.cell (p := ⟨g, m * 2 + 1, none⟩) hgr]; exact c1, below_drw hb1⟩)
          (first
            | (go_at_call 96; refine (compare_any _ _ _ _ _).mono ?_; rintro e w1 ⟨rfl, hb1⟩))
        all_goals
          have hb2 := below_drw hb1
          go_wp2
          go_roundw
          case rel => exact ⟨m + 1, hi, by omega, h2, by go_num, rfl, fun t s ht hs => ord_down ho.out (Nat.le_of_lt_succ ht) hs hq'.out hcm'.out, hhi, Box.below ⟨b0, b1⟩ hb2 hzx, hB.trans (hb2.mono hB.size)⟩
          case measure => simp [intOf]; omega
      · have hcm' : Hid (lt (q, r) (a, b) = false) := by
          have := mt (cmpI_lt (q, r) (a, b)).2 hcm
          simpa [Hid] using this
        go_wp2_with fail
        go_region_held3 (fun w' => w'.cell? ⟨w.heap.size, 0, none⟩ = some (.int .u32 a) ∧ w'.cell? ⟨w.heap.size, 1, none⟩ = some (.int .i64 b) ∧ w'.cell? ⟨g, m * 2, none⟩ = some (.int .u32 q) ∧ w'.cell? ⟨g, m * 2 + 1, none⟩ = some (.int .i64 r) ∧ Below wr.heap.size wr w')
          (first
            | exact ⟨b0, b1, c0, c1, (Below.refl _ _).drew⟩
            | exact ⟨by rw [hb1.cell (p := ⟨w.heap.size, 0, none⟩) hzx]; exact b0, by rw [hb1.cell (p := ⟨w.heap.size, 1, none⟩) hzx]; exact b1, by rw [hb1.cell (p := ⟨g, m * 2, none⟩) hgr]; exact c0, by rw [hb1.cell (p := ⟨g, m * 2 + 1, none⟩) hgr]; exact c1, below_drw hb1⟩)
          (first
            | (go_at_call 96; refine (compare_any _ _ _ _ _).mono ?_; rintro e w1 ⟨rfl, hb1⟩))
        all_goals
          have hb2 := below_drw hb1
          go_wp2
          go_roundw
          case rel =>
            refine ⟨lo, m, by omega, by omega, rfl, by go_num, hlo, fun t s ht hs => ?_, Box.below ⟨b0, b1⟩ hb2 hzx, hB.trans (hb2.mono hB.size)⟩
            cases hc2 : lt s (a, b) with
            | false => rfl
            | true =>
              have := ord_down ho.out ht hq'.out hs hc2
              rw [hcm'.out] at this
              cases this
          case measure => simp [intOf]; omega
    · have hlh : lo = hi := by omega
      subst hlh
      have hpos : pos l (a, b) = lo := pos_of l (a, b) lo h2 hlo.out fun q hq => hhi.out lo q (Nat.le_refl _) hq
      by_cases hln : lo < l.length
      · obtain ⟨m, hm⟩ : ∃ m : Nat, m = lo := ⟨_, rfl⟩
        subst hm
        obtain ⟨⟨q, r⟩, hq⟩ : ∃ q, l[m]? = some q := ⟨l[m]'(by omega), by rw [List.getElem?_eq_getElem]⟩
        obtain ⟨c0, c1⟩ := (hc.out.below hB hg) m _ hq
        simp only at c0 c1
        by_cases hcm : cmpI (q, r) (a, b) = 0
        · have hfin : Hid (decide (l[pos l (a, b)]? = some (a, b)) = true) := by
            rw [hpos, hq, (cmpI_eq _ _).1 hcm]; simp [Hid]
          have hpos' := Hid.intro hpos
          clear hpos hq hlo hhi
          go_wp2_with fail
          go_region_held3 (fun w' => w'.cell? ⟨w.heap.size, 0, none⟩ = some (.int .u32 a) ∧ w'.cell? ⟨w.heap.size, 1, none⟩ = some (.int .i64 b) ∧ w'.cell? ⟨g, m * 2, none⟩ = some (.int .u32 q) ∧ w'.cell? ⟨g, m * 2 + 1, none⟩ = some (.int .i64 r) ∧ Below wr.heap.size wr w')
            (first
              | exact ⟨b0, b1, c0, c1, (Below.refl _ _).drew⟩
              | exact ⟨by rw [hb1.cell (p := ⟨w.heap.size, 0, none⟩) hzx]; exact b0, by rw [hb1.cell (p := ⟨w.heap.size, 1, none⟩) hzx]; exact b1, by rw [hb1.cell (p := ⟨g, m * 2, none⟩) hgr]; exact c0, by rw [hb1.cell (p := ⟨g, m * 2 + 1, none⟩) hgr]; exact c1, below_drw hb1⟩)
            (first
              | (go_at_call 96; refine (compare_any _ _ _ _ _).mono ?_; rintro e w1 ⟨rfl, hb1⟩))
          all_goals
            have hb2 := below_drw hb1
            go_wp2
            go_ret2
            exact ⟨by rw [hfin.out, hpos'.out]; rfl, hB.trans (hb2.mono hB.size)⟩
        · have hfin : Hid (decide (l[pos l (a, b)]? = some (a, b)) = false) := by
            rw [hpos, hq]
            have := mt (cmpI_eq (q, r) (a, b)).2 hcm
            simpa [Hid] using this
          have hcb : (cmpI (q, r) (a, b) == 0) = false := by simpa using hcm
          have hpos' := Hid.intro hpos
          clear hpos hq hlo hhi
          go_wp2_with fail
          go_region_held3 (fun w' => w'.cell? ⟨w.heap.size, 0, none⟩ = some (.int .u32 a) ∧ w'.cell? ⟨w.heap.size, 1, none⟩ = some (.int .i64 b) ∧ w'.cell? ⟨g, m * 2, none⟩ = some (.int .u32 q) ∧ w'.cell? ⟨g, m * 2 + 1, none⟩ = some (.int .i64 r) ∧ Below wr.heap.size wr w')
            (first
              | exact ⟨b0, b1, c0, c1, (Below.refl _ _).drew⟩
              | exact ⟨by rw [hb1.cell (p := ⟨w.heap.size, 0, none⟩) hzx]; exact b0, by rw [hb1.cell (p := ⟨w.heap.size, 1, none⟩) hzx]; exact b1, by rw [hb1.cell (p := ⟨g, m * 2, none⟩) hgr]; exact c0, by rw [hb1.cell (p := ⟨g, m * 2 + 1, none⟩) hgr]; exact c1, below_drw hb1⟩)
            (first
              | (go_at_call 96; refine (compare_any _ _ _ _ _).mono ?_; rintro e w1 ⟨rfl, hb1⟩))
          all_goals
            have hb2 := below_drw hb1
            go_wp2
            go_ret2
            exact ⟨by rw [hfin.out, hpos'.out]; rfl, hB.trans (hb2.mono hB.size)⟩
      · have hfin : Hid (decide (l[pos l (a, b)]? = some (a, b)) = false) := by
          rw [hpos, List.getElem?_eq_none (by omega)]; simp [Hid]
        have hpos' := Hid.intro hpos
        clear hpos hlo hhi
        have hdf : decide ((lo : Int) < (l.length : Int)) = false := by simp; omega
        go_wp2_with fail
        go_big_region
        all_goals
          go_wp2
          go_ret2
          exact ⟨by rw [hfin.out, hpos'.out]; rfl, hB.drew⟩

set_option maxHeartbeats 1000000 in
set_option maxRecDepth 100000 in
theorem search_nil (p : It) (w : World) :
    Calls Tryz.prog 95 #[.slice none 0 0, .agg #[.int .u32 p.1, .int .i64 p.2], .func (.func 96) #[] #[]] w fun e w' =>
      e = .returned (.tuple #[.int .i64 0, .bool false]) ∧ Below w.heap.size w w' := by
  obtain ⟨a, b⟩ := p
  simp only
  go_enter Tryz.func95, Tryz.ntmps95
  go_wp2_with fail
  go_loopw [9, 10] (fun lv hv wr => lv = .int .i64 0 ∧ hv = .int .i64 0 ∧ Below w.heap.size w wr) (fun _ _ _ => 0)
  case atStart => exact ⟨rfl, rfl, (Below.refl _ _).alloc (Nat.le_refl _) _⟩
  case round =>
    obtain ⟨rfl, rfl, hB⟩ := hrel
    go_wp2_with fail
    go_big_region
    all_goals
      go_wp2
      go_ret2
      exact ⟨rfl, hB.drew⟩

theorem place_any {w : World} {b : Nat} {v : Value} {l : List It} (p : It) (h : Buk w b v l) (ho : Ord l) (hl : l.length ≤ 1000) :
    Calls Tryz.prog 72 #[v, .agg #[.int .u32 p.1, .int .i64 p.2]] w fun e w' =>
      e = .returned (.tuple #[.int .i64 (pos l p : Nat), .bool (decide (l[pos l p]? = some p))]) ∧ Below w.heap.size w w' := by
  have hB0 : Below w.heap.size w (w.alloc (.cells #[.int .u32 p.1, .int .i64 p.2] 104)) := (Below.refl _ w).alloc (Nat.le_refl _) _
  rcases buk_cases h with ⟨rfl, rfl⟩ | ⟨g, cap, rfl, hb, hg, hc⟩
  · go_enter Tryz.func72, Tryz.ntmps72
    go_wp2_with fail
    refine (search_nil p _).mono ?_; rintro e w1 ⟨rfl, hb⟩
    go_wp2
    go_ret2
    exact ⟨rfl, below_stp hB0 hb⟩
  · have hc1 := Hid.intro (hc.below hB0 hg)
    have ho1 := Hid.intro ho
    have hg1 : g < (w.alloc (.cells #[.int .u32 p.1, .int .i64 p.2] 104)).heap.size := Nat.lt_of_lt_of_le hg hB0.size
    clear h hc ho
    generalize hW : w.alloc (.cells #[.int .u32 p.1, .int .i64 p.2] 104) = W at hB0 hc1 hg1
    have hW' := Hid.intro hW
    clear hW
    have hs := search_some l p g cap W hl hg1 hc1 ho1
    generalize pos l p = i at hs ⊢
    generalize decide (l[i]? = some p) = f at hs ⊢
    have hs' := Hid.intro hs
    clear hs
    go_enter Tryz.func72, Tryz.ntmps72
    go_wp2_with fail
    rw [hW'.out]
    refine hs'.out.mono ?_; rintro e w1 ⟨rfl, hb⟩
    go_wp2
    go_ret2
    exact ⟨rfl, below_stp hB0 hb⟩
end Go.Proofs.YtdmamanlclajjaaGreat
