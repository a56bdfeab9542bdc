/-
  The contract of extent.Cut, of every tidy list and every span: what is left.
-/
import Derived.Test.YtfikkbmilhcahaaEFind
import Derived.Test.YtfikkbmilhcahaaAppKeep
import Derived.Deep.RegionHeld3
namespace Go.Proofs.Ytfikkbmilhcahaa
open Go.ChangeShapes Go.WideShapes Go.ChangeAt Go.RowKit
attribute [local go_sem ↓] Go.wp_at_zero Go.wp_at_succ

/-- What stands at place i. -/
theorem erow_at {w : World} {l : List Ex} {a : Option Addr} {n c : Nat} (h : BkE.Row w (.slice a n c) l) {i : Nat} (hi : i < l.length) : ∃ g o p, a = some ⟨g, o, none⟩ ∧ g < w.heap.size ∧ l[i]? = some p ∧ w.cell? ⟨g, o + i * 3, none⟩ = some (.int .i64 p.1) ∧ w.cell? ⟨g, o + i * 3 + 1, none⟩ = some (.int .i64 p.2.1) ∧ w.cell? ⟨g, o + i * 3 + 2, none⟩ = some (.int .i64 p.2.2) := by
  rcases h with ⟨_, h0⟩ | ⟨g, o, cap, hv, hg, hc⟩
  · subst h0; simp at hi
  · cases hv
    have hp : l[i]? = some l[i] := List.getElem?_eq_getElem hi
    exact ⟨g, o, _, rfl, hg, hp, hc i _ hp⟩
theorem srow_at {w : World} {l : List Sp} {a : Option Addr} {n c : Nat} (h : Row w (.slice a n c) l) {i : Nat} (hi : i < l.length) : ∃ g o p, a = some ⟨g, o, none⟩ ∧ g < w.heap.size ∧ l[i]? = some p ∧ w.cell? ⟨g, o + i * 2, none⟩ = some (.int .i64 p.1) ∧ w.cell? ⟨g, o + i * 2 + 1, none⟩ = some (.int .i64 p.2) := by
  rcases h with ⟨_, h0⟩ | ⟨g, o, cap, hv, hg, hc⟩
  · subst h0; simp at hi
  · cases hv
    have hp : l[i]? = some l[i] := List.getElem?_eq_getElem hi
    exact ⟨g, o, _, rfl, hg, hp, hc i _ hp⟩

section
variable {W W' : World} {H O : Nat} {x y z u v : Value} {A B C D E : Prop}
/-- A box of three cells and one of two, behind whatever is only new. -/
theorem keep32 (hH : O < W.heap.size) (hO : H < W.heap.size) (h : W.cell? ⟨O, 0, none⟩ = some x ∧ W.cell? ⟨O, 1, none⟩ = some y ∧ W.cell? ⟨O, 2, none⟩ = some z ∧ W.cell? ⟨H, 0, none⟩ = some u ∧ W.cell? ⟨H, 1, none⟩ = some v) (hb : Below W.heap.size W W') :
    W'.cell? ⟨O, 0, none⟩ = some x ∧ W'.cell? ⟨O, 1, none⟩ = some y ∧ W'.cell? ⟨O, 2, none⟩ = some z ∧ W'.cell? ⟨H, 0, none⟩ = some u ∧ W'.cell? ⟨H, 1, none⟩ = some v ∧ Below W.heap.size W W' := by
  obtain ⟨a, b, c, d, e⟩ := h
  obtain ⟨hc, _⟩ := bcell hb
  exact ⟨by rw [hc _ _ hH]; exact a, by rw [hc _ _ hH]; exact b, by rw [hc _ _ hH]; exact c, by rw [hc _ _ hO]; exact d, by rw [hc _ _ hO]; exact e, hb⟩
/-- The last limb of what is held. -/
theorem held6 {W0 : World} (h : A ∧ B ∧ C ∧ D ∧ E ∧ Below W0.heap.size W0 W) : Below W0.heap.size W0 W := h.2.2.2.2.2
end

theorem cell_lt {W : World} {O o : Nat} {x : Value} (h : W.cell? ⟨O, o, none⟩ = some x) : O < W.heap.size := by
  rcases Nat.lt_or_ge O W.heap.size with h1 | h1
  · exact h1
  · simp [World.cell?, h1] at h
theorem Bx.grown {w w' : World} {H : Nat} {x : Ex} {row : Option Nat} (h : Bx w H x) (hg : w.grownBy w' row) (hr : some H ≠ row) : Bx w' H x := by
  have hb := hg.block H h.lt hr
  obtain ⟨a, b, c, d, e, f⟩ := h
  exact ⟨by rw [World.cell?_of_block (w := w) (a := ⟨H, 0, none⟩) hb]; exact a, by rw [World.cell?_of_block (w := w) (a := ⟨H, 1, none⟩) hb]; exact b, by rw [World.cell?_of_block (w := w) (a := ⟨H, 2, none⟩) hb]; exact c, by rw [World.frozen?_of_block (w := w) (a := ⟨H, 0, none⟩) hb]; exact d, by rw [World.frozen?_of_block (w := w) (a := ⟨H, 1, none⟩) hb]; exact e, by rw [World.frozen?_of_block (w := w) (a := ⟨H, 2, none⟩) hb]; exact f⟩
theorem Row.grown {w w' : World} {v : Value} {ps : List Sp} {row : Option Nat} (h : Row w v ps) (hg : w.grownBy w' row) (hr : ∀ b, v.ownBlock = some b → some b ≠ row) : Row w' v ps := by
  rcases h with h | ⟨g, o, cap, hv, hgl, hc⟩
  · exact .inl h
  · refine .inr ⟨g, o, cap, hv, Nat.lt_of_lt_of_le hgl hg.size, fun i p hp => ?_⟩
    have hb := hg.block g hgl (hr g (by rw [hv]; rfl))
    rw [World.cell?_of_block (w := w) (a := ⟨g, o + i * 2, none⟩) hb, World.cell?_of_block (w := w) (a := ⟨g, o + i * 2 + 1, none⟩) hb]
    exact hc i p hp
section
variable {w W W' : World} {M O base n : Nat} {x y z u v ov : Value} {xs : List Value}
theorem keepS (h : W.cell? ⟨O, 0, none⟩ = some x ∧ W.cell? ⟨O, 1, none⟩ = some y ∧ W.cell? ⟨O, 2, none⟩ = some z ∧ W.cell? ⟨M, 0, none⟩ = some u ∧ W.cell? ⟨M, 1, none⟩ = some v ∧ W.ownsRow base 24 3 ov n xs ∧ Below w.heap.size w W) (hb : Below W.heap.size W W') :
    W'.cell? ⟨O, 0, none⟩ = some x ∧ W'.cell? ⟨O, 1, none⟩ = some y ∧ W'.cell? ⟨O, 2, none⟩ = some z ∧ W'.cell? ⟨M, 0, none⟩ = some u ∧ W'.cell? ⟨M, 1, none⟩ = some v ∧ W'.ownsRow base 24 3 ov n xs ∧ Below w.heap.size w W' := by
  obtain ⟨a, b, c, d, e, f, g⟩ := h
  obtain ⟨hc, _⟩ := bcell hb
  exact ⟨by rw [hc _ _ (cell_lt a)]; exact a, by rw [hc _ _ (cell_lt a)]; exact b, by rw [hc _ _ (cell_lt a)]; exact c, by rw [hc _ _ (cell_lt d)]; exact d, by rw [hc _ _ (cell_lt d)]; exact e, BkE.own_below f hb, g.trans (hb.mono g.size)⟩
theorem keepGr (hO : some O ≠ ov.ownBlock) (hM : some M ≠ ov.ownBlock) (hl : ∀ b, ov.ownBlock = some b → w.heap.size ≤ b) (h : W.cell? ⟨O, 0, none⟩ = some x ∧ W.cell? ⟨O, 1, none⟩ = some y ∧ W.cell? ⟨O, 2, none⟩ = some z ∧ W.cell? ⟨M, 0, none⟩ = some u ∧ W.cell? ⟨M, 1, none⟩ = some v ∧ W.ownsRow base 24 3 ov n xs ∧ Below w.heap.size w W) (hg : W.grownBy W' ov.ownBlock) (ho : W'.ownsRow base 24 3 ov n xs) :
    W'.cell? ⟨O, 0, none⟩ = some x ∧ W'.cell? ⟨O, 1, none⟩ = some y ∧ W'.cell? ⟨O, 2, none⟩ = some z ∧ W'.cell? ⟨M, 0, none⟩ = some u ∧ W'.cell? ⟨M, 1, none⟩ = some v ∧ W'.ownsRow base 24 3 ov n xs ∧ Below w.heap.size w W' := by
  obtain ⟨a, b, c, d, e, f, g⟩ := h
  have h1 := hg.block O (cell_lt a) hO
  have h2 := hg.block M (cell_lt d) hM
  exact ⟨by rw [World.cell?_of_block (w := W) (a := ⟨O, 0, none⟩) h1]; exact a, by rw [World.cell?_of_block (w := W) (a := ⟨O, 1, none⟩) h1]; exact b, by rw [World.cell?_of_block (w := W) (a := ⟨O, 2, none⟩) h1]; exact c, by rw [World.cell?_of_block (w := W) (a := ⟨M, 0, none⟩) h2]; exact d, by rw [World.cell?_of_block (w := W) (a := ⟨M, 1, none⟩) h2]; exact e, ho, g.grown hg g.size hl⟩
theorem keepS_own {A B C D E F : Prop} (h : A ∧ B ∧ C ∧ D ∧ E ∧ W.ownsRow base 24 3 ov n xs ∧ F) : W.ownsRow base 24 3 ov n xs := h.2.2.2.2.2.1
theorem keepS_le {A B C D E F : Prop} (h : A ∧ B ∧ C ∧ D ∧ E ∧ F ∧ Below w.heap.size w W) : w.heap.size ≤ W.heap.size := h.2.2.2.2.2.2.size
end

theorem less_len (o s : Sp) : (lessS o s).length ≤ 2 := less_length o s
theorem cutL_take (l : List Ex) (s : Sp) (i : Nat) (p : Ex) (h : l[i]? = some p) : cutL (l.take (i + 1)) s = cutL (l.take i) s ++ cut1 p s := by
  unfold cutL
  rw [List.take_add_one, h]; simp
theorem cut1_length (x : Ex) (s : Sp) : (cut1 x s).length = (lessS (x.1, x.2.1) s).length := by simp [cut1]

set_option maxRecDepth 100000 in
theorem cut_row {w : World} {v : Value} {l : List Ex} (hr : BkE.Row w v l) (ht : Ti l) (hl : l.length ≤ 1000) (s : Sp) (hf : s.1 ≤ 9223372036854775807) :
    Calls Try.prog 15 #[v, .agg #[.int .i64 s.1, .int .i64 s.2]] w fun e w' => ∃ v, e = .returned v ∧ w'.ownsRow w.heap.size 24 3 v (cutL l s).length (BkE.itemsV (cutL l s)) ∧ Below w.heap.size w w' := by
  obtain ⟨i0, hi0, hz0', hz1', hz2'⟩ := info_parts BkE.Try.infoE
  obtain ⟨a, c, rfl⟩ := hr.slice
  have hr' := Hid.intro hr
  have ht' := Hid.intro ht
  clear hr ht
  obtain ⟨f', n'⟩ := s
  obtain ⟨R, hR⟩ : ∃ R, Hid (cutL l (f', n') = R) := ⟨_, rfl⟩
  rw [hR.out]
  simp only at hf ⊢
  go_enter Try.func15, Try.ntmps15
  go_wp2_with fail
  go_loopw [5, 12] (fun out iv wr => ∃ (i : Nat), i ≤ l.length ∧ iv = .int .i64 i ∧ wr.ownsRow (w.heap.size + 1) 24 3 out (cutL (l.take i) (f', n')).length (BkE.itemsV (cutL (l.take i) (f', n'))) ∧ (cutL (l.take i) (f', n')).length ≤ 2 * i ∧ Box wr w.heap.size (.int .i64 f') (.int .i64 n') ∧ Below w.heap.size w wr) (fun _ iv _ => l.length - (intOf iv).toNat)
  case atStart => exact ⟨0, Nat.zero_le _, rfl, World.ownsRow_nil _ _ _ _, Nat.zero_le _, Box.new _ _ _ _, (Below.refl _ _).alloc (Nat.le_refl _) _⟩
  case round =>
    obtain ⟨i, hi, rfl, hown, hol, hbx, hB⟩ := hrel
    have i0' : (0 : Int) ≤ (i : Int) := Int.natCast_nonneg _
    by_cases hlt : i < l.length
    · obtain ⟨g, o, ⟨p, q, r⟩, rfl, hg, hp, d0, d1, d2⟩ := erow_at (hr'.out.below hB) hlt
      have hd : Hid (cutL (l.take (i + 1)) (f', n') = cutL (l.take i) (f', n') ++ cut1 (p, q, r) (f', n')) := Hid.intro (cutL_take l _ i _ hp)
      have hal' : Hid (Al (p, q, r)) := Hid.intro (tp_al ht'.out _ (List.mem_of_getElem? hp)).1
      have i1 : (i : Int) < (l.length : Int) := by omega
      simp only at d0 d1 d2
      have hzz : w.heap.size < wr.heap.size := Box.lt hbx
      clear hp
      generalize cutL (l.take i) (f', n') = outs at *
      have hbo : Hid (Bx (wr.alloc (.cells #[.int .i64 p, .int .i64 q, .int .i64 r] 24)) wr.heap.size (p, q, r)) := Bx.new _ (p, q, r) _
      have hba : Below wr.heap.size wr (wr.alloc (.cells #[.int .i64 p, .int .i64 q, .int .i64 r] 24)) := (Below.refl _ _).alloc (Nat.le_refl _) _
      have hbx' := Hid.intro (hbx.below hba hzz)
      have hown' := Hid.intro (BkE.own_below hown hba)
      have hBa' := Hid.intro (hB.trans (hba.mono (by omega)))
      have hob : Hid (∀ b, u5.ownBlock = some b → b ≠ wr.heap.size) := Hid.intro fun b hb => by have := (hown.lt b hb).2; omega
      have hzl : wr.heap.size < (wr.alloc (.cells #[.int .i64 p, .int .i64 q, .int .i64 r] 24)).heap.size := by simp
      clear hown hbx hB hba
      go_wp2_with fail
      clear d0 d1 d2 hg hr'
      generalize wr.alloc (.cells #[.int .i64 p, .int .i64 q, .int .i64 r] 24) = w2 at *
      generalize wr.heap.size = O at *
      have hH2 : w.heap.size < w2.heap.size := by omega
      have hcs : w2.cell? ⟨O, 0, none⟩ = some (.int .i64 p) ∧ w2.cell? ⟨O, 1, none⟩ = some (.int .i64 q) ∧ w2.cell? ⟨O, 2, none⟩ = some (.int .i64 r) ∧ w2.cell? ⟨w.heap.size, 0, none⟩ = some (.int .i64 f') ∧ w2.cell? ⟨w.heap.size, 1, none⟩ = some (.int .i64 n') := ⟨hbo.out.1, hbo.out.2.1, hbo.out.2.2.1, hbx'.out.1, hbx'.out.2.1⟩
      have hcs' := Hid.intro hcs
      clear hcs
      go_region_held3 (fun w' => w'.cell? ⟨O, 0, none⟩ = some (.int .i64 p) ∧ w'.cell? ⟨O, 1, none⟩ = some (.int .i64 q) ∧ w'.cell? ⟨O, 2, none⟩ = some (.int .i64 r) ∧ w'.cell? ⟨w.heap.size, 0, none⟩ = some (.int .i64 f') ∧ w'.cell? ⟨w.heap.size, 1, none⟩ = some (.int .i64 n') ∧ Below w2.heap.size w2 w')
        (first
          | exact keep32 hzl hH2 hcs'.out below_drw
          | exact keep32 hzl hH2 hcs'.out (below_step (below_drew hb3) hb4)
          | exact keep32 hzl hH2 hcs'.out (below_drew hb3))
        (first
          | (go_at_call 38; refine (spanOf_any _ _ _ _).mono ?_; rintro e w3 ⟨rfl, hb3⟩)
          | (go_at_call 43; refine (less_any (p, q) (f', n') _ (al_wh hal'.out) hf).mono ?_; rintro e w4 ⟨v, rfl, hv, hb4⟩; obtain ⟨ar, cr, rfl⟩ := own_slice hv))
      all_goals
        have hb24 := below_step (below_drew hb3) hb4
        have hO4 : O < w4.heap.size := by have := hb24.size; omega
        have hH4 : w.heap.size < w4.heap.size := by omega
        have hbo4 := Hid.intro (hbo.out.below hb24 hzl)
        have hbx4 := Hid.intro (hbx'.out.below hb24 hH2)
        have hown4 := BkE.own_below hown'.out hb24
        have hB4 := hBa'.out.trans (hb24.mono (by omega))
        have hrow := own_row hv
        have hrow4 := Hid.intro hrow
        have hrb : Hid (∀ b, (Value.slice ar (lessS (p, q) (f', n')).length cr).ownBlock = some b → b ≠ O ∧ w.heap.size < b ∧ (∀ b', u5.ownBlock = some b' → b' ≠ b) ∧ b < w4.heap.size) := Hid.intro fun b hb => by
          have h1 := (hv.lt b hb).1
          have h2 := hb3.size
          simp at h2
          refine ⟨by omega, by omega, fun b' hb' => ?_, (hv.lt b hb).2⟩
          have := (hown'.out.lt b' hb').2
          omega
        have hle := less_length (p, q) (f', n')
        have hcan := (less_spec (p, q) (f', n') (al_wh hal'.out)).1
        have hcut : Hid (cut1 (p, q, r) (f', n') = (lessS (p, q) (f', n')).map fun t => (t.1, t.2, idA (p, q, r) t.1)) := Hid.intro rfl
        clear hb3 hb4 hv hrow hb24 hbo hbx' hown' hBa' hcs' hzl hH2
        have hwr : Hid (∀ t ∈ lessS (p, q) (f', n'), Wh t) := Hid.intro (canon_whole hcan)
        clear hcan
        generalize lessS (p, q) (f', n') = rs at *
        have hob4 : Hid (∀ b, u5.ownBlock = some b → b ≠ O ∧ some b ≠ (Value.slice ar rs.length cr).ownBlock) := Hid.intro fun b hb => ⟨hob.out b hb, fun e => (hrb.out b e.symm).2.2.1 b hb rfl⟩
        have hrO : Hid (∀ b, (Value.slice ar rs.length cr).ownBlock = some b → b ≠ O ∧ b < w4.heap.size) := Hid.intro fun b hb => ⟨(hrb.out b hb).1, (hrb.out b hb).2.2.2⟩
        clear hob hrb
        go_wp2_with fail
        go_loopw [5, 21] (fun ov jv wk => ∃ j : Nat, j ≤ rs.length ∧ jv = .int .i64 j ∧ wk.ownsRow (w.heap.size + 1) 24 3 ov (outs ++ (cut1 (p, q, r) (f', n')).take j).length (BkE.itemsV (outs ++ (cut1 (p, q, r) (f', n')).take j)) ∧ Bx wk O (p, q, r) ∧ Box wk w.heap.size (.int .i64 f') (.int .i64 n') ∧ Row wk (.slice ar rs.length cr) rs ∧ (∀ b, ov.ownBlock = some b → b ≠ O ∧ some b ≠ (Value.slice ar rs.length cr).ownBlock) ∧ Below w.heap.size w wk) (fun _ jv _ => rs.length - (intOf jv).toNat)
        case atStart => exact ⟨0, Nat.zero_le _, rfl, by simpa using hown4, hbo4.out, hbx4.out, hrow4.out, hob4.out, hB4⟩
        case round =>
          obtain ⟨j, hj, rfl, hown6, hbo6, hbx6, hrow6, hob6, hB6⟩ := hrel
          have j0 : (0 : Int) ≤ (j : Int) := Int.natCast_nonneg _
          by_cases hjl : j < rs.length
          · obtain ⟨g7, o7, ⟨t1, t2⟩, rfl, hg7, ht7, e0', e1'⟩ := srow_at hrow6 hjl
            have hwt : Wh (t1, t2) := hwr.out _ (List.mem_of_getElem? ht7)
            obtain ⟨q1, q2, q3⟩ := hwt
            have htk : Hid ((cut1 (p, q, r) (f', n')).take (j + 1) = (cut1 (p, q, r) (f', n')).take j ++ [(t1, t2, idA (p, q, r) t1)]) := Hid.intro (by
              rw [List.take_add_one, hcut.out, List.getElem?_map, ht7]; rfl)
            have j1 : (j : Int) < (rs.length : Int) := by omega
            have hlen : (outs ++ (cut1 (p, q, r) (f', n')).take j).length ≤ 2 * i + 2 := by
              rw [List.length_append, List.length_take]; omega
            simp only at e0' e1' q1 q2 q3
            clear ht7
            generalize (cut1 (p, q, r) (f', n')).take j = done at *
            obtain ⟨all, hall⟩ : ∃ all, Hid (outs ++ done = all) := ⟨_, rfl⟩
            rw [hall.out] at hown6 hlen
            have hba : Below wr.heap.size wr (wr.alloc (.cells #[.int .i64 t1, .int .i64 t2] 26)) := (Below.refl _ _).alloc (Nat.le_refl _) _
            have hbt7 : Hid (Box (wr.alloc (.cells #[.int .i64 t1, .int .i64 t2] 26)) wr.heap.size (.int .i64 t1) (.int .i64 t2)) := Box.new _ _ _ _
            have hbo7 := Hid.intro (hbo6.below hba hbo6.lt)
            have hbx7 := Hid.intro (hbx6.below hba hbx6.lt)
            have hrow7 := Hid.intro (hrow6.below hba)
            have hown7 := Hid.intro (BkE.own_below hown6 hba)
            have hB7 := Hid.intro (hB6.trans (hba.mono hB6.size))
            have hobM : Hid (some wr.heap.size ≠ u5.ownBlock) := Hid.intro fun e => by have := (hown6.lt _ e.symm).2; omega
            have hobO : Hid (some O ≠ u5.ownBlock) := Hid.intro fun e => (hob6 _ e.symm).1 rfl
            have hobl : Hid (∀ b, u5.ownBlock = some b → w.heap.size ≤ b) := Hid.intro fun b hb => by have := (hown6.lt b hb).1; omega
            have hobr := Hid.intro hob6
            have hMO : Hid (O ≠ wr.heap.size) := Hid.intro (by have := hbo6.lt; omega)
            have hMr : Hid (∀ b, (Value.slice (some ⟨g7, o7, none⟩) rs.length cr).ownBlock = some b → b < wr.heap.size) := Hid.intro fun b hb => by cases hb; exact hg7
            have hh2 : w.heap.size + 1 ≤ wr.heap.size := by have := hbx6.lt; omega
            clear hba hbo6 hbx6 hrow6 hown6 hB6 hob6
            go_wp2_with fail
            clear e0' e1'
            generalize wr.alloc (.cells #[.int .i64 t1, .int .i64 t2] 26) = w6 at *
            generalize wr.heap.size = M at *
            have hS : w6.cell? ⟨O, 0, none⟩ = some (.int .i64 p) ∧ w6.cell? ⟨O, 1, none⟩ = some (.int .i64 q) ∧ w6.cell? ⟨O, 2, none⟩ = some (.int .i64 r) ∧ w6.cell? ⟨M, 0, none⟩ = some (.int .i64 t1) ∧ w6.cell? ⟨M, 1, none⟩ = some (.int .i64 t2) ∧ w6.ownsRow (w.heap.size + 1) 24 3 u5 all.length (BkE.itemsV all) ∧ Below w.heap.size w w6 := ⟨hbo7.out.1, hbo7.out.2.1, hbo7.out.2.2.1, hbt7.out.1, hbt7.out.2.1, hown7.out, hB7.out⟩
            have hS' := Hid.intro hS
            have hobw : Hid (some w.heap.size ≠ u5.ownBlock) := Hid.intro fun e => by have := (hown7.out.lt _ e.symm).1; omega
            have hMw : Hid (M < w6.heap.size) := Hid.intro hbt7.out.lt
            have hl6 : w.heap.size + 1 ≤ w6.heap.size := by have := hbt7.out.lt; omega
            clear hS
            go_region_held3 (fun w' => w'.cell? ⟨O, 0, none⟩ = some (.int .i64 p) ∧ w'.cell? ⟨O, 1, none⟩ = some (.int .i64 q) ∧ w'.cell? ⟨O, 2, none⟩ = some (.int .i64 r) ∧ w'.cell? ⟨M, 0, none⟩ = some (.int .i64 t1) ∧ w'.cell? ⟨M, 1, none⟩ = some (.int .i64 t2) ∧ w'.ownsRow (w.heap.size + 1) 24 3 u5 all.length (BkE.itemsV all) ∧ Below w.heap.size w w')
              (first
                | exact keepS hS'.out below_drw
                | exact keepGr hobO.out hobM.out hobl.out (by assumption) hgrow9 hold9
                | exact keepS (by assumption) hb7
                | exact keepS (by assumption) ((Below.refl _ _).alloc (Nat.le_refl _) _))
              (first
                | (go_at_call 39; refine (idOf_any _ _ _ _ _ hal'.out (by omega) (by omega)).mono ?_; rintro e w7 ⟨rfl, hb7⟩)
                | (refine step_append_old _ (by rfl) _ _ 22 (by rfl) (w.heap.size + 1) 24 i0 (.agg #[.int .i64 0, .int .i64 0, .int .i64 0]) 3 24 Try.underlying22 hi0 hz0' hz1' hz2' rfl (by decide) u5 all.length (BkE.itemsV all) (by rfl) (keepS_own (by assumption)) _ 1 1 [.int .i64 t1, .int .i64 t2, .int .i64 (idA (p, q, r) t1)] (by rfl) rfl (World.news_of_block (cs := #[.int .i64 t1, .int .i64 t2, .int .i64 (idA (p, q, r) t1)]) (t := 24) (fr := (0, 0)) (heap_alloc_new _ _)) (by simp [Value.oneCell']) (by decide) (by unfold maxLen; omega) (by omega) (by have := hb7.size; simp at this ⊢; omega) ?_; intro g9 cap9 w9 hown9 hgrow9 hat9 hold9))
            all_goals
              have hb67 := Hid.intro ((below_drew hb7).alloc (o := .cells #[.int .i64 t1, .int .i64 t2, .int .i64 (idA (p, q, r) t1)] 24) (by have := hb7.size; simp at this; omega))
              have hz67 : Hid (w6.heap.size ≤ w7.heap.size) := Hid.intro (by have := hb7.size; simpa using this)
              have hg9 := Hid.intro hgrow9
              have hw9 := Hid.intro hown9
              have ha9 := Hid.intro hat9
              clear hb7 hgrow9 hown9 hat9 hold9
              go_wp2
              go_roundw
              case rel =>
                have hgr := hg9.out
                have hb8 := hb67.out
                have hz8 := hz67.out
                have hM6 := hMw.out
                have hMO' := hMO.out
                refine ⟨j + 1, by omega, by go_num, ?_, (hbo7.out.below hb8 hbo7.out.lt).grown hgr hobO.out, (hbx7.out.below hb8 hbx7.out.lt).grown hgr hobw.out, (hrow7.out.below hb8).grown hgr (fun b hb e => (hobr.out b e.symm).2 hb.symm), ?_, (hB7.out.trans (hb8.mono (by omega))).grown hgr (by simp; omega) hobl.out⟩
                · rw [htk.out, ← List.append_assoc, hall.out, List.length_append, BkE.itemsV_append]
                  exact hw9.out
                · intro b hb
                  cases hb
                  rcases ha9.out with h | h
                  · exact hobr.out _ h
                  · have hO6 : O < w6.heap.size := hbo7.out.lt
                    simp at h
                    refine ⟨by simp; omega, fun e => ?_⟩
                    have := hMr.out _ e.symm
                    simp at this
                    omega
              case measure => simp [intOf]; omega
          · have hje : j = rs.length := by omega
            have hfull : Hid (outs ++ (cut1 (p, q, r) (f', n')).take j = cutL (l.take (i + 1)) (f', n')) := Hid.intro (by
              rw [hd.out, hje, List.take_of_length_le (by rw [hcut.out]; simp)])
            have hcl : Hid ((cutL (l.take (i + 1)) (f', n')).length ≤ 2 * (i + 1)) := Hid.intro (by
              rw [hd.out, List.length_append, hcut.out, List.length_map]; omega)
            rw [hfull.out] at hown6
            clear hrow6 hob6
            go_wp2
            go_roundw
            case rel => exact ⟨i + 1, by omega, by go_num, hown6, hcl.out, hbx6, hB6⟩
            case measure => simp [intOf]; omega
    · have hi' : i = l.length := by omega
      have hfull : cutL (l.take i) (f', n') = R := by rw [hi', List.take_length]; exact hR.out
      rw [hfull] at hown
      clear hbx hR hfull
      go_wp2
      go_ret
      exact ⟨_, rfl, BkE.own_mono hown (Nat.le_succ _), hB⟩
end Go.Proofs.Ytfikkbmilhcahaa
