/-
  The contracts of runs' Put and Of for whatever list, of without and of Cut.
-/
import Derived.Test.YtpdbnldbdmhhfaaPuts
namespace Go.Proofs.Ytpdbnldbdmhhfaa
open Go.ChangeShapes Go.WideShapes Go.ChangeAt Go.RowKit
attribute [local go_sem ↓] Go.wp_at_zero Go.wp_at_succ

theorem put_none (b : Nat) (ps : List Sp) (a : Option Addr) (c : Nat) (w : World) (hr : Hid (RObj w b ps)) (hp : Hid (Canon ps)) :
    Calls Try.prog 14 #[.pointer (some ⟨b, 0, none⟩), .slice a 0 c] w fun e w' => e = .returned (.int .i64 0) ∧ RObj w' b ps ∧ But b w w' := by
  obtain ⟨x1, x2⟩ := cnt_bound hp.out
  go_enter Try.func14, Try.ntmps14
  go_wp2_with fail
  refine (count_any hr.out hp.out).mono ?_; rintro e w1 ⟨rfl, hb1⟩
  go_wp2_with fail
  go_loopw [14] (fun iv wr => iv = .int .i64 0 ∧ Below w.heap.size w wr) (fun _ _ => 0)
  case atStart => exact ⟨rfl, hb1⟩
  case round =>
    obtain ⟨rfl, hB⟩ := hrel
    go_wp2_with fail
    refine (count_any (hr.out.below hB) hp.out).mono ?_; rintro e w2 ⟨rfl, hb2⟩
    go_wp2
    go_ret
    exact ⟨by simp, hr.out.below (below_step hB hb2), But.of (below_step hB hb2)⟩

theorem put_any {w : World} {b : Nat} {ps l : List Sp} {v : Value} (hr : RObj w b ps) (hp : Canon ps) (hl : Row w v l) (hf : Fits l) (hn : l.length ≤ 1000000) :
    Calls Try.prog 14 #[.pointer (some ⟨b, 0, none⟩), v] w fun e w' => e = .returned (.int .i64 (cnt (putR ps l) - cnt ps)) ∧ RObj w' b (putR ps l) ∧ But b w w' := by
  by_cases e : l = []
  · subst e
    obtain ⟨a, c, rfl⟩ := hl.nil
    have := put_none b ps a c w hr hp
    simpa [putR] using this
  · rcases hl with ⟨_, h0⟩ | ⟨g, o, cap, rfl, hg, hcs⟩
    · exact absurd h0 e
    exact put_some b ps l g o cap w hr hp hg hcs hf hn

theorem robj_new (w : World) : RObj (w.alloc (.cells #[.slice none 0 0] 60)) w.heap.size [] :=
  ⟨.slice none 0 0, by have := heap_alloc_new w (.cells #[.slice none 0 0] 60); simpa using this, .inl ⟨⟨_, _, rfl⟩, rfl⟩, T49.nil _ _ _⟩

theorem of_any {w : World} {l : List Sp} {v : Value} (hl : Row w v l) (hf : Fits l) (hn : l.length ≤ 1000000) :
    Calls Try.prog 10 #[v] w fun e w' => e = .returned (.pointer (some ⟨w.heap.size, 0, none⟩)) ∧ RObj w' w.heap.size (putR [] l) ∧ Below w.heap.size w w' := by
  have hl' : Hid (Row w v l) := hl
  have hf' : Hid (Fits l) := hf
  clear hl hf
  have hba : Below w.heap.size w (w.alloc (.cells #[.slice none 0 0] 60)) := (Below.refl _ _).alloc (Nat.le_refl _) _
  go_enter Try.func10, Try.ntmps10
  go_wp2_with fail
  refine (put_any (robj_new w) trivial (hl'.out.below hba) hf'.out hn).mono ?_; rintro e w1 ⟨rfl, hr, hb⟩
  go_wp2
  go_ret
  exact ⟨rfl, hr, ((But.of hba).trans hb).below (Nat.le_refl _)⟩

theorem less_any (o s : Sp) (w : World) (ho : Wh o) (hf : s.1 ≤ 9223372036854775807) :
    Calls Try.prog 69 #[.agg #[.int .i64 o.1, .int .i64 o.2], .agg #[.int .i64 s.1, .int .i64 s.2]] w fun e w' => ∃ v, e = .returned v ∧ w'.ownsRow w.heap.size 49 2 v (lessS o s).length (spansV (lessS o s)) ∧ Below w.heap.size w w' := by
  obtain ⟨f, n⟩ := o; obtain ⟨g, m⟩ := s
  obtain ⟨h1, h2, h3⟩ := id ho
  simp only at h1 h2 h3 hf ⊢
  by_cases hs : Wh (g, m)
  · obtain ⟨k1, k2, k3⟩ := id hs
    simp only at k1 k2 k3
    by_cases hm : f < g + m ∧ g < f + n
    · have hl : lessS (f, n) (g, m) = (if f < g then [(f, g - f)] else []) ++ (if g + m < f + n then [(g + m, f + n - (g + m))] else []) := by
        simp only [lessS]; rw [if_pos ⟨hs, hm⟩]
      rw [hl]
      have ht := fun w => meet_some f n g m _ _ w h1 h2 h3 k1 k2 k3 rfl rfl (by split <;> split <;> omega) (by split <;> omega) (by split <;> omega)
      by_cases c1 : f < g
      · by_cases c2 : g + m < f + n
        · simp only [if_pos c1, if_pos c2] at ht ⊢
          simpa [spansV] using less_11 f n g m g (g + m) w h1 h2 h3 c1 (by omega) c2 ht
        · simp only [if_pos c1, if_neg c2] at ht ⊢
          simpa [spansV] using less_10 f n g m g (f + n) w h1 h2 h3 c1 (by omega) rfl ht
      · by_cases c2 : g + m < f + n
        · simp only [if_neg c1, if_pos c2] at ht ⊢
          simpa [spansV] using less_01 f n g m f (g + m) w h1 h2 h3 rfl (by omega) c2 ht
        · simp only [if_neg c1, if_neg c2] at ht ⊢
          simpa [spansV] using less_00 f n g m f (f + n) w h1 h2 h3 rfl (by omega) rfl ht
    · have hl : lessS (f, n) (g, m) = [(f, n)] := by
        simp only [lessS]; rw [if_neg fun h => hm h.2]
      rw [hl]
      simpa [spansV] using less_all f n g m w h1 h2 h3 fun w => meet_none f n g m _ _ w h1 h2 h3 k1 k2 k3 rfl rfl (by split <;> split <;> omega)
  · have hl : lessS (f, n) (g, m) = [(f, n)] := by
      simp only [lessS]; rw [if_neg fun h => hs h.1]
    rw [hl]
    simpa [spansV] using less_all f n g m w h1 h2 h3 fun w => meet_b f n g m w hf h1 h2 h3 hs

theorem own_slice {w : World} {base : Nat} {v : Value} {n : Nat} {xs : List Value} (h : w.ownsRow base 49 2 v n xs) : ∃ a c, v = .slice a n c := by
  rcases h.2 with ⟨rfl, rfl⟩ | ⟨g, cap, cur, hv, _⟩
  · exact ⟨_, _, rfl⟩
  · exact ⟨_, _, hv⟩

theorem own_room {w : World} {base : Nat} {v : Value} {n : Nat} {xs : List Value} (h : w.ownsRow base 49 2 v n xs) : (v = .slice none 0 0 ∧ n = 0) ∨ ∃ g c, v = .slice (some ⟨g, 0, none⟩) n c ∧ n ≤ c := by
  rcases h.2 with ⟨rfl, rfl⟩ | ⟨g, cap, cur, hv, _, _, hn, _⟩
  · exact .inl ⟨rfl, rfl⟩
  · exact .inr ⟨g, cap, hv, hn⟩
theorem Hid.intro {p : Prop} (h : p) : Hid p := h

theorem Row.sliced {w : World} {v : Value} {ps : List Sp} (h : Row w v ps) : ∃ a n c, v = .slice a n c := by
  obtain ⟨a, c, h⟩ := h.slice
  exact ⟨a, _, c, h⟩

theorem less_length (o s : Sp) : (lessS o s).length ≤ 2 := by
  unfold lessS; split <;> (try split) <;> (try split) <;> simp

theorem without_nil (s : Sp) (a : Option Addr) (c : Nat) (w : World) :
    Calls Try.prog 31 #[.slice a 0 c, .agg #[.int .i64 s.1, .int .i64 s.2]] w fun e w' => e = .returned (.slice none 0 0) ∧ Below w.heap.size w w' := by
  go_enter Try.func31, Try.ntmps31
  go_wp2_with fail
  go_loop [5, 10] (fun ov iv => ov = .slice none 0 0 ∧ iv = .int .i64 0) (fun _ _ => 0)
  case atStart => exact ⟨rfl, rfl⟩
  case round =>
    obtain ⟨rfl, rfl⟩ := hrel
    go_wp2
    go_ret
    exact ⟨rfl, (Below.refl _ _).alloc (Nat.le_refl _) _⟩

set_option maxRecDepth 100000 in
theorem without_some (ps : List Sp) (s : Sp) (g o c : Nat) (w : World) (h64 : ps.length ≤ 64) (hg : g < w.heap.size) (hc : Hid (Cells w g o ps)) (hw : Hid (∀ p ∈ ps, Wh p)) (hf : s.1 ≤ 9223372036854775807) :
    Calls Try.prog 31 #[.slice (some ⟨g, o, none⟩) ps.length c, .agg #[.int .i64 s.1, .int .i64 s.2]] w fun e w' => ∃ v, e = .returned v ∧ w'.ownsRow w.heap.size 49 2 v (ps.flatMap (lessS · s)).length (spansV (ps.flatMap (lessS · s))) ∧ Below w.heap.size w w' := by
  obtain ⟨i0, hi0, hz0', hz1', hz2'⟩ := info_parts Try.info49
  obtain ⟨f', n'⟩ := s
  obtain ⟨R, hR⟩ : ∃ R, Hid (ps.flatMap (lessS · (f', n')) = R) := ⟨_, rfl⟩
  rw [hR.out]
  simp only at hf ⊢
  go_enter Try.func31, Try.ntmps31
  go_wp2_with fail
  go_loopw [5, 10] (fun out iv wr => ∃ (i : Nat), i ≤ ps.length ∧ iv = .int .i64 i ∧ wr.ownsRow (w.heap.size + 1) 49 2 out ((ps.take i).flatMap (lessS · (f', n'))).length (spansV ((ps.take i).flatMap (lessS · (f', n')))) ∧ ((ps.take i).flatMap (lessS · (f', n'))).length ≤ 2 * i ∧ Box wr w.heap.size (.int .i64 f') (.int .i64 n') ∧ Below w.heap.size w wr) (fun _ iv _ => ps.length - (intOf iv).toNat)
  case atStart => exact ⟨0, Nat.zero_le _, rfl, World.ownsRow_nil _ _ _ _, Nat.zero_le _, Box.new _ _ _ _, (Below.refl _ _).alloc (Nat.le_refl _) _⟩
  case round =>
    obtain ⟨i, hi, rfl, hown, hol, ⟨r0, r1, z0, z1⟩, hB⟩ := hrel
    have i0' : (0 : Int) ≤ (i : Int) := Int.natCast_nonneg _
    have hob := fun j hj => hown.lt j hj
    by_cases hlt : i < ps.length
    · obtain ⟨⟨p, q⟩, hp⟩ : ∃ p, ps[i]? = some p := ⟨ps[i]'hlt, by simp [hlt]⟩
      have hd : Hid ((ps.take (i + 1)).flatMap (lessS · (f', n')) = (ps.take i).flatMap (lessS · (f', n')) ++ lessS (p, q) (f', n')) := by
        rw [List.take_add_one, hp]; simp [Hid]
      have hwp' : Hid (Wh (p, q)) := hw.out _ (List.mem_of_getElem? hp)
      obtain ⟨d0, d1⟩ := (hc.out.below hB hg) i _ hp
      have i1 : (i : Int) < (ps.length : Int) := by omega
      have hgr : g < wr.heap.size := Nat.lt_of_lt_of_le hg hB.size
      simp only at d0 d1
      have hzz : w.heap.size < wr.heap.size := Box.lt ⟨r0, r1, z0, z1⟩
      clear hp
      generalize (ps.take i).flatMap (lessS · (f', n')) = outs at *
      go_wp2_with fail
      refine (less_any (p, q) (f', n') _ hwp'.out hf).mono ?_; rintro e w1 ⟨v, rfl, hv, hb⟩
      obtain ⟨⟨a0, a1, a2, a3⟩, _, hown1, hB1, hz1, hz0⟩ := with_carry hb hB ⟨r0, r1, z0, z1⟩ hown
      clear hb d0 d1 r0 r1 z0 z1 hown hB
      have hle := less_length (p, q) (f', n')
      generalize wr.heap.size = O at *
      have hvr := own_row hv
      have hv0 := own_room hv
      clear hv
      by_cases hnil : lessS (p, q) (f', n') = []
      · rw [hnil] at hd hv0
        clear hvr
        clear hnil
        have hl5 : outs.length ≤ 9223372036854775807 := by omega
        have hrel : ∃ i' : Nat, i' ≤ ps.length ∧ (i : Int) + 1 = i' ∧ w1.ownsRow (w.heap.size + 1) 49 2 u5 ((ps.take i').flatMap (lessS · (f', n'))).length (spansV ((ps.take i').flatMap (lessS · (f', n')))) ∧ ((ps.take i').flatMap (lessS · (f', n'))).length ≤ 2 * i' := by
          refine ⟨i + 1, by omega, by omega, ?_, ?_⟩ <;> rw [hd.out, List.append_nil]
          · exact hown1
          · omega
        have hrel' := Hid.intro hrel
        clear hrel
        rcases hv0 with ⟨rfl, _⟩ | ⟨g7, c', rfl, _⟩
        all_goals
          rcases own_room hown1 with ⟨rfl, hn0⟩ | ⟨g5, c5, rfl, hle5⟩
        · rw [hn0] at *
          go_wp2
          go_roundw
          case rel =>
            obtain ⟨i', h1, h2, h3, h4⟩ := hrel'.out
            exact ⟨i', h1, by rw [← h2], h3, h4, ⟨a0, a1, a2, a3⟩, hB1⟩
          case measure => simp [intOf]; omega
        · go_wp2
          go_roundw
          case rel =>
            obtain ⟨i', h1, h2, h3, h4⟩ := hrel'.out
            exact ⟨i', h1, by rw [← h2], h3, h4, ⟨a0, a1, a2, a3⟩, hB1⟩
          case measure => simp [intOf]; omega
        · rw [hn0] at *
          go_wp2
          go_roundw
          case rel =>
            obtain ⟨i', h1, h2, h3, h4⟩ := hrel'.out
            exact ⟨i', h1, by rw [← h2], h3, h4, ⟨a0, a1, a2, a3⟩, hB1⟩
          case measure => simp [intOf]; omega
        · go_wp2
          go_roundw
          case rel =>
            obtain ⟨i', h1, h2, h3, h4⟩ := hrel'.out
            exact ⟨i', h1, by rw [← h2], h3, h4, ⟨a0, a1, a2, a3⟩, hB1⟩
          case measure => simp [intOf]; omega
      · rcases hvr with ⟨_, h0⟩ | ⟨g7, o7, cap7, rfl, hg7, hcs7⟩
        · exact absurd h0 hnil
        clear hv0
        have hpos : 0 < (lessS (p, q) (f', n')).length := List.length_pos_iff.2 hnil
        have hcs7' : Hid (Cells w1 g7 o7 (lessS (p, q) (f', n'))) := hcs7
        clear hcs7 hnil
        generalize lessS (p, q) (f', n') = ls at *
        go_wp2_with (at_builtin; refine wpList_append_lies _ rfl _ _ 22 rfl (w.heap.size + 1) 49 i0 (.agg #[.int .i64 0, .int .i64 0]) 2 16 Try.underlying22 hi0 hz0' hz1' hz2' rfl (by decide) _ _ _ rfl hown1 ⟨g7, o7, none⟩ ls.length cap7 (spansV ls) rfl (spansV_length _) (row_news hcs7'.out) (spansV_one _) hpos (by unfold maxLen; omega) (by omega) (by omega) (w1.heap.size) rfl ?_; intro g5 cap5 w5 hown5 hgrow5 hat5 hlt5)
        have y5 := Box.grown (H := w.heap.size) ⟨a0, a1, a2, a3⟩ hgrow5 (fun h => by have := hob _ h.symm; omega)
        have hB5 := hB1.grown hgrow5 (by omega) (fun j hj => by have := hob j hj; omega)
        go_roundw
        case rel =>
          refine ⟨i + 1, by omega, by go_num, ?_, ?_, y5, hB5⟩
          · rw [hd.out, spansV_append, List.length_append]; exact hown5
          · rw [hd.out, List.length_append]; omega
        case measure => simp [intOf]; omega
    · have hii : i = ps.length := by omega
      subst hii
      rw [List.take_length, hR.out] at hown
      go_wp2
      go_ret
      exact ⟨_, rfl, own_mono hown (Nat.le_succ _), hB⟩

/-- runs.without of a list of whole spans and whatever span. -/
theorem without_any {w : World} {v : Value} {ps : List Sp} (h : Row w v ps) (s : Sp) (hc : Canon ps) (hs : s.1 ≤ 9223372036854775807) :
    Calls Try.prog 31 #[v, .agg #[.int .i64 s.1, .int .i64 s.2]] w fun e w' => ∃ v, e = .returned v ∧ Row w' v (ps.flatMap (lessS · s)) ∧ T49 w' v ∧ Below w.heap.size w w' := by
  by_cases e : ps = []
  · subst e
    obtain ⟨a, c, rfl⟩ := h.nil
    exact (without_nil s a c w).mono fun e w' ⟨he, hb⟩ => ⟨_, he, .inl ⟨⟨_, _, rfl⟩, rfl⟩, T49.nil _ _ _, hb⟩
  · rcases h with ⟨_, h0⟩ | ⟨g, o, cap, rfl, hg, hcs⟩
    · exact absurd h0 e
    exact (without_some ps s g o cap w (canon_64 hc) hg hcs (canon_whole hc) hs).mono fun e w' ⟨v, he, ho, hb⟩ => ⟨v, he, own_row ho, own_t49 ho, hb⟩

set_option maxRecDepth 100000 in
theorem cut_some (b : Nat) (ps l : List Sp) (g o c : Nat) (w : World) (hr : RObj w b ps) (hp : Hid (Canon ps)) (hg : g < w.heap.size) (hc : Hid (Cells w g o l)) (hf : Hid (Fits l)) (hl : l.length ≤ 1000000) :
    Calls Try.prog 15 #[.pointer (some ⟨b, 0, none⟩), .slice (some ⟨g, o, none⟩) l.length c] w fun e w' => e = .returned (.int .i64 (cnt ps - cnt (cutR ps l))) ∧ RObj w' b (cutR ps l) ∧ But b w w' := by
  obtain ⟨u0, hu0, _⟩ := id hr
  have hrh : Hid (RObj w b ps) := hr
  have hu0' : Hid (w.heap[b]? = some (.cells #[u0] 60 (0, 0))) := hu0
  obtain ⟨y1, y2⟩ := cnt_bound (cut_spec l ps hp.out).1
  obtain ⟨x1, x2⟩ := cnt_bound hp.out
  clear hr hu0
  go_enter Try.func15, Try.ntmps15
  go_wp2_with fail
  refine (count_any hrh.out hp.out).mono ?_; rintro e w1 ⟨rfl, hb1⟩
  go_wp2_with fail
  go_loopw [14] (fun iv wr => ∃ (i : Nat) (cur : List Sp), i ≤ l.length ∧ iv = .int .i64 i ∧ RObj wr b cur ∧ Canon cur ∧ cutR cur (l.drop i) = cutR ps l ∧ But b w wr) (fun iv _ => l.length - (intOf iv).toNat)
  case atStart => exact ⟨0, ps, Nat.zero_le _, rfl, hrh.out.below hb1, hp.out, by simp, But.of hb1⟩
  case round =>
    obtain ⟨i, cur, hi, rfl, hrc, hcc, heq, hB⟩ := hrel
    have i0 : (0 : Int) ≤ (i : Int) := Int.natCast_nonneg _
    by_cases hlt : i < l.length
    · obtain ⟨⟨f, n⟩, hp'⟩ : ∃ p, l[i]? = some p := ⟨l[i]'hlt, by simp [hlt]⟩
      have hd : l.drop i = (f, n) :: l.drop (i + 1) := by rw [List.drop_eq_getElem_cons hlt]; congr 1; simp [hlt] at hp'; exact hp'
      have hfit := hf.out _ (List.mem_of_getElem? hp')
      obtain ⟨d0, d1⟩ := (hc.out.but hg hu0'.out hB) i _ hp'
      have i1 : (i : Int) < (l.length : Int) := by omega
      have hgr : g < wr.heap.size := Nat.lt_of_lt_of_le hg hB.size
      simp only at d0 d1 hfit
      have hrc' : Hid (RObj wr b cur) := hrc
      have hcc' : Hid (Canon cur) := hcc
      have hbl := hrc.lt
      have heq' : Hid (cutR (cur.flatMap (lessS · (f, n))) (l.drop (i + 1)) = cutR ps l) := by rw [← heq, hd]; simp [Hid, cutR]
      clear hrc hcc hd heq hp'
      have hB2 := hB.trans (But.of ((Below.refl _ _).alloc (Nat.le_refl _) (.cells #[.int .i64 f, .int .i64 n] 49)))
      have hba : Below wr.heap.size wr (wr.alloc (.cells #[.int .i64 f, .int .i64 n] 49)) := (Below.refl _ _).alloc (Nat.le_refl _) _
      have hz2 : wr.heap.size < (wr.alloc (.cells #[.int .i64 f, .int .i64 n] 49)).heap.size := by simp
      obtain ⟨e0, e1, e2, e3⟩ := Box.new wr (.int .i64 f) (.int .i64 n) 49
      have hr2 : Hid (RObj (wr.alloc (.cells #[.int .i64 f, .int .i64 n] 49)) b cur) := hrc'.out.below hba
      go_wp2_with fail
      generalize wr.alloc (.cells #[.int .i64 f, .int .i64 n] 49) = w2 at *
      obtain ⟨v, hv, hvf, hvr⟩ := hr2.out.cell
      have hvr' : Hid (Row w2 v cur) := hvr
      have hbl2 : b < w2.heap.size := by omega
      clear d0 d1 hB hrc' hvr hba
      generalize wr.heap.size = O at *
      go_region_with (go_at_call 31; refine (without_any (ps := cur) ?_ (f, n) hcc'.out hfit).mono ?_; exact hvr'.out.below below_drw; rintro e w3 ⟨v3, rfl, hr3, ht3, hb3⟩; obtain ⟨a3, n3, c3, rfl⟩ := hr3.sliced; have hv3 : w3.cell? ⟨b, 0, none⟩ = some v := (by rw [(below_drew hb3).cell (p := ⟨b, 0, none⟩) hbl2]; exact hv); have hf3 : w3.frozen? ⟨b, 0, none⟩ = false := (by rw [(below_drew hb3).frozen (p := ⟨b, 0, none⟩) hbl2]; exact hvf))
      all_goals
        go_wp2
        go_roundw
        case rel => exact ⟨i + 1, cur.flatMap (lessS · (f, n)), by omega, by go_num, (hr2.out.below (below_drew hb3)).store hr3 ht3, (without_spec _ _ hcc'.out).1, heq'.out, (hB2.trans (But.of (below_drew hb3))).setCell 0 _⟩
        case measure => simp [intOf]; omega
    · have hdr : l.drop i = [] := List.drop_eq_nil_of_le (by omega)
      have i1 : ¬ (i : Int) < (l.length : Int) := by omega
      rw [hdr] at heq
      have heq' : cur = cutR ps l := heq
      subst heq'
      have hrc' : Hid (RObj wr b (cutR ps l)) := hrc
      have hcc' : Hid (Canon (cutR ps l)) := hcc
      clear hrc hcc heq hdr
      go_wp2_with fail
      refine (count_any hrc'.out hcc'.out).mono ?_; rintro e w2 ⟨rfl, hb2⟩
      go_wp2
      go_ret
      exact ⟨rfl, hrc'.out.below hb2, hB.trans (But.of hb2)⟩

theorem cut_none (b : Nat) (ps : List Sp) (a : Option Addr) (c : Nat) (w : World) (hr : Hid (RObj w b ps)) (hp : Hid (Canon ps)) :
    Calls Try.prog 15 #[.pointer (some ⟨b, 0, none⟩), .slice a 0 c] w fun e w' => e = .returned (.int .i64 0) ∧ RObj w' b ps ∧ But b w w' := by
  obtain ⟨x1, x2⟩ := cnt_bound hp.out
  go_enter Try.func15, Try.ntmps15
  go_wp2_with fail
  refine (count_any hr.out hp.out).mono ?_; rintro e w1 ⟨rfl, hb1⟩
  go_wp2_with fail
  go_loopw [14] (fun iv wr => iv = .int .i64 0 ∧ Below w.heap.size w wr) (fun _ _ => 0)
  case atStart => exact ⟨rfl, hb1⟩
  case round =>
    obtain ⟨rfl, hB⟩ := hrel
    go_wp2_with fail
    refine (count_any (hr.out.below hB) hp.out).mono ?_; rintro e w2 ⟨rfl, hb2⟩
    go_wp2
    go_ret
    exact ⟨by simp, hr.out.below (below_step hB hb2), But.of (below_step hB hb2)⟩

theorem cut_any {w : World} {b : Nat} {ps l : List Sp} {v : Value} (hr : RObj w b ps) (hp : Canon ps) (hl : Row w v l) (hf : Fits l) (hn : l.length ≤ 1000000) :
    Calls Try.prog 15 #[.pointer (some ⟨b, 0, none⟩), v] w fun e w' => e = .returned (.int .i64 (cnt ps - cnt (cutR ps l))) ∧ RObj w' b (cutR ps l) ∧ But b w w' := by
  by_cases e : l = []
  · subst e
    obtain ⟨a, c, rfl⟩ := hl.nil
    have := cut_none b ps a c w hr hp
    simpa [cutR] using this
  · rcases hl with ⟨_, h0⟩ | ⟨g, o, cap, rfl, hg, hcs⟩
    · exact absurd h0 e
    exact cut_some b ps l g o cap w hr hp hg hcs hf hn
end Go.Proofs.Ytpdbnldbdmhhfaa
