/-
  The contract of the shelf's Find: all numbers under a fingerprint, rising, in a new list.
-/
import Derived.Test.YtdmamanlclajjaaGreatCut
namespace Go.Proofs.YtdmamanlclajjaaGreat
open Go.ChangeShapes Go.WideShapes Go.ChangeAt Go.RowKit

def intsV (l : List Int) : List Value := l.map fun k => .int .i64 k
theorem Tryz.info3 : (Tryz.prog.info? 3).map (fun i => (i.zero, i.size, i.bytes)) = some (some (.int .i64 0), 1, 8) := by kernel_rfl
/-- A slice of numbers in memory of its own from block b on. -/
abbrev Ints (w : World) (b : Nat) (v : Value) (l : List Int) : Prop := w.ownsRow b 3 1 v l.length (intsV l)

theorem own_mono1 {w : World} {base base' : Nat} {v : Value} {n : Nat} {xs : List Value} (h : w.ownsRow base 3 1 v n xs) (hb : base' ≤ base) : w.ownsRow base' 3 1 v n xs := by
  refine ⟨h.1, ?_⟩
  rcases h.2 with h0 | ⟨g, cap, cur, hv, hg, hr⟩
  · exact .inl h0
  · exact .inr ⟨g, cap, cur, hv, Nat.le_trans hb hg, hr⟩

theorem und_last (l : List It) (x : Int) (i : Nat) (outs : List Int) (h : outs ++ und (l.drop i) x = und l x) (hi : l.length ≤ i) : outs = und l x := by
  rw [List.drop_eq_nil_of_le hi] at h
  simpa [und] using h
theorem und_bound (l : List It) (x : Int) (i : Nat) (outs : List Int) (h : outs ++ und (l.drop i) x = und l x) : outs.length ≤ l.length := by
  have := und_length l x
  rw [← h] at this
  simp at this
  omega

set_option maxHeartbeats 1000000 in
set_option maxRecDepth 100000 in
theorem find_any {w : World} {F : Nat → Prop} {s : Nat} {bs : List (List It)} {l : List It} (h : Sh w F s bs) (x : Int) (f0 : 0 ≤ x) (f1 : x ≤ 4294967295) (hl : bs[bk bs x]? = some l) (h3 : l.length ≤ 1000) :
    Calls Tryz.prog 35 #[.pointer (some ⟨s, 0, none⟩), .int .u32 x] w fun e w' => ∃ v, e = .returned v ∧ Ints w' w.heap.size v (und l x) ∧ Below w.heap.size w w' := by
  obtain ⟨i0, hi0, hz0', hz1', hz2'⟩ := info_parts Tryz.info3
  obtain ⟨hFs, B, vs, h, hF⟩ := h
  have hlen := h.len
  have hk : bk bs x < vs.length := by have := (List.getElem?_eq_some_iff.1 hl).1; omega
  have hbk := bucket_any h x f0 f1
  rw [← hlen] at hbk
  change Calls _ _ _ _ fun e w' => e = .returned (.pointer (some ⟨B, bk bs x, none⟩)) ∧ _ at hbk
  generalize bk bs x = k at *
  have h' := Hid.intro h
  have hbk' := Hid.intro hbk
  have hl' := Hid.intro hl
  clear h hbk hl
  go_enter Tryz.func35, Tryz.ntmps35
  go_wp2_with fail
  refine (none_no h'.out).mono ?_; rintro e w0 ⟨rfl, rfl⟩
  go_wp2_with fail
  refine hbk'.out.mono ?_; rintro e w1 ⟨rfl, hb1⟩
  have h1 := Hid.intro (h'.out.below hb1)
  obtain ⟨v, l', hv, hl2, hbu, hor, hfi, c0, z0⟩ := h1.out.bucket hk
  rw [hl'.out] at hl2; cases hl2
  have hp := place_any (x, -9223372036854775808) hbu hor h3
  have hp' := Hid.intro hp
  have hor' := Hid.intro (And.intro hor hfi)
  have hst := Hid.intro (und_start l x hfi)
  clear hp hor hfi hv
  rcases buk_cases hbu with ⟨rfl, rfl⟩ | ⟨g, cap, rfl, hbg, hg, hc⟩
  · clear hbu
    go_wp2_with fail
    refine hp'.out.mono ?_; rintro e w2 ⟨rfl, hb2⟩
    have hB2 := Hid.intro (below_stp hb1 hb2)
    simp only [pos]
    go_wp2_with fail
    go_loopw [6, 7] (fun ov iv wr => ov = .slice none 0 0 ∧ iv = .int .i64 0 ∧ wr = w2) (fun _ _ _ => 0)
    case atStart => exact ⟨rfl, by simp, rfl⟩
    case round =>
      obtain ⟨rfl, rfl, rfl⟩ := hrel
      go_wp2
      go_ret
      exact ⟨_, rfl, World.ownsRow_nil _ _ _ _, hB2.out⟩
  · clear hbu
    have hc' := Hid.intro hc
    clear hc
    go_wp2_with fail
    refine hp'.out.mono ?_; rintro e w2 ⟨rfl, hb2⟩
    have hB2 := Hid.intro (below_stp hb1 hb2)
    have hg2 : g < w2.heap.size := Nat.lt_of_lt_of_le hg hb2.size
    have hc2 := Hid.intro (hc'.out.below hb2 hg)
    have hsz := hB2.out.size
    have hple := pos_le l (x, -9223372036854775808)
    obtain ⟨i1, hi1⟩ : ∃ i1, pos l (x, -9223372036854775808) = i1 := ⟨_, rfl⟩
    have hi1' := Hid.intro hi1
    rw [hi1] at hple ⊢
    clear hi1
    go_wp2_with fail
    go_loopw [6, 7] (fun ov iv wr => ∃ (i : Nat) (outs : List Int), i1 ≤ i ∧ i ≤ l.length ∧ iv = .int .i64 (i : Int) ∧ Hid (wr.ownsRow w2.heap.size 3 1 ov outs.length (intsV outs)) ∧ Hid (outs ++ und (l.drop i) x = und l x) ∧ Below w2.heap.size w2 wr) (fun _ iv _ => l.length - (intOf iv).toNat)
    case atStart => exact ⟨i1, [], Nat.le_refl _, hple, rfl, World.ownsRow_nil _ _ _ _, by rw [← hi1'.out]; exact hst.out, Below.refl _ _⟩
    case round =>
      obtain ⟨i, outs, hi1i, hil, rfl, hown, heq, hB⟩ := hrel
      by_cases hlt : i < l.length
      · obtain ⟨⟨a, d⟩, hq⟩ : ∃ q, l[i]? = some q := ⟨l[i]'hlt, List.getElem?_eq_getElem hlt⟩
        obtain ⟨c0', c1'⟩ := (hc2.out.below hB hg2) i _ hq
        simp only at c0' c1'
        have hq' := Hid.intro hq
        clear hq
        have hgr : g < wr.heap.size := Nat.lt_of_lt_of_le hg2 hB.size
        have hol := und_bound l x i outs heq.out
        have hzz : w2.heap.size ≤ wr.heap.size := hB.size
        by_cases hax : a = x
        · have heq' : Hid ((outs ++ [d]) ++ und (l.drop (i + 1)) x = und l x) := by
            have := heq.out
            rw [und_step l x i (a, d) hq'.out hax] at this
            simpa [Hid] using this
          have hxe : (a == x) = true := by simpa using hax
          go_wp2_with (at_builtin; refine wpList_append_lies _ rfl _ _ 72 rfl w2.heap.size 3 i0 (.int .i64 0) 1 8 Tryz.underlying72 hi0 hz0' hz1' hz2' rfl (by decide) _ outs.length (intsV outs) rfl (hown.out.alloc _) ⟨wr.heap.size, 0, none⟩ 1 1 [.int .i64 d] rfl rfl (World.news_of_block (cs := #[.int .i64 d]) (t := 3) (fr := (0, 0)) (heap_alloc_new wr _)) (by simp [Value.oneCell']) (by decide) (by unfold maxLen; omega) (by omega) (by simp; omega) (wr.heap.size + 1) (by simp) ?_; intro g5 cap5 w5 hown5 hgrow5 hat5 hlt5)
          go_roundw
          case rel =>
            refine ⟨i + 1, outs ++ [d], by omega, by omega, by go_num, ?_, heq', ?_⟩
            · have : intsV (outs ++ [d]) = intsV outs ++ [.int .i64 d] := by simp [intsV]
              rw [this, List.length_append]; exact hown5
            · exact (hB.alloc hzz _).grown hgrow5 (by simp; omega) (fun j hj => (hown.out.lt j hj).1)
          case measure => simp [intOf]; omega
        · have hxe : (a == x) = false := by simpa using hax
          have hfin := heq.out
          rw [und_end l x i (a, d) hor'.out.1 hor'.out.2 (by rw [hi1'.out]; exact hi1i) hq'.out hax, List.append_nil] at hfin
          have hfin' := Hid.intro hfin
          clear hfin
          go_wp2
          go_ret
          refine ⟨_, rfl, ?_, hB2.out.trans (hB.mono hsz)⟩
          rw [← hfin'.out]
          exact own_mono1 hown.out hsz
      · have hfin' := Hid.intro (und_last l x i outs heq.out (by omega))
        have hdf : decide ((i : Int) < (l.length : Int)) = false := by simp; omega
        go_wp2
        go_ret
        refine ⟨_, rfl, ?_, hB2.out.trans (hB.mono hsz)⟩
        rw [← hfin'.out]
        exact own_mono1 hown.out hsz
end Go.Proofs.YtdmamanlclajjaaGreat
