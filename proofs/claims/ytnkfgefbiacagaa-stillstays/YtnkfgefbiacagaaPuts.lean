/-
  The contracts of runs' list, Count, Put and Of.
-/
import Derived.Test.YtnkfgefbiacagaaWith
import Derived.Test.YtnkfgefbiacagaaSmall
namespace Go.Proofs.Ytnkfgefbiacagaa
open Go.ChangeShapes Go.WideShapes Go.ChangeAt Go.RowKit
attribute [local go_sem ↓] Go.wp_at_zero Go.wp_at_succ

theorem list_some (b : Nat) (v : Value) (w : World) (h : w.cell? ⟨b, 0, none⟩ = some v) :
    Calls Try.prog 33 #[.pointer (some ⟨b, 0, none⟩)] w fun e w' => e = .returned v ∧ w' = w := by
  go_enter Try.func33, Try.ntmps33
  go_wp2
  go_ret
  exact ⟨rfl, rfl⟩

theorem list_nil (w : World) :
    Calls Try.prog 33 #[.pointer none] w fun e w' => e = .returned (.slice none 0 0) ∧ w' = w := by
  go_enter Try.func33, Try.ntmps33
  go_wp2
  go_ret
  exact ⟨rfl, rfl⟩

theorem cnt_take_succ {ps : List Sp} {i : Nat} {p : Sp} (h : ps[i]? = some p) : cnt (ps.take (i + 1)) = cnt (ps.take i) + p.2 := by
  rw [List.take_add_one, h, cnt_append]; simp [cnt]

theorem count_nil (b : Nat) (a : Option Addr) (c : Nat) (w : World) (h : w.cell? ⟨b, 0, none⟩ = some (.slice a 0 c)) :
    Calls Try.prog 29 #[.pointer (some ⟨b, 0, none⟩)] w fun e w' => e = .returned (.int .i64 0) ∧ Below w.heap.size w w' := by
  go_enter Try.func29, Try.ntmps29
  go_wp2_with fail
  refine (list_some _ _ _ h).mono ?_; rintro e w1 ⟨rfl, hw1⟩; obtain rfl : w = w1 := hw1.symm
  go_wp2_with fail
  go_loop [3, 9] (fun nv iv => nv = .int .i64 0 ∧ iv = .int .i64 0) (fun _ _ => 0)
  case atStart => exact ⟨rfl, rfl⟩
  case round =>
    obtain ⟨rfl, rfl⟩ := hrel
    go_wp2
    go_ret
    exact ⟨rfl, Below.refl _ _⟩

theorem count_some (b : Nat) (ps : List Sp) (g o c : Nat) (w : World) (h : w.cell? ⟨b, 0, none⟩ = some (.slice (some ⟨g, o, none⟩) ps.length c)) (hg : g < w.heap.size) (hc : Hid (Cells w g o ps)) (hp : Hid (Canon ps)) (h64 : ps.length ≤ 64) :
    Calls Try.prog 29 #[.pointer (some ⟨b, 0, none⟩)] w fun e w' => e = .returned (.int .i64 (cnt ps)) ∧ Below w.heap.size w w' := by
  go_enter Try.func29, Try.ntmps29
  go_wp2_with fail
  refine (list_some _ _ _ h).mono ?_; rintro e w1 ⟨rfl, hw1⟩; obtain rfl : w = w1 := hw1.symm
  go_wp2_with fail
  go_loopw [3, 9] (fun nv iv wr => ∃ i : Nat, i ≤ ps.length ∧ nv = .int .i64 (cnt (ps.take i)) ∧ iv = .int .i64 i ∧ Below w.heap.size w wr) (fun _ iv _ => ps.length - (intOf iv).toNat)
  case atStart => exact ⟨0, Nat.zero_le _, rfl, rfl, Below.refl _ _⟩
  case round =>
    obtain ⟨i, hi, rfl, rfl, hB⟩ := hrel
    have i0 : (0 : Int) ≤ (i : Int) := Int.natCast_nonneg _
    by_cases hlt : i < ps.length
    · obtain ⟨⟨pa, pb⟩, hp'⟩ : ∃ p, ps[i]? = some p := ⟨ps[i]'hlt, by simp [hlt]⟩
      obtain ⟨d0, d1⟩ := (hc.out.below hB hg) i _ hp'
      have i1 : (i : Int) < (ps.length : Int) := by omega
      have hq := cnt_take_succ hp'
      obtain ⟨b1, b2⟩ := cnt_bound (canon_take hp.out i)
      obtain ⟨b3, b4⟩ := cnt_bound (canon_take hp.out (i + 1))
      simp only at d0 d1 hq
      have hgr : g < wr.heap.size := Nat.lt_of_lt_of_le hg hB.size
      rw [hq] at b3 b4
      have hq' : Hid (cnt (ps.take (i + 1)) = cnt (ps.take i) + pb) := hq
      clear hq hp'
      generalize cnt (ps.take i) = x at *
      go_wp2
      go_roundw
      case rel => exact ⟨i + 1, by omega, by rw [hq'.out], by go_num, (hB.alloc hB.size _)⟩
      case measure => simp [intOf]; omega
    · have hii : i = ps.length := by omega
      subst hii
      rw [List.take_length]
      go_wp2
      go_ret
      exact ⟨rfl, hB⟩

theorem canon_64 {ps : List Sp} (hc : Canon ps) : ps.length ≤ 64 := by have := canon_length hc; have := (cnt_bound hc).2; omega

theorem count_any {w : World} {b : Nat} {ps : List Sp} (h : RObj w b ps) (hc : Canon ps) :
    Calls Try.prog 29 #[.pointer (some ⟨b, 0, none⟩)] w fun e w' => e = .returned (.int .i64 (cnt ps)) ∧ Below w.heap.size w w' := by
  obtain ⟨v, hv, _, hr⟩ := h.cell
  by_cases e : ps = []
  · subst e
    obtain ⟨a, c, rfl⟩ := hr.nil
    exact count_nil b a c w hv
  · rcases hr with ⟨_, h0⟩ | ⟨g, o, cap, rfl, hg, hcs⟩
    · exact absurd h0 e
    exact count_some b ps g o cap w hv hg hcs hc (canon_64 hc)

/-- Integers of int64. -/
def Fits (l : List Sp) : Prop := ∀ p ∈ l, p.1 ≤ 9223372036854775807

theorem valid_t (f n : Int) (w : World) (h : Wh (f, n)) :
    Calls Try.prog 30 #[.agg #[.int .i64 f, .int .i64 n], .int .i64 64] w fun e w' => e = .returned (.bool true) ∧ Below w.heap.size w w' := by
  obtain ⟨h1, h2, h3⟩ := h
  have := valid_yes f n 64 w h1 h2 h3
  simp only at h3
  rwa [decide_eq_true (by omega)] at this

theorem Row.slice {w : World} {v : Value} {ps : List Sp} (h : Row w v ps) : ∃ a c, v = .slice a ps.length c := by
  rcases h with ⟨⟨a, c, rfl⟩, rfl⟩ | ⟨g, o, cap, rfl, _⟩
  · exact ⟨_, _, rfl⟩
  · exact ⟨_, _, rfl⟩

theorem Cells.but {x : Nat} {u : Value} {w w' : World} {g o : Nat} {ps : List Sp} (h : Cells w g o ps) (hg : g < w.heap.size) (hx : w.heap[x]? = some (.cells #[u] 70 (0, 0))) (hb : But x w w') : Cells w' g o ps := by
  rcases Row.but (.inr ⟨g, o, 0, rfl, hg, h⟩) hx hb with ⟨_, rfl⟩ | ⟨g', o', c', he, _, hc⟩
  · intro i p hp; simp at hp
  · cases he; exact hc

set_option maxRecDepth 100000 in
theorem put_some (b : Nat) (ps l : List Sp) (g o c : Nat) (w : World) (hr : RObj w b ps) (hp : Hid (Canon ps)) (hg : g < w.heap.size) (hc : Hid (Cells w g o l)) (hf : Hid (Fits l)) (hl : l.length ≤ 1000000) :
    Calls Try.prog 24 #[.pointer (some ⟨b, 0, none⟩), .slice (some ⟨g, o, none⟩) l.length c] w fun e w' => e = .returned (.int .i64 (cnt (putR ps l) - cnt ps)) ∧ RObj w' b (putR ps l) ∧ But b w w' := by
  obtain ⟨u0, hu0, _⟩ := id hr
  have hrh : Hid (RObj w b ps) := hr
  have hu0' : Hid (w.heap[b]? = some (.cells #[u0] 70 (0, 0))) := hu0
  obtain ⟨y1, y2⟩ := cnt_bound (put_spec l ps hp.out).1
  obtain ⟨x1, x2⟩ := cnt_bound hp.out
  clear hr hu0
  go_enter Try.func24, Try.ntmps24
  go_wp2_with fail
  refine (count_any hrh.out hp.out).mono ?_; rintro e w1 ⟨rfl, hb1⟩
  go_wp2_with fail
  go_loopw [14] (fun iv wr => ∃ (i : Nat) (cur : List Sp), i ≤ l.length ∧ iv = .int .i64 i ∧ RObj wr b cur ∧ Canon cur ∧ putR cur (l.drop i) = putR ps l ∧ But b w wr) (fun iv _ => l.length - (intOf iv).toNat)
  case atStart => exact ⟨0, ps, Nat.zero_le _, rfl, hrh.out.below hb1, hp.out, by simp, But.of hb1⟩
  case round =>
    obtain ⟨i, cur, hi, rfl, hrc, hcc, heq, hB⟩ := hrel
    have i0 : (0 : Int) ≤ (i : Int) := Int.natCast_nonneg _
    by_cases hlt : i < l.length
    · obtain ⟨⟨f, n⟩, hp'⟩ : ∃ p, l[i]? = some p := ⟨l[i]'hlt, by simp [hlt]⟩
      have hd : l.drop i = (f, n) :: l.drop (i + 1) := by rw [List.drop_eq_getElem_cons hlt]; congr 1; simp [hlt] at hp'; exact hp'
      have hfit := hf.out _ (List.mem_of_getElem? hp')
      obtain ⟨d0, d1⟩ := (hc.out.but hg hu0'.out hB) i _ hp'
      have i1 : (i : Int) < (l.length : Int) := by omega
      have hgr : g < wr.heap.size := Nat.lt_of_lt_of_le hg hB.size
      simp only at d0 d1 hfit
      have hrc' : Hid (RObj wr b cur) := hrc
      have hcc' : Hid (Canon cur) := hcc
      have hbl := hrc.lt
      by_cases hwh : Wh (f, n)
      · have hwh' : Hid (Wh (f, n)) := hwh
        have heq' : Hid (putR (withG cur false (f, n)) (l.drop (i + 1)) = putR ps l) := by rw [← heq, hd]; simp [Hid, putR, hwh]
        clear hrc hcc hwh hd heq hp'
        go_wp2_with fail
        refine (valid_t _ _ _ hwh'.out).mono ?_; rintro e w2 ⟨rfl, hb2⟩
        have hb2' : Below wr.heap.size wr w2 := ((Below.refl _ _).alloc (Nat.le_refl _) _).trans (hb2.mono (by simp))
        obtain ⟨e0, e1, e2, e3⟩ := (Box.new wr (.int .i64 f) (.int .i64 n) 41).below hb2 (by simp)
        have hr2 : Hid (RObj w2 b cur) := hrc'.out.below hb2'
        obtain ⟨v, hv, hvf, hvr⟩ := hr2.out.cell
        have hvr' : Hid (Row w2 v cur) := hvr
        have hz2 : wr.heap.size < w2.heap.size := by have := hb2.size; simp at this; omega
        have hB2 : But b w w2 := hB.trans (But.of hb2')
        have hbl2 : b < w2.heap.size := by omega
        clear d0 d1 hb2 hb2' hB hrc' hvr
        generalize wr.heap.size = O at *
        go_wp2_with fail
        go_region_with (go_at_call 31; refine (with_any (ps := cur) ?_ (f, n) hcc'.out hwh'.out).mono ?_; exact hvr'.out.below below_drw; rintro e w3 ⟨v3, rfl, hr3, ht3, hb3⟩; obtain ⟨a3, c3, rfl⟩ := hr3.slice; have hv3 : w3.cell? ⟨b, 0, none⟩ = some v := (by rw [(below_drew hb3).cell (p := ⟨b, 0, none⟩) hbl2]; exact hv); have hf3 : w3.frozen? ⟨b, 0, none⟩ = false := (by rw [(below_drew hb3).frozen (p := ⟨b, 0, none⟩) hbl2]; exact hvf))
        all_goals
          go_wp2
          go_roundw
          case rel => exact ⟨i + 1, withG cur false (f, n), by omega, by go_num, (hr2.out.below (below_drew hb3)).store hr3 ht3, (with_spec _ _ hcc'.out hwh'.out).1, heq'.out, (hB2.trans (But.of (below_drew hb3))).setCell 0 _⟩
          case measure => simp [intOf]; omega
      · have hwh' : Hid (¬ Wh (f, n)) := hwh
        have heq' : Hid (putR cur (l.drop (i + 1)) = putR ps l) := by rw [← heq, hd]; simp [Hid, putR, hwh]
        clear hrc hcc hwh hd heq hp'
        go_wp2_with fail
        refine (valid_no _ _ _ _ hfit hwh'.out).mono ?_; rintro e w2 ⟨rfl, hb2⟩
        have hb2' : Below wr.heap.size wr w2 := ((Below.refl _ _).alloc (Nat.le_refl _) _).trans (hb2.mono (by simp))
        go_wp2
        go_roundw
        case rel => exact ⟨i + 1, cur, by omega, by go_num, hrc'.out.below hb2', hcc'.out, heq'.out, hB.trans (But.of hb2')⟩
        case measure => simp [intOf]; omega
    · have hdr : l.drop i = [] := List.drop_eq_nil_of_le (by omega)
      have i1 : ¬ (i : Int) < (l.length : Int) := by omega
      rw [hdr] at heq
      have heq' : cur = putR ps l := heq
      subst heq'
      have hrc' : Hid (RObj wr b (putR ps l)) := hrc
      have hcc' : Hid (Canon (putR ps l)) := hcc
      clear hrc hcc heq hdr
      go_wp2_with fail
      refine (count_any hrc'.out hcc'.out).mono ?_; rintro e w2 ⟨rfl, hb2⟩
      go_wp2
      go_ret
      exact ⟨rfl, hrc'.out.below hb2, hB.trans (But.of hb2)⟩
end Go.Proofs.Ytnkfgefbiacagaa
