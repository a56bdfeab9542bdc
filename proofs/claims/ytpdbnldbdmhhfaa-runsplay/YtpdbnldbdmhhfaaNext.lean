/-
  The contract of runs' Next.
-/
import Derived.Test.YtpdbnldbdmhhfaaCuts
namespace Go.Proofs.Ytpdbnldbdmhhfaa
open Go.ChangeShapes Go.WideShapes Go.ChangeAt Go.RowKit
attribute [local go_sem ↓] Go.wp_at_zero Go.wp_at_succ

/-- The first blocks from one on. -/
def nextR : List Sp → Int → Option Sp
  | [], _ => none
  | p :: l, x => if x < p.1 + p.2 then some (if x < p.1 then p.1 else x, p.1 + p.2 - (if x < p.1 then p.1 else x)) else nextR l x

def nextV : Option Sp → Value
  | none => .tuple #[.agg #[.int .i64 0, .int .i64 0], .bool false]
  | some q => .tuple #[.agg #[.int .i64 q.1, .int .i64 q.2], .bool true]

set_option maxRecDepth 100000 in
theorem next_any {w : World} {b : Nat} {ps : List Sp} (h : RObj w b ps) (hc : Canon ps) (x : Int) :
    Calls Try.prog 21 #[.pointer (some ⟨b, 0, none⟩), .int .i64 x] w fun e w' => e = .returned (nextV (nextR ps x)) ∧ Below w.heap.size w w' := by
  obtain ⟨v, hv, _, hr⟩ := h.cell
  have hbl := h.lt
  obtain ⟨a, c, rfl⟩ := hr.slice
  have h64 := canon_64 hc
  have hw' : Hid (∀ p ∈ ps, Wh p) := canon_whole hc
  have hR : Hid (Row w (.slice a ps.length c) ps) := hr
  obtain ⟨R, hRes⟩ : ∃ R, Hid (nextR ps x = R) := ⟨_, rfl⟩
  rw [hRes.out]
  have hv' : Hid (w.cell? ⟨b, 0, none⟩ = some (.slice a ps.length c)) := hv
  have hba : Below w.heap.size w (w.alloc (.cells #[.int .i64 0, .int .i64 0] 49)) := (Below.refl _ _).alloc (Nat.le_refl _) _
  clear h hc hr hv
  go_enter Try.func21, Try.ntmps21
  go_wp2_with fail
  refine (list_some b (.slice a ps.length c) _ (by rw [hba.cell (p := ⟨b, 0, none⟩) hbl]; exact hv'.out)).mono ?_; rintro e w1 ⟨rfl, hw1⟩; subst hw1
  go_wp2_with fail
  go_loopw [13] (fun iv wr => ∃ i : Nat, i ≤ ps.length ∧ iv = .int .i64 i ∧ nextR (ps.drop i) x = R ∧ Box wr w.heap.size (.int .i64 0) (.int .i64 0) ∧ Below w.heap.size w wr) (fun iv _ => ps.length - (intOf iv).toNat)
  case atStart => exact ⟨0, Nat.zero_le _, rfl, hRes.out, Box.new _ _ _ _, hba⟩
  case round =>
    obtain ⟨i, hi, rfl, hres, ⟨r0, r1, z0, z1⟩, hB⟩ := hrel
    have i0' : (0 : Int) ≤ (i : Int) := Int.natCast_nonneg _
    have hzz : w.heap.size < wr.heap.size := Box.lt ⟨r0, r1, z0, z1⟩
    by_cases hlt : i < ps.length
    · rcases hR.out with ⟨_, h0⟩ | ⟨g, o, cap, he, hg, hcs⟩
      · subst h0; simp at hlt
      cases he
      obtain ⟨⟨p, q⟩, hp⟩ : ∃ p, ps[i]? = some p := ⟨ps[i]'hlt, by simp [hlt]⟩
      have hd : ps.drop i = (p, q) :: ps.drop (i + 1) := by rw [List.drop_eq_getElem_cons hlt]; congr 1; simp [hlt] at hp; exact hp
      have hwp := hw'.out _ (List.mem_of_getElem? hp)
      have hwp' : Hid (Wh (p, q)) := hwp
      obtain ⟨d0, d1⟩ := (hcs.below hB hg) i _ hp
      have i1 : (i : Int) < (ps.length : Int) := by omega
      have hgr : g < wr.heap.size := Nat.lt_of_lt_of_le hg hB.size
      simp only at d0 d1
      obtain ⟨p0, p1, p2⟩ := hwp
      simp only at p0 p1 p2
      rw [hd] at hres
      unfold nextR at hres
      simp only at hres
      have hbx : Hid (Box wr w.heap.size (.int .i64 0) (.int .i64 0)) := ⟨r0, r1, z0, z1⟩
      by_cases hlt2 : x < p + q
      · rw [if_pos hlt2] at hres
        have hres' : Hid (some (if x < p then p else x, p + q - (if x < p then p else x)) = R) := hres
        clear hres hd hp hcs r0 r1 z0 z1
        go_wp2_with fail
        refine (end_yes _ _ _ hwp'.out).mono ?_; rintro e w2 ⟨rfl, hb2⟩
        have hba2 : Below wr.heap.size wr (wr.alloc (.cells #[.int .i64 p, .int .i64 q] 49)) := (Below.refl _ _).alloc (Nat.le_refl _) _
        have hb2' : Below wr.heap.size wr w2 := hba2.trans (hb2.mono (by simp))
        obtain ⟨a0, a1, a2, a3⟩ := hbx.out.below hb2' hzz
        obtain ⟨e0, e1, e2, e3⟩ := (Box.new wr (.int .i64 p) (.int .i64 q) 49).below hb2 (by simp)
        have hz2 : wr.heap.size < w2.heap.size := by have := hb2.size; simp at this; omega
        have hB2 := below_step hB hb2'
        clear hb2 hb2' hba2 hbx hB d0 d1
        generalize wr.heap.size = O at *
        by_cases hxp : x < p
        · have hres2 : Hid (R = some (p, p + q - p)) := Hid.intro (by rw [← hres'.out, if_pos hxp])
          clear hres'
          go_wp2
          exact bodyPost_ret (v := .tuple #[.agg #[.int .i64 p, .int .i64 (p + q - p)], .bool true]) (by simp [results, Try.results21, go_sem, a0, a1]) rfl ⟨by rw [hres2.out]; rfl, (hB2.setCell (Nat.le_refl _) _).setCell (Nat.le_refl _) _⟩
        · have hres2 : Hid (R = some (x, p + q - x)) := Hid.intro (by rw [← hres'.out, if_neg hxp])
          have hx0 : p ≤ x := by omega
          clear hres'
          go_wp2
          all_goals exact bodyPost_ret (v := .tuple #[.agg #[.int .i64 x, .int .i64 (p + q - x)], .bool true]) (by simp [results, Try.results21, go_sem, a0, a1]) rfl ⟨by rw [hres2.out]; rfl, (hB2.setCell (Nat.le_refl _) _).setCell (Nat.le_refl _) _⟩
      · rw [if_neg hlt2] at hres
        have hres' : Hid (nextR (ps.drop (i + 1)) x = R) := hres
        clear hres hd hp hcs r0 r1 z0 z1
        go_wp2_with fail
        refine (end_yes _ _ _ hwp'.out).mono ?_; rintro e w2 ⟨rfl, hb2⟩
        have hba2 : Below wr.heap.size wr (wr.alloc (.cells #[.int .i64 p, .int .i64 q] 49)) := (Below.refl _ _).alloc (Nat.le_refl _) _
        have hb2' : Below wr.heap.size wr w2 := hba2.trans (hb2.mono (by simp))
        go_wp2
        go_roundw
        case rel => exact ⟨i + 1, by omega, by go_num, hres'.out, hbx.out.below hb2' hzz, below_step hB hb2'⟩
        case measure => simp [intOf]; omega
    · have hd : ps.drop i = [] := List.drop_eq_nil_of_le (by omega)
      have i1 : ¬ (i : Int) < (ps.length : Int) := by omega
      rw [hd] at hres
      subst hres
      go_wp2
      exact bodyPost_ret (v := .tuple #[.agg #[.int .i64 0, .int .i64 0], .bool false]) (by simp [results, Try.results21, go_sem, r0, r1]) rfl ⟨rfl, (hB.setCell (Nat.le_refl _) _).setCell (Nat.le_refl _) _⟩
end Go.Proofs.Ytpdbnldbdmhhfaa
