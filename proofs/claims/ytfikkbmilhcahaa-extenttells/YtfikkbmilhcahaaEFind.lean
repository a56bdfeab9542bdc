/-
  The contract of extent.Find, of every tidy list: the Id of a block, or that nothing is said of it.
-/
import Derived.Test.YtfikkbmilhcahaaELeaf
import Derived.Test.YtfikkbmilhcahaaBkERow
namespace Go.Proofs.Ytfikkbmilhcahaa
open Go.ChangeShapes Go.WideShapes Go.ChangeAt Go.RowKit

/-- An extent in a block of its own. -/
def Bx (w : World) (H : Nat) (x : Ex) : Prop := w.cell? ⟨H, 0, none⟩ = some (.int .i64 x.1) ∧ w.cell? ⟨H, 1, none⟩ = some (.int .i64 x.2.1) ∧ w.cell? ⟨H, 2, none⟩ = some (.int .i64 x.2.2) ∧ w.frozen? ⟨H, 0, none⟩ = false ∧ w.frozen? ⟨H, 1, none⟩ = false ∧ w.frozen? ⟨H, 2, none⟩ = false
theorem Bx.below {w w' : World} {H B : Nat} {x : Ex} (h : Bx w H x) (hb : Below B w w') (hz : H < B) : Bx w' H x := by
  obtain ⟨a, b, c, d, e, f⟩ := h
  exact ⟨by rw [hb.cell (p := ⟨H, 0, none⟩) hz]; exact a, by rw [hb.cell (p := ⟨H, 1, none⟩) hz]; exact b, by rw [hb.cell (p := ⟨H, 2, none⟩) hz]; exact c, by rw [hb.frozen (p := ⟨H, 0, none⟩) hz]; exact d, by rw [hb.frozen (p := ⟨H, 1, none⟩) hz]; exact e, by rw [hb.frozen (p := ⟨H, 2, none⟩) hz]; exact f⟩
theorem Bx.new (w : World) (x : Ex) (t : TypeId) : Bx (w.alloc (.cells #[.int .i64 x.1, .int .i64 x.2.1, .int .i64 x.2.2] t)) w.heap.size x := by
  refine ⟨?_, ?_, ?_, ?_, ?_, ?_⟩ <;> simp [go_sem]
theorem Bx.lt {w : World} {H : Nat} {x : Ex} (h : Bx w H x) : H < w.heap.size := by
  rcases Nat.lt_or_ge H w.heap.size with h1 | h1
  · exact h1
  · have := h.1
    simp [World.cell?, h1] at this

theorem has_any (f n k : Int) (w : World) (h : Wh (f, n)) :
    Calls Try.prog 37 #[.agg #[.int .i64 f, .int .i64 n], .int .i64 k] w fun e w' => e = .returned (.bool (decide (f ≤ k ∧ k < f + n))) ∧ Below w.heap.size w w' := by
  obtain ⟨h1, h2, h3⟩ := h
  by_cases h4 : f ≤ k
  · refine (has_yes f n k w h1 h2 h3 h4).mono fun e w' ⟨he, hb⟩ => ⟨by rw [he]; simp [h4], hb⟩
  · refine (has_below f n k w h1 h2 h3 h4).mono fun e w' ⟨he, hb⟩ => ⟨by rw [he]; simp [h4], hb⟩

theorem drop_at {α : Type} {l : List α} {i : Nat} {x : α} (h : l[i]? = some x) : l.drop i = x :: l.drop (i + 1) := by
  obtain ⟨hl, rfl⟩ := List.getElem?_eq_some_iff.1 h
  exact List.drop_eq_getElem_cons hl
def findV (l : List Ex) (k : Int) : Int := if 0 ≤ val l k then val l k else 0

theorem find_nil (a : Option Addr) (c : Nat) (k : Int) (w : World) :
    Calls Try.prog 12 #[.slice a 0 c, .int .i64 k] w fun e w' => e = .returned (.tuple #[.int .i64 (findV [] k), .bool (decide (0 ≤ val [] k))]) ∧ Below w.heap.size w w' := by
  go_enter Try.func12, Try.ntmps12
  go_wp2_with fail
  go_loopw [10] (fun iv wr => iv = .int .i64 0 ∧ wr = w) (fun _ _ => 0)
  case atStart => exact ⟨rfl, rfl⟩
  case round =>
    obtain ⟨rfl, rfl⟩ := hrel
    go_wp2
    exact bodyPost_ret (v := .tuple #[.int .i64 0, .bool false]) (by simp [results, Try.results12, go_sem]) rfl ⟨rfl, Below.refl _ _⟩
theorem find_some (l : List Ex) (g o c : Nat) (k : Int) (w : World) (hg : g < w.heap.size) (hl : l.length ≤ 1000) (h : Hid (BkE.Cells w g o l)) (ht : Hid (Ti l)) :
    Calls Try.prog 12 #[.slice (some ⟨g, o, none⟩) l.length c, .int .i64 k] w fun e w' => e = .returned (.tuple #[.int .i64 (findV l k), .bool (decide (0 ≤ val l k))]) ∧ Below w.heap.size w w' := by
  go_enter Try.func12, Try.ntmps12
  go_wp2_with fail
  go_loopw [10] (fun iv wr => ∃ i : Nat, i ≤ l.length ∧ iv = .int .i64 i ∧ val (l.drop i) k = val l k ∧ Below w.heap.size w wr) (fun iv _ => l.length - (intOf iv).toNat)
  case atStart => exact ⟨0, Nat.zero_le _, rfl, rfl, Below.refl _ _⟩
  case round =>
    obtain ⟨i, hi, rfl, hv, hB⟩ := hrel
    have i0 : (0 : Int) ≤ (i : Int) := Int.natCast_nonneg _
    by_cases hlt : i < l.length
    · obtain ⟨⟨f, n, d⟩, hp⟩ : ∃ p, l[i]? = some p := ⟨l[i]'hlt, by simp [hlt]⟩
      have ha := h.out i _ hp
      have hal := (tp_al ht.out _ (List.mem_of_getElem? hp)).1
      have d0 : wr.cell? ⟨g, o + i * 3, none⟩ = some (.int .i64 f) := by rw [hB.cell (p := ⟨g, o + i * 3, none⟩) hg]; exact ha.1
      have d1 : wr.cell? ⟨g, o + i * 3 + 1, none⟩ = some (.int .i64 n) := by rw [hB.cell (p := ⟨g, o + i * 3 + 1, none⟩) hg]; exact ha.2.1
      have d2 : wr.cell? ⟨g, o + i * 3 + 2, none⟩ = some (.int .i64 d) := by rw [hB.cell (p := ⟨g, o + i * 3 + 2, none⟩) hg]; exact ha.2.2
      have i1 : (i : Int) < (l.length : Int) := by omega
      have hdr := drop_at hp
      rw [hdr] at hv
      simp only [val] at hv
      have hv' := Hid.intro hv
      have hal' := Hid.intro hal
      clear ha hp hv hdr hal
      by_cases hk : f ≤ k ∧ k < f + n
      · have hk' : decide (f ≤ k ∧ k < f + n) = true := by simp [hk]
        have hk0 : 0 ≤ k ∧ k ≤ 64 := by have := hal'.out; unfold Al at this; simp only at this; omega
        have hvk : idA (f, n, d) k = val l k := by rw [← hv'.out, if_pos hk]
        have hpos : 0 ≤ val l k := by rw [← hvk]; exact idA_low hal'.out hk.1
        have hfin : Hid (findV l k = idA (f, n, d) k ∧ decide (0 ≤ val l k) = true) := ⟨by unfold findV; rw [if_pos hpos, hvk], by simp [hpos]⟩
        have hkk := Hid.intro hk0
        clear hk hk0 hvk hpos
        go_wp2_with fail
        refine (spanOf_any _ _ _ _).mono ?_; rintro e w1 ⟨rfl, hb⟩
        go_wp2_with fail
        refine (has_any _ _ _ _ (al_wh hal'.out)).mono ?_; rintro e w2 ⟨rfl, hb2⟩
        have hb12 := below_step hb hb2
        obtain ⟨hc, _⟩ := bcell hb12
        have hB2 : Below w.heap.size w w2 := (hB.alloc hB.size _).trans (hb12.mono (by have := hB.size; simp; omega))
        clear hb hb2 hB hb12
        go_wp2_with fail
        refine (idOf_any _ _ _ _ _ hal'.out hkk.out.1 hkk.out.2).mono ?_; rintro e w3 ⟨rfl, hb3⟩
        have hB3 := hB2.trans (hb3.mono (by have := hB2.size; omega))
        clear hb3 hB2
        go_wp2
        exact bodyPost_ret (v := .tuple #[.int .i64 (idA (f, n, d) k), .bool true]) (by simp [results, Try.results12, go_sem]) rfl ⟨by rw [hfin.out.1, hfin.out.2], hB3⟩
      · have hk' : decide (f ≤ k ∧ k < f + n) = false := by simp [hk]
        have hvk : Hid (val (l.drop (i + 1)) k = val l k) := Hid.intro (by rw [← hv'.out, if_neg hk])
        clear hk
        go_wp2_with fail
        refine (spanOf_any _ _ _ _).mono ?_; rintro e w1 ⟨rfl, hb⟩
        go_wp2_with fail
        refine (has_any _ _ _ _ (al_wh hal'.out)).mono ?_; rintro e w2 ⟨rfl, hb2⟩
        have hb12 := below_step hb hb2
        have hB2 : Below w.heap.size w w2 := (hB.alloc hB.size _).trans (hb12.mono (by have := hB.size; simp; omega))
        clear hb hb2 hB hb12
        go_wp2
        go_roundw
        case rel => exact ⟨i + 1, by omega, by go_num, hvk.out, hB2⟩
        case measure => simp [intOf]; omega
    · have hi' : i = l.length := by omega
      subst hi'
      have hfin : Hid (findV l k = 0 ∧ decide (0 ≤ val l k) = false) := Hid.intro (by
        rw [List.drop_length] at hv
        have : val l k = -1 := hv.symm
        exact ⟨by unfold findV; rw [this]; rfl, by rw [this]; rfl⟩)
      clear hv
      go_wp2
      exact bodyPost_ret (v := .tuple #[.int .i64 0, .bool false]) (by simp [results, Try.results12, go_sem]) rfl ⟨by rw [hfin.out.1, hfin.out.2], hB⟩
/-- Find, of every tidy list. -/
theorem find_any {w : World} {v : Value} {l : List Ex} (h : BkE.Row w v l) (ht : Ti l) (hl : l.length ≤ 1000) (k : Int) :
    Calls Try.prog 12 #[v, .int .i64 k] w fun e w' => e = .returned (.tuple #[.int .i64 (findV l k), .bool (decide (0 ≤ val l k))]) ∧ Below w.heap.size w w' := by
  rcases h with ⟨⟨a, c, rfl⟩, rfl⟩ | ⟨g, o, cap, rfl, hg, hc⟩
  · exact find_nil a c k w
  · exact find_some l g o cap k w hg hl hc ht
end Go.Proofs.Ytfikkbmilhcahaa
