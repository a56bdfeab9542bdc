/-
  The contracts of plate's Wet and bitsOf.
-/
import Derived.Test.YtjjfdkgnagfbcaaPSmall
namespace Go.Proofs.Ytjjfdkgnagfbcaa
open Go.ChangeShapes Go.WideShapes Go.ChangeAt Go.RowKit
attribute [local go_sem ↓] Go.wp_at_zero Go.wp_at_succ
attribute [local go_sem] str_size str_extract str_append str_toList

theorem Try.info3 : (Try.prog.info? 3).map (fun i => (i.zero, i.size, i.bytes)) = some (some (.int .i64 0), 1, 8) := by kernel_rfl
set_option maxRecDepth 100000 in
theorem wet_any {w : World} {p gl gf : Nat} {M : MS} (h : PO w p gl gf M) :
    Calls Try.prog 20 #[.pointer (some ⟨p, 0, none⟩)] w fun e w' => ∃ v, e = .returned v ∧ w'.ownsRow w.heap.size 3 1 v (keptL M.W M.L.length).length (intsV (keptL M.W M.L.length)) ∧ Below w.heap.size w w' := by
  obtain ⟨i0, hi0, hz0', hz1', hz2'⟩ := info_parts Try.info3
  have hn := Hid.intro (pages_any h)
  have hB60 := h.ok.n60
  have hWl := h.ok.hW
  have hS := Hid.intro h
  have hW' := Hid.intro (rfl : M.W = M.W)
  clear h
  generalize hB : M.L.length = B at *
  generalize hK : M.W = K at *
  have hK' := Hid.intro hK
  clear hB hK
  go_enter Try.func20, Try.ntmps20
  go_wp2_with fail
  refine hn.out.mono ?_; rintro e w3 ⟨rfl, rfl⟩
  go_wp2_with fail
  go_loopw [3, 7] (fun v kv wr => ∃ k : Nat, k ≤ B ∧ kv = .int .i64 k ∧ wr.ownsRow w3.heap.size 3 1 v (keptL K k).length (intsV (keptL K k)) ∧ Below w3.heap.size w3 wr) (fun _ kv _ => B - (intOf kv).toNat)
  case atStart => exact ⟨0, Nat.zero_le _, rfl, World.ownsRow_nil _ _ _ _, Below.refl _ _⟩
  case round =>
    obtain ⟨k, hk, rfl, hown, hB⟩ := hrel
    have k0 : (0 : Int) ≤ (k : Int) := Int.natCast_nonneg _
    have hown' := Hid.intro hown
    have hB' := Hid.intro hB
    clear hown hB
    by_cases hlt : k < B
    · have i1 : (k : Int) < (B : Int) := by omega
      have hc4 : wr.cell? ⟨p, 4, none⟩ = some (.int .u64 (K : Int)) := by
        obtain ⟨vl, vf, hb, _, _⟩ := (hS.out.below hB'.out).mem
        have := (cells_of hb).c4
        rw [hK'.out] at this; exact this
      have hh := Hid.intro (bhas_any k hc4 hWl (by omega))
      have hsz := hB'.out.size
      clear hc4
      cases hb : K.testBit k with
      | true =>
        rw [hb] at hh
        have hs2 : Hid (keptL K (k + 1) = keptL K k ++ [k]) := Hid.intro (by rw [keptL_succ, hb]; rfl)
        have hlen := keptL_length K k
        clear hb
        go_wp2_with fail
        refine hh.out.mono ?_; rintro e w4 ⟨rfl, rfl⟩
        go_wp2_with (at_builtin; refine wpList_append_lies _ rfl _ _ 38 rfl w3.heap.size 3 i0 (.int .i64 0) 1 8 Try.underlying38 hi0 hz0' hz1' hz2' rfl (by decide) _ (keptL K k).length (intsV (keptL K k)) rfl (hown'.out.alloc _) ⟨w4.heap.size, 0, none⟩ 1 1 [.int .i64 (k : Int)] rfl rfl (World.news_of_block (cs := #[.int .i64 (k : Int)]) (t := 3) (fr := (0, 0)) (heap_alloc_new w4 _)) (by simp [Value.oneCell']) (by decide) (by unfold maxLen; omega) (by omega) (by simp; omega) (w4.heap.size + 1) (by simp) ?_; intro g5 cap5 w5 hown5 hgrow5 hat5 hlt5)
        go_roundw
        case rel =>
          refine ⟨k + 1, by omega, by go_num, by rw [hs2.out]; simpa [intsV] using hown5, ?_⟩
          exact (hB'.out.alloc hB'.out.size _).grown hgrow5 (by have := hB'.out.size; simp; omega) (fun j hj => (hown'.out.lt j hj).1)
        case measure => simp [intOf]; omega
      | false =>
        rw [hb] at hh
        have hs2 : Hid (keptL K (k + 1) = keptL K k) := Hid.intro (by rw [keptL_succ, hb]; simp)
        clear hb
        go_wp2_with fail
        refine hh.out.mono ?_; rintro e w4 ⟨rfl, rfl⟩
        go_wp2
        go_roundw
        case rel => exact ⟨k + 1, by omega, by go_num, by rw [hs2.out]; exact hown'.out, hB'.out⟩
        case measure => simp [intOf]; omega
    · have hkm : k = B := by omega
      subst hkm
      have i1 : ¬ (k : Int) < (k : Int) := by omega
      go_wp2
      go_ret
      exact ⟨_, rfl, hown'.out, hB'.out⟩
theorem wet_nil (w : World) : Calls Try.prog 20 #[.pointer none] w fun e w' => e = .returned (.slice none 0 0) ∧ w' = w := by
  go_enter Try.func20, Try.ntmps20
  go_wp2_with fail
  refine (pages_nil w).mono ?_; rintro e w3 ⟨rfl, rfl⟩
  go_wp2_with fail
  go_loopw [3, 7] (fun v kv wr => v = .slice none 0 0 ∧ kv = .int .i64 0 ∧ wr = w3) (fun _ _ _ => 0)
  case atStart => exact ⟨rfl, rfl, rfl⟩
  case round =>
    obtain ⟨rfl, rfl, rfl⟩ := hrel
    go_wp2
    go_ret
    exact ⟨rfl, rfl⟩

/-! ### A list of bools that is handed in -/
def BoolsAt (w : World) (v : Value) (l : List Bool) : Prop :=
  (l = [] ∧ ∃ a c, v = .slice a 0 c) ∨ ∃ g o cap, v = .slice (some ⟨g, o, none⟩) l.length cap ∧ g < w.heap.size ∧ l.length ≤ cap ∧ ∀ (i : Nat) (b : Bool), l[i]? = some b → w.cell? ⟨g, o + i, none⟩ = some (.bool b)
theorem BoolsAt.below {w w' : World} {v : Value} {l : List Bool} (h : BoolsAt w v l) (hb : Below w.heap.size w w') : BoolsAt w' v l := by
  rcases h with h | ⟨g, o, cap, hv, hg, hc, hl⟩
  · exact .inl h
  · exact .inr ⟨g, o, cap, hv, Nat.lt_of_lt_of_le hg hb.size, hc, fun i b hi => by rw [hb.cell (p := ⟨g, o + i, none⟩) hg]; exact hl i b hi⟩
theorem BoolsAt.form {w : World} {v : Value} {l : List Bool} (h : BoolsAt w v l) : ∃ a c, v = .slice a l.length c := by
  rcases h with ⟨rfl, a, c, rfl⟩ | ⟨g, o, cap, rfl, _⟩
  · exact ⟨_, _, rfl⟩
  · exact ⟨_, _, rfl⟩
theorem BoolsAt.at_ {w : World} {a : Option Addr} {n c : Nat} {l : List Bool} (h : BoolsAt w (.slice a n c) l) {i : Nat} (hi : i < l.length) : ∃ g o, a = some ⟨g, o, none⟩ ∧ g < w.heap.size ∧ l.length ≤ c ∧ w.cell? ⟨g, o + i, none⟩ = some (.bool (l.getD i false)) := by
  rcases h with ⟨rfl, _⟩ | ⟨g, o, cap, he, hg, hc, hl⟩
  · simp at hi
  · cases he
    exact ⟨g, o, rfl, hg, hc, by rw [hl i (l[i]) (List.getElem?_eq_getElem hi)]; simp [List.getD, hi]⟩
theorem wv_new (w : World) : (w.alloc (.cells (wv 0).toArray 57)).heap[w.heap.size]? = some (.cells (wv 0).toArray 57 (0, 0)) := heap_alloc_new w _
/-- A word's set in a block of its own. -/
def WB (w : World) (b W : Nat) : Prop := w.heap[b]? = some (.cells (wv W).toArray 57 (0, 0))
theorem WB.cell {w : World} {b W : Nat} (h : WB w b W) : w.cell? ⟨b, 0, none⟩ = some (.int .u64 (W : Int)) ∧ w.frozen? ⟨b, 0, none⟩ = false := by
  unfold WB at h
  exact ⟨by simp [World.cell?, h, wv], by simp [World.frozen?, h]⟩
theorem WB.range {w : World} {b W : Nat} (h : WB w b W) : w.rangeAt b 0 (wv W) ∧ w.there b 0 4 := by
  have e1 := World.rangeAt_of_block h 0 4
  refine ⟨by simpa [wv] using e1, fun j hj => ⟨?_, by simp [World.frozen?, show w.heap[b]? = _ from h]⟩⟩
  have hb : w.heap[b]? = _ := h
  simp [World.cell?, hb, wv]; omega
theorem WB.set {w : World} {b W : Nat} (h : WB w b W) (V : Nat) : WB (w.setCell ⟨b, 0, none⟩ (.int .u64 (V : Int))) b V := by
  have hb : w.heap[b]? = _ := h
  show (w.setCell _ _).heap[b]? = _
  simp [World.setCell, Array.getElem?_modify, hb, wv]
end Go.Proofs.Ytjjfdkgnagfbcaa
