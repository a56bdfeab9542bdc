/-
  The contracts of emulsionbook's Same (of two lists that are alike), copy and mark; nothing that was there is written.
-/
import Derived.Test.YtgigpohfkppplaaBkIRow
namespace Go.Proofs.Ytgigpohfkppplaa.BkI
open Go.ChangeShapes Go.WideShapes Go.ChangeAt Go.RowKit


theorem same_nil (a b : Option Addr) (c d : Nat) (w : World) :
    Calls Try.prog 24 #[.slice a 0 c, .slice b 0 d] w fun e w' => e = .returned (.bool true) ∧ Below w.heap.size w w' := by
  go_enter Try.func24, Try.ntmps24
  go_wp2_with fail
  go_loop [5] (fun iv => iv = .int .i64 0) (fun _ => 0)
  case atStart => rfl
  case round =>
    subst hrel
    go_wp2
    go_ret
    exact ⟨rfl, Below.refl _ _⟩
set_option maxRecDepth 100000 in
theorem same_some (ps : List Sp) (g o c g' o' c' : Nat) (w : World) (hl : ps.length ≤ 1000000) (hg : g < w.heap.size) (hg' : g' < w.heap.size)
    (h : Hid (Cells w g o ps)) (h' : Hid (Cells w g' o' ps)) :
    Calls Try.prog 24 #[.slice (some ⟨g, o, none⟩) ps.length c, .slice (some ⟨g', o', none⟩) ps.length c'] w fun e w' => e = .returned (.bool true) ∧ Below w.heap.size w w' := by
  go_enter Try.func24, Try.ntmps24
  go_wp2_with fail
  go_loopw [5] (fun iv wr => ∃ i : Nat, i ≤ ps.length ∧ iv = .int .i64 i ∧ Below w.heap.size w wr) (fun iv _ => ps.length - (intOf iv).toNat)
  case atStart => exact ⟨0, Nat.zero_le _, rfl, Below.refl _ _⟩
  case round =>
    obtain ⟨i, hi, rfl, hB⟩ := hrel
    have i0 : (0 : Int) ≤ (i : Int) := Int.natCast_nonneg _
    by_cases hlt : i < ps.length
    · obtain ⟨pa, hp⟩ : ∃ p, ps[i]? = some p := ⟨ps[i]'hlt, by simp [hlt]⟩
      have ha := h.out i _ hp
      have hb := h'.out i _ hp
      have d0 : wr.cell? ⟨g, o + i, none⟩ = some (.int .i64 pa) := by rw [hB.cell (p := ⟨g, o + i, none⟩) hg]; exact ha
      have e0 : wr.cell? ⟨g', o' + i, none⟩ = some (.int .i64 pa) := by rw [hB.cell (p := ⟨g', o' + i, none⟩) hg']; exact hb
      have i1 : (i : Int) < (ps.length : Int) := by omega
      clear ha hb hp
      have hB' := Hid.intro hB
      clear hB
      go_wp2_with fail
      go_big_region
      all_goals
        go_wp2
        go_roundw
        case rel => exact ⟨i + 1, by omega, by go_num, hB'.out.drew⟩
        case measure => simp [intOf]; omega
    · go_wp2
      go_ret
      exact ⟨rfl, hB⟩
theorem same_rows {w : World} {v v' : Value} {ps : List Sp} (h : Row w v ps) (h' : Row w v' ps) (hl : ps.length ≤ 1000000) :
    Calls Try.prog 24 #[v, v'] w fun e w' => e = .returned (.bool true) ∧ Below w.heap.size w w' := by
  by_cases e : ps = []
  · subst e
    obtain ⟨a, c, rfl⟩ := h.nil
    obtain ⟨a', c', rfl⟩ := h'.nil
    exact same_nil _ _ _ _ _
  · rcases h with ⟨_, h0⟩ | ⟨g, o, cap, rfl, hg, hc⟩
    · exact absurd h0 e
    rcases h' with ⟨_, h0⟩ | ⟨g', o', cap', rfl, hg', hc'⟩
    · exact absurd h0 e
    exact same_some ps g o cap g' o' cap' w hl hg hg' hc hc'

theorem copy_nil (a : Option Addr) (c : Nat) (w : World) :
    Calls Try.prog 29 #[.slice a 0 c] w fun e w' => e = .returned (.slice none 0 0) ∧ Below w.heap.size w w' := by
  go_enter Try.func29, Try.ntmps29
  cases a with
  | none =>
    go_wp2
    go_ret
    exact ⟨rfl, Below.refl _ _⟩
  | some a =>
    go_wp2
    go_ret
    exact ⟨rfl, Below.refl _ _⟩
theorem copy_some (ps : List Sp) (g o c : Nat) (w : World) (h0 : 0 < ps.length) (hl : ps.length ≤ 1000000)
    (h : Hid (Cells w g o ps)) :
    Calls Try.prog 29 #[.slice (some ⟨g, o, none⟩) ps.length c] w fun e w' => ∃ v, e = .returned v ∧ w'.ownsRow w.heap.size 3 1 v ps.length (itemsV ps) ∧ Below w.heap.size w w' := by
  obtain ⟨i0, hi0, hz0', hz1', hz2'⟩ := info_parts Try.infoE
  go_enter Try.func29, Try.ntmps29
  go_wp2_with (at_builtin; refine wpList_append_lies _ rfl _ _ 33 rfl w.heap.size 3 i0 (.int .i64 0) 1 8 Try.underlying33 hi0 hz0' hz1' hz2' rfl (by decide) (.slice none 0 0) 0 [] rfl (World.ownsRow_nil _ _ _ _) ⟨g, o, none⟩ ps.length c (itemsV ps) rfl (itemsV_length ps) (row_news h.out) (itemsV_one ps) h0 (by unfold maxLen; omega) (by omega) (Nat.le_refl _) w.heap.size rfl ?_; intro g5 cap5 w5 hown5 hgrow5 hat5 hlt5)
  go_ret
  exact ⟨_, rfl, by simpa using hown5, below_app0 hgrow5⟩
theorem copy_rows {w : World} {v : Value} {ps : List Sp} (h : Row w v ps) (hl : ps.length ≤ 1000000) :
    Calls Try.prog 29 #[v] w fun e w' => ∃ v, e = .returned v ∧ w'.ownsRow w.heap.size 3 1 v ps.length (itemsV ps) ∧ Below w.heap.size w w' := by
  rcases h with ⟨⟨a, c, rfl⟩, rfl⟩ | ⟨g, o, cap, rfl, hg, hc⟩
  · exact (copy_nil a c w).mono fun e w' ⟨he, hb⟩ => ⟨_, he, World.ownsRow_nil _ _ _ _, hb⟩
  · by_cases e : ps = []
    · subst e; exact (copy_nil _ _ w).mono fun e w' ⟨he, hb⟩ => ⟨_, he, World.ownsRow_nil _ _ _ _, hb⟩
    · exact copy_some ps g o cap w (List.length_pos_iff.2 e) hl hc

/-- The mark of list number i at place f. -/
def mark (i f : Int) : Sp := -1000000 * i - (f) - 7
/-- The marks of list number i, from place 'from' on, k of them. -/
def marks (i from' : Int) (k : Nat) : List Sp := (List.range k).map fun (j : Nat) => mark i (from' + (j : Int))
theorem marks_length (i f : Int) (k : Nat) : (marks i f k).length = k := by simp [marks]
theorem marks_succ (i f : Int) (k : Nat) : marks i f (k + 1) = marks i f k ++ [mark i (f + (k : Int))] := by simp [marks, List.range_succ]
theorem mark_cells (i f : Int) : itemsV [mark i f] = [.int .i64 (-1000000 * i - f - 7)] := rfl

set_option maxRecDepth 100000 in
theorem bmark_any (i f : Int) (n : Nat) (w : World) (hi : 0 ≤ i) (hi2 : i ≤ 1000) (hf : 0 ≤ f) (hf2 : f ≤ 1000000) (hn : n ≤ 1000000) :
    Calls Try.prog 74 #[.int .i64 i, .int .i64 f, .int .i64 n] w fun e w' => ∃ v, e = .returned v ∧ w'.ownsRow w.heap.size 3 1 v n (itemsV (marks i f n)) ∧ Below w.heap.size w w' := by
  obtain ⟨i0, hi0, hz0', hz1', hz2'⟩ := info_parts Try.infoE
  go_enter Try.func74, Try.ntmps74
  go_wp2_with fail
  go_loopw [7, 8] (fun v kv wr => ∃ k : Nat, k ≤ n ∧ kv = .int .i64 (f + k) ∧ wr.ownsRow w.heap.size 3 1 v k (itemsV (marks i f k)) ∧ Below w.heap.size w wr) (fun _ kv _ => n - (intOf kv - f).toNat)
  case atStart => exact ⟨0, Nat.zero_le _, by simp, World.ownsRow_nil _ _ _ _, Below.refl _ _⟩
  case round =>
    obtain ⟨k, hk, rfl, hown, hB⟩ := hrel
    have hk0 : (0 : Int) ≤ (k : Int) := Int.natCast_nonneg _
    have hkn : (k : Int) ≤ (n : Int) := by omega
    have hn2 : (n : Int) ≤ 1000000 := by omega
    by_cases hlt : k < n
    · have hlt2 : f + (k : Int) < f + (n : Int) := by omega
      go_wp2_with (at_builtin; refine wpList_append_lies _ rfl _ _ 33 rfl w.heap.size 3 i0 (.int .i64 0) 1 8 Try.underlying33 hi0 hz0' hz1' hz2' rfl (by decide) _ k (itemsV (marks i f k)) rfl (hown.alloc _) ⟨wr.heap.size, 0, none⟩ 1 1 [.int .i64 (-1000000 * i - (f + (k : Int)) - 7)] rfl rfl (World.news_of_block (cs := #[.int .i64 (-1000000 * i - (f + (k : Int)) - 7)]) (t := 3) (fr := (0, 0)) (heap_alloc_new wr _)) (by simp [Value.oneCell']) (by decide) (by unfold maxLen; omega) (by omega) (by have := hB.size; simp; omega) (wr.heap.size + 1) (by simp) ?_; intro g5 cap5 w5 hown5 hgrow5 hat5 hlt5)
      go_roundw
      case rel =>
        refine ⟨k + 1, by omega, by go_num, by rw [marks_succ, itemsV_append, mark_cells]; exact hown5, ?_⟩
        exact (hB.alloc hB.size _).grown hgrow5 (by have := hB.size; simp; omega) (fun j hj => (hown.lt j hj).1)
      case measure => simp [intOf]; omega
    · have hlt2 : ¬ f + (k : Int) < f + (n : Int) := by omega
      have hkn' : k = n := by omega
      subst hkn'
      go_wp2
      go_ret
      exact ⟨_, rfl, hown, hB⟩
end Go.Proofs.Ytgigpohfkppplaa.BkI
