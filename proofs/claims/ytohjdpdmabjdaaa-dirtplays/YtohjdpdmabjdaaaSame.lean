/-
  The contracts of slices.Equal and slices.Clone (of spans), of runs' Same and All.
-/
import Derived.Test.YtohjdpdmabjdaaaPuts
import Derived.Lib.LazyBuf
namespace Go.Proofs.Ytohjdpdmabjdaaa
open Go.ChangeShapes Go.WideShapes Go.ChangeAt Go.RowKit
attribute [local go_sem ↓] Go.wp_at_zero Go.wp_at_succ

theorem equal_len (a b : Option Addr) (n m c d : Nat) (w : World) (h : (n : Int) ≠ (m : Int)) :
    Calls Try.prog 69 #[.slice a n c, .slice b m d] w fun e w' => e = .returned (.bool false) ∧ Below w.heap.size w w' := by
  have h' : n ≠ m := by omega
  go_enter Try.func69, Try.ntmps69
  go_wp2
  go_ret
  exact ⟨rfl, Below.refl _ _⟩

theorem equal_nil (a b : Option Addr) (c d : Nat) (w : World) :
    Calls Try.prog 69 #[.slice a 0 c, .slice b 0 d] w fun e w' => e = .returned (.bool true) ∧ Below w.heap.size w w' := by
  go_enter Try.func69, Try.ntmps69
  go_wp2_with fail
  go_loop [13] (fun iv => iv = .int .i64 0) (fun _ => 0)
  case atStart => rfl
  case round =>
    subst hrel
    go_wp2
    go_ret
    exact ⟨rfl, Below.refl _ _⟩

theorem take_same {ps qs : List Sp} {i : Nat} {p : Sp} (h : ps.take i = qs.take i) (hp : ps[i]? = some p) (hq : qs[i]? = some p) : ps.take (i + 1) = qs.take (i + 1) := by
  rw [List.take_add_one, List.take_add_one, h, hp, hq]

theorem equal_some (ps qs : List Sp) (n g o c g' o' c' : Nat) (w : World) (hn : ps.length = n) (hn' : qs.length = n) (hl : n ≤ 1000000) (hg : g < w.heap.size) (hg' : g' < w.heap.size)
    (h : Hid (Cells w g o ps)) (h' : Hid (Cells w g' o' qs)) :
    Calls Try.prog 69 #[.slice (some ⟨g, o, none⟩) n c, .slice (some ⟨g', o', none⟩) n c'] w fun e w' => e = .returned (.bool (decide (ps = qs))) ∧ Below w.heap.size w w' := by
  go_enter Try.func69, Try.ntmps69
  go_wp2_with fail
  go_loopw [13] (fun iv wr => ∃ i : Nat, i ≤ n ∧ iv = .int .i64 i ∧ ps.take i = qs.take i ∧ Below w.heap.size w wr) (fun iv _ => n - (intOf iv).toNat)
  case atStart => exact ⟨0, Nat.zero_le _, rfl, rfl, Below.refl _ _⟩
  case round =>
    obtain ⟨i, hi, rfl, ht, hB⟩ := hrel
    have i0 : (0 : Int) ≤ (i : Int) := Int.natCast_nonneg _
    by_cases hlt : i < n
    · obtain ⟨⟨pa, pb⟩, hp⟩ : ∃ p, ps[i]? = some p := ⟨ps[i]'(by omega), by simp [hn, hlt]⟩
      obtain ⟨⟨qa, qb⟩, hq⟩ : ∃ p, qs[i]? = some p := ⟨qs[i]'(by omega), by simp [hn', hlt]⟩
      obtain ⟨d0, d1⟩ := (h.out.below hB hg) i _ hp
      obtain ⟨e0, e1⟩ := (h'.out.below hB hg') i _ hq
      have i1 : (i : Int) < (n : Int) := by omega
      simp only at d0 d1 e0 e1
      by_cases ea : pa = qa
      · by_cases eb : pb = qb
        · subst ea; subst eb
          have ht' : Hid (ps.take (i + 1) = qs.take (i + 1)) := take_same ht hp hq
          clear ht hp hq
          go_wp2_with fail
          go_quiet (fail)
          go_wp2
          go_roundw
          case rel => exact ⟨i + 1, by omega, by go_num, ht'.out, hB.trans ⟨rfl, rfl, rfl, Nat.le_refl _, fun _ _ => rfl⟩⟩
          case measure => simp [intOf]; omega
        · subst ea
          have hne : Hid (decide (ps = qs) = false) := (show decide (ps = qs) = false from decide_eq_false fun e => by subst e; rw [hp] at hq; cases hq; exact eb rfl)
          clear ht hp hq
          go_wp2_with fail
          go_quiet (fail)
          go_wp2
          go_ret
          exact ⟨by rw [hne.out]; rfl, hB.trans ⟨rfl, rfl, rfl, Nat.le_refl _, fun _ _ => rfl⟩⟩
      · have hne : Hid (decide (ps = qs) = false) := (show decide (ps = qs) = false from decide_eq_false fun e => by subst e; rw [hp] at hq; cases hq; exact ea rfl)
        clear ht hp hq
        go_wp2_with fail
        go_quiet (fail)
        go_wp2
        go_ret
        exact ⟨by rw [hne.out]; rfl, hB.trans ⟨rfl, rfl, rfl, Nat.le_refl _, fun _ _ => rfl⟩⟩
    · have hii : i = n := by omega
      have hne : Hid (decide (ps = qs) = true) := (show decide (ps = qs) = true from decide_eq_true (by rw [List.take_of_length_le (by omega), List.take_of_length_le (by omega)] at ht; exact ht))
      go_wp2
      go_ret
      exact ⟨by rw [hne.out]; rfl, hB⟩

theorem equal_any {w : World} {v v' : Value} {ps qs : List Sp} (h : Row w v ps) (h' : Row w v' qs) (hl : ps.length ≤ 1000000) :
    Calls Try.prog 69 #[v, v'] w fun e w' => e = .returned (.bool (decide (ps = qs))) ∧ Below w.heap.size w w' := by
  by_cases hlen : ps.length = qs.length
  · by_cases e : ps = []
    · subst e
      have e' : qs = [] := List.length_eq_zero_iff.1 hlen.symm
      subst e'
      obtain ⟨a, c, rfl⟩ := h.nil
      obtain ⟨a', c', rfl⟩ := h'.nil
      simpa using equal_nil a a' c c' w
    · rcases h with ⟨_, h0⟩ | ⟨g, o, cap, rfl, hg, hc⟩
      · exact absurd h0 e
      rcases h' with ⟨_, h0⟩ | ⟨g', o', cap', rfl, hg', hc'⟩
      · subst h0; exact absurd (List.length_eq_zero_iff.1 hlen) e
      rw [← hlen]
      exact equal_some ps qs ps.length g o cap g' o' cap' w rfl hlen.symm hl hg hg' hc hc'
  · obtain ⟨a, c, rfl⟩ := h.slice
    obtain ⟨a', c', rfl⟩ := h'.slice
    rw [decide_eq_false (fun e => hlen (by rw [e]))]
    exact equal_len a a' _ _ c c' w (by omega)

theorem same_any {w : World} {b b' : Nat} {ps qs : List Sp} (h : RObj w b ps) (h' : RObj w b' qs) (hl : ps.length ≤ 1000000) :
    Calls Try.prog 29 #[.pointer (some ⟨b, 0, none⟩), .pointer (some ⟨b', 0, none⟩)] w fun e w' => e = .returned (.bool (decide (ps = qs))) ∧ Below w.heap.size w w' := by
  obtain ⟨v, hv, _, hr⟩ := h.cell
  obtain ⟨v', hv', _, hr'⟩ := h'.cell
  have hr1 : Hid (Row w v ps) := hr
  have hr2 : Hid (Row w v' qs) := hr'
  clear h h' hr hr'
  go_enter Try.func29, Try.ntmps29
  go_wp2_with fail
  refine (list_some _ _ _ hv).mono ?_; rintro e w1 ⟨rfl, hw1⟩; obtain rfl : w = w1 := hw1.symm
  go_wp2_with fail
  refine (list_some _ _ _ hv').mono ?_; rintro e w1 ⟨rfl, hw2⟩; obtain rfl : w = w1 := hw2.symm
  go_wp2_with fail
  refine (equal_any hr1.out hr2.out hl).mono ?_; rintro e w1 ⟨rfl, hb⟩
  go_wp2
  go_ret
  exact ⟨rfl, hb⟩

theorem eql22 (w : World) (a : Option Addr) (l c : Nat) : (binOp .eql 44 (.slice a l c) (.slice none 0 0)).run Try.prog w = .ok (.bool a.isNone) w := run_eql_slice_nil w 44 39 a l c Try.underlying44
attribute [local go_sem] eql22

theorem clone_nil (c : Nat) (w : World) :
    Calls Try.prog 35 #[.slice none 0 c] w fun e w' => e = .returned (.slice none 0 0) ∧ Below w.heap.size w w' := by
  go_enter Try.func35, Try.ntmps35
  go_wp2
  go_ret
  exact ⟨rfl, Below.refl _ _⟩

theorem own_empty (w : World) : (w.alloc (.cells #[] 39)).ownsRow w.heap.size 39 2 (.slice (some ⟨w.heap.size, 0, none⟩) 0 0) 0 [] :=
  ⟨rfl, .inr ⟨w.heap.size, 0, #[], rfl, Nat.le_refl _, by have := heap_alloc_new w (.cells #[] 39); simpa using this, Nat.le_refl _, Nat.zero_le _, rfl, rfl⟩⟩

set_option maxRecDepth 100000 in
theorem clone_some (ps : List Sp) (g o c : Nat) (w : World) (h0 : 0 < ps.length) (hl : ps.length ≤ 1000000) (h : Hid (Cells w g o ps)) (hg : g < w.heap.size) :
    Calls Try.prog 35 #[.slice (some ⟨g, o, none⟩) ps.length c] w fun e w' => ∃ v, e = .returned v ∧ w'.ownsRow w.heap.size 39 2 v ps.length (spansV ps) ∧ Below w.heap.size w w' := by
  obtain ⟨i0, hi0, hz0', hz1', hz2'⟩ := info_parts Try.info39
  have hba : Below w.heap.size w (w.alloc (.cells #[] 39)) := (Below.refl _ _).alloc (Nat.le_refl _) _
  have hcs : Hid (Cells (w.alloc (.cells #[] 39)) g o ps) := h.out.below hba hg
  go_enter Try.func35, Try.ntmps35
  go_wp2_with (at_builtin; refine wpList_append_lies _ rfl _ _ 44 rfl w.heap.size 39 i0 (.agg #[.int .i64 0, .int .i64 0]) 2 16 Try.underlying44 hi0 hz0' hz1' hz2' rfl (by decide) _ 0 [] rfl (own_empty w) ⟨g, o, none⟩ ps.length c (spansV ps) rfl (spansV_length ps) (row_news hcs.out) (spansV_one ps) h0 (by unfold maxLen; omega) (by omega) (by simp) (w.heap.size + 1) (by simp) ?_; intro g5 cap5 w5 hown5 hgrow5 hat5 hlt5)
  go_ret
  exact ⟨_, rfl, by simpa using hown5, hba.grown hgrow5 (by simp) (fun j hj => by cases hj; exact Nat.le_refl _)⟩

theorem clone_zero (a : Addr) (c : Nat) (w : World) :
    Calls Try.prog 35 #[.slice (some a) 0 c] w fun e w' => ∃ v, e = .returned v ∧ w'.ownsRow w.heap.size 39 2 v 0 [] ∧ Below w.heap.size w w' := by
  go_enter Try.func35, Try.ntmps35
  go_wp2
  go_ret
  exact ⟨_, rfl, own_empty w, (Below.refl _ _).alloc (Nat.le_refl _) _⟩

theorem clone_any {w : World} {v : Value} {ps : List Sp} (h : Row w v ps) (hl : ps.length ≤ 1000000) :
    Calls Try.prog 35 #[v] w fun e w' => ∃ v, e = .returned v ∧ w'.ownsRow w.heap.size 39 2 v ps.length (spansV ps) ∧ Below w.heap.size w w' := by
  rcases h with ⟨⟨a, c, rfl⟩, rfl⟩ | ⟨g, o, cap, rfl, hg, hc⟩
  · cases a with
    | none => exact (clone_nil c w).mono fun e w' ⟨he, hb⟩ => ⟨_, he, World.ownsRow_nil _ _ _ _, hb⟩
    | some a => exact clone_zero a c w
  · by_cases e : ps = []
    · subst e; exact clone_zero _ cap w
    · exact clone_some ps g o cap w (List.length_pos_iff.2 e) hl hc hg

theorem all_any {w : World} {b : Nat} {ps : List Sp} (h : RObj w b ps) (hl : ps.length ≤ 1000000) :
    Calls Try.prog 16 #[.pointer (some ⟨b, 0, none⟩)] w fun e w' => ∃ v, e = .returned v ∧ w'.ownsRow w.heap.size 39 2 v ps.length (spansV ps) ∧ Below w.heap.size w w' := by
  obtain ⟨v, hv, _, hr⟩ := h.cell
  have hr1 : Hid (Row w v ps) := hr
  clear h hr
  go_enter Try.func16, Try.ntmps16
  go_wp2_with fail
  refine (list_some _ _ _ hv).mono ?_; rintro e w1 ⟨rfl, hw1⟩; obtain rfl : w = w1 := hw1.symm
  go_wp2_with fail
  refine (clone_any hr1.out hl).mono ?_; rintro e w1 ⟨v', rfl, ho, hb⟩
  go_wp2
  go_ret
  exact ⟨_, rfl, ho, hb⟩
end Go.Proofs.Ytohjdpdmabjdaaa
