/-
  The contracts of the document's falls, Power, Snag.
-/
import Derived.Test.YtjjfdkgnagfbcaaRA
namespace Go.Proofs.Ytjjfdkgnagfbcaa
open Go.ChangeShapes Go.WideShapes Go.ChangeAt Go.RowKit
attribute [local go_sem ↓] Go.wp_at_zero Go.wp_at_succ
attribute [local go_sem] str_size str_extract str_append str_toList

theorem RM.ne {w : World} {F : Nat → Prop} {r : Nat} {vN vX vW vK : Value} {off arm : Bool} {n : Int} {L X : List (List UInt8)} {wl kl : List Bool} (h : RM w F r vN vX vW vK off arm n L X wl kl) :
    (∀ g, vN.ownBlock = some g → g ≠ r) ∧ (∀ g, vX.ownBlock = some g → g ≠ r) ∧ (∀ g, vW.ownBlock = some g → g ≠ r) ∧ (∀ g, vK.ownBlock = some g → g ≠ r) := by
  have hb := h.box
  refine ⟨fun g hg e => ?_, fun g hg e => ?_, fun g hg e => ?_, fun g hg e => ?_⟩
  · obtain ⟨cur, q⟩ := own_blk h.sN.1 hg; rw [e, hb] at q; simp at q
  · obtain ⟨cur, q⟩ := own_blk h.sX.1 hg; rw [e, hb] at q; simp at q
  · obtain ⟨cur, q⟩ := own_blk h.sW.1 hg; rw [e, hb] at q; simp at q
  · obtain ⟨cur, q⟩ := own_blk h.sK.1 hg; rw [e, hb] at q; simp at q
/-- The box anew, all else as it was. -/
theorem RM.boxed {w w' : World} {F : Nat → Prop} {r : Nat} {vN vX vW vK : Value} {off arm off' arm' : Bool} {n n' : Int} {L X : List (List UInt8)} {wl kl : List Bool} (h : RM w F r vN vX vW vK off arm n L X wl kl)
    (hb : w'.heap[r]? = some (.cells (rC vN vX vW vK off' arm' n').toArray 62 (0, 0))) (ho : ∀ k, k ≠ r → w'.heap[k]? = w.heap[k]?) : RM w' F r vN vX vW vK off' arm' n' L X wl kl where
  box := hb
  sN := h.sN.keep (fun g hg => ho g (h.ne.1 g hg)) fun _ h => h
  sX := h.sX.keep (fun g hg => ho g (h.ne.2.1 g hg)) fun _ h => h
  sW := h.sW.keep (fun g hg => ho g (h.ne.2.2.1 g hg)) fun _ h => h
  sK := h.sK.keep (fun g hg => ho g (h.ne.2.2.2 g hg)) fun _ h => h
  nX := h.nX
  nK := h.nK
  fr := h.fr
theorem rbox {w : World} {r : Nat} {cs : List Value} {o : Nat} {u : Value} (h : w.heap[r]? = some (.cells cs.toArray 62 (0, 0))) : (w.setCell ⟨r, o, none⟩ u).heap[r]? = some (.cells (cs.set o u).toArray 62 (0, 0)) := by
  simp [World.setCell, Array.getElem?_modify, h]
/-- A write that does not find that the power falls. -/
def mStep (M : MS) : MS := if 0 < M.left then { M with left := M.left - 1 } else M
theorem mStep_L (M : MS) : (mStep M).L = M.L ∧ (mStep M).X = M.X ∧ (mStep M).W = M.W ∧ (mStep M).on = M.on ∧ (mStep M).K = M.K := by
  unfold mStep; split <;> exact ⟨rfl, rfl, rfl, rfl, rfl⟩
theorem wetB_step (M : MS) : wetB (mStep M) = wetB M := by unfold wetB; rw [(mStep_L M).1, (mStep_L M).2.2.1]
set_option maxRecDepth 100000 in
theorem falls_any {w : World} {F : Nat → Prop} {r : Nat} {M : MS} (h : RO w F r M) (h0 : -1 ≤ M.left) : Calls Try.prog 46 #[.pointer (some ⟨r, 0, none⟩)] w fun e w' => e = .returned (.bool (decide (M.left = 0))) ∧ RO w' F r (mStep M) ∧ Keep F w w' := by
  have hO := Hid.intro h
  obtain ⟨vN, vX, vW, vK, off, arm, n, kl, hm, hs⟩ := h
  obtain ⟨_, _, _, _, c4, c5, _, fz⟩ := rcells hm.box
  have f5 := fz 5
  have hm' := Hid.intro hm
  have hs' := Hid.intro hs
  have harm := hs.harm
  have harmed := Hid.intro hs.armed
  have hn0 := hs.n0
  have hn1 := hs.n1
  clear hm hs fz
  cases ha : arm with
  | true =>
    subst ha
    have h1 : 0 ≤ M.left := by simpa using harm.symm
    obtain ⟨e1, e2⟩ := harmed.out rfl
    subst e1
    by_cases hz : M.left = 0
    · rw [decide_eq_true hz]
      have hst : Hid (mStep M = M) := Hid.intro (by unfold mStep; rw [if_neg (by omega)])
      rw [hz] at c5
      clear harm hn0 hn1 h1
      go_enter Try.func46, Try.ntmps46
      go_wp2
      go_ret
      exact ⟨rfl, by rw [hst.out]; exact hO.out, Keep.refl _⟩
    · rw [decide_eq_false hz]
      have hst : Hid (mStep M = { M with left := M.left - 1 }) := Hid.intro (by unfold mStep; rw [if_pos (by omega)])
      have hwr : IntKind.i64.wrap (M.left - 1) = M.left - 1 := by rw [IntKind.wrap_i64]; omega
      have hne : (M.left == 0) = false := beq_false_of_ne hz
      have hb := Hid.intro (show RO (w.setCell ⟨r, 5, none⟩ (.int .i64 (M.left - 1))) F r { M with left := M.left - 1 } from
        ⟨vN, vX, vW, vK, off, true, M.left - 1, kl, hm'.out.boxed (rbox hm'.out.box) (fun k hk => Below.heap_setCell _ _ _ _ hk),
          ⟨hs'.out.hoff, by simp only; rw [decide_eq_true (by omega)], fun _ => ⟨rfl, e2⟩, hs'.out.k60, by omega, by omega⟩⟩)
      have hfr := hm'.out.fr
      clear harm hn0 hn1 h1
      generalize M.left = lf at *
      go_enter Try.func46, Try.ntmps46
      go_wp2
      go_ret
      exact ⟨rfl, by rw [hst.out]; exact hb.out, Keep.set hfr⟩
  | false =>
    subst ha
    have h1 : M.left = -1 := by
      have : ¬ 0 ≤ M.left := by simpa using harm.symm
      omega
    have hz : ¬ M.left = 0 := by omega
    rw [decide_eq_false hz]
    have hst : Hid (mStep M = M) := Hid.intro (by unfold mStep; rw [if_neg (by omega)])
    have hr : -9223372036854775808 ≤ IntKind.i64.wrap (n - 1) ∧ IntKind.i64.wrap (n - 1) ≤ 9223372036854775807 := by rw [IntKind.wrap_i64]; omega
    have hb := Hid.intro (show RO (w.setCell ⟨r, 5, none⟩ (.int .i64 (IntKind.i64.wrap (n - 1)))) F r M from
      ⟨vN, vX, vW, vK, off, false, IntKind.i64.wrap (n - 1), kl, hm'.out.boxed (rbox hm'.out.box) (fun k hk => Below.heap_setCell _ _ _ _ hk),
        ⟨hs'.out.hoff, hs'.out.harm, fun h => (by cases h), hs'.out.k60, hr.1, hr.2⟩⟩)
    have hfr := hm'.out.fr
    generalize hw : IntKind.i64.wrap (n - 1) = nw at *
    clear harm hn0 hn1 h1 hz hr
    go_enter Try.func46, Try.ntmps46
    go_wp2
    go_ret
    exact ⟨rfl, by rw [hst.out]; exact hb.out, Keep.set hfr⟩
set_option maxRecDepth 100000 in
theorem rpower_any {w : World} {F : Nat → Prop} {r : Nat} {M : MS} (h : RO w F r M) : Calls Try.prog 39 #[.pointer (some ⟨r, 0, none⟩)] w fun e w' => e = .returned (.bool (!M.on)) ∧ RO w' F r (mPower M) ∧ Keep F w w' := by
  obtain ⟨vN, vX, vW, vK, off, arm, n, kl, hm, hs⟩ := h
  obtain ⟨_, _, _, c3, _, _, _, fz⟩ := rcells hm.box
  have f3 := fz 3
  have ho := hs.hoff
  subst ho
  have hfr := hm.fr
  have hb := Hid.intro (show RO (w.setCell ⟨r, 3, none⟩ (.bool false)) F r (mPower M) from
    ⟨vN, vX, vW, vK, false, arm, n, kl, hm.boxed (rbox hm.box) (fun k hk => Below.heap_setCell _ _ _ _ hk), ⟨rfl, hs.harm, hs.armed, hs.k60, hs.n0, hs.n1⟩⟩)
  clear hm hs fz
  generalize (!M.on) = of at *
  go_enter Try.func39, Try.ntmps39
  go_wp2
  go_ret
  exact ⟨rfl, hb.out, Keep.set hfr⟩

theorem Try.info4b : (Try.prog.info? 4).map (fun i => (i.zero, i.size, i.bytes)) = some (some (.bool false), 1, 1) := by kernel_rfl
theorem bools_news {w : World} {g o c : Nat} {l : List Bool} (h : BoolsAt w (.slice (some ⟨g, o, none⟩) l.length c) l) (h0 : 0 < l.length) : ∀ (j : Nat) u, (l.map Value.bool)[j]? = some u → w.cell? ((⟨g, o, none⟩ : Addr).add j) = some u := by
  intro j u hu
  rw [List.getElem?_map] at hu
  obtain ⟨x, hx, rfl⟩ := Option.map_eq_some_iff.1 hu
  rcases h with ⟨rfl, _⟩ | ⟨g', o', cap, he, _, _, hc⟩
  · simp at h0
  · cases he
    rw [Addr.add_mid]
    exact hc j x hx
theorem bools_one (l : List Bool) : ∀ u ∈ l.map Value.bool, u.oneCell' = true := by
  intro u hu
  obtain ⟨x, _, rfl⟩ := List.mem_map.1 hu
  rfl
theorem br_nil (w : World) (F : Nat → Prop) : BR w F (.slice none 0 0) [] := ⟨World.ownsRow_nil _ _ _ _, fun g hg => by cases hg⟩
theorem snag_state {M : MS} {off arm : Bool} {n0 n : Int} {kl l : List Bool} (hs : RS M off arm n0 kl) (hl : l.length ≤ 60) (h0 : -9223372036854775808 ≤ n) (h1 : n ≤ 9223372036854775807) : RS (mSnag M n l) off (decide (0 ≤ n)) n l := by
  unfold mSnag
  split
  · rename_i h
    exact ⟨hs.hoff, by simp [h], fun _ => ⟨rfl, rfl⟩, hl, h0, h1⟩
  · rename_i h
    exact ⟨hs.hoff, by simp only; rw [decide_eq_false h]; rfl, fun h' => absurd (by simpa using h') h, hl, h0, h1⟩
theorem snag_same (M : MS) (n : Int) (l : List Bool) : (mSnag M n l).L = M.L ∧ (mSnag M n l).X = M.X ∧ wetB (mSnag M n l) = wetB M := by
  unfold mSnag; split <;> exact ⟨rfl, rfl, rfl⟩
set_option maxRecDepth 100000 in
theorem rsnag_any {w : World} {F : Nat → Prop} {r : Nat} {M : MS} {v : Value} {l : List Bool} (h : RO w F r M) (n : Int) (h0 : -9223372036854775808 ≤ n) (h1 : n ≤ 9223372036854775807) (hv : BoolsAt w v l) (hl : l.length ≤ 60) :
    Calls Try.prog 40 #[.pointer (some ⟨r, 0, none⟩), .int .i64 n, v] w fun e w' => e = .returned (.tuple #[]) ∧ RO w' (Fr F w) r (mSnag M n l) ∧ Keep F w w' := by
  obtain ⟨i0, hi0, hz0', hz1', hz2'⟩ := info_parts Try.info4b
  obtain ⟨vN, vX, vW, vK, off, arm, n0, kl, hm, hs⟩ := h
  obtain ⟨_, _, _, _, c4, c5, c6, fz⟩ := rcells hm.box
  have f4 := fz 4
  have f5 := fz 5
  have f6 := fz 6
  have hst := Hid.intro (snag_state hs hl h0 h1)
  obtain ⟨s1, s2, s3⟩ := snag_same M n l
  have hfr := hm.fr
  have hm' := Hid.intro hm
  have hrl := lt_of_block hm.box
  obtain ⟨a, c, rfl⟩ := hv.form
  -- what the three stores make of it, in whatever world the list has come to
  have key : Hid (∀ (w1 : World) (u : Value), w1.heap[r]? = w.heap[r]? → (∀ k, k < w.heap.size → w1.heap[k]? = w.heap[k]?) → Below w.heap.size w w1 → BR w1 (Fr F w) u l → (∀ g, u.ownBlock = some g → w.heap.size ≤ g) →
      RO (((w1.setCell ⟨r, 4, none⟩ (.bool (decide (0 ≤ n)))).setCell ⟨r, 5, none⟩ (.int .i64 n)).setCell ⟨r, 6, none⟩ u) (Fr F w) r (mSnag M n l) ∧ Keep F w (((w1.setCell ⟨r, 4, none⟩ (.bool (decide (0 ≤ n)))).setCell ⟨r, 5, none⟩ (.int .i64 n)).setCell ⟨r, 6, none⟩ u)) := Hid.intro (by
    intro w1 u e1 e2 hb hu hug
    have hbx : w1.heap[r]? = some (.cells (rC vN vX vW vK off arm n0).toArray 62 (0, 0)) := by rw [e1]; exact hm.box
    have b1 := rbox (o := 4) (u := .bool (decide (0 ≤ n))) hbx
    have b2 := rbox (o := 5) (u := .int .i64 n) b1
    have b3 := rbox (o := 6) (u := u) b2
    have oth : ∀ k, k ≠ r → (((w1.setCell ⟨r, 4, none⟩ (.bool (decide (0 ≤ n)))).setCell ⟨r, 5, none⟩ (.int .i64 n)).setCell ⟨r, 6, none⟩ u).heap[k]? = w1.heap[k]? := fun k hk => by
      rw [Below.heap_setCell _ _ _ _ hk, Below.heap_setCell _ _ _ _ hk, Below.heap_setCell _ _ _ _ hk]
    have old : ∀ (v : Value) (g : Nat), v.ownBlock = some g → g < w.heap.size → g ≠ r → (((w1.setCell ⟨r, 4, none⟩ (.bool (decide (0 ≤ n)))).setCell ⟨r, 5, none⟩ (.int .i64 n)).setCell ⟨r, 6, none⟩ u).heap[g]? = w.heap[g]? := fun v g _ hl hne => by
      rw [oth g hne, e2 g hl]
    refine ⟨⟨vN, vX, vW, u, off, decide (0 ≤ n), n, l, ⟨b3, ?_, ?_, ?_, ?_, hm.nX, fun g hg e => ?_, .inl hm.fr⟩, hst.out⟩, ?_⟩
    · rw [s1]; exact hm.sN.keep (fun g hg => old _ g hg (own_lt hm.sN.1 hg) (hm.ne.1 g hg)) fun _ h => .inl h
    · rw [s2]; exact hm.sX.keep (fun g hg => old _ g hg (own_lt hm.sX.1 hg) (hm.ne.2.1 g hg)) fun _ h => .inl h
    · rw [s3]; exact hm.sW.keep (fun g hg => old _ g hg (own_lt hm.sW.1 hg) (hm.ne.2.2.1 g hg)) fun _ h => .inl h
    · exact hu.keep (fun g hg => oth g (by have := hug g hg; omega)) fun _ h => h
    · have := own_lt hm.sW.1 hg; have := hug g e; omega
    · exact (Keep.of hb).then ((Keep.set hm.fr).then ((Keep.set hm.fr).then (Keep.set hm.fr))))
  clear hm hs hst s1 s2 s3 hm' fz
  by_cases hl0 : 0 < l.length
  · have hv2 : ∃ g o, a = some ⟨g, o, none⟩ := by
      rcases hv with ⟨rfl, _⟩ | ⟨g, o, cap, he, _⟩
      · simp at hl0
      · cases he; exact ⟨g, o, rfl⟩
    obtain ⟨g, o, rfl⟩ := hv2
    have hnews := Hid.intro (bools_news hv hl0)
    have key2 : Hid (∀ (w5 : World) (g5 cap5 : Nat), w5.ownsRow 0 4 1 (.slice (some ⟨g5, 0, none⟩) (0 + l.length) cap5) (0 + l.length) ([] ++ l.map Value.bool) → w.grownBy w5 none → g5 = w.heap.size →
        (RO (((w5.setCell ⟨r, 4, none⟩ (.bool (decide (0 ≤ n)))).setCell ⟨r, 5, none⟩ (.int .i64 n)).setCell ⟨r, 6, none⟩ (.slice (some ⟨g5, 0, none⟩) (0 + l.length) cap5)) (Fr F w) r (mSnag M n l) ∧ Keep F w (((w5.setCell ⟨r, 4, none⟩ (.bool (decide (0 ≤ n)))).setCell ⟨r, 5, none⟩ (.int .i64 n)).setCell ⟨r, 6, none⟩ (.slice (some ⟨g5, 0, none⟩) (0 + l.length) cap5))) ∧
        (w5.cell? ⟨r, 4, none⟩ = some (.bool arm) ∧ w5.cell? ⟨r, 5, none⟩ = some (.int .i64 n0) ∧ w5.cell? ⟨r, 6, none⟩ = some vK ∧ w5.frozen? ⟨r, 4, none⟩ = false ∧ w5.frozen? ⟨r, 5, none⟩ = false ∧ w5.frozen? ⟨r, 6, none⟩ = false)) := Hid.intro (by
      intro w5 g5 cap5 ho hg hge
      have hbr := hg.block r hrl (by simp)
      refine ⟨key.out w5 _ hbr (fun k hk => hg.block k hk (by simp)) ((Below.refl _ _).grown hg (Nat.le_refl _) (fun k hk => by cases hk)) ⟨by simpa using ho, fun g h => by cases h; exact .inr (Nat.le_of_eq hge.symm)⟩ (fun g h => by cases h; exact Nat.le_of_eq hge.symm), ?_⟩
      exact ⟨by rw [World.cell?_of_block (w := w) (a := ⟨r, 4, none⟩) hbr]; exact c4, by rw [World.cell?_of_block (w := w) (a := ⟨r, 5, none⟩) hbr]; exact c5, by rw [World.cell?_of_block (w := w) (a := ⟨r, 6, none⟩) hbr]; exact c6,
        by rw [World.frozen?_of_block (w := w) (a := ⟨r, 4, none⟩) hbr]; exact f4, by rw [World.frozen?_of_block (w := w) (a := ⟨r, 5, none⟩) hbr]; exact f5, by rw [World.frozen?_of_block (w := w) (a := ⟨r, 6, none⟩) hbr]; exact f6⟩)
    clear hv key
    go_enter Try.func40, Try.ntmps40
    go_wp2_with (at_builtin; refine wpList_append_lies _ rfl _ _ 30 rfl 0 4 i0 (.bool false) 1 1 Try.underlying30 hi0 hz0' hz1' hz2' rfl (by decide) _ 0 [] rfl (World.ownsRow_nil _ _ _ _) ⟨g, o, none⟩ l.length c (l.map Value.bool) rfl (by simp) hnews.out (bools_one l) hl0 (by unfold maxLen; omega) (by omega) (Nat.zero_le _) w.heap.size rfl ?_; intro g5 cap5 w5 hown5 hgrow5 hat5 hlt5; have hh := Hid.intro (key2.out w5 g5 cap5 hown5 hgrow5 (hat5.elim (fun h => nomatch (show (none : Option Nat) = some g5 from h)) id)); obtain ⟨k4, k5, k6, q4, q5, q6⟩ := hh.out.2; clear hown5 hgrow5 hat5 hlt5 c4 c5 c6 f4 f5 f6)
    go_end0
    exact ⟨rfl, by have := hh.out.1; rw [Nat.zero_add] at this; exact this⟩
  · have hle : l = [] := List.length_eq_zero_iff.1 (by omega)
    subst hle
    have hh := Hid.intro (key.out w (.slice none 0 0) rfl (fun _ _ => rfl) (Below.refl _ _) (br_nil _ _) (fun g hg => by cases hg))
    clear hv key
    cases a with
    | none =>
      go_enter Try.func40, Try.ntmps40
      go_wp2
      go_end0
      exact ⟨rfl, hh.out⟩
    | some ad =>
      go_enter Try.func40, Try.ntmps40
      go_wp2
      go_end0
      exact ⟨rfl, hh.out⟩
end Go.Proofs.Ytjjfdkgnagfbcaa
