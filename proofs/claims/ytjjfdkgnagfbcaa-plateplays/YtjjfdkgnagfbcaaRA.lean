/-
  The document's disk in memory; the contracts of its Right, falls, Get, Power.
-/
import Derived.Test.YtjjfdkgnagfbcaaPLMath
namespace Go.Proofs.Ytjjfdkgnagfbcaa
open Go.ChangeShapes Go.WideShapes Go.ChangeAt Go.RowKit
attribute [local go_sem ↓] Go.wp_at_zero Go.wp_at_succ
attribute [local go_sem] str_size str_extract str_append str_toList

/-- The cells of the document's disk. -/
def rC (vN vX vW vK : Value) (off arm : Bool) (n : Int) : List Value := [vN, vX, vW, .bool off, .bool arm, .int .i64 n, vK]
/-- A list of strings, of bools, in blocks that F names. -/
def SR (w : World) (F : Nat → Prop) (v : Value) (L : List (List UInt8)) : Prop := w.ownsRow 0 9 1 v L.length (L.map sV) ∧ ∀ g, v.ownBlock = some g → F g
def BR (w : World) (F : Nat → Prop) (v : Value) (l : List Bool) : Prop := w.ownsRow 0 4 1 v l.length (l.map Value.bool) ∧ ∀ g, v.ownBlock = some g → F g
def wetB (M : MS) : List Bool := (List.range M.L.length).map M.W.testBit
/-- The memory of the document's disk. -/
structure RM (w : World) (F : Nat → Prop) (r : Nat) (vN vX vW vK : Value) (off arm : Bool) (n : Int) (L X : List (List UInt8)) (wl kl : List Bool) : Prop where
  box : w.heap[r]? = some (.cells (rC vN vX vW vK off arm n).toArray 62 (0, 0))
  sN : SR w F vN L
  sX : SR w F vX X
  sW : BR w F vW wl
  sK : BR w F vK kl
  nX : ∀ g, vN.ownBlock = some g → vX.ownBlock ≠ some g
  nK : ∀ g, vW.ownBlock = some g → vK.ownBlock ≠ some g
  fr : F r
/-- It is as M says. -/
structure RS (M : MS) (off arm : Bool) (n : Int) (kl : List Bool) : Prop where
  hoff : off = !M.on
  harm : arm = decide (0 ≤ M.left)
  armed : arm = true → n = M.left ∧ kw kl = M.K
  k60 : kl.length ≤ 60
  n0 : -9223372036854775808 ≤ n
  n1 : n ≤ 9223372036854775807
def RO (w : World) (F : Nat → Prop) (r : Nat) (M : MS) : Prop := ∃ vN vX vW vK off arm n kl, RM w F r vN vX vW vK off arm n M.L M.X (wetB M) kl ∧ RS M off arm n kl

theorem own_blk {w : World} {base : Nat} {e : TypeId} {size n g : Nat} {v : Value} {xs : List Value} (h : w.ownsRow base e size v n xs) (hg : v.ownBlock = some g) : ∃ cur, w.heap[g]? = some (.cells cur e (0, 0)) := by
  rcases h.2 with ⟨rfl, _⟩ | ⟨g', cap, cur, rfl, _, hh, _⟩
  · cases hg
  · cases hg; exact ⟨cur, hh⟩
theorem SR.keep {w w' : World} {F G : Nat → Prop} {v : Value} {L : List (List UInt8)} (h : SR w F v L) (hs : ∀ g, v.ownBlock = some g → w'.heap[g]? = w.heap[g]?) (hFG : ∀ k, F k → G k) : SR w' G v L :=
  ⟨own_keep h.1 fun g hg _ => hs g hg, fun g hg => hFG g (h.2 g hg)⟩
theorem BR.keep {w w' : World} {F G : Nat → Prop} {v : Value} {l : List Bool} (h : BR w F v l) (hs : ∀ g, v.ownBlock = some g → w'.heap[g]? = w.heap[g]?) (hFG : ∀ k, F k → G k) : BR w' G v l :=
  ⟨own_keep h.1 fun g hg _ => hs g hg, fun g hg => hFG g (h.2 g hg)⟩
theorem RM.stay {w w' : World} {F G : Nat → Prop} {r : Nat} {vN vX vW vK : Value} {off arm : Bool} {n : Int} {L X : List (List UInt8)} {wl kl : List Bool} (h : RM w F r vN vX vW vK off arm n L X wl kl)
    (hs : ∀ k, k < w.heap.size → F k → w'.heap[k]? = w.heap[k]?) (hFG : ∀ k, F k → G k) : RM w' G r vN vX vW vK off arm n L X wl kl where
  box := by rw [hs r (lt_of_block h.box) h.fr]; exact h.box
  sN := h.sN.keep (fun g hg => hs g (own_lt h.sN.1 hg) (h.sN.2 g hg)) hFG
  sX := h.sX.keep (fun g hg => hs g (own_lt h.sX.1 hg) (h.sX.2 g hg)) hFG
  sW := h.sW.keep (fun g hg => hs g (own_lt h.sW.1 hg) (h.sW.2 g hg)) hFG
  sK := h.sK.keep (fun g hg => hs g (own_lt h.sK.1 hg) (h.sK.2 g hg)) hFG
  nX := h.nX
  nK := h.nK
  fr := hFG r h.fr
theorem RO.keep {w w' : World} {F G : Nat → Prop} {r : Nat} {M : MS} (h : RO w F r M) (hk : Keep G w w') (hd : ∀ k, k < w.heap.size → F k → ¬ G k) : RO w' F r M := by
  obtain ⟨vN, vX, vW, vK, off, arm, n, kl, hm, hs⟩ := h
  exact ⟨vN, vX, vW, vK, off, arm, n, kl, hm.stay (fun k hk' hF => hk.block k hk' (hd k hk' hF)) fun _ h => h, hs⟩
theorem RO.below {w w' : World} {F : Nat → Prop} {r : Nat} {M : MS} (h : RO w F r M) (hb : Below w.heap.size w w') : RO w' F r M :=
  h.keep (G := fun _ => False) (Keep.of hb) fun _ _ _ => id
theorem RO.wide {w : World} {F G : Nat → Prop} {r : Nat} {M : MS} (h : RO w F r M) (hFG : ∀ k, F k → G k) : RO w G r M := by
  obtain ⟨vN, vX, vW, vK, off, arm, n, kl, hm, hs⟩ := h
  exact ⟨vN, vX, vW, vK, off, arm, n, kl, hm.stay (fun _ _ _ => rfl) hFG, hs⟩
/-- The cells of the box, as a walk reads them. -/
structure RCells (w : World) (r : Nat) (vN vX vW vK : Value) (off arm : Bool) (n : Int) : Prop where
  c0 : w.cell? ⟨r, 0, none⟩ = some vN
  c1 : w.cell? ⟨r, 1, none⟩ = some vX
  c2 : w.cell? ⟨r, 2, none⟩ = some vW
  c3 : w.cell? ⟨r, 3, none⟩ = some (.bool off)
  c4 : w.cell? ⟨r, 4, none⟩ = some (.bool arm)
  c5 : w.cell? ⟨r, 5, none⟩ = some (.int .i64 n)
  c6 : w.cell? ⟨r, 6, none⟩ = some vK
  fz : ∀ o, w.frozen? ⟨r, o, none⟩ = false
theorem rcells {w : World} {r : Nat} {vN vX vW vK : Value} {off arm : Bool} {n : Int} (h : w.heap[r]? = some (.cells (rC vN vX vW vK off arm n).toArray 62 (0, 0))) : RCells w r vN vX vW vK off arm n := by
  refine ⟨?_, ?_, ?_, ?_, ?_, ?_, ?_, fun o => by simp [World.frozen?, h]⟩
  all_goals simp [World.cell?, h, rC]
theorem SR.form {w : World} {F : Nat → Prop} {v : Value} {L : List (List UInt8)} (h : SR w F v L) : ∃ a c, v = .slice a L.length c := own_form h.1
theorem SR.at_ {w : World} {F : Nat → Prop} {a : Option Addr} {n c k : Nat} {L : List (List UInt8)} (h : SR w F (.slice a n c) L) (hn : n = L.length) (hk : k < L.length) : ∃ g, a = some ⟨g, 0, none⟩ ∧ w.cell? ⟨g, k, none⟩ = some (.string (str (pgAt L k))) ∧ w.frozen? ⟨g, k, none⟩ = false := by
  subst hn
  obtain ⟨g, cap, hv, _, _⟩ := h.1.form (by omega)
  cases hv
  refine ⟨g, rfl, ?_, World.ownsRow.frozenAt h.1 k⟩
  rw [World.ownsRow.cellAt h.1 k (by omega)]
  simp [pgAt, hk, sV]
theorem BR.at_ {w : World} {F : Nat → Prop} {a : Option Addr} {n c k : Nat} {l : List Bool} (h : BR w F (.slice a n c) l) (hn : n = l.length) (hk : k < l.length) : ∃ g, a = some ⟨g, 0, none⟩ ∧ w.cell? ⟨g, k, none⟩ = some (.bool (l.getD k false)) ∧ w.frozen? ⟨g, k, none⟩ = false := by
  subst hn
  obtain ⟨g, cap, hv, _, _⟩ := h.1.form (by omega)
  cases hv
  refine ⟨g, rfl, ?_, World.ownsRow.frozenAt h.1 k⟩
  rw [World.ownsRow.cellAt h.1 k (by omega)]
  simp [List.getD, hk]
theorem wetB_length (M : MS) : (wetB M).length = M.L.length := by simp [wetB]
theorem wetB_getD {M : MS} {k : Nat} (hk : k < M.L.length) : (wetB M).getD k false = M.W.testBit k := by
  simp [wetB, List.getD, hk]

theorem right_any {w : World} {F : Nat → Prop} {r : Nat} {M : MS} (h : RO w F r M) (k : Int) (S : List UInt8) : Calls Try.prog 45 #[.pointer (some ⟨r, 0, none⟩), .int .i64 k, .string (str S)] w fun e w' => e = .returned (.bool (fitB M k S)) ∧ w' = w := by
  obtain ⟨vN, vX, vW, vK, off, arm, n, kl, hm, hs⟩ := h
  obtain ⟨c0, _, _, _, _, _, _, _⟩ := rcells hm.box
  obtain ⟨a, c, rfl⟩ := hm.sN.form
  clear hm hs
  unfold fitB
  by_cases h0 : 0 ≤ k
  · by_cases h1 : k < M.L.length
    · rw [decide_eq_true ⟨h0, h1⟩]
      by_cases h2 : S.length = 32
      · rw [decide_eq_true h2]
        have h3 : (S.length : Int) = 32 := by omega
        clear h2
        generalize M.L.length = m at *
        go_enter Try.func45, Try.ntmps45
        go_wp2
        go_ret
        exact ⟨rfl, rfl⟩
      · rw [decide_eq_false h2]
        have h3 : ((S.length : Int) == 32) = false := beq_false_of_ne (by omega)
        clear h2
        generalize M.L.length = m at *
        go_enter Try.func45, Try.ntmps45
        go_wp2
        go_ret
        exact ⟨rfl, rfl⟩
    · rw [decide_eq_false (fun h => h1 h.2)]
      have h1' : ¬ k < M.L.length := h1
      generalize M.L.length = m at *
      go_enter Try.func45, Try.ntmps45
      go_wp2
      go_ret
      refine ⟨?_, rfl⟩
      first | rfl | (show Ending.returned (.bool (decide (k < (m : Int)))) = _; rw [decide_eq_false h1']; rfl)
  · rw [decide_eq_false (fun h => h0 h.1)]
    go_enter Try.func45, Try.ntmps45
    go_wp2
    go_ret
    exact ⟨rfl, rfl⟩
theorem rget_any {w : World} {F : Nat → Prop} {r : Nat} {M : MS} (h : RO w F r M) (k : Int) : Calls Try.prog 27 #[.pointer (some ⟨r, 0, none⟩), .int .i64 k] w fun e w' => e = .returned (.tuple #[.string (str (mGetS M k)), .int .i64 (mGetE M k)]) ∧ w' = w := by
  obtain ⟨vN, vX, vW, vK, off, arm, n, kl, hm, hs⟩ := h
  obtain ⟨c0, _, _, c3, _, _, _, _⟩ := rcells hm.box
  obtain ⟨a, c, rfl⟩ := hm.sN.form
  have ho := hs.hoff
  unfold mGetS mGetE
  cases hon : M.on with
  | false =>
    rw [hon] at ho
    subst ho
    clear hm hs hon
    simp only [if_true]
    go_enter Try.func27, Try.ntmps27
    go_wp2
    exact bodyPost_ret (v := .tuple #[.string (str []), .int .i64 7]) (by simp [results, Try.results27, go_sem, str]) rfl ⟨rfl, rfl⟩
  | true =>
    rw [hon] at ho
    subst ho
    simp only [Bool.true_eq_false, if_false]
    unfold has0
    by_cases h0 : 0 ≤ k
    · by_cases h1 : k < M.L.length
      · rw [decide_eq_true ⟨h0, h1⟩]
        obtain ⟨j, rfl⟩ : ∃ j : Nat, k = j := ⟨k.toNat, by omega⟩
        obtain ⟨g, rfl, hc, _⟩ := hm.sN.at_ rfl (by omega : j < M.L.length)
        simp only [if_true, Int.toNat_natCast]
        clear hm hs hon
        generalize M.L.length = m at *
        generalize pgAt M.L j = P at *
        go_enter Try.func27, Try.ntmps27
        go_wp2
        exact bodyPost_ret (v := .tuple #[.string (str P), .int .i64 0]) (by simp [results, Try.results27, go_sem]) rfl ⟨rfl, rfl⟩
      · rw [decide_eq_false (fun h => h1 h.2)]
        simp only [Bool.false_eq_true, if_false]
        clear hm hs hon
        generalize M.L.length = m at *
        go_enter Try.func27, Try.ntmps27
        go_wp2
        exact bodyPost_ret (v := .tuple #[.string (str []), .int .i64 1]) (by simp [results, Try.results27, go_sem, str]) rfl ⟨rfl, rfl⟩
    · rw [decide_eq_false (fun h => h0 h.1)]
      simp only [Bool.false_eq_true, if_false]
      clear hm hs hon
      go_enter Try.func27, Try.ntmps27
      go_wp2
      exact bodyPost_ret (v := .tuple #[.string (str []), .int .i64 1]) (by simp [results, Try.results27, go_sem, str]) rfl ⟨rfl, rfl⟩
end Go.Proofs.Ytjjfdkgnagfbcaa
