/-
  Bytes in memory (BB): a string as a slice of bytes, a copy of them, one byte that is another, two changed over, and strings of them; what sealed bytes of which one is another, or two changed over, are.
-/
import Derived.Test.YtgephcacmakjhaaTalAlive
import Derived.Deep.AppendLies
namespace Go.Proofs.Ytgephcacmakjhaa
open Go.ChangeShapes Go.WideShapes Go.ChangeAt Go.RowKit

/-- A block of these bytes. -/
structure BB (w : World) (g : Nat) (S : List UInt8) : Prop where
  lt : g < w.heap.size
  bytes : ∀ j x, S[j]? = some x → w.cell? ⟨g, j, none⟩ = some (bV x)
  fro : ∀ j, j < S.length → w.frozen? ⟨g, j, none⟩ = false
theorem BB.keep {w w' : World} {g : Nat} {S : List UInt8} (h : BB w g S) (hl : g < w'.heap.size) (e : w'.heap[g]? = w.heap[g]?) : BB w' g S := by
  refine ⟨hl, fun j x hj => ?_, fun j hj => ?_⟩
  · rw [World.cell?_of_block (w := w) (a := ⟨g, j, none⟩) e]; exact h.bytes j x hj
  · have := h.fro j hj
    unfold World.frozen? at this ⊢
    simp only at this ⊢
    rw [e]; exact this
theorem BB.below {w w' : World} {g : Nat} {S : List UInt8} (h : BB w g S) (hb : Below w.heap.size w w') : BB w' g S :=
  h.keep (Nat.lt_of_lt_of_le h.lt hb.size) (hb.block g h.lt)
theorem BB.grown {w w' : World} {g : Nat} {S : List UInt8} {row : Option Nat} (h : BB w g S) (hg : w.grownBy w' row) (hn : some g ≠ row) : BB w' g S :=
  h.keep (Nat.lt_of_lt_of_le h.lt hg.size) (hg.block g h.lt hn)
theorem BB.set {w : World} {g i : Nat} {S : List UInt8} (h : BB w g S) (c : UInt8) : BB (w.setCell ⟨g, i, none⟩ (bV c)) g (S.set i c) := by
  refine ⟨by simpa using h.lt, fun j x hj => ?_, fun j hj => by simp [go_sem]; exact h.fro j (by simpa using hj)⟩
  by_cases e : j = i
  · subst e
    obtain ⟨h1, h2⟩ := List.getElem?_eq_some_iff.1 hj
    have h1' : j < S.length := by simpa using h1
    rw [List.getElem_set_self] at h2
    subst h2
    have := h.bytes j _ (List.getElem?_eq_getElem h1')
    simp [go_sem, this]
  · rw [List.getElem?_set_ne (fun h => e h.symm)] at hj
    exact (World.cell?_setCell_other w ⟨g, i, none⟩ ⟨g, j, none⟩ _ (by intro h; cases h; exact e rfl)).trans (h.bytes j x hj)
theorem BB.other {w : World} {g g' i : Nat} {S : List UInt8} (h : BB w g S) (hn : g' ≠ g) (v : Value) : BB (w.setCell ⟨g', i, none⟩ v) g S := by
  refine ⟨by simpa using h.lt, fun j x hj => ?_, fun j hj => by simp [go_sem]; exact h.fro j hj⟩
  exact (World.cell?_setCell_other w ⟨g', i, none⟩ ⟨g, j, none⟩ _ (by intro h; cases h; exact hn rfl)).trans (h.bytes j x hj)
theorem BB.str {w : World} {g cap n : Nat} {S T : List UInt8} (h : BB w g S) (hT : S.take n = T) (hn : n ≤ S.length) :
    (convert 32 9 (.slice (some ⟨g, 0, none⟩) n cap)).run Try.prog w = .ok (.string (str T)) w := by
  subst hT
  rw [← nums_str]
  refine run_convert_bytes_arg (P := Try.prog) w 32 5 Try.underlying32 Try.underlying5 g 0 n cap _ (by simp [Nat.min_eq_left hn]) (fun j hj => ?_) 9 Try.underlying9
  have hj' : j < S.length := by omega
  rw [Nat.zero_add, h.bytes j _ (List.getElem?_eq_getElem hj')]
  simp [bV, List.getD, hj', hj]
theorem BB.own {w : World} {base g cap : Nat} {S : List UInt8} (h : w.ownsRow base 5 1 (.slice (some ⟨g, 0, none⟩) S.length cap) S.length (S.map bV)) (hl : g < w.heap.size) : BB w g S :=
  ⟨hl, fun j x hj => by rw [World.ownsRow.cellAt h j (by rw [Nat.mul_one]; exact (List.getElem?_eq_some_iff.1 hj).1), List.getElem?_map, hj]; rfl, fun j _ => World.ownsRow.frozenAt h j⟩
theorem below_drw {w : World} : Below w.heap.size w w.drew := (Below.refl _ _).drew
/-- []byte(s). -/
theorem bytes_of_str (w : World) (S : List UInt8) : ∃ w1 cap, (convert 9 32 (.string (str S))).run Try.prog w = .ok (.slice (some ⟨w.heap.size, 0, none⟩) S.length cap) w1 ∧ S.length ≤ cap ∧ Below w.heap.size w w1 ∧ BB w1 w.heap.size S := by
  have hr := run_bytes_of_string (P := Try.prog) w 9 32 5 (str S) Try.underlying9 Try.underlying32 Try.underlying5
  rw [str_size] at hr
  have hcap : S.length ≤ grownCap w S.length 0 5 := grownCap_ge w S.length 0 5
  generalize grownCap w S.length 0 5 = cap at hr hcap
  have hnew := heap_alloc_new w.drew (.cells (bytesRow (str S) cap) 5 ((bytesRow (str S) cap).size, (bytesRow (str S) cap).size + 1))
  have hsz : S.length ≤ (bytesRow (str S) cap).size := by simp [bytesRow, str, ByteArray.size]
  refine ⟨_, cap, hr, hcap, (below_drw).alloc (Nat.le_refl w.heap.size) _, by simp, fun j x hj => ?_, fun j hj => ?_⟩
  · unfold World.cell?
    rw [show w.heap.size = w.drew.heap.size from rfl, hnew]
    obtain ⟨h1, h2⟩ := List.getElem?_eq_some_iff.1 hj
    have hs2 : j < ((str S).data.map (fun b => Value.int .u8 b.toNat)).size := by simpa [str] using h1
    show (bytesRow (str S) cap)[j]? = some (bV x)
    unfold bytesRow
    rw [Array.getElem?_append_left hs2]
    simp [str, h1, h2, bV]
  · unfold World.frozen?
    rw [show w.heap.size = w.drew.heap.size from rfl, hnew]
    simp
    omega

/-! ### What it is, sealed and turned. -/
theorem split_at (S : List UInt8) (k : Nat) (x : UInt8) (h : S[k]? = some x) : S = S.take k ++ x :: S.drop (k + 1) := by
  obtain ⟨h1, h2⟩ := List.getElem?_eq_some_iff.1 h
  subst h2
  rw [List.getElem_cons_drop, List.take_append_drop]
theorem set_at (S : List UInt8) (k : Nat) (c : UInt8) (h : k < S.length) : S.set k c = S.take k ++ c :: S.drop (k + 1) := by
  rw [List.set_eq_take_append_cons_drop, if_pos h]
theorem one_other (S : List UInt8) (k : Nat) (x c : UInt8) (h : S[k]? = some x) (hc : c ≠ x) : ofN (S.set k c) ≠ ofN S := by
  have e := split_at S k x h
  rw [set_at S k c (List.getElem?_eq_some_iff.1 h).1]
  conv => rhs; rw [e]
  exact tal_one _ _ hc
theorem two_over (S : List UInt8) (k : Nat) (x y : UInt8) (hx : S[k]? = some x) (hy : S[k + 1]? = some y) (hc : x ≠ y) : ofN ((S.set k y).set (k + 1) x) ≠ ofN S := by
  have hk := (List.getElem?_eq_some_iff.1 hx).1
  have hk1 := (List.getElem?_eq_some_iff.1 hy).1
  have e : S = S.take k ++ x :: y :: S.drop (k + 2) := by
    have e1 := split_at S k x hx
    have e2 := split_at (S.drop (k + 1)) 0 y (by rw [List.getElem?_drop]; exact hy)
    rw [List.take_zero, List.nil_append, List.drop_drop] at e2
    conv => lhs; rw [e1, e2]
  have e3 : (S.set k y).set (k + 1) x = S.take k ++ y :: x :: S.drop (k + 2) := by
    have hl : (S.take k).length = k := by rw [List.length_take]; omega
    generalize S.take k = P at *
    generalize S.drop (k + 2) = R at *
    subst e
    rw [List.set_append_right _ _ (by omega), hl, Nat.sub_self, List.set_cons_zero, List.set_append_right _ _ (by omega), hl, show k + 1 - k = 1 by omega, List.set_cons_succ, List.set_cons_zero]
  rw [e3]
  conv => rhs; rw [e]
  exact tal_two _ _ (fun h => hc h.symm)
theorem by4_ne {S T : List UInt8} (h : ofN T ≠ ofN S) : by4 (ofN S) ≠ by4 (ofN T) := fun e => h (by4_inj (ofN_lt _) (ofN_lt _) e).symm
theorem sld_set (S : List UInt8) (k : Nat) (c : UInt8) (h : k < S.length) : (sld S).set k c = S.set k c ++ by4 (ofN S) := by
  rw [sld, List.set_append_left _ _ h]
theorem sld_set2 (S : List UInt8) (k : Nat) (x y : UInt8) (h : k + 1 < S.length) : ((sld S).set k y).set (k + 1) x = (S.set k y).set (k + 1) x ++ by4 (ofN S) := by
  rw [sld_set S k y (by omega), List.set_append_left _ _ (by simpa using h)]
end Go.Proofs.Ytgephcacmakjhaa
