/-
  The contracts of film's Zero and Copy; of emulsionref1's Zero; of emulsionlaw4's Light.
-/
import Derived.Test.YtnkfgefbiacagaaFilmC
namespace Go.Proofs.Ytnkfgefbiacagaa
open Go.ChangeShapes Go.WideShapes Go.ChangeAt Go.RowKit
attribute [local go_sem ↓] Go.wp_at_zero Go.wp_at_succ
attribute [local go_sem] str_size str_extract str_append str_toList

def allZ (T : List UInt8) : Bool := T.all (· == 0)
theorem str_at (T : List UInt8) (i : Nat) (x : UInt8) (h : T[i]? = some x) (w : World) : (Instr.index 9 (.string (str T)) (.int .i64 (i : Int))).run Try.prog w = .ok (bV x) w := by
  obtain ⟨h1, h2⟩ := List.getElem?_eq_some_iff.1 h
  rw [run_index_string w 9 (str T) .i64 (i : Int) Try.underlying9, dif_pos (by rw [str_size]; omega)]
  subst h2
  rfl
theorem allZ_no {T : List UInt8} {i : Nat} {x : UInt8} (h : T[i]? = some x) (e : x ≠ 0) : allZ T = false := by
  cases hq : allZ T with
  | false => rfl
  | true =>
    have := List.all_eq_true.1 hq x (List.mem_of_getElem? h)
    simp at this
    exact absurd this e
/-- []byte(s), as a film's bytes. -/
theorem film_of_str (w : World) (S : List UInt8) : ∃ w1 cap, (convert 9 49 (.string (str S))).run Try.prog w = .ok (.slice (some ⟨w.heap.size, 0, none⟩) S.length cap) w1 ∧ S.length ≤ cap ∧ Below w.heap.size w w1 ∧ w1.heap.size = w.heap.size + 1 ∧
    (∃ cur fz, w1.heap[w.heap.size]? = some (.cells cur 5 fz)) ∧ (∀ j x, S[j]? = some x → w1.cell? ⟨w.heap.size, j, none⟩ = some (bV x)) ∧ (∀ j, j < S.length → w1.frozen? ⟨w.heap.size, j, none⟩ = false) := by
  have hr := run_bytes_of_string (P := Try.prog) w 9 49 5 (str S) Try.underlying9 Try.underlying49 Try.underlying5
  rw [str_size] at hr
  have hcap : S.length ≤ grownCap w S.length 0 5 := grownCap_ge w S.length 0 5
  generalize grownCap w S.length 0 5 = cap at hr hcap
  have hnew := heap_alloc_new w.drew (.cells (bytesRow (str S) cap) 5 ((bytesRow (str S) cap).size, (bytesRow (str S) cap).size + 1))
  have hsz : S.length ≤ (bytesRow (str S) cap).size := by simp [bytesRow, str, ByteArray.size]
  refine ⟨_, cap, hr, hcap, (below_drw).alloc (Nat.le_refl w.heap.size) _, by simp, ⟨_, _, hnew⟩, fun j x hj => ?_, fun j hj => ?_⟩
  · unfold World.cell?
    rw [show w.heap.size = w.drew.heap.size from rfl, hnew]
    obtain ⟨h1, h2⟩ := List.getElem?_eq_some_iff.1 hj
    have hs2 : j < ((str S).data.map (fun b => Value.int .u8 b.toNat)).size := by simpa [str] using h1
    show (bytesRow (str S) cap)[j]? = some (bV x)
    unfold bytesRow
    rw [Array.getElem?_append_left hs2]
    simp [str, h1, h2, bV]
  · unfold World.frozen?
    rw [show w.heap.size = w.drew.heap.size from rfl, hnew]
    simp
    omega

set_option maxRecDepth 100000 in
theorem fcopy_any {w : World} {b g B : Nat} {S : List UInt8} (h : FObj w b g S) (hl : S.length = B * 8) (h1 : 1 ≤ B) :
    Calls Try.prog 8 #[.pointer (some ⟨b, 0, none⟩)] w fun e w' => e = .returned (.pointer (some ⟨w.heap.size + 1, 0, none⟩)) ∧ FObj w' (w.heap.size + 1) w.heap.size S ∧ Below w.heap.size w w' := by
  have hb := Hid.intro (fblocks_B h hl)
  have hy := Hid.intro (fbytes_any h)
  obtain ⟨w1, cap, hcv, hcap, hB, hz, ht, hc, hf⟩ := film_of_str w S
  have hB' := Hid.intro hB
  have hh := Hid.intro (show (∃ cur fz, w1.heap[w.heap.size]? = some (.cells cur 5 fz)) ∧ (∀ j x, S[j]? = some x → w1.cell? ⟨w.heap.size, j, none⟩ = some (bV x)) ∧ (∀ j, j < S.length → w1.frozen? ⟨w.heap.size, j, none⟩ = false) from ⟨ht, hc, hf⟩)
  have q1 : ¬ (B : Int) = 0 := by omega
  have hz' := Hid.intro hz
  clear h hl hB ht hc hf
  go_enter Try.func8, Try.ntmps8
  go_wp2_with fail
  refine hb.out.mono ?_; rintro e w2 ⟨rfl, rfl⟩
  go_wp2_with fail
  refine hy.out.mono ?_; rintro e w3 ⟨rfl, rfl⟩
  go_wp2
  go_ret
  obtain ⟨ht, hc, hf⟩ := hh.out
  have hz := hz'.out
  have hA := (Below.refl w1.heap.size w1).alloc (Nat.le_refl _) (.cells #[.slice (some ⟨w3.heap.size, 0, none⟩) S.length cap] 52)
  refine ⟨rfl, ?_, hB'.out.alloc (by omega) _⟩
  have hnew := heap_alloc_new w1 (.cells #[.slice (some ⟨w3.heap.size, 0, none⟩) S.length cap] 52)
  rw [hz] at hnew
  have he := hA.block w3.heap.size (by omega)
  refine ⟨⟨cap, hnew, hcap⟩, by rw [he]; exact ht, fun j x hj => ?_, fun j hj => ?_⟩
  · rw [World.cell?_of_block (w := w1) (a := ⟨w3.heap.size, j, none⟩) he]; exact hc j x hj
  · have := hf j hj
    unfold World.frozen? at this ⊢
    simp only at this ⊢
    rw [he]; exact this
end Go.Proofs.Ytnkfgefbiacagaa
