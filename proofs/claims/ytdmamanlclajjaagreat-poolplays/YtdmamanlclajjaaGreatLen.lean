/-
  The contracts of the shelf's Len and New and of the equality of two lists of numbers.
-/
import Derived.Test.YtdmamanlclajjaaGreatSizes
namespace Go.Proofs.YtdmamanlclajjaaGreat
open Go.ChangeShapes Go.WideShapes Go.ChangeAt Go.RowKit

theorem Tryz.info99 : (Tryz.prog.info? 99).map (fun i => (i.zero, i.size, i.bytes)) = some (some (.slice none 0 0), 1, 24) := by kernel_rfl
theorem made_nil (n : Nat) : madeCells (Value.slice none 0 0).cells n = (List.replicate n (Value.slice none 0 0)).toArray := by
  apply Array.ext
  · simp [madeCells]
  · intro i h1 h2
    simp [madeCells, Value.cells, Nat.mod_one]
theorem make_row (w : World) (n : Nat) (hn : n ≤ 1000) : (Instr.makeSlice 92 (.int .i64 (n : Int)) (.int .i64 (n : Int))).run Tryz.prog w = .ok (.slice (some ⟨w.heap.size, 0, none⟩) n n) (w.alloc (.cells (List.replicate n (Value.slice none 0 0)).toArray 99)) := by
  obtain ⟨i0, hi, hz0, hz1, hz2⟩ := info_parts Tryz.info99
  have hr := run_make (P := Tryz.prog) w 92 99 i0 _ Tryz.underlying92 hi hz0 .i64 .i64 (n : Int) (n : Int) (by omega) (by omega) (by rw [hz2]; omega) (by omega)
  simp only [Int.toNat_natCast, hz1, Nat.mul_one, made_nil] at hr
  exact hr

theorem sh_new (w : World) (n : Nat) (h1 : 1 ≤ n) (h2 : n ≤ 100) : Sh ((w.alloc (.cells (List.replicate n (Value.slice none 0 0)).toArray 99)).alloc (.cells #[.slice (some ⟨w.heap.size, 0, none⟩) n n] 94)) (fun k => w.heap.size ≤ k) (w.heap.size + 1) (List.replicate n []) := by
  have hb := heap_alloc_new (w.alloc (.cells (List.replicate n (Value.slice none 0 0)).toArray 99)) (.cells #[.slice (some ⟨w.heap.size, 0, none⟩) n n] 94)
  have hr := heap_alloc_new w (.cells (List.replicate n (Value.slice none 0 0)).toArray 99)
  have hB := ((Below.refl (w.heap.size + 1) (w.alloc (.cells (List.replicate n (Value.slice none 0 0)).toArray 99))).alloc (by simp) (.cells #[.slice (some ⟨w.heap.size, 0, none⟩) n n] 94)).block w.heap.size (by omega)
  refine ⟨Nat.le_succ _, w.heap.size, List.replicate n (Value.slice none 0 0), ⟨?_, ?_, by simp, by simpa using h1, by simpa using h2, Nat.zero_le _, Nat.zero_le _, ?_, ?_, ?_⟩, ?_⟩
  · simpa using hb
  · rw [hB]; exact hr
  · intro k v l hv hl
    have e1 := List.eq_of_mem_replicate (List.mem_of_getElem? hv)
    have e2 := List.eq_of_mem_replicate (List.mem_of_getElem? hl)
    subst e1 e2
    exact World.ownsRow_nil _ _ _ _
  · intro j k u v g _ hu hv hg
    have e1 := List.eq_of_mem_replicate (List.mem_of_getElem? hu)
    subst e1
    cases hg
  · intro l hl
    have e2 := List.eq_of_mem_replicate hl
    subst e2
    exact ⟨trivial, fun p hp => by cases hp⟩
  · rintro k (rfl | ⟨v, hv, hk⟩)
    · exact Nat.le_refl _
    · rw [List.eq_of_mem_replicate hv] at hk; cases hk

def nb (k : Int) : Nat := (min (max k 1) 100).toNat
theorem nb_ok (k : Int) : 1 ≤ nb k ∧ nb k ≤ 100 := by unfold nb; omega

theorem new_any (k : Int) (w : World) (hk1 : -9223372036854775808 ≤ k) (hk2 : k ≤ 9223372036854775807) :
    Calls Tryz.prog 24 #[.int .i64 k] w fun e w' => ∃ s, e = .returned (.pointer (some ⟨s, 0, none⟩)) ∧ Sh w' (fun k => w.heap.size ≤ k) s (List.replicate (nb k) []) ∧ Below w.heap.size w w' := by
  obtain ⟨n1, n2⟩ := nb_ok k
  have e1 : (nb k : Int) = min (max k 1) 100 := by unfold nb; omega
  have hmk := make_row w (nb k) (by omega)
  rw [e1] at hmk
  clear e1
  have hsh := Hid.intro (sh_new w (nb k) n1 n2)
  go_enter Tryz.func24, Tryz.ntmps24
  go_wp2
  go_ret
  have h2 := hsh.out
  rw [List.toArray_replicate] at h2
  exact ⟨_, rfl, h2, ((Below.refl _ w).alloc (Nat.le_refl _) _).alloc (by simp) _⟩

theorem ints_cells {w : World} {b : Nat} {v : Value} {l : List Int} (h : Ints w b v l) : (v = .slice none 0 0 ∧ l = []) ∨ ∃ g cap, v = .slice (some ⟨g, 0, none⟩) l.length cap ∧ b ≤ g ∧ g < w.heap.size ∧ ∀ i k, l[i]? = some k → w.cell? ⟨g, i, none⟩ = some (.int .i64 k) := by
  rcases h.2 with ⟨hv, h0⟩ | ⟨g, cap, cur, hv, hb, hc, _⟩
  · exact .inl ⟨hv, List.length_eq_zero_iff.1 h0⟩
  · refine .inr ⟨g, cap, hv, hb, lt_of_block hc, fun i k hk => ?_⟩
    subst hv
    have hi : i < l.length := (List.getElem?_eq_some_iff.1 hk).1
    have := World.ownsRow.cellAt h i (by omega)
    rw [this]
    simp [intsV, hk]

end Go.Proofs.YtdmamanlclajjaaGreat
