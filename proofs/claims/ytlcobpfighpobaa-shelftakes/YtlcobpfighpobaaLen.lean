/-
  The contracts of the shelf's Len and New and of the equality of two lists of numbers.
-/
import Derived.Test.YtlcobpfighpobaaSizes
namespace Go.Proofs.Ytlcobpfighpobaa
open Go.ChangeShapes Go.WideShapes Go.ChangeAt Go.RowKit

set_option maxHeartbeats 1000000 in
set_option maxRecDepth 100000 in
theorem len_any {w : World} {b s : Nat} {bs : List (List It)} (h : Sh w b s bs) (h3 : ∀ l ∈ bs, l.length ≤ 1000) :
    Calls Try.prog 8 #[.pointer (some ⟨s, 0, none⟩)] w fun e w' => e = .returned (.int .i64 (sum bs : Nat)) ∧ Below w.heap.size w w' := by
  have hle : bs.length ≤ 100 := by obtain ⟨B, vs, h⟩ := h; rw [h.len]; exact h.n2
  have hs := sum_le bs 1000 h3
  have hsz := Hid.intro (sizes_any h)
  have hs1 : sum bs ≤ 100000 := by omega
  clear h hs
  have h3' := Hid.intro h3
  clear h3
  go_enter Try.func8, Try.ntmps8
  go_wp2_with fail
  refine hsz.out.mono ?_; rintro e w1 ⟨rfl, hns, hb1, hlt1⟩
  have hns' := Hid.intro hns
  have hb1' := Hid.intro hb1
  clear hns hb1
  go_wp2_with fail
  go_loopw [3, 9] (fun nv iv wr => ∃ i a : Nat, i ≤ bs.length ∧ iv = .int .i64 (i : Int) ∧ nv = .int .i64 (a : Int) ∧ Hid (a + sum (bs.drop i) = sum bs) ∧ a ≤ 100000 ∧ wr = w1) (fun _ iv _ => bs.length - (intOf iv).toNat)
  case atStart => exact ⟨0, 0, Nat.zero_le _, rfl, rfl, by simp [Hid], by omega, rfl⟩
  case round =>
    obtain ⟨i, a, hi, rfl, rfl, hsum, ha, rfl⟩ := hrel
    by_cases hl : i < bs.length
    · obtain ⟨c0, z0⟩ := hns'.out i hl
      have hg : bs[i]? = some bs[i] := List.getElem?_eq_getElem hl
      have hla : lenAt bs i = ((bs[i].length : Nat) : Int) := by simp [lenAt, List.getD, hg]
      rw [hla] at c0
      have hsd := sum_drop bs i _ hg
      have hsm := hsum.out
      have hnew : Hid (a + bs[i].length + sum (bs.drop (i + 1)) = sum bs) := by
        show _ = _
        omega
      have hbnd : a + bs[i].length ≤ 100000 := by omega
      generalize bs[i].length = m at *
      clear hsd hsm hla hg
      go_wp2
      go_roundw
      case rel => exact ⟨i + 1, a + m, by omega, by go_num, by go_num, hnew, hbnd, by simp⟩
      case measure => simp [intOf]; omega
    · have e : Hid (a = sum bs) := by
        have := hsum.out
        rw [List.drop_eq_nil_of_le (by omega)] at this
        simpa [sum, Hid] using this
      go_wp2
      go_ret
      exact ⟨by rw [← e.out]; rfl, hb1'.out⟩

theorem Try.info42 : (Try.prog.info? 42).map (fun i => (i.zero, i.size, i.bytes)) = some (some (.slice none 0 0), 1, 24) := by kernel_rfl
theorem made_nil (n : Nat) : madeCells (Value.slice none 0 0).cells n = (List.replicate n (Value.slice none 0 0)).toArray := by
  apply Array.ext
  · simp [madeCells]
  · intro i h1 h2
    simp [madeCells, Value.cells, Nat.mod_one]
theorem make_row (w : World) (n : Nat) (hn : n ≤ 1000) : (Instr.makeSlice 35 (.int .i64 (n : Int)) (.int .i64 (n : Int))).run Try.prog w = .ok (.slice (some ⟨w.heap.size, 0, none⟩) n n) (w.alloc (.cells (List.replicate n (Value.slice none 0 0)).toArray 42)) := by
  obtain ⟨i0, hi, hz0, hz1, hz2⟩ := info_parts Try.info42
  have hr := run_make (P := Try.prog) w 35 42 i0 _ Try.underlying35 hi hz0 .i64 .i64 (n : Int) (n : Int) (by omega) (by omega) (by rw [hz2]; omega) (by omega)
  simp only [Int.toNat_natCast, hz1, Nat.mul_one, made_nil] at hr
  exact hr

theorem sh_new (w : World) (n : Nat) (h1 : 1 ≤ n) (h2 : n ≤ 100) : Sh ((w.alloc (.cells (List.replicate n (Value.slice none 0 0)).toArray 42)).alloc (.cells #[.slice (some ⟨w.heap.size, 0, none⟩) n n] 37)) w.heap.size (w.heap.size + 1) (List.replicate n []) := by
  have hb := heap_alloc_new (w.alloc (.cells (List.replicate n (Value.slice none 0 0)).toArray 42)) (.cells #[.slice (some ⟨w.heap.size, 0, none⟩) n n] 37)
  have hr := heap_alloc_new w (.cells (List.replicate n (Value.slice none 0 0)).toArray 42)
  have hB := ((Below.refl (w.heap.size + 1) (w.alloc (.cells (List.replicate n (Value.slice none 0 0)).toArray 42))).alloc (by simp) (.cells #[.slice (some ⟨w.heap.size, 0, none⟩) n n] 37)).block w.heap.size (by omega)
  refine ⟨w.heap.size, List.replicate n (Value.slice none 0 0), ⟨?_, ?_, by simp, by simpa using h1, by simpa using h2, Nat.le_refl _, by simp; omega, ?_, ?_, ?_⟩⟩
  · simpa using hb
  · rw [hB]; exact hr
  · intro k v l hv hl
    have e1 := List.eq_of_mem_replicate (List.mem_of_getElem? hv)
    have e2 := List.eq_of_mem_replicate (List.mem_of_getElem? hl)
    subst e1 e2
    exact World.ownsRow_nil _ _ _ _
  · intro j k u v g _ hu hv hg
    have e1 := List.eq_of_mem_replicate (List.mem_of_getElem? hu)
    subst e1
    cases hg
  · intro l hl
    have e2 := List.eq_of_mem_replicate hl
    subst e2
    exact ⟨trivial, fun p hp => by cases hp⟩

def nb (k : Int) : Nat := (min (max k 1) 100).toNat
theorem nb_ok (k : Int) : 1 ≤ nb k ∧ nb k ≤ 100 := by unfold nb; omega

theorem new_any (k : Int) (w : World) (hk1 : -9223372036854775808 ≤ k) (hk2 : k ≤ 9223372036854775807) :
    Calls Try.prog 5 #[.int .i64 k] w fun e w' => ∃ s, e = .returned (.pointer (some ⟨s, 0, none⟩)) ∧ Sh w' w.heap.size s (List.replicate (nb k) []) ∧ Below w.heap.size w w' := by
  obtain ⟨n1, n2⟩ := nb_ok k
  have e1 : (nb k : Int) = min (max k 1) 100 := by unfold nb; omega
  have hmk := make_row w (nb k) (by omega)
  rw [e1] at hmk
  clear e1
  have hsh := Hid.intro (sh_new w (nb k) n1 n2)
  go_enter Try.func5, Try.ntmps5
  go_wp2
  go_ret
  have h2 := hsh.out
  rw [List.toArray_replicate] at h2
  exact ⟨_, rfl, h2, ((Below.refl _ w).alloc (Nat.le_refl _) _).alloc (by simp) _⟩

theorem ints_cells {w : World} {b : Nat} {v : Value} {l : List Int} (h : Ints w b v l) : (v = .slice none 0 0 ∧ l = []) ∨ ∃ g cap, v = .slice (some ⟨g, 0, none⟩) l.length cap ∧ b ≤ g ∧ g < w.heap.size ∧ ∀ i k, l[i]? = some k → w.cell? ⟨g, i, none⟩ = some (.int .i64 k) := by
  rcases h.2 with ⟨hv, h0⟩ | ⟨g, cap, cur, hv, hb, hc, _⟩
  · exact .inl ⟨hv, List.length_eq_zero_iff.1 h0⟩
  · refine .inr ⟨g, cap, hv, hb, lt_of_block hc, fun i k hk => ?_⟩
    subst hv
    have hi : i < l.length := (List.getElem?_eq_some_iff.1 hk).1
    have := World.ownsRow.cellAt h i (by omega)
    rw [this]
    simp [intsV, hk]

set_option maxHeartbeats 1000000 in
set_option maxRecDepth 100000 in
theorem same_any {w : World} {b c : Nat} {u v : Value} {l : List Int} (h : Ints w b u l) (k : Ints w c v l) (hl : l.length ≤ 1000) :
    Calls Try.prog 10 #[u, v] w fun e w' => e = .returned (.bool true) ∧ Below w.heap.size w w' := by
  rcases ints_cells h with ⟨rfl, rfl⟩ | ⟨g, cap, rfl, _, hg, hc⟩
  · obtain ⟨a, q, rfl⟩ : ∃ a q, v = .slice a 0 q := by
      rcases ints_cells k with ⟨rfl, _⟩ | ⟨g, cap, rfl, _⟩
      · exact ⟨_, _, rfl⟩
      · exact ⟨_, _, rfl⟩
    clear h k
    go_enter Try.func10, Try.ntmps10
    go_wp2_with fail
    go_loopw [5] (fun iv wr => iv = .int .i64 0 ∧ wr = w) (fun _ _ => 0)
    case atStart => exact ⟨rfl, rfl⟩
    case round =>
      obtain ⟨rfl, rfl⟩ := hrel
      go_wp2
      go_ret
      exact ⟨rfl, Below.refl _ _⟩
  · rcases ints_cells k with ⟨rfl, rfl⟩ | ⟨g2, cap2, rfl, _, hg2, hc2⟩
    · clear h k hc
      go_enter Try.func10, Try.ntmps10
      go_wp2_with fail
      go_loopw [5] (fun iv wr => iv = .int .i64 0 ∧ wr = w) (fun _ _ => 0)
      case atStart => exact ⟨rfl, rfl⟩
      case round =>
        obtain ⟨rfl, rfl⟩ := hrel
        go_wp2
        go_ret
        exact ⟨rfl, Below.refl _ _⟩
    · have hc' := Hid.intro hc
      have hc2' := Hid.intro hc2
      clear h k hc hc2
      go_enter Try.func10, Try.ntmps10
      go_wp2_with fail
      go_loopw [5] (fun iv wr => ∃ i : Nat, i ≤ l.length ∧ iv = .int .i64 (i : Int) ∧ Below w.heap.size w wr) (fun iv _ => l.length - (intOf iv).toNat)
      case atStart => exact ⟨0, Nat.zero_le _, rfl, Below.refl _ _⟩
      case round =>
        obtain ⟨i, hi, rfl, hB⟩ := hrel
        by_cases hlt : i < l.length
        · obtain ⟨m, hm⟩ : ∃ m, l[i]? = some m := ⟨l[i], List.getElem?_eq_getElem hlt⟩
          have c0 : wr.cell? ⟨g, i, none⟩ = some (.int .i64 m) := by rw [hB.cell (p := ⟨g, i, none⟩) hg]; exact hc'.out i m hm
          have c1 : wr.cell? ⟨g2, i, none⟩ = some (.int .i64 m) := by rw [hB.cell (p := ⟨g2, i, none⟩) hg2]; exact hc2'.out i m hm
          have hB' := Hid.intro hB
          clear hm hB
          go_wp2_with fail
          go_big_region
          all_goals
            go_wp2
            go_roundw
            case rel => exact ⟨i + 1, by omega, by go_num, hB'.out.drew⟩
            case measure => simp [intOf]; omega
        · go_wp2
          go_ret
          exact ⟨rfl, hB⟩
end Go.Proofs.Ytlcobpfighpobaa
