/-
  The contract of dirt's Bytes.
-/
import Derived.Test.YtohjdpdmabjdaaaDirtB
import Derived.Test.YtohjdpdmabjdaaaCuts
namespace Go.Proofs.Ytohjdpdmabjdaaa
open Go.ChangeShapes Go.WideShapes Go.ChangeAt Go.RowKit
attribute [local go_sem ↓] Go.wp_at_zero Go.wp_at_succ

/-- The byte i of a word. -/
def byt (W i : Nat) : Nat := W / 2 ^ (i * 8) % 256
def bytL (W n : Nat) : List Int := (List.range n).map fun i => ((byt W i : Nat) : Int)
theorem bytL_length (W n : Nat) : (bytL W n).length = n := by simp [bytL]
theorem bytL_getD (W n i : Nat) (h : i < n) : (bytL W n).getD i 0 = ((byt W i : Nat) : Int) := by
  simp [bytL, List.getD, h]

/-- A block of bytes. -/
def BS (w : World) (G n : Nat) (xs : Nat → Int) : Prop := ∀ j, j < n → w.cell? ⟨G, j, none⟩ = some (.int .u8 (xs j)) ∧ w.frozen? ⟨G, j, none⟩ = false
theorem BS.set {w : World} {G n i : Nat} {xs : Nat → Int} (h : BS w G n xs) (v : Int) : BS (w.setCell ⟨G, i, none⟩ (.int .u8 v)) G n (fun j => if j = i then v else xs j) := fun j hj => by
  obtain ⟨a, b⟩ := h j hj
  by_cases e : j = i
  · subst e
    exact ⟨by simp [go_sem, a], by simp [go_sem, b]⟩
  · refine ⟨?_, by simp [go_sem, b]⟩
    refine (World.cell?_setCell_other w ⟨G, i, none⟩ ⟨G, j, none⟩ _ (by intro h; cases h; exact e rfl)).trans ?_
    simp [e, a]
theorem BS.congr {w : World} {G n : Nat} {xs ys : Nat → Int} (h : BS w G n xs) (e : ∀ j, j < n → xs j = ys j) : BS w G n ys := fun j hj => by rw [← e j hj]; exact h j hj
theorem BS.new (w : World) (n : Nat) : BS (w.alloc (.cells (madeCells (Value.int .u8 0).cells n) 5)) w.heap.size n (fun _ => 0) := fun j hj => by
  have h := heap_alloc_new w (.cells (madeCells (Value.int .u8 0).cells n) 5)
  constructor
  · unfold World.cell?
    rw [h]
    simp [madeCells, Value.cells, hj]
    rw [Nat.mod_one]
    rfl
  · unfold World.frozen?
    rw [h]
    simp
theorem Try.info5 : (Try.prog.info? 5).map (fun i => (i.zero, i.size, i.bytes)) = some (some (.int .u8 0), 1, 1) := by kernel_rfl
theorem make_bytes (w : World) (n : Nat) (hn : n ≤ 1000) : ∃ w1, (Instr.makeSlice 73 (.int .i64 (n : Int)) (.int .i64 (n : Int))).run Try.prog w = .ok (.slice (some ⟨w.heap.size, 0, none⟩) n n) w1 ∧ BS w1 w.heap.size n (fun _ => 0) ∧ Below w.heap.size w w1 ∧ w1.heap.size = w.heap.size + 1 := by
  obtain ⟨i0, hi, hz0, hz1, hz2⟩ := info_parts Try.info5
  have hr := run_make (P := Try.prog) w 73 5 i0 (.int .u8 0) Try.underlying73 hi hz0 .i64 .i64 (n : Int) (n : Int) (by omega) (by omega) (by rw [hz2]; omega) (by omega)
  simp only [Int.toNat_natCast, hz1, Nat.mul_one] at hr
  exact ⟨_, hr, BS.new w n, (Below.refl _ _).alloc (Nat.le_refl _) _, by simp⟩

theorem dbytes_n {w : World} {b B W n : Nat} (h : DObj w b B W) (hB : B ≤ 64) (hbn : Hid ((B + 7) / 8 = n)) :
    Calls Try.prog 22 #[.pointer (some ⟨b, 0, none⟩)] w fun e w' => e = .returned (.string (strOfNums (bytL W n))) ∧ Below w.heap.size w w' := by
  have hh : Hid (DObj w b B W) := h
  have hlt := h.lt
  have hn : n ≤ 8 := by have := hbn.out; omega
  have hbc : Hid (∀ z, Calls Try.prog 39 #[.int .i64 (B : Int)] z fun e w' => e = .returned (.int .i64 (n : Int)) ∧ w' = z) := fun z => by rw [← hbn.out]; exact byteCount_any B z hB
  go_enter Try.func22, Try.ntmps22
  go_wp2_with fail
  refine (blocks_any hh.out).mono ?_; rintro e w2 ⟨rfl, rfl⟩
  go_wp2_with fail
  refine (hbc.out _).mono ?_; rintro e w3 ⟨rfl, rfl⟩
  obtain ⟨w1, hmk, hbs, hbl, hsz⟩ := make_bytes w3 n (by omega)
  have hbs' := Hid.intro hbs
  have hbl' := Hid.intro hbl
  have hsz' := Hid.intro hsz
  clear hbs hbl hsz h
  go_wp2_with fail
  go_loopw [11] (fun iv wr => ∃ i : Nat, i ≤ n ∧ iv = .int .i64 i ∧ BS wr w3.heap.size n (fun j => if j < i then ((byt W j : Nat) : Int) else 0) ∧ Below w3.heap.size w3 wr ∧ w3.heap.size < wr.heap.size) (fun iv _ => n - (intOf iv).toNat)
  case atStart => exact ⟨0, Nat.zero_le _, rfl, hbs'.out.congr (fun j hj => by simp), hbl'.out, by have := hsz'.out; omega⟩
  case round =>
    clear hmk
    obtain ⟨i, hi, rfl, hbi, hB1, hG⟩ := hrel
    have i0 : (0 : Int) ≤ (i : Int) := Int.natCast_nonneg _
    have hbi' := Hid.intro hbi
    have hB1' := Hid.intro hB1
    by_cases hl : i < n
    · have i1 : (i : Int) < (n : Int) := by omega
      obtain ⟨g1, g2⟩ := hbi i hl
      obtain ⟨c0, c1, _, _⟩ := (hh.out.below hB1 hlt).cells
      clear hbi hB1
      generalize w3.heap.size = G at *
      go_wp2
      refine ⟨⟨i + 1, by omega, by go_num, ?_, hB1'.out.setCell (Nat.le_refl _) _, by simpa using hG⟩, by simp [intOf]; omega⟩
      refine (hbi'.out.set _).congr (fun j hj => ?_)
      by_cases e : j = i
      · subst e; rw [if_pos rfl, if_pos (by omega)]; unfold byt; rw [Int.natCast_emod, Int.natCast_ediv, Int.natCast_pow]; rfl
      · rw [if_neg e]
        by_cases e2 : j < i
        · rw [if_pos e2, if_pos (by omega)]
        · rw [if_neg e2, if_neg (by omega)]
    · obtain rfl : i = n := by omega
      have hcv := run_convert_bytes_arg (P := Try.prog) wr 73 5 Try.underlying73 Try.underlying5 w3.heap.size 0 i i (bytL W i) (bytL_length W i) (fun j hj => by rw [bytL_getD W i j hj, Nat.zero_add]; have := (hbi j hj).1; simpa [hj] using this) 9 Try.underlying9
      clear hbi hB1
      go_wp2
      go_ret
      exact ⟨rfl, hB1'.out⟩
theorem dbytes_any {w : World} {b B W : Nat} (h : DObj w b B W) (hB : B ≤ 64) :
    Calls Try.prog 22 #[.pointer (some ⟨b, 0, none⟩)] w fun e w' => e = .returned (.string (strOfNums (bytL W ((B + 7) / 8)))) ∧ Below w.heap.size w w' := dbytes_n h hB rfl
theorem dbytes_none (w : World) :
    Calls Try.prog 22 #[.pointer none] w fun e w' => e = .returned (.string (strOfNums [])) ∧ Below w.heap.size w w' := by
  have hbc : Hid (∀ z, Calls Try.prog 39 #[.int .i64 0] z fun e w' => e = .returned (.int .i64 0) ∧ w' = z) := fun z => byteCount_any 0 z (by omega)
  go_enter Try.func22, Try.ntmps22
  go_wp2_with fail
  refine (blocks_none _).mono ?_; rintro e w2 ⟨rfl, rfl⟩
  go_wp2_with fail
  refine (hbc.out _).mono ?_; rintro e w3 ⟨rfl, rfl⟩
  obtain ⟨w1, hmk, _, hbl, _⟩ := make_bytes w3 0 (by omega)
  change (Instr.makeSlice 73 (.int .i64 0) (.int .i64 0)).run Try.prog w3 = _ at hmk
  have hbl' := Hid.intro hbl
  clear hbl
  go_wp2_with fail
  go_loop [11] (fun iv => iv = .int .i64 0) (fun _ => 0)
  case atStart => rfl
  case round =>
    clear hmk
    obtain rfl := hrel
    have hcv := run_convert_bytes_arg (P := Try.prog) w1 73 5 Try.underlying73 Try.underlying5 w3.heap.size 0 0 0 [] rfl (fun j hj => by omega) 9 Try.underlying9
    go_wp2
    go_ret
    exact ⟨rfl, hbl'.out⟩
end Go.Proofs.Ytohjdpdmabjdaaa
