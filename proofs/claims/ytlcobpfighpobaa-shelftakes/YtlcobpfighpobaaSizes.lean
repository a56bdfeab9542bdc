/-
  The contracts of the shelf's Sizes and Len: how many each bucket has; how many in all.
-/
import Derived.Test.YtlcobpfighpobaaFind
import Derived.Laws.MakeOwn
namespace Go.Proofs.Ytlcobpfighpobaa
open Go.ChangeShapes Go.WideShapes Go.ChangeAt Go.RowKit

/-- A block of numbers. -/
def NS (w : World) (G n : Nat) (xs : Nat → Int) : Prop := ∀ j, j < n → w.cell? ⟨G, j, none⟩ = some (.int .i64 (xs j)) ∧ w.frozen? ⟨G, j, none⟩ = false
theorem NS.set {w : World} {G n i : Nat} {xs : Nat → Int} (h : NS w G n xs) (v : Int) : NS (w.setCell ⟨G, i, none⟩ (.int .i64 v)) G n (fun j => if j = i then v else xs j) := fun j hj => by
  obtain ⟨a, b⟩ := h j hj
  by_cases e : j = i
  · subst e
    exact ⟨by simp [go_sem, a], by simp [go_sem, b]⟩
  · refine ⟨?_, by simp [go_sem, b]⟩
    refine (World.cell?_setCell_other w ⟨G, i, none⟩ ⟨G, j, none⟩ _ (by intro h; cases h; exact e rfl)).trans ?_
    simp [e, a]
theorem NS.congr {w : World} {G n : Nat} {xs ys : Nat → Int} (h : NS w G n xs) (e : ∀ j, j < n → xs j = ys j) : NS w G n ys := fun j hj => by rw [← e j hj]; exact h j hj
theorem NS.new (w : World) (n : Nat) : NS (w.alloc (.cells (madeCells (Value.int .i64 0).cells n) 3)) w.heap.size n (fun _ => 0) := fun j hj => by
  have h := heap_alloc_new w (.cells (madeCells (Value.int .i64 0).cells n) 3)
  constructor
  · unfold World.cell?
    rw [h]
    simp [madeCells, Value.cells, hj]
    rw [Nat.mod_one]
    rfl
  · unfold World.frozen?
    rw [h]
    simp
theorem make_ints (w : World) (n : Nat) (hn : n ≤ 1000) : ∃ w1, (Instr.makeSlice 30 (.int .i64 (n : Int)) (.int .i64 (n : Int))).run Try.prog w = .ok (.slice (some ⟨w.heap.size, 0, none⟩) n n) w1 ∧ NS w1 w.heap.size n (fun _ => 0) ∧ Below w.heap.size w w1 ∧ w1.heap.size = w.heap.size + 1 := by
  obtain ⟨i0, hi, hz0, hz1, hz2⟩ := info_parts Try.info3
  have hr := run_make (P := Try.prog) w 30 3 i0 (.int .i64 0) Try.underlying30 hi hz0 .i64 .i64 (n : Int) (n : Int) (by omega) (by omega) (by rw [hz2]; omega) (by omega)
  simp only [Int.toNat_natCast, hz1, Nat.mul_one] at hr
  exact ⟨_, hr, NS.new w n, (Below.refl _ _).alloc (Nat.le_refl _) _, by simp⟩

def lenAt (bs : List (List It)) (j : Nat) : Int := ((bs.getD j []).length : Nat)

theorem buk_len {w : World} {b : Nat} {v : Value} {l : List It} (h : Buk w b v l) : ∃ a c, v = .slice a l.length c := by
  rcases buk_cases h with ⟨rfl, rfl⟩ | ⟨g, cap, rfl, _⟩
  · exact ⟨_, _, rfl⟩
  · exact ⟨_, _, rfl⟩

set_option maxHeartbeats 1000000 in
set_option maxRecDepth 100000 in
theorem sizes_any {w : World} {b s : Nat} {bs : List (List It)} (h : Sh w b s bs) :
    Calls Try.prog 15 #[.pointer (some ⟨s, 0, none⟩)] w fun e w' => e = .returned (.slice (some ⟨w.heap.size, 0, none⟩) bs.length bs.length) ∧ NS w' w.heap.size bs.length (lenAt bs) ∧ Below w.heap.size w w' ∧ w.heap.size < w'.heap.size := by
  obtain ⟨B, vs, h⟩ := h
  have hlen := h.len
  have hn1 := h.n1
  have hn2 := h.n2
  have hc := h.head
  have h' := Hid.intro h
  have hsl : s < w.heap.size := lt_of_block h.box
  have hBl : B < w.heap.size := lt_of_block h.row
  rw [← hlen] at hc hn1 hn2
  clear h
  generalize hn : bs.length = n at *
  have hlen' := Hid.intro hlen
  clear hlen
  go_enter Try.func15, Try.ntmps15
  go_wp2_with fail
  refine (none_no h'.out).mono ?_; rintro e w0 ⟨rfl, rfl⟩
  obtain ⟨w1, hmk, hbs, hbl, hsz⟩ := make_ints w0 n (by omega)
  have hc1 : w1.cell? ⟨s, 0, none⟩ = some (.slice (some ⟨B, 0, none⟩) n n) := by rw [hbl.cell (p := ⟨s, 0, none⟩) hsl]; exact hc
  have hbs' := Hid.intro hbs
  have hbl' := Hid.intro hbl
  have hsz' := Hid.intro hsz
  have hn' := Hid.intro hn
  clear hbs hbl hsz hn
  go_wp2_with fail
  go_loopw [19] (fun iv wr => ∃ i : Nat, i ≤ n ∧ iv = .int .i64 i ∧ Hid (NS wr w0.heap.size n (fun j => if j < i then lenAt bs j else 0)) ∧ Below w0.heap.size w0 wr ∧ w0.heap.size < wr.heap.size) (fun iv _ => n - (intOf iv).toNat)
  case atStart => exact ⟨0, Nat.zero_le _, rfl, hbs'.out.congr (fun j hj => by simp), hbl'.out, by have := hsz'.out; omega⟩
  case round =>
    clear hmk hc1 hc
    obtain ⟨i, hi, rfl, hbi, hB1, hG⟩ := hrel
    have hB1' := Hid.intro hB1
    by_cases hl : i < n
    · have i1 : (i : Int) < (n : Int) := by omega
      obtain ⟨g1, g2⟩ := hbi.out i hl
      obtain ⟨v, l, hv, hl2, hbu, _, _, c0, z0⟩ := (h'.out.below hB1).bucket (k := i) (by rw [← hlen'.out]; exact hl)
      obtain ⟨a, c, rfl⟩ := buk_len hbu
      have hla : Hid (lenAt bs i = (l.length : Int)) := by simp [Hid, lenAt, List.getD, hl2]
      clear hbu hv hl2 hB1
      generalize w0.heap.size = G at *
      go_wp2
      go_roundw
      case rel =>
        refine ⟨i + 1, by omega, by go_num, ?_, hB1'.out.setCell (Nat.le_refl _) _, by simpa using hG⟩
        refine (hbi.out.set _).congr (fun j hj => ?_)
        by_cases e : j = i
        · subst e; rw [if_pos rfl, if_pos (by omega), hla.out]
        · rw [if_neg e]
          by_cases e2 : j < i
          · rw [if_pos e2, if_pos (by omega)]
          · rw [if_neg e2, if_neg (by omega)]
      case measure => simp [intOf]; omega
    · obtain rfl : i = n := by omega
      clear hB1
      go_wp2
      go_ret
      exact ⟨rfl, hbi.out.congr fun j hj => by simp [hj], hB1'.out, hG⟩
end Go.Proofs.Ytlcobpfighpobaa
