/-
  The contract of namesOf.
-/
import Derived.Test.YtgigpohfkppplaaLGen
import Derived.Laws.OwnMore
namespace Go.Proofs.Ytgigpohfkppplaa
open Go.ChangeShapes Go.WideShapes Go.ChangeAt Go.RowKit
attribute [local go_sem] str_size str_extract str_append str_toList

theorem made_ints (n : Nat) : (madeCells (Value.int .i64 0).cells n).toList = BkI.itemsV (List.replicate n 0) := by
  have h : ∀ m, BkI.itemsV (List.replicate m 0) = List.replicate m (Value.int .i64 0) := by
    intro m
    induction m with
    | zero => rfl
    | succ m ih => rw [List.replicate_succ, BkI.itemsV, ih, List.replicate_succ]
  rw [h]
  apply List.ext_getElem
  · simp [madeCells]
  · intro i h1 h2
    simp [madeCells, Value.cells]
    rw [Nat.mod_one]; rfl
theorem make_ints (w : World) (n : Nat) (hn : n ≤ 1000) : ∃ w1, (Instr.makeSlice 33 (.int .i64 (n : Int)) (.int .i64 (n : Int))).run Try.prog w = .ok (.slice (some ⟨w.heap.size, 0, none⟩) n n) w1 ∧ w1.ownsRow w.heap.size 3 1 (.slice (some ⟨w.heap.size, 0, none⟩) n n) n (BkI.itemsV (List.replicate n 0)) ∧ Below w.heap.size w w1 ∧ w1.heap.size = w.heap.size + 1 := by
  obtain ⟨i0, hi, hz0, hz1, hz2⟩ := info_parts BkI.Try.infoE
  have hr := run_make (P := Try.prog) w 33 3 i0 (.int .i64 0) Try.underlying33 hi hz0 .i64 .i64 (n : Int) (n : Int) (by omega) (by omega) (by rw [hz2]; omega) (by omega)
  simp only [Int.toNat_natCast, hz1, Nat.mul_one] at hr
  refine ⟨_, hr, ?_, (Below.refl _ _).alloc (Nat.le_refl _) _, by simp⟩
  rw [← made_ints]
  exact World.ownsRow_lit w _ n (Nat.le_refl _) (by unfold maxLen; omega) (by rw [size_madeCells, Nat.mul_one])
theorem items_set : ∀ (l : List Int) (i : Nat) (x : Int), (BkI.itemsV l).set i (.int .i64 x) = BkI.itemsV (l.set i x)
  | [], i, x => rfl
  | y :: r, 0, x => rfl
  | y :: r, i + 1, x => by rw [BkI.itemsV, List.set_cons_succ, List.set_cons_succ, BkI.itemsV, items_set r i x]
theorem psN_zero (P : List UInt8) : psN 0 P = [] := by rw [psN, List.take_zero]; rfl
theorem psN_succ {P : List UInt8} {i : Nat} {x : UInt8} (h : P[6 + i]? = some x) : psN (i + 1) P = psN i P ++ [(x.toNat : Int)] := by
  rw [psN, psN, List.take_add_one, List.getElem?_drop, h, Option.toList_some, List.map_append]; rfl
theorem fill_step {P : List UInt8} {i n : Nat} {x : UInt8} (h : P[6 + i]? = some x) (hl : (psN i P).length = i) (hi : i < n) : (psN i P ++ List.replicate (n - i) 0).set i (x.toNat : Int) = psN (i + 1) P ++ List.replicate (n - (i + 1)) 0 := by
  rw [List.set_append_right _ _ (by omega), hl, Nat.sub_self, show n - i = (n - (i + 1)) + 1 by omega, List.replicate_succ, List.set_cons_zero, psN_succ h, List.append_assoc]; rfl
theorem fill_at {P : List UInt8} {i n : Nat} (hl : (psN i P).length = i) (hi : i < n) : (psN i P ++ List.replicate (n - i) 0)[i]? = some 0 := by
  rw [List.getElem?_append_right (by omega), hl, Nat.sub_self, show n - i = (n - (i + 1)) + 1 by omega]; rfl

set_option maxRecDepth 100000 in
theorem names_row (P : List UInt8) (n : Nat) (w : World) (hl : P.length = 32) (hn : n ≤ 11) (hc : min (cnL P : Int) 11 = n) :
    Calls Try.prog 32 #[.string (str P)] w fun e w' => ∃ v, e = .returned v ∧ w'.ownsRow w.heap.size 3 1 v n (BkI.itemsV (psN n P)) ∧ Below w.heap.size w w' := by
  obtain ⟨w1, hmk, hrow, hbl, hsz⟩ := make_ints w n (by omega)
  have h5 : ∃ x, P[5]? = some x ∧ cnL P = x.toNat := ⟨P[5]'(by omega), List.getElem?_eq_getElem (by omega), by rw [cnL, List.getD_eq_getElem?_getD, List.getElem?_eq_getElem (by omega)]; rfl⟩
  obtain ⟨x5, hx5, hc5⟩ := h5
  have hat5 : ∀ w, (Instr.index 9 (.string (str P)) (.int .i64 5)).run Try.prog w = .ok (.int .u8 (cnL P : Int)) w := fun w => by rw [hc5]; exact str_at P 5 x5 hx5 w
  have hm5 : cnL P < 256 := by rw [hc5]; exact x5.toNat_lt
  have hrow' := Hid.intro hrow
  have hbl' := Hid.intro hbl
  have hsz' := Hid.intro hsz
  clear hrow hbl hsz hx5 hc5
  have hlen : (P.length : Int) = 32 := by omega
  generalize cnL P = m at *
  have n0 : (0 : Int) ≤ (n : Int) := Int.natCast_nonneg _
  go_enter Try.func32, Try.ntmps32
  go_wp2_with fail
  go_loopw [12] (fun iv wr => ∃ i : Nat, i ≤ n ∧ iv = .int .i64 i ∧ wr.ownsRow w.heap.size 3 1 (.slice (some ⟨w.heap.size, 0, none⟩) n n) n (BkI.itemsV (psN i P ++ List.replicate (n - i) 0)) ∧ Below w.heap.size w wr ∧ w.heap.size < wr.heap.size) (fun iv _ => n - (intOf iv).toNat)
  case atStart => exact ⟨0, Nat.zero_le _, rfl, by rw [psN_zero, List.nil_append]; exact hrow'.out, hbl'.out, by have := hsz'.out; omega⟩
  case round =>
    clear hmk hat5
    obtain ⟨i, hi, rfl, hbi, hB1, hG⟩ := hrel
    have i0 : (0 : Int) ≤ (i : Int) := Int.natCast_nonneg _
    have hbi' := Hid.intro hbi
    have hB1' := Hid.intro hB1
    by_cases hlt : i < n
    · have i1 : (i : Int) < n := by omega
      have hps := psN_length (n := i) hl (by omega)
      obtain ⟨x, hx⟩ : ∃ x, P[6 + i]? = some x := ⟨P[6 + i]'(by omega), List.getElem?_eq_getElem _⟩
      have hat := str_at P (6 + i) x hx wr
      rw [show ((6 + i : Nat) : Int) = 6 + (i : Int) by omega] at hat
      unfold bV at hat
      have hst := Hid.intro (fill_step (n := n) hx hps hlt)
      have g1 : wr.cell? ⟨w.heap.size, i, none⟩ = some (.int .i64 0) := by
        rw [hbi.cellAt i (by omega)]; exact BkI.itemsV_get _ _ _ (fill_at hps hlt)
      have g2 : wr.frozen? ⟨w.heap.size, i, none⟩ = false := hbi.frozenAt i
      have hm : x.toNat < 256 := x.toNat_lt
      have hsv := Hid.intro (hbi.stored i (.int .i64 (x.toNat : Int)))
      clear hx hps hbi hB1
      generalize x.toNat = z at *
      generalize hGe : w.heap.size = G at *
      go_wp2
      go_roundw
      case rel =>
        refine ⟨i + 1, by omega, by go_num, ?_, hB1'.out.setCell (Nat.le_refl _) _, by simpa using hG⟩
        rw [← hst.out, ← items_set]
        exact hsv.out.1
      case measure => simp [intOf]; omega
    · obtain rfl : i = n := by omega
      have hr := hbi'.out
      rw [Nat.sub_self, List.replicate_zero, List.append_nil] at hr
      have hr' := Hid.intro hr
      clear hr hbi hB1
      go_wp2
      go_ret
      exact ⟨_, rfl, hr'.out, hB1'.out⟩
end Go.Proofs.Ytgigpohfkppplaa
