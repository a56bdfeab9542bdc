/-
  The contracts of Lay and Read: a page of bytes, or ErrArg; a page's bytes, or that it is none.
-/
import Derived.Test.YtgigpohfkppplaaLNeed
import Derived.Lib.LazyBuf
namespace Go.Proofs.Ytgigpohfkppplaa
open Go.ChangeShapes Go.WideShapes Go.ChangeAt Go.RowKit
attribute [local go_sem] str_size str_extract str_append str_toList

theorem bb_alloc (w : World) (S : List UInt8) (t : TypeId) : BB (w.alloc (.cells (S.map bV).toArray t)) w.heap.size S := by
  have h := heap_alloc_new w (.cells (S.map bV).toArray t)
  refine ⟨by simp, fun j x hj => ?_, fun j hj => ?_⟩
  · unfold World.cell?
    rw [h]
    simp [hj]
  · unfold World.frozen?
    rw [h]
    simp
theorem sz_setCells (g : Nat) : ∀ (vs : List Value) (o : Nat) (w : World), (w.setCells g o vs).heap.size = w.heap.size
  | [], _, _ => rfl
  | v :: r, o, w => by rw [World.setCells, sz_setCells g r (o + 1)]; simp
theorem bb_copy {w : World} {g : Nat} {S : List UInt8} (a : Nat) (T : List UInt8) (h : BB w g S) (ha : a + T.length ≤ S.length) : BB (w.setCells g a (T.map bV)) g (S.take a ++ T ++ S.drop (a + T.length)) := by
  have hlen : (S.take a ++ T ++ S.drop (a + T.length)).length = S.length := by simp; omega
  refine ⟨by rw [sz_setCells]; exact h.lt, fun j x hj => ?_, fun j hj => ?_⟩
  · by_cases c1 : j < a
    · rw [World.cell?_setCells_out g _ a w ⟨g, j, none⟩ (fun _ _ => .inl c1)]
      refine h.bytes j x ?_
      rw [List.append_assoc, List.getElem?_append_left (by simp; omega), List.getElem?_take_of_lt c1] at hj
      exact hj
    · by_cases c2 : j < a + T.length
      · have e := World.cell?_setCells_in g (T.map bV) a w (fun i hi => by rw [h.bytes (a + i) _ (List.getElem?_eq_getElem (by simp at hi; omega))]; rfl) (j - a) (by simp; omega)
        rw [show a + (j - a) = j by omega] at e
        rw [e]
        rw [List.append_assoc, List.getElem?_append_right (by simp; omega), List.getElem?_append_left (by simp; omega)] at hj
        simp only [List.length_take, Nat.min_eq_left (show a ≤ S.length by omega)] at hj
        simp only [List.getElem_map]
        rw [List.getElem?_eq_getElem (by omega)] at hj
        rw [Option.some.inj hj]
      · rw [World.cell?_setCells_out g _ a w ⟨g, j, none⟩ (fun _ _ => .inr (by simp; omega))]
        refine h.bytes j x ?_
        rw [List.getElem?_append_right (by simp; omega)] at hj
        simp only [List.length_append, List.length_take, Nat.min_eq_left (show a ≤ S.length by omega)] at hj
        rw [List.getElem?_drop, show a + T.length + (j - (a + T.length)) = j by omega] at hj
        exact hj
  · rw [World.frozen?_setCells]
    exact h.fro j (by omega)
theorem copy_str {w : World} {g o n c : Nat} {T : List UInt8} (hn : T.length ≤ n) (hc : ∀ j, j < T.length → (w.cell? ⟨g, o + j, none⟩).isSome = true) (hf : ∀ j, j < T.length → w.frozen? ⟨g, o + j, none⟩ = false) :
    (Builtin.copy_ #[54, 9] 3 #[.slice (some ⟨g, o, none⟩) n c, .string (str T)]).run Try.prog w = .ok (goInt T.length) (w.setCells g o (T.map bV)) := by
  obtain ⟨i0, hi, hz0, hz1, hz2⟩ := info_parts Try.info5
  have hst := run_storeCells_cells (P := Try.prog) g o (T.map bV) 0 w (by simpa using hc) (by simpa using hf) (by simp [bV_one])
  have hm : Nat.min T.length n = T.length := Nat.min_eq_left hn
  have hx : List.take T.length (List.map (fun (b : UInt8) => Value.int IntKind.u8 (b.toNat : Int)) (str T).data.toList) = T.map bV := by
    rw [List.take_of_length_le (by simp [str])]; rfl
  simp only [Nat.add_zero] at hst
  simp [Builtin.copy_, run_underlying Try.underlying54, Builtin.lenOf, Builtin.firstCells, sizeOf, typeInfo, hi, str_size, hm, hx, hst]
theorem bb_copy_run {w : World} {g : Nat} {S T : List UInt8} {n c : Nat} (h : BB w g S) (a : Nat) (hn : T.length ≤ n) (ha : a + T.length ≤ S.length) :
    (Builtin.copy_ #[54, 9] 3 #[.slice (some ⟨g, a, none⟩) n c, .string (str T)]).run Try.prog w = .ok (goInt T.length) (w.setCells g a (T.map bV)) :=
  copy_str hn (fun j hj => by rw [h.bytes (a + j) _ (List.getElem?_eq_getElem (by omega))]; rfl) (fun j hj => h.fro (a + j) (by omega))

/-- The zero of an array of 28 bytes, with its first one set. -/
def a28 (n : Nat) : Array Value := #[.int .u8 (n : Int), .int .u8 0, .int .u8 0, .int .u8 0, .int .u8 0, .int .u8 0, .int .u8 0, .int .u8 0, .int .u8 0, .int .u8 0, .int .u8 0, .int .u8 0, .int .u8 0, .int .u8 0, .int .u8 0, .int .u8 0, .int .u8 0, .int .u8 0, .int .u8 0, .int .u8 0, .int .u8 0, .int .u8 0, .int .u8 0, .int .u8 0, .int .u8 0, .int .u8 0, .int .u8 0, .int .u8 0]
theorem a28_eq {n : Nat} (h : n < 256) : a28 n = ((UInt8.ofNat n :: zer 27).map bV).toArray := by
  rw [List.map_cons, bV, u8_small h]; rfl
theorem lay_mem (T : List UInt8) (w : World) (hT : T.length ≤ 27) :
    (Builtin.copy_ #[54, 9] 3 #[.slice (some ⟨w.heap.size, 1, none⟩) 27 27, .string (str T)]).run Try.prog (w.alloc (.cells (a28 T.length) 58)) = .ok (goInt T.length) ((w.alloc (.cells (a28 T.length) 58)).setCells w.heap.size 1 (T.map bV))
    ∧ (convert 54 9 (.slice (some ⟨w.heap.size, 0, none⟩) 28 28)).run Try.prog ((w.alloc (.cells (a28 T.length) 58)).setCells w.heap.size 1 (T.map bV)) = .ok (.string (str (pad (UInt8.ofNat T.length :: T)))) ((w.alloc (.cells (a28 T.length) 58)).setCells w.heap.size 1 (T.map bV))
    ∧ Below w.heap.size w ((w.alloc (.cells (a28 T.length) 58)).setCells w.heap.size 1 (T.map bV)) := by
  rw [a28_eq (by omega)]
  have h1 := bb_alloc w (UInt8.ofNat T.length :: zer 27) 58
  have hl : (UInt8.ofNat T.length :: zer 27).length = 28 := rfl
  have h2 := bb_copy 1 T h1 (by omega)
  refine ⟨bb_copy_run h1 1 hT (by omega), h2.str (n := 28) ?_ ?_, below_setCells _ _ _ _ ((Below.refl _ _).alloc (Nat.le_refl _) _) (Nat.le_refl _)⟩
  · rw [List.take_of_length_le (by simp [zer]; omega)]
    rw [List.take_succ_cons, List.take_zero, pad, zer, zer, show 1 + T.length = T.length + 1 by omega, List.drop_succ_cons, List.drop_replicate, List.length_cons, show 28 - (T.length + 1) = 27 - T.length by omega]
    rfl
  · simp [zer]; omega
set_option maxRecDepth 100000 in
theorem lay_some (T : List UInt8) (w : World) (hT : T.length ≤ 27) :
    Calls Try.prog 10 #[.string (str T)] w fun e w' => e = .returned (.tuple #[.string (str (layL T)), .int .i64 0]) ∧ Below w.heap.size w w' := by
  obtain ⟨hcp, hcv, hbl⟩ := lay_mem T w hT
  have h3 := Hid.intro (fun w => seal_any (pad (UInt8.ofNat T.length :: T)) w (by rw [pad_length (by rw [List.length_cons]; omega)]; omega))
  have hr : Hid (layL T = sld (pad (UInt8.ofNat T.length :: T))) := Hid.intro rfl
  rw [hr.out]
  generalize sld (pad (UInt8.ofNat T.length :: T)) = Z at *
  generalize pad (UInt8.ofNat T.length :: T) = Y at *
  have hbl' := Hid.intro hbl
  clear hbl hr
  generalize (w.alloc (.cells (a28 T.length) 58)).setCells w.heap.size 1 (T.map bV) = w2 at *
  unfold a28 at hcp
  have l0 : (0 : Int) ≤ (T.length : Int) := Int.natCast_nonneg _
  have l1 : (T.length : Int) ≤ 27 := by omega
  go_enter Try.func10, Try.ntmps10
  go_wp2_with fail
  refine (h3.out _).mono ?_; rintro e w3 ⟨rfl, hb⟩
  have hb' := Hid.intro (hbl'.out.trans (hb.mono hbl'.out.size))
  clear hb
  go_wp2
  go_ret2
  exact ⟨rfl, hb'.out⟩
theorem lay_none (T : List UInt8) (w : World) (hT : ¬ T.length ≤ 27) :
    Calls Try.prog 10 #[.string (str T)] w fun e w' => e = .returned (.tuple #[.string (str []), .int .i64 1]) ∧ w' = w := by
  have l1 : (27 : Int) < (T.length : Int) := by omega
  go_enter Try.func10, Try.ntmps10
  go_wp2
  go_ret2
  exact ⟨rfl, rfl⟩
end Go.Proofs.Ytgigpohfkppplaa
