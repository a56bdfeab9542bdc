/-
  A Still in memory; the contracts of still's has, Now, New, Block.
-/
import Derived.Test.YtnkfgefbiacagaaFilmE
namespace Go.Proofs.Ytnkfgefbiacagaa
open Go.ChangeShapes Go.WideShapes Go.ChangeAt Go.RowKit
attribute [local go_sem ↓] Go.wp_at_zero Go.wp_at_succ
attribute [local go_sem] str_size str_extract str_append str_toList

def sV (T : List UInt8) : Value := .string (str T)
/-- The cells of a Still. -/
def sCells (f K G : Nat) (O : List (List UInt8)) : List Value := .pointer (some ⟨f, 0, none⟩) :: .int .u64 (K : Int) :: .int .u64 (G : Int) :: O.map sV
/-- A *Still at block s: the volume's block, the words of what is kept and gone, the old blocks. -/
structure SObj (w : World) (s f K G : Nat) (O : List (List UInt8)) : Prop where
  box : w.heap[s]? = some (.cells (sCells f K G O).toArray 58 (0, 0))
  len : O.length = 64
  hK : K < 18446744073709551616
  hG : G < 18446744073709551616

theorem SObj.lt {w : World} {s f K G : Nat} {O : List (List UInt8)} (h : SObj w s f K G O) : s < w.heap.size := lt_of_block h.box
theorem SObj.keep {w w' : World} {s f K G : Nat} {O : List (List UInt8)} (h : SObj w s f K G O) (e : w'.heap[s]? = w.heap[s]?) : SObj w' s f K G O := ⟨by rw [e]; exact h.box, h.len, h.hK, h.hG⟩
theorem SObj.below {w w' : World} {s f K G : Nat} {O : List (List UInt8)} (h : SObj w s f K G O) (hb : Below w.heap.size w w') : SObj w' s f K G O := h.keep (hb.block s h.lt)
theorem SObj.but {w w' : World} {s f K G x : Nat} {O : List (List UInt8)} (h : SObj w s f K G O) (hb : But x w w') (hx : s ≠ x) : SObj w' s f K G O := h.keep (hb.block s h.lt hx)
theorem SObj.cells {w : World} {s f K G : Nat} {O : List (List UInt8)} (h : SObj w s f K G O) : w.cell? ⟨s, 0, none⟩ = some (.pointer (some ⟨f, 0, none⟩)) ∧ w.cell? ⟨s, 1, none⟩ = some (.int .u64 (K : Int)) ∧ w.cell? ⟨s, 2, none⟩ = some (.int .u64 (G : Int)) ∧ (∀ o, w.frozen? ⟨s, o, none⟩ = false) := by
  have hb := h.box
  refine ⟨by simp [World.cell?, hb, sCells], by simp [World.cell?, hb, sCells], by simp [World.cell?, hb, sCells], fun o => ?_⟩
  unfold World.frozen?
  simp [hb]
theorem SObj.old {w : World} {s f K G : Nat} {O : List (List UInt8)} (h : SObj w s f K G O) (k : Nat) (T : List UInt8) (hk : O[k]? = some T) : w.cell? ⟨s, 3 + k, none⟩ = some (.string (str T)) := by
  have hb := h.box
  unfold World.cell?
  simp only [hb]
  have : (sCells f K G O)[3 + k]? = some (sV T) := by
    unfold sCells
    rw [Nat.add_comm 3 k]
    simp [hk]
  simpa [sV] using this
theorem SObj.setK {w : World} {s f K G V : Nat} {O : List (List UInt8)} (h : SObj w s f K G O) (hV : V < 18446744073709551616) : SObj (w.setCell ⟨s, 1, none⟩ (.int .u64 (V : Int))) s f V G O := by
  refine ⟨?_, h.len, hV, h.hG⟩
  simp [World.setCell, Array.getElem?_modify, h.box, sCells]
theorem SObj.setG {w : World} {s f K G V : Nat} {O : List (List UInt8)} (h : SObj w s f K G O) (hV : V < 18446744073709551616) : SObj (w.setCell ⟨s, 2, none⟩ (.int .u64 (V : Int))) s f K V O := by
  refine ⟨?_, h.len, h.hK, hV⟩
  simp [World.setCell, Array.getElem?_modify, h.box, sCells]
theorem SObj.setO {w : World} {s f K G : Nat} {O : List (List UInt8)} (h : SObj w s f K G O) (k : Nat) (T : List UInt8) : SObj (w.setCell ⟨s, 3 + k, none⟩ (.string (str T))) s f K G (O.set k T) := by
  refine ⟨?_, by simpa using h.len, h.hK, h.hG⟩
  rw [Nat.add_comm 3 k]
  simp [World.setCell, Array.getElem?_modify, h.box, sCells, List.map_set, sV]

theorem u64_and_c (a b : Nat) (c : Int) (hc : c = (b : Int)) (ha : a < 18446744073709551616) (hb : b < 18446744073709551616) : bits .and .u64 (a : Int) c = ((a &&& b : Nat) : Int) := by
  subst hc; exact u64_and_nat a b ha hb
theorem bit_eq (W k : Nat) (hW : W < 18446744073709551616) : (decide (bits .and .u64 ((W : Int) / 2 ^ k) 1 = 1)) = W.testBit k := by
  have e : (W : Int) / 2 ^ k = ((W / 2 ^ k : Nat) : Int) := by rw [Int.natCast_ediv]; simp
  have hl : W / 2 ^ k ≤ W := Nat.div_le_self _ _
  rw [e, u64_and_c _ 1 1 rfl (by omega) (by decide), Nat.and_one_is_mod, Nat.testBit_eq_decide_div_mod_eq]
  congr 1
  apply propext
  omega
theorem has_any (W k : Nat) (w : World) (hW : W < 18446744073709551616) (hk : k < 64) :
    Calls Try.prog 26 #[.int .u64 (W : Int), .int .i64 (k : Int)] w fun e w' => e = .returned (.bool (W.testBit k)) ∧ w' = w := by
  have h0 : (0 : Int) ≤ (k : Int) := by omega
  have h1 : (k : Int) < 64 := by omega
  go_enter Try.func26, Try.ntmps26
  go_wp2
  go_ret
  refine ⟨?_, rfl⟩
  show Ending.returned (.bool (bits .and .u64 ((W : Int) / 2 ^ k) 1 == 1)) = _
  rw [← bit_eq W k hW]
  rfl
theorem now_any {w : World} {s f K G : Nat} {O : List (List UInt8)} (h : SObj w s f K G O) :
    Calls Try.prog 17 #[.pointer (some ⟨s, 0, none⟩)] w fun e w' => e = .returned (.pointer (some ⟨f, 0, none⟩)) ∧ w' = w := by
  obtain ⟨c0, _, _, _⟩ := h.cells
  clear h
  go_enter Try.func17, Try.ntmps17
  go_wp2
  go_ret
  exact ⟨rfl, rfl⟩
def zc : Array Value := (.pointer none :: .int .u64 0 :: .int .u64 0 :: List.replicate 64 (.string (str []))).toArray
theorem Try.info58 : (Try.prog.info? 58).map (fun i => (i.zero, i.size, i.bytes)) = some (some (.agg zc), 67, 1048) := by kernel_rfl
theorem zero58 (w : World) : (zeroValue 58).run Try.prog w = .ok (.agg zc) w := by
  obtain ⟨i, hi, hz0, hz1, hz2⟩ := info_parts Try.info58
  simp [zeroValue, typeInfo, hi, hz0]
theorem zc_size : zc.size = 67 := by simp [zc]
set_option maxRecDepth 100000 in
theorem snew_any {w : World} {b g B : Nat} {S : List UInt8} (h : FObj w b g S) (hl : S.length = B * 8) (h1 : 1 ≤ B) :
    Calls Try.prog 9 #[.pointer (some ⟨b, 0, none⟩)] w fun e w' => e = .returned (.tuple #[.pointer (some ⟨w.heap.size, 0, none⟩), .int .i64 0]) ∧ SObj w' w.heap.size b 0 0 (List.replicate 64 []) ∧ Below w.heap.size w w' := by
  have hb := Hid.intro (fblocks_B h hl)
  have q1 : ¬ (B : Int) = 0 := by omega
  have hz := zero58 w
  have hne : ¬ zc = #[] := fun e => by have := congrArg Array.size e; rw [zc_size] at this; simp at this
  clear h hl
  go_enter Try.func9, Try.ntmps9
  go_wp2_with fail
  refine hb.out.mono ?_; rintro e w2 ⟨rfl, rfl⟩
  go_wp2
  refine bodyPost_ret (v := .tuple #[.pointer (some ⟨w2.heap.size, 0, none⟩), .int .i64 0]) (by simp [results, Try.results9, go_sem]) rfl ⟨rfl, ?_, (Below.refl _ _).alloc (Nat.le_refl _) _⟩
  refine ⟨?_, by simp, by decide, by decide⟩
  rw [heap_alloc_new w2 _]
  congr 2
/-- A block as it was. -/
def shown (K : Nat) (O : List (List UInt8)) (S : List UInt8) (k : Nat) : List UInt8 := if K.testBit k then O[k]?.getD [] else blk S k
set_option maxRecDepth 100000 in
theorem sblock_any {w : World} {s f g B K G : Nat} {O : List (List UInt8)} {S : List UInt8} (k : Nat) (h : SObj w s f K G O) (hF : FObj w f g S) (hl : S.length = B * 8) (h2 : B ≤ 64) (hk : k < B) :
    Calls Try.prog 13 #[.pointer (some ⟨s, 0, none⟩), .int .i64 (k : Int)] w fun e w' => e = .returned (.tuple #[.string (str (shown K O S k)), .int .i64 0]) ∧ w' = w := by
  obtain ⟨c0, c1, _, _⟩ := h.cells
  have hh := Hid.intro (has_any K k w h.hK (by omega))
  have hn := Hid.intro (now_any h)
  have hbl := Hid.intro (block_in k hF hl h2 hk)
  have hkl : k < O.length := by rw [h.len]; omega
  have co := h.old k O[k] (List.getElem?_eq_getElem hkl)
  have e1 : shown K O S k = if K.testBit k then O[k] else blk S k := by unfold shown; rw [List.getElem?_eq_getElem hkl]; rfl
  rw [e1]
  have k64 : k < 64 := by omega
  generalize O[k] = T at *
  clear h hF hl e1 hkl
  have k0 : (0 : Int) ≤ (k : Int) := by omega
  have k1 : (k : Int) < 64 := by omega
  cases ht : K.testBit k with
  | true =>
    rw [ht] at hh
    simp only [if_true]
    go_enter Try.func13, Try.ntmps13
    go_wp2_with fail
    refine hh.out.mono ?_; rintro e w2 ⟨rfl, rfl⟩
    go_wp2
    exact bodyPost_ret (v := .tuple #[.string (str T), .int .i64 0]) (by simp [results, Try.results13, go_sem]) rfl ⟨rfl, rfl⟩
  | false =>
    rw [ht] at hh
    simp only [Bool.false_eq_true, if_false]
    go_enter Try.func13, Try.ntmps13
    go_wp2_with fail
    refine hh.out.mono ?_; rintro e w2 ⟨rfl, rfl⟩
    go_wp2_with fail
    refine hn.out.mono ?_; rintro e w3 ⟨rfl, rfl⟩
    go_wp2_with fail
    refine hbl.out.mono ?_; rintro e w4 ⟨rfl, rfl⟩
    go_wp2
    exact bodyPost_ret (v := .tuple #[.string (str (blk S k)), .int .i64 0]) (by simp [results, Try.results13, go_sem]) rfl ⟨rfl, rfl⟩
end Go.Proofs.Ytnkfgefbiacagaa
