/-
  Pages of bytes (layL), slots (slL), what is read of them (Isp, tkL; Iss, sgL, psL), parts (prt, need): functions on lists of bytes, no memory here; a page of which one byte is another is none; no page is a slot.
-/
import Derived.Test.YtgigpohfkppplaaLMath
namespace Go.Proofs.Ytgigpohfkppplaa
open Go.ChangeShapes Go.WideShapes Go.ChangeAt Go.RowKit

def zer (n : Nat) : List UInt8 := List.replicate n 0
theorem zer_length (n : Nat) : (zer n).length = n := List.length_replicate
def pad (B : List UInt8) : List UInt8 := B ++ zer (28 - B.length)
theorem pad_length {B : List UInt8} (h : B.length ≤ 28) : (pad B).length = 28 := by
  rw [pad, List.length_append, zer_length]; omega
/-- Bytes, zeros, and the tally. -/
def pgL (B : List UInt8) : List UInt8 := sld (pad B)
theorem pgL_length {B : List UInt8} (h : B.length ≤ 28) : (pgL B).length = 32 := by
  rw [pgL, sld_length, pad_length h]
theorem pgL_get {B : List UInt8} {i : Nat} (h : i < B.length) : (pgL B)[i]? = B[i]? := by
  rw [pgL, sld, pad, List.append_assoc, List.getElem?_append_left h]
theorem pgL_take {B : List UInt8} (n : Nat) (h : n ≤ B.length) : (pgL B).take n = B.take n := by
  rw [pgL, sld, pad, List.append_assoc, List.take_append_of_le_length h]
/-- A page of bytes. -/
def layL (T : List UInt8) : List UInt8 := pgL (UInt8.ofNat T.length :: T)
theorem layL_length {T : List UInt8} (h : T.length ≤ 27) : (layL T).length = 32 := pgL_length (by rw [List.length_cons]; omega)

/-- A page of which one byte is another is none. -/
theorem pg_other {X Y : List UInt8} (hX : X.length ≤ 28) (hY : Y.length ≤ 28) {k : Nat} {x c : UInt8} (hk : (pgL X)[k]? = some x) (hc : c ≠ x) : pgL Y ≠ (pgL X).set k c := by
  intro e
  have lX := pad_length hX
  have lY := pad_length hY
  unfold pgL at e hk
  by_cases hlt : k < 28
  · rw [sld_set _ _ _ (by omega)] at e
    rw [sld] at e hk
    rw [List.getElem?_append_left (by omega)] at hk
    obtain ⟨e1, e2⟩ := List.append_inj e (by rw [List.length_set, lX, lY])
    rw [e1] at e2
    exact by4_ne (fun h => one_other _ k x c hk hc h.symm) e2
  · rw [sld] at e hk
    rw [sld, List.set_append_right _ _ (by omega)] at e
    rw [List.getElem?_append_right (by omega)] at hk
    obtain ⟨e1, e2⟩ := List.append_inj e (by rw [lX, lY])
    rw [e1, lX] at e2
    rw [lX] at hk
    have e3 : (by4 (ofN (pad X)))[k - 28]? = ((by4 (ofN (pad X))).set (k - 28) c)[k - 28]? := by rw [← e2]
    rw [hk, List.getElem?_set_self (List.getElem?_eq_some_iff.1 hk).1] at e3
    exact hc (Option.some.inj e3).symm

/-! ### What a page says. -/
def hd (P : List UInt8) : Nat := (P.getD 0 0).toNat
def tkL (P : List UInt8) : List UInt8 := (P.drop 1).take (hd P)
def Isp (P : List UInt8) : Prop := P.length = 32 ∧ hd P ≤ 27 ∧ layL (tkL P) = P
instance (P : List UInt8) : Decidable (Isp P) := by unfold Isp; infer_instance
def rdS (P : List UInt8) : List UInt8 := if Isp P then tkL P else []
def rdE (P : List UInt8) : Int := if P.length ≠ 32 then 8 else if Isp P then 0 else 6
theorem hd_of {P : List UInt8} {x : UInt8} (h : P[0]? = some x) : hd P = x.toNat := by
  rw [hd, List.getD_eq_getElem?_getD, h]; rfl
theorem u8_small {n : Nat} (h : n < 256) : (UInt8.ofNat n).toNat = n := by
  rw [UInt8.toNat_ofNat']; omega
theorem hd_lay {T : List UInt8} (h : T.length ≤ 27) : hd (layL T) = T.length := by
  rw [hd_of (x := UInt8.ofNat T.length) (by rw [layL, pgL_get (by rw [List.length_cons]; omega)]; rfl), u8_small (by omega)]
theorem tk_lay {T : List UInt8} (h : T.length ≤ 27) : tkL (layL T) = T := by
  rw [tkL, hd_lay h]
  have e := pgL_take (B := UInt8.ofNat T.length :: T) (T.length + 1) (by rw [List.length_cons]; omega)
  rw [List.take_succ_cons, List.take_length] at e
  have e2 := congrArg (List.drop 1) e
  rw [List.drop_take] at e2
  simpa [layL] using e2
theorem tkL_length {P : List UInt8} (h : P.length = 32) (h2 : hd P ≤ 27) : (tkL P).length = hd P := by
  rw [tkL, List.length_take, List.length_drop]; omega
theorem isp_lay {T : List UInt8} (h : T.length ≤ 27) : Isp (layL T) := ⟨layL_length h, by rw [hd_lay h]; exact h, by rw [tk_lay h]⟩

/-! ### Slots. -/
def nb (ps : List Int) : List UInt8 := ps.map fun k => UInt8.ofNat k.toNat
theorem nb_length (ps : List Int) : (nb ps).length = ps.length := List.length_map _
def slB (g : Nat) (ps : List Int) : List UInt8 := 165 :: (num g 4 ++ UInt8.ofNat ps.length :: nb ps)
theorem slB_length (g : Nat) (ps : List Int) : (slB g ps).length = 6 + ps.length := by
  rw [slB, List.length_cons, List.length_append, num_length, List.length_cons, nb_length]; omega
def slL (g : Nat) (ps : List Int) : List UInt8 := pgL (slB g ps)
theorem slL_length {g : Nat} {ps : List Int} (h : ps.length ≤ 22) : (slL g ps).length = 32 := pgL_length (by rw [slB_length]; omega)
/-- Pages that a slot can name. -/
def Nm (ps : List Int) : Prop := ps.length ≤ 11 ∧ ∀ k ∈ ps, 2 ≤ k ∧ k < 250
def Sl (g : Int) (ps : List Int) : Prop := (1 ≤ g ∧ g ≤ 1000000000) ∧ Nm ps
instance (ps : List Int) : Decidable (Nm ps) := by unfold Nm; infer_instance
instance (g : Int) (ps : List Int) : Decidable (Sl g ps) := by unfold Sl; infer_instance
def sgL (P : List UInt8) : Nat := vl ((P.drop 1).take 4)
def cnL (P : List UInt8) : Nat := (P.getD 5 0).toNat
def psN (n : Nat) (P : List UInt8) : List Int := ((P.drop 6).take n).map fun b => (b.toNat : Int)
def psL (P : List UInt8) : List Int := psN (cnL P) P
def Iss (P : List UInt8) : Prop := P.length = 32 ∧ cnL P ≤ 11 ∧ Sl (sgL P) (psL P) ∧ slL (sgL P) (psL P) = P
instance (P : List UInt8) : Decidable (Iss P) := by unfold Iss; infer_instance
def usG (P : List UInt8) : Int := if Iss P then sgL P else 0
def usP (P : List UInt8) : List Int := if Iss P then psL P else []
def usE (P : List UInt8) : Int := if P.length ≠ 32 then 8 else if Iss P then 0 else 6
theorem psN_length {n : Nat} {P : List UInt8} (h : P.length = 32) (h2 : n ≤ 26) : (psN n P).length = n := by
  rw [psN, List.length_map, List.length_take, List.length_drop]; omega
theorem cn_slot (g : Nat) {ps : List Int} (h : ps.length ≤ 22) : cnL (slL g ps) = ps.length := by
  have e : (slL g ps)[5]? = some (UInt8.ofNat ps.length) := by
    rw [slL, pgL_get (by rw [slB_length]; omega), slB, List.getElem?_cons_succ, List.getElem?_append_right (by rw [num_length]; omega), num_length]; rfl
  rw [cnL, List.getD_eq_getElem?_getD, e]
  exact u8_small (by omega)
theorem sg_slot {g : Nat} (hg : g < 4294967296) (ps : List Int) : sgL (slL g ps) = g := by
  have e := pgL_take (B := slB g ps) 5 (by rw [slB_length]; omega)
  have e2 := congrArg (List.drop 1) e
  rw [List.drop_take] at e2
  rw [sgL, slL, e2, slB, List.take_succ_cons, List.drop_succ_cons, List.drop_zero, List.take_append_of_le_length (by rw [num_length]; decide), List.take_of_length_le (by rw [num_length]; decide)]
  exact vl_num 4 g hg
theorem nb_back {ps : List Int} (h : ∀ k ∈ ps, 2 ≤ k ∧ k < 250) : (nb ps).map (fun b => (b.toNat : Int)) = ps := by
  rw [nb, List.map_map]
  refine (List.map_congr_left (g := id) fun k hk => ?_).trans (List.map_id _)
  have := h k hk
  simp only [Function.comp, id]
  rw [u8_small (by omega)]; omega
theorem ps_slot (g : Nat) {ps : List Int} (h : Nm ps) : psL (slL g ps) = ps := by
  have h1 := h.1
  rw [psL, cn_slot g (by omega), psN]
  have e := pgL_take (B := slB g ps) (6 + ps.length) (by rw [slB_length]; omega)
  have e2 := congrArg (List.drop 6) e
  rw [List.drop_take, Nat.add_sub_cancel_left] at e2
  rw [slL, e2, List.take_of_length_le (by rw [slB_length]; omega), slB, List.drop_succ_cons, List.drop_append, num_length, List.drop_of_length_le (by rw [num_length]; omega), List.nil_append]
  exact nb_back h.2
theorem iss_slot {g : Int} {ps : List Int} (h : Sl g ps) : Iss (slL g.toNat ps) := by
  obtain ⟨⟨h1, h2⟩, h3⟩ := h
  have h4 := h3.1
  refine ⟨slL_length (by omega), by rw [cn_slot _ (by omega)]; exact h4, ?_, ?_⟩
  · rw [sg_slot (by omega), ps_slot _ h3]
    exact ⟨by omega, h3⟩
  · rw [sg_slot (by omega), ps_slot _ h3]
/-- No page is a slot, and no slot is a page of bytes. -/
theorem hd_slot (g : Nat) (ps : List Int) : hd (slL g ps) = 165 := by
  rw [hd_of (x := 165) (by rw [slL, pgL_get (by rw [slB_length]; omega)]; rfl)]; rfl
theorem slot_no_page (g : Nat) (ps : List Int) : ¬ Isp (slL g ps) := fun h => by
  have := h.2.1; rw [hd_slot] at this; omega
theorem page_no_slot {T : List UInt8} (h : T.length ≤ 27) : ¬ Iss (layL T) := fun hi => by
  have e := congrArg hd hi.2.2.2
  rw [hd_slot, hd_lay h] at e; omega
theorem page_other {T : List UInt8} (h : T.length ≤ 27) {k : Nat} {x c : UInt8} (hk : (layL T)[k]? = some x) (hc : c ≠ x) : ¬ Isp ((layL T).set k c) := fun hi =>
  pg_other (by rw [List.length_cons]; omega) (by have := tkL_length hi.1 hi.2.1; have := hi.2.1; rw [List.length_cons]; omega) hk hc hi.2.2
theorem slot_other {g : Nat} {ps : List Int} (h : ps.length ≤ 11) {k : Nat} {x c : UInt8} (hk : (slL g ps)[k]? = some x) (hc : c ≠ x) : ¬ Iss ((slL g ps).set k c) := fun hi =>
  pg_other (by rw [slB_length]; omega) (by have := hi.2.2.1.2.1; rw [slB_length]; omega) hk hc hi.2.2.2

/-! ### Parts. -/
def need (n : Nat) : Nat := (n + 26) / 27
def chk (S : List UInt8) (i : Nat) : List UInt8 := (S.drop (27 * i)).take 27
def prt (S : List UInt8) : List (List UInt8) := (List.range (need S.length)).map (chk S)
theorem prt_length (S : List UInt8) : (prt S).length = need S.length := by rw [prt, List.length_map, List.length_range]
theorem prt_get {S : List UInt8} {i : Nat} (h : i < need S.length) : (prt S)[i]? = some (chk S i) := by
  rw [prt, List.getElem?_map, List.getElem?_range h]; rfl
theorem chk_length (S : List UInt8) (i : Nat) : (chk S i).length = min 27 (S.length - 27 * i) := by
  rw [chk, List.length_take, List.length_drop]
/-- The parts one behind the other. -/
theorem chk_next (S : List UInt8) (i : Nat) : S.take (27 * i) ++ chk S i = S.take (27 * (i + 1)) := by
  rw [chk, show 27 * (i + 1) = 27 * i + 27 by omega, List.take_add]
theorem chk_all {S : List UInt8} {i : Nat} (h : need S.length ≤ i) : S.take (27 * i) = S := by
  unfold need at h
  exact List.take_of_length_le (by omega)
theorem chk_full {S : List UInt8} {i : Nat} (h : i + 1 < need S.length) : (chk S i).length = 27 := by
  rw [chk_length]; unfold need at h; omega
theorem chk_pos {S : List UInt8} {i : Nat} (h : i < need S.length) : 1 ≤ (chk S i).length ∧ (chk S i).length ≤ 27 := by
  rw [chk_length]; unfold need at h; omega
end Go.Proofs.Ytgigpohfkppplaa
