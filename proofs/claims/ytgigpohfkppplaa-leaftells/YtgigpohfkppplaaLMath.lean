/-
  Sums of bytes (tl, ofN, by4), numbers as bytes (num, vl), sealed bytes (sld): no memory here.
-/
import Derived.Test.YtgigpohfkppplaaLBase
namespace Go.Proofs.Ytgigpohfkppplaa
open Go.ChangeShapes Go.WideShapes Go.ChangeAt Go.RowKit
attribute [local go_sem ↓] Go.wp_at_zero Go.wp_at_succ

/-- One byte more. -/
def stp (p : Nat × Nat) (c : Nat) : Nat × Nat := ((p.1 + c) % 65521, (p.2 + (p.1 + c) % 65521) % 65521)
def tl : Nat × Nat → List UInt8 → Nat × Nat
  | p, [] => p
  | p, c :: S => tl (stp p c.toNat) S
def w32 (p : Nat × Nat) : Nat := p.2 * 65536 + p.1
/-- The halves of a number. -/
def sp (t : Nat) : Nat × Nat := (t % 65536, t / 65536)
def tal (S : List UInt8) : Nat × Nat := tl (44257, 0) S
def ofN (S : List UInt8) : Nat := w32 (tal S)
def by4 (t : Nat) : List UInt8 := [UInt8.ofNat (t % 256), UInt8.ofNat (t / 256 % 256), UInt8.ofNat (t / 65536 % 256), UInt8.ofNat (t / 16777216 % 256)]
def Sm (p : Nat × Nat) : Prop := p.1 < 65521 ∧ p.2 < 65521
def Lo (p : Nat × Nat) : Prop := p.1 < 65536 ∧ p.2 < 65536
theorem Sm.lo {p : Nat × Nat} (h : Sm p) : Lo p := ⟨by have := h.1; omega, by have := h.2; omega⟩
theorem stp_sm (p : Nat × Nat) (c : Nat) : Sm (stp p c) := ⟨Nat.mod_lt _ (by decide), Nat.mod_lt _ (by decide)⟩
theorem tl_nil (p : Nat × Nat) : tl p [] = p := by rw [tl]
theorem tl_cons (p : Nat × Nat) (c : UInt8) (S : List UInt8) : tl p (c :: S) = tl (stp p c.toNat) S := by rw [tl]
theorem tl_append (S T : List UInt8) : ∀ p, tl p (S ++ T) = tl (tl p S) T := by
  induction S with
  | nil => intro p; rw [List.nil_append, tl_nil]
  | cons c S ih => intro p; rw [List.cons_append, tl_cons, tl_cons]; exact ih _
theorem tl_snoc (S : List UInt8) (c : UInt8) (p : Nat × Nat) : tl p (S ++ [c]) = stp (tl p S) c.toNat := by
  rw [tl_append, tl_cons, tl_nil]
theorem tl_take {S : List UInt8} {i : Nat} {c : UInt8} (p : Nat × Nat) (h : S[i]? = some c) : tl p (S.take (i + 1)) = stp (tl p (S.take i)) c.toNat := by
  rw [List.take_add_one, h, Option.toList_some, tl_snoc]
theorem tl_sm (S : List UInt8) : ∀ p, Sm p → Sm (tl p S) := by
  induction S with
  | nil => intro p h; rw [tl_nil]; exact h
  | cons c S ih => intro p _; rw [tl_cons]; exact ih _ (stp_sm _ _)
theorem tl_lo (S : List UInt8) : ∀ p, Lo p → Lo (tl p S) := by
  cases S with
  | nil => intro p h; rw [tl_nil]; exact h
  | cons c S => intro p _; rw [tl_cons]; exact (tl_sm _ _ (stp_sm _ _)).lo
theorem start_sm : Sm (44257, 0) := ⟨by decide, by decide⟩
theorem tal_sm (S : List UInt8) : Sm (tal S) := tl_sm S _ start_sm
theorem w32_lt {p : Nat × Nat} (h : Lo p) : w32 p < 4294967296 := by
  have h1 := h.1; have h2 := h.2; unfold w32; omega
theorem ofN_lt (S : List UInt8) : ofN S < 4294967296 := w32_lt (tal_sm S).lo
theorem sp_w32 {p : Nat × Nat} (h : Lo p) : sp (w32 p) = p := by
  have h1 := h.1; have h2 := h.2
  unfold sp w32
  exact Prod.ext (by simp only; omega) (by simp only; omega)
theorem sp_lo {t : Nat} (h : t < 4294967296) : Lo (sp t) := ⟨Nat.mod_lt _ (by decide), by unfold sp; simp only; omega⟩
theorem sp_ofN (S : List UInt8) : sp (ofN S) = tal S := sp_w32 (tal_sm S).lo
theorem w32_inj {p q : Nat × Nat} (hp : Lo p) (hq : Lo q) (e : w32 p = w32 q) : p = q := by
  rw [← sp_w32 hp, e, sp_w32 hq]
/-- A sum goes on where it was left. -/
theorem ofN_append (S T : List UInt8) : w32 (tl (sp (ofN S)) T) = ofN (S ++ T) := by
  rw [sp_ofN, ofN, tal, tal, tl_append]
/-- Bytes that the same is added to: other halves stay other ones. -/
theorem stp_inj {p q : Nat × Nat} {c : Nat} (hp : Sm p) (hq : Sm q) (e : stp p c = stp q c) : p = q := by
  have h1 := congrArg Prod.fst e
  have h2 := congrArg Prod.snd e
  unfold stp at h1 h2
  simp only at h1 h2
  obtain ⟨p1, p2⟩ := hp
  obtain ⟨q1, q2⟩ := hq
  have e1 : p.1 = q.1 := by omega
  rw [e1] at h2
  have e2 : p.2 = q.2 := by omega
  exact Prod.ext e1 e2
theorem tl_inj (S : List UInt8) : ∀ {p q : Nat × Nat}, Sm p → Sm q → tl p S = tl q S → p = q := by
  induction S with
  | nil => intro p q _ _ e; rwa [tl_nil, tl_nil] at e
  | cons c S ih => intro p q hp hq e; rw [tl_cons, tl_cons] at e; exact stp_inj hp hq (ih (stp_sm _ _) (stp_sm _ _) e)
/-- One byte is another. -/
theorem stp_one {p : Nat × Nat} {c d : Nat} (hp : Sm p) (hc : c < 256) (hd : d < 256) (e : stp p c = stp p d) : c = d := by
  have h1 := congrArg Prod.fst e
  unfold stp at h1
  simp only at h1
  have p1 := hp.1
  omega
theorem tal_one (A B : List UInt8) {c d : UInt8} (h : c ≠ d) : ofN (A ++ c :: B) ≠ ofN (A ++ d :: B) := by
  intro e
  have e1 := w32_inj (tal_sm _).lo (tal_sm _).lo e
  unfold tal at e1
  rw [tl_append, tl_append, tl_cons, tl_cons] at e1
  have e2 := tl_inj B (stp_sm _ _) (stp_sm _ _) e1
  have e3 := stp_one (tl_sm A _ start_sm) c.toNat_lt d.toNat_lt e2
  exact h (UInt8.toNat_inj.1 e3)
/-- Two are changed over. -/
theorem stp_two {p : Nat × Nat} {c d : Nat} (hp : Sm p) (hc : c < 256) (hd : d < 256) (e : stp (stp p c) d = stp (stp p d) c) : c = d := by
  have h2 := congrArg Prod.snd e
  unfold stp at h2
  simp only at h2
  obtain ⟨p1, p2⟩ := hp
  omega
theorem tal_two (A B : List UInt8) {c d : UInt8} (h : c ≠ d) : ofN (A ++ c :: d :: B) ≠ ofN (A ++ d :: c :: B) := by
  intro e
  have e1 := w32_inj (tal_sm _).lo (tal_sm _).lo e
  unfold tal at e1
  rw [tl_append, tl_append, tl_cons, tl_cons, tl_cons, tl_cons] at e1
  have e2 := tl_inj B (stp_sm _ _) (stp_sm _ _) e1
  have e3 := stp_two (tl_sm A _ start_sm) c.toNat_lt d.toNat_lt e2
  exact h (UInt8.toNat_inj.1 e3)
theorem by4_length (t : Nat) : (by4 t).length = 4 := rfl
theorem by4_inj {t u : Nat} (ht : t < 4294967296) (hu : u < 4294967296) (e : by4 t = by4 u) : t = u := by
  unfold by4 at e
  injection e with e0 e
  injection e with e1 e
  injection e with e2 e
  injection e with e3 e
  have f0 := u8_of (Nat.mod_lt _ (by decide)) (Nat.mod_lt _ (by decide)) e0
  have f1 := u8_of (Nat.mod_lt _ (by decide)) (Nat.mod_lt _ (by decide)) e1
  have f2 := u8_of (Nat.mod_lt _ (by decide)) (Nat.mod_lt _ (by decide)) e2
  have f3 := u8_of (Nat.mod_lt _ (by decide)) (Nat.mod_lt _ (by decide)) e3
  omega
theorem u32_or (a b : Nat) (ha : a < 4294967296) (hb : b < 4294967296) : bits .or .u32 (a : Int) (b : Int) = ((a ||| b : Nat) : Int) := by
  have hx : a ||| b < 4294967296 := Nat.or_lt_two_pow (n := 32) ha hb
  have h1 : (BitVec.ofInt 32 (a : Int)).toNat = a := by rw [BitVec.ofInt_natCast, BitVec.toNat_ofNat]; exact Nat.mod_eq_of_lt (by omega)
  have h2 : (BitVec.ofInt 32 (b : Int)).toNat = b := by rw [BitVec.ofInt_natCast, BitVec.toNat_ofNat]; exact Nat.mod_eq_of_lt (by omega)
  show IntKind.u32.wrap ((BitVec.ofInt 32 (a : Int) ||| BitVec.ofInt 32 (b : Int)).toNat : Int) = _
  rw [BitVec.toNat_or, h1, h2, wrap32, Nat.mod_eq_of_lt hx]
/-- Both halves by shift and or. -/
theorem or_halves {p : Nat × Nat} (h : Lo p) : (p.2 * 65536) ||| p.1 = w32 p := by
  rw [show p.2 * 65536 = p.2 <<< 16 by rw [Nat.shiftLeft_eq], ← Nat.shiftLeft_add_eq_or_of_lt (by have := h.1; simpa using this), Nat.shiftLeft_eq]; rfl
theorem bits_halves {p : Nat × Nat} (h : Lo p) : bits .or .u32 ((p.2 * 65536 : Nat) : Int) (p.1 : Int) = ((w32 p : Nat) : Int) := by
  rw [u32_or _ _ (by have := h.2; omega) (by have := h.1; omega), or_halves h]
theorem low16 (t : Nat) (h : t < 4294967296) : bits .and .u32 (t : Int) 65535 = ((t % 65536 : Nat) : Int) := by
  have h1 : (BitVec.ofInt 32 (t : Int)).toNat = t := by rw [BitVec.ofInt_natCast, BitVec.toNat_ofNat]; exact Nat.mod_eq_of_lt (by omega)
  have h2 : (BitVec.ofInt 32 65535).toNat = 2 ^ 16 - 1 := rfl
  show IntKind.u32.wrap ((BitVec.ofInt 32 (t : Int) &&& BitVec.ofInt 32 65535).toNat : Int) = _
  rw [BitVec.toNat_and, h1, h2, Nat.and_two_pow_sub_one_eq_mod, wrap32, Nat.mod_eq_of_lt (show t % 2 ^ 16 < 4294967296 by omega)]
/-- A number's bytes, the lowest first. -/
def num : Nat → Nat → List UInt8
  | _, 0 => []
  | v, n + 1 => UInt8.ofNat (v % 256) :: num (v / 256) n
theorem num_length : ∀ (n v : Nat), (num v n).length = n
  | 0, _ => rfl
  | n + 1, v => by simp [num, num_length n]
theorem num_get : ∀ (n v i : Nat), i < n → (num v n)[i]? = some (UInt8.ofNat (byt v i))
  | 0, _, i, h => by omega
  | n + 1, v, 0, _ => by simp [num, byt]
  | n + 1, v, i + 1, h => by
    rw [num, List.getElem?_cons_succ, num_get n (v / 256) i (by omega)]
    unfold byt
    rw [Nat.div_div_eq_div_mul, show (256 : Nat) * 2 ^ (i * 8) = 2 ^ ((i + 1) * 8) by rw [show (256 : Nat) = 2 ^ 8 from rfl, ← Nat.pow_add, show 8 + i * 8 = (i + 1) * 8 by omega]]
theorem ofNat_byt (v i : Nat) : (UInt8.ofNat (byt v i)).toNat = byt v i := by
  simp [Nat.mod_eq_of_lt (byt_lt v i)]
theorem bytL_num (v n : Nat) : bytL v n = (num v n).map fun b => (b.toNat : Int) := by
  apply List.ext_getElem?
  intro i
  by_cases h : i < n
  · rw [List.getElem?_map, num_get n v i h]
    simp [bytL, h, ofNat_byt, -UInt8.toNat_ofNat']
  · rw [List.getElem?_eq_none (by rw [bytL_length]; omega), List.getElem?_eq_none (by rw [List.length_map, num_length]; omega)]
theorem str_num (v n : Nat) : strOfNums (bytL v n) = str (num v n) := by rw [bytL_num, nums_str]
/-- Bytes as a number. -/
def vl : List UInt8 → Nat
  | [] => 0
  | x :: r => x.toNat + 256 * vl r
theorem vl_num : ∀ (n v : Nat), v < 256 ^ n → vl (num v n) = v
  | 0, v, h => by simp at h; subst h; rfl
  | n + 1, v, h => by
    rw [num, vl, vl_num n (v / 256) (by rw [Nat.pow_succ] at h; omega)]
    have : (UInt8.ofNat (v % 256)).toNat = v % 256 := by simp
    rw [this]; omega
theorem vl_lt : ∀ (S : List UInt8), vl S < 256 ^ S.length
  | [] => by simp [vl]
  | x :: r => by
    have h1 := vl_lt r
    have h2 := x.toNat_lt
    rw [vl, List.length_cons, Nat.pow_succ]
    generalize 256 ^ r.length = p at *
    omega
theorem vl_append : ∀ (S T : List UInt8), vl (S ++ T) = vl S + 256 ^ S.length * vl T
  | [], T => by simp [vl]
  | x :: r, T => by
    rw [List.cons_append, vl, vl, vl_append r T, List.length_cons, Nat.pow_succ, Nat.mul_add, ← Nat.mul_assoc, Nat.mul_comm 256 (256 ^ r.length)]
    omega
theorem vl_take {S : List UInt8} {i : Nat} {x : UInt8} (h : S[i]? = some x) : vl (S.take (i + 1)) = vl (S.take i) + 256 ^ i * x.toNat := by
  have hi := (List.getElem?_eq_some_iff.1 h).1
  rw [List.take_add_one, h, Option.toList_some, vl_append, List.length_take, Nat.min_eq_left (by omega)]
  simp [vl]
theorem vl_drop {S : List UInt8} {i : Nat} {x : UInt8} (h : S[i]? = some x) : vl (S.drop i) = vl (S.drop (i + 1)) * 256 + x.toNat := by
  obtain ⟨h1, h2⟩ := List.getElem?_eq_some_iff.1 h
  rw [List.drop_eq_getElem_cons h1, h2, vl]; omega
theorem vl_one (x : UInt8) : vl [x] = x.toNat := by simp [vl]
/-- Sealed bytes. -/
def sld (T : List UInt8) : List UInt8 := T ++ by4 (ofN T)
theorem sld_length (T : List UInt8) : (sld T).length = T.length + 4 := by rw [sld, List.length_append, by4_length]
theorem split_at (S : List UInt8) (k : Nat) (x : UInt8) (h : S[k]? = some x) : S = S.take k ++ x :: S.drop (k + 1) := by
  obtain ⟨h1, h2⟩ := List.getElem?_eq_some_iff.1 h
  subst h2
  rw [List.getElem_cons_drop, List.take_append_drop]
theorem set_at (S : List UInt8) (k : Nat) (c : UInt8) (h : k < S.length) : S.set k c = S.take k ++ c :: S.drop (k + 1) := by
  rw [List.set_eq_take_append_cons_drop, if_pos h]
theorem one_other (S : List UInt8) (k : Nat) (x c : UInt8) (h : S[k]? = some x) (hc : c ≠ x) : ofN (S.set k c) ≠ ofN S := by
  have e := split_at S k x h
  rw [set_at S k c (List.getElem?_eq_some_iff.1 h).1]
  conv => rhs; rw [e]
  exact tal_one _ _ hc
theorem by4_ne {S T : List UInt8} (h : ofN T ≠ ofN S) : by4 (ofN S) ≠ by4 (ofN T) := fun e => h (by4_inj (ofN_lt _) (ofN_lt _) e).symm
theorem sld_set (S : List UInt8) (k : Nat) (c : UInt8) (h : k < S.length) : (sld S).set k c = S.set k c ++ by4 (ofN S) := by
  rw [sld, List.set_append_left _ _ h]
end Go.Proofs.Ytgigpohfkppplaa
