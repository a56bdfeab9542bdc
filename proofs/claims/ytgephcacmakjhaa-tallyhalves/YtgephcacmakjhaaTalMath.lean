/-
  Sums of bytes as natural numbers: one byte more (stp), all bytes (tl), both halves in one number (w32), its four bytes (by4); the low half is a sum modulo 65521 (tl_low); bytes of which one is another, or two changed over, have another sum.
-/
import Derived.Test.YtgephcacmakjhaaChecked
import Derived.WalkKit
import Derived.ProofKit
import Derived.WalkSpells
import Derived.Below
import Derived.Laws.BitsAllLaws
import Derived.Laws.Bits64
namespace Go.Proofs.Ytgephcacmakjhaa
open Go.ChangeShapes Go.WideShapes Go.ChangeAt Go.RowKit

theorem Hid.intro {p : Prop} (h : p) : Hid p := h

/-- One byte more. -/
def stp (p : Nat × Nat) (c : Nat) : Nat × Nat := ((p.1 + c) % 65521, (p.2 + (p.1 + c) % 65521) % 65521)
def tl : Nat × Nat → List UInt8 → Nat × Nat
  | p, [] => p
  | p, c :: S => tl (stp p c.toNat) S
def w32 (p : Nat × Nat) : Nat := p.2 * 65536 + p.1
/-- The halves of a number. -/
def sp (t : Nat) : Nat × Nat := (t % 65536, t / 65536)
def tal (S : List UInt8) : Nat × Nat := tl (44257, 0) S
def ofN (S : List UInt8) : Nat := w32 (tal S)
def by4 (t : Nat) : List UInt8 := [UInt8.ofNat (t % 256), UInt8.ofNat (t / 256 % 256), UInt8.ofNat (t / 65536 % 256), UInt8.ofNat (t / 16777216 % 256)]
def Sm (p : Nat × Nat) : Prop := p.1 < 65521 ∧ p.2 < 65521
def Lo (p : Nat × Nat) : Prop := p.1 < 65536 ∧ p.2 < 65536

theorem Sm.lo {p : Nat × Nat} (h : Sm p) : Lo p := ⟨by have := h.1; omega, by have := h.2; omega⟩
theorem stp_sm (p : Nat × Nat) (c : Nat) : Sm (stp p c) := ⟨Nat.mod_lt _ (by decide), Nat.mod_lt _ (by decide)⟩
theorem tl_nil (p : Nat × Nat) : tl p [] = p := by rw [tl]
theorem tl_cons (p : Nat × Nat) (c : UInt8) (S : List UInt8) : tl p (c :: S) = tl (stp p c.toNat) S := by rw [tl]
theorem tl_append (S T : List UInt8) : ∀ p, tl p (S ++ T) = tl (tl p S) T := by
  induction S with
  | nil => intro p; rw [List.nil_append, tl_nil]
  | cons c S ih => intro p; rw [List.cons_append, tl_cons, tl_cons]; exact ih _
theorem tl_snoc (S : List UInt8) (c : UInt8) (p : Nat × Nat) : tl p (S ++ [c]) = stp (tl p S) c.toNat := by
  rw [tl_append, tl_cons, tl_nil]
theorem tl_take {S : List UInt8} {i : Nat} {c : UInt8} (p : Nat × Nat) (h : S[i]? = some c) : tl p (S.take (i + 1)) = stp (tl p (S.take i)) c.toNat := by
  rw [List.take_add_one, h, Option.toList_some, tl_snoc]
theorem tl_sm (S : List UInt8) : ∀ p, Sm p → Sm (tl p S) := by
  induction S with
  | nil => intro p h; rw [tl_nil]; exact h
  | cons c S ih => intro p _; rw [tl_cons]; exact ih _ (stp_sm _ _)
theorem tl_lo (S : List UInt8) : ∀ p, Lo p → Lo (tl p S) := by
  cases S with
  | nil => intro p h; rw [tl_nil]; exact h
  | cons c S => intro p _; rw [tl_cons]; exact (tl_sm _ _ (stp_sm _ _)).lo
theorem start_sm : Sm (44257, 0) := ⟨by decide, by decide⟩
theorem tal_sm (S : List UInt8) : Sm (tal S) := tl_sm S _ start_sm
theorem w32_lt {p : Nat × Nat} (h : Lo p) : w32 p < 4294967296 := by
  have h1 := h.1; have h2 := h.2; unfold w32; omega
theorem ofN_lt (S : List UInt8) : ofN S < 4294967296 := w32_lt (tal_sm S).lo
theorem sp_w32 {p : Nat × Nat} (h : Lo p) : sp (w32 p) = p := by
  have h1 := h.1; have h2 := h.2
  unfold sp w32
  exact Prod.ext (by simp only; omega) (by simp only; omega)
theorem sp_lo {t : Nat} (h : t < 4294967296) : Lo (sp t) := ⟨Nat.mod_lt _ (by decide), by unfold sp; simp only; omega⟩
theorem sp_ofN (S : List UInt8) : sp (ofN S) = tal S := sp_w32 (tal_sm S).lo
theorem w32_inj {p q : Nat × Nat} (hp : Lo p) (hq : Lo q) (e : w32 p = w32 q) : p = q := by
  rw [← sp_w32 hp, e, sp_w32 hq]
/-- A sum goes on where it was left. -/
theorem ofN_append (S T : List UInt8) : w32 (tl (sp (ofN S)) T) = ofN (S ++ T) := by
  rw [sp_ofN, ofN, tal, tal, tl_append]

/-- Bytes that the same is added to: other halves stay other ones. -/
theorem stp_inj {p q : Nat × Nat} {c : Nat} (hp : Sm p) (hq : Sm q) (e : stp p c = stp q c) : p = q := by
  have h1 := congrArg Prod.fst e
  have h2 := congrArg Prod.snd e
  unfold stp at h1 h2
  simp only at h1 h2
  obtain ⟨p1, p2⟩ := hp
  obtain ⟨q1, q2⟩ := hq
  have e1 : p.1 = q.1 := by omega
  rw [e1] at h2
  have e2 : p.2 = q.2 := by omega
  exact Prod.ext e1 e2
theorem tl_inj (S : List UInt8) : ∀ {p q : Nat × Nat}, Sm p → Sm q → tl p S = tl q S → p = q := by
  induction S with
  | nil => intro p q _ _ e; rwa [tl_nil, tl_nil] at e
  | cons c S ih => intro p q hp hq e; rw [tl_cons, tl_cons] at e; exact stp_inj hp hq (ih (stp_sm _ _) (stp_sm _ _) e)
/-- One byte is another. -/
theorem stp_one {p : Nat × Nat} {c d : Nat} (hp : Sm p) (hc : c < 256) (hd : d < 256) (e : stp p c = stp p d) : c = d := by
  have h1 := congrArg Prod.fst e
  unfold stp at h1
  simp only at h1
  have p1 := hp.1
  omega
theorem tal_one (A B : List UInt8) {c d : UInt8} (h : c ≠ d) : ofN (A ++ c :: B) ≠ ofN (A ++ d :: B) := by
  intro e
  have e1 := w32_inj (tal_sm _).lo (tal_sm _).lo e
  unfold tal at e1
  rw [tl_append, tl_append, tl_cons, tl_cons] at e1
  have e2 := tl_inj B (stp_sm _ _) (stp_sm _ _) e1
  have e3 := stp_one (tl_sm A _ start_sm) c.toNat_lt d.toNat_lt e2
  exact h (UInt8.toNat_inj.1 e3)
/-- Two are changed over. -/
theorem stp_two {p : Nat × Nat} {c d : Nat} (hp : Sm p) (hc : c < 256) (hd : d < 256) (e : stp (stp p c) d = stp (stp p d) c) : c = d := by
  have h2 := congrArg Prod.snd e
  unfold stp at h2
  simp only at h2
  obtain ⟨p1, p2⟩ := hp
  omega
theorem tal_two (A B : List UInt8) {c d : UInt8} (h : c ≠ d) : ofN (A ++ c :: d :: B) ≠ ofN (A ++ d :: c :: B) := by
  intro e
  have e1 := w32_inj (tal_sm _).lo (tal_sm _).lo e
  unfold tal at e1
  rw [tl_append, tl_append, tl_cons, tl_cons, tl_cons, tl_cons] at e1
  have e2 := tl_inj B (stp_sm _ _) (stp_sm _ _) e1
  have e3 := stp_two (tl_sm A _ start_sm) c.toNat_lt d.toNat_lt e2
  exact h (UInt8.toNat_inj.1 e3)

/-! ### The four bytes. -/
theorem by4_length (t : Nat) : (by4 t).length = 4 := rfl
theorem u8_of {m n : Nat} (hm : m < 256) (hn : n < 256) (e : UInt8.ofNat m = UInt8.ofNat n) : m = n := by
  have := congrArg UInt8.toNat e
  simpa [Nat.mod_eq_of_lt hm, Nat.mod_eq_of_lt hn] using this
theorem by4_inj {t u : Nat} (ht : t < 4294967296) (hu : u < 4294967296) (e : by4 t = by4 u) : t = u := by
  unfold by4 at e
  injection e with e0 e
  injection e with e1 e
  injection e with e2 e
  injection e with e3 e
  have f0 := u8_of (Nat.mod_lt _ (by decide)) (Nat.mod_lt _ (by decide)) e0
  have f1 := u8_of (Nat.mod_lt _ (by decide)) (Nat.mod_lt _ (by decide)) e1
  have f2 := u8_of (Nat.mod_lt _ (by decide)) (Nat.mod_lt _ (by decide)) e2
  have f3 := u8_of (Nat.mod_lt _ (by decide)) (Nat.mod_lt _ (by decide)) e3
  omega

/-! ### The model's words for it. -/
theorem wrap32 (n : Nat) : IntKind.u32.wrap (n : Int) = ((n % 4294967296 : Nat) : Int) := by
  rw [IntKind.wrap_u32']; omega
theorem wrap16 (n : Nat) : IntKind.u16.wrap (n : Int) = ((n % 65536 : Nat) : Int) := by
  rw [IntKind.wrap_u16]; omega
theorem wrap8 (n : Nat) : IntKind.u8.wrap (n : Int) = ((n % 256 : Nat) : Int) := by
  rw [IntKind.wrap_u8']; omega
theorem u32_or (a b : Nat) (ha : a < 4294967296) (hb : b < 4294967296) : bits .or .u32 (a : Int) (b : Int) = ((a ||| b : Nat) : Int) := by
  have hx : a ||| b < 4294967296 := Nat.or_lt_two_pow (n := 32) ha hb
  have h1 : (BitVec.ofInt 32 (a : Int)).toNat = a := by rw [BitVec.ofInt_natCast, BitVec.toNat_ofNat]; exact Nat.mod_eq_of_lt (by omega)
  have h2 : (BitVec.ofInt 32 (b : Int)).toNat = b := by rw [BitVec.ofInt_natCast, BitVec.toNat_ofNat]; exact Nat.mod_eq_of_lt (by omega)
  show IntKind.u32.wrap ((BitVec.ofInt 32 (a : Int) ||| BitVec.ofInt 32 (b : Int)).toNat : Int) = _
  rw [BitVec.toNat_or, h1, h2, wrap32, Nat.mod_eq_of_lt hx]
/-- Both halves by shift and or. -/
theorem or_halves {p : Nat × Nat} (h : Lo p) : (p.2 * 65536) ||| p.1 = w32 p := by
  rw [show p.2 * 65536 = p.2 <<< 16 by rw [Nat.shiftLeft_eq], ← Nat.shiftLeft_add_eq_or_of_lt (by have := h.1; simpa using this), Nat.shiftLeft_eq]; rfl
theorem bits_halves {p : Nat × Nat} (h : Lo p) : bits .or .u32 ((p.2 * 65536 : Nat) : Int) (p.1 : Int) = ((w32 p : Nat) : Int) := by
  rw [u32_or _ _ (by have := h.2; omega) (by have := h.1; omega), or_halves h]
theorem low16 (t : Nat) (h : t < 4294967296) : bits .and .u32 (t : Int) 65535 = ((t % 65536 : Nat) : Int) := by
  have h1 : (BitVec.ofInt 32 (t : Int)).toNat = t := by rw [BitVec.ofInt_natCast, BitVec.toNat_ofNat]; exact Nat.mod_eq_of_lt (by omega)
  have h2 : (BitVec.ofInt 32 65535).toNat = 2 ^ 16 - 1 := rfl
  show IntKind.u32.wrap ((BitVec.ofInt 32 (t : Int) &&& BitVec.ofInt 32 65535).toNat : Int) = _
  rw [BitVec.toNat_and, h1, h2, Nat.and_two_pow_sub_one_eq_mod, wrap32, Nat.mod_eq_of_lt (show t % 2 ^ 16 < 4294967296 by omega)]
theorem and255 (t : Nat) (h : t < 4294967296) : bits .and .i64 (t : Int) 255 = ((t % 256 : Nat) : Int) := by
  have h1 : (BitVec.ofInt 64 (t : Int)).toNat = t := by rw [BitVec.ofInt_natCast, BitVec.toNat_ofNat]; exact Nat.mod_eq_of_lt (by omega)
  have h2 : (BitVec.ofInt 64 255).toNat = 2 ^ 8 - 1 := rfl
  show IntKind.i64.wrap ((BitVec.ofInt 64 (t : Int) &&& BitVec.ofInt 64 255).toNat : Int) = _
  rw [BitVec.toNat_and, h1, h2, Nat.and_two_pow_sub_one_eq_mod, IntKind.wrap_i64]
  omega
end Go.Proofs.Ytgephcacmakjhaa
