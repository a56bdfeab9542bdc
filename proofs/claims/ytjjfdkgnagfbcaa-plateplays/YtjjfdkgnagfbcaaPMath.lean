/-
  A disk of pages, by lists: what each call makes of it.
-/
import Derived.Test.YtjjfdkgnagfbcaaPBase
namespace Go.Proofs.Ytjjfdkgnagfbcaa
open Go.ChangeShapes Go.WideShapes Go.ChangeAt Go.RowKit

/-! ### Words of bits -/
theorem two_lt (k : Nat) (h : k < 64) : 2 ^ k < 18446744073709551616 := by
  have : 2 ^ k < 2 ^ 64 := Nat.pow_lt_pow_right (by decide) h
  simpa using this
theorem shl1 (k : Nat) (h : k < 64) : IntKind.u64.wrap ((2 : Int) ^ k) = ((2 ^ k : Nat) : Int) := by
  have := two_lt k h
  have e : ((2 : Int) ^ k) = ((2 ^ k : Nat) : Int) := by simp
  rw [IntKind.wrap_u64, e]
  generalize 2 ^ k = P at *
  omega
/-- The word with bit k, and without it. -/
def onW (W k : Nat) : Nat := W ||| 2 ^ k
def offW (W k : Nat) : Nat := W &&& (18446744073709551615 - 2 ^ k)
theorem or_lt {a b : Nat} (ha : a < 18446744073709551616) (hb : b < 18446744073709551616) : a ||| b < 18446744073709551616 := by
  have := Nat.or_lt_two_pow (n := 64) (x := a) (y := b) (by simpa using ha) (by simpa using hb)
  simpa using this
theorem onW_lt {W k : Nat} (hW : W < 18446744073709551616) (hk : k < 64) : onW W k < 18446744073709551616 := or_lt hW (two_lt k hk)
theorem offW_lt {W k : Nat} (hW : W < 18446744073709551616) : offW W k < 18446744073709551616 := Nat.lt_of_le_of_lt Nat.and_le_left hW
theorem onW_bit (W k j : Nat) : (onW W k).testBit j = (W.testBit j || decide (k = j)) := by
  unfold onW; rw [Nat.testBit_or, Nat.testBit_two_pow]
theorem offW_bit {W k : Nat} (hW : W < 18446744073709551616) (hk : k < 64) (j : Nat) : (offW W k).testBit j = (W.testBit j && !decide (k = j)) := by
  unfold offW
  rw [Nat.testBit_and]
  have hp := two_lt k hk
  have := Nat.testBit_two_pow_sub_succ (x := 2 ^ k) (n := 64) (by simpa using hp) j
  have e64 : (2 : Nat) ^ 64 - (2 ^ k + 1) = 18446744073709551615 - 2 ^ k := by omega
  rw [e64] at this
  rw [this, Nat.testBit_two_pow]
  by_cases hj : j < 64
  · simp [hj]
  · have : W.testBit j = false := Nat.testBit_lt_two_pow (Nat.lt_of_lt_of_le (m := 2 ^ 64) (by simpa using hW) (Nat.pow_le_pow_right (by decide) (by omega)))
    simp [this]
theorem u64_and_c (a b : Nat) (c : Int) (hc : c = (b : Int)) (ha : a < 18446744073709551616) (hb : b < 18446744073709551616) : bits .and .u64 (a : Int) c = ((a &&& b : Nat) : Int) := by
  subst hc; exact u64_and_nat a b ha hb
theorem bit_eq (W k : Nat) (hW : W < 18446744073709551616) : (decide (bits .and .u64 ((W : Int) / 2 ^ k) 1 = 1)) = W.testBit k := by
  have e : (W : Int) / 2 ^ k = ((W / 2 ^ k : Nat) : Int) := by rw [Int.natCast_ediv]; simp
  have hl : W / 2 ^ k ≤ W := Nat.div_le_self _ _
  rw [e, u64_and_c _ 1 1 rfl (by omega) (by decide), Nat.and_one_is_mod, Nat.testBit_eq_decide_div_mod_eq]
  congr 1
  apply propext
  omega
/-- The word of bools. -/
def kwN (l : List Bool) : Nat → Nat
  | 0 => 0
  | n + 1 => if l.getD n false then onW (kwN l n) n else kwN l n
def kw (l : List Bool) : Nat := kwN l l.length
theorem kwN_bit (l : List Bool) (j : Nat) : ∀ n, (kwN l n).testBit j = (decide (j < n) && l.getD j false)
  | 0 => by simp [kwN]
  | n + 1 => by
    unfold kwN
    by_cases hl : l.getD n false = true
    · rw [if_pos hl, onW_bit, kwN_bit l j n]
      by_cases e : n = j
      · subst e; rw [hl]; simp
      · simp only [e, decide_false, Bool.or_false]
        congr 1
        apply decide_eq_decide.2; omega
    · rw [if_neg hl, kwN_bit l j n]
      by_cases e : n = j
      · subst e; simp only [Bool.not_eq_true] at hl; rw [hl]; simp
      · congr 1
        apply decide_eq_decide.2; omega
theorem kwN_lt (l : List Bool) : ∀ n, n ≤ 64 → kwN l n < 18446744073709551616
  | 0, _ => by unfold kwN; decide
  | n + 1, h => by
    unfold kwN
    split
    · exact onW_lt (kwN_lt l n (by omega)) (by omega)
    · exact kwN_lt l n (by omega)
theorem kw_bit (l : List Bool) (j : Nat) : (kw l).testBit j = l.getD j false := by
  unfold kw
  rw [kwN_bit]
  by_cases h : j < l.length
  · simp [h]
  · simp [h, List.getD]
/-- The pages whose bits are set. -/
def keptL (K n : Nat) : List Nat := (List.range n).filter K.testBit
def intsV (l : List Nat) : List Value := l.map fun (k : Nat) => .int .i64 (k : Int)
theorem keptL_succ (K n : Nat) : keptL K (n + 1) = keptL K n ++ (if K.testBit n then [n] else []) := by
  unfold keptL; rw [List.range_succ, List.filter_append]; simp [List.filter_cons]
theorem keptL_length (K n : Nat) : (keptL K n).length ≤ n := by
  have := List.length_filter_le K.testBit (List.range n)
  simpa [keptL] using this
theorem keptL_mem {K B j : Nat} : j ∈ keptL K B ↔ j < B ∧ K.testBit j = true := by simp [keptL]

/-! ### The disk -/
structure MS where
  on : Bool
  L : List (List UInt8)
  X : List (List UInt8)
  W : Nat
  left : Int
  K : Nat
structure T3 where
  L : List (List UInt8)
  X : List (List UInt8)
  lost : List Nat
def pgAt (L : List (List UInt8)) (k : Nat) : List UInt8 := (L[k]?).getD []
def stp (K i k : Nat) (s : T3) : T3 := if K.testBit i then { s with X := s.X.set k (pgAt s.L k) } else { s with L := s.L.set k (pgAt s.X k), lost := s.lost ++ [k] }
/-- The power falls: of these wet pages, from the i-th on. -/
def fl (K : Nat) : Nat → List Nat → T3 → T3
  | _, [], s => s
  | i, k :: r, s => fl K (i + 1) r (stp K i k s)
def fallT (M : MS) (K : Nat) : T3 := fl K 0 (keptL M.W M.L.length) ⟨M.L, M.X, []⟩
def mFall (M : MS) (K : Nat) : MS := ⟨false, (fallT M K).L, (fallT M K).X, 0, -1, 0⟩
def lostL (M : MS) (K : Nat) : List Nat := (fallT M K).lost
def mReady (M : MS) : Int := if M.on then 0 else 7
def fitB (M : MS) (k : Int) (S : List UInt8) : Bool := decide (0 ≤ k ∧ k < M.L.length) && decide (S.length = 32)
def mWrite (M : MS) : Int × MS := if M.left = -1 then (0, M) else if 0 < M.left then (0, { M with left := M.left - 1 }) else (7, mFall M M.K)
def mPut (M : MS) (k : Nat) (S : List UInt8) : MS := { M with L := M.L.set k S, W := onW M.W k }
def mLay (M : MS) (k : Int) (S : List UInt8) : Int × MS := if M.on = false then (7, M) else if fitB M k S = false then (1, M) else mWrite (mPut M k.toNat S)
def mFixed (M : MS) : MS := { M with X := M.L, W := 0 }
def mFix (M : MS) : Int × MS := if M.on = false then (7, M) else if (mWrite M).1 = 0 then (0, mFixed (mWrite M).2) else mWrite M
def mOff (M : MS) (l : List Bool) : List Nat × MS := if M.on then (lostL M (kw l), mFall M (kw l)) else ([], M)
def mPower (M : MS) : MS := { M with on := true }
def mSnag (M : MS) (n : Int) (l : List Bool) : MS := if 0 ≤ n then { M with left := n, K := kw l } else { M with left := -1, K := 0 }
def mRot (M : MS) (k : Int) (S : List UInt8) : MS := if fitB M k S then { M with L := M.L.set k.toNat S, X := M.X.set k.toNat S, W := offW M.W k.toNat } else M
def has0 (M : MS) (k : Int) : Bool := decide (0 ≤ k ∧ k < M.L.length)
def mGetE (M : MS) (k : Int) : Int := if M.on = false then 7 else if has0 M k then 0 else 1
def mGetS (M : MS) (k : Int) : List UInt8 := if M.on = false then [] else if has0 M k then pgAt M.L k.toNat else []

/-- What is always so. -/
structure Ok (M : MS) : Prop where
  n60 : M.L.length ≤ 60
  len : M.X.length = M.L.length
  hL : ∀ P ∈ M.L, P.length = 32
  hX : ∀ P ∈ M.X, P.length = 32
  hW : M.W < 18446744073709551616
  hK : M.K < 18446744073709551616
  wet : ∀ k, M.W.testBit k = true → k < M.L.length
  same : ∀ k, M.W.testBit k = false → M.L[k]? = M.X[k]?
  l0 : -1 ≤ M.left
  l1 : M.left ≤ 9223372036854775807
theorem Ok.pg {M : MS} (h : Ok M) {k : Nat} (hk : k < M.L.length) : M.L[k]? = some (pgAt M.L k) ∧ (pgAt M.L k).length = 32 := by
  unfold pgAt
  rw [List.getElem?_eq_getElem hk]
  exact ⟨rfl, h.hL _ (List.getElem_mem hk)⟩
theorem set_len {L : List (List UInt8)} {k : Nat} {S : List UInt8} (h : ∀ P ∈ L, P.length = 32) (hS : S.length = 32) : ∀ P ∈ L.set k S, P.length = 32 := by
  intro P hP
  rcases List.mem_or_eq_of_mem_set hP with hP | rfl
  · exact h P hP
  · exact hS
theorem fitB_iff {M : MS} {k : Int} {S : List UInt8} : fitB M k S = true ↔ (0 ≤ k ∧ k < M.L.length) ∧ S.length = 32 := by
  unfold fitB; simp
theorem Ok.put {M : MS} (h : Ok M) {k : Nat} {S : List UInt8} (hk : k < M.L.length) (hS : S.length = 32) : Ok (mPut M k S) where
  n60 := by simpa [mPut] using h.n60
  len := by simpa [mPut] using h.len
  hL := set_len h.hL hS
  hX := h.hX
  hW := onW_lt h.hW (by have := h.n60; omega)
  hK := h.hK
  wet := fun j hj => by
    simp only [mPut, List.length_set] at hj ⊢
    rw [onW_bit] at hj
    by_cases e : k = j
    · omega
    · simp [e] at hj; exact h.wet j hj
  same := fun j hj => by
    simp only [mPut] at hj ⊢
    rw [onW_bit] at hj
    by_cases e : k = j
    · simp [e] at hj
    · simp [e] at hj
      rw [List.getElem?_set_ne e]
      exact h.same j hj
  l0 := h.l0
  l1 := h.l1
theorem Ok.rot {M : MS} (h : Ok M) (k : Int) (S : List UInt8) : Ok (mRot M k S) := by
  unfold mRot
  split
  · rename_i hf
    obtain ⟨⟨h1, h2⟩, hS⟩ := fitB_iff.1 hf
    have h64 := h.n60
    refine ⟨by simpa using h.n60, by simpa using h.len, set_len h.hL hS, set_len h.hX hS, offW_lt h.hW, h.hK, fun j hj => ?_, fun j hj => ?_, h.l0, h.l1⟩
    · simp only [List.length_set]
      simp only [offW_bit h.hW (by omega : k.toNat < 64), Bool.and_eq_true] at hj
      exact h.wet j hj.1
    · simp only [offW_bit h.hW (by omega : k.toNat < 64)] at hj
      by_cases e : k.toNat = j
      · subst e
        rw [List.getElem?_set_self (by omega), List.getElem?_set_self (by rw [h.len]; omega)]
      · simp [e] at hj
        rw [List.getElem?_set_ne e, List.getElem?_set_ne e]
        exact h.same j hj
  · exact h
theorem Ok.fixed {M : MS} (h : Ok M) : Ok (mFixed M) := ⟨h.n60, rfl, h.hL, h.hL, by simp [mFixed], h.hK, fun k hk => by simp [mFixed] at hk, fun k _ => rfl, h.l0, h.l1⟩
theorem Ok.snag {M : MS} (h : Ok M) (n : Int) (l : List Bool) (hn : n ≤ 9223372036854775807) (hl : l.length ≤ 60) : Ok (mSnag M n l) := by
  unfold mSnag
  split
  · exact ⟨h.n60, h.len, h.hL, h.hX, h.hW, kwN_lt _ _ (by omega), h.wet, h.same, by simp only; omega, hn⟩
  · exact ⟨h.n60, h.len, h.hL, h.hX, h.hW, by simp, h.wet, h.same, by simp, by simp⟩
theorem Ok.power {M : MS} (h : Ok M) : Ok (mPower M) := ⟨h.n60, h.len, h.hL, h.hX, h.hW, h.hK, h.wet, h.same, h.l0, h.l1⟩

/-- What is always so while the power falls: pages that are not to come are alike. -/
structure FO (n : Nat) (r : List Nat) (s : T3) : Prop where
  lL : s.L.length = n
  lX : s.X.length = n
  hL : ∀ P ∈ s.L, P.length = 32
  hX : ∀ P ∈ s.X, P.length = 32
  rest : ∀ k ∈ r, k < n
  same : ∀ k, k ∉ r → s.L[k]? = s.X[k]?
theorem pgAt_len {L : List (List UInt8)} {k : Nat} (h : ∀ P ∈ L, P.length = 32) (hk : k < L.length) : (pgAt L k).length = 32 := by
  unfold pgAt; rw [List.getElem?_eq_getElem hk]; exact h _ (List.getElem_mem hk)
theorem pgAt_some {L : List (List UInt8)} {k : Nat} (hk : k < L.length) : L[k]? = some (pgAt L k) := by
  unfold pgAt; rw [List.getElem?_eq_getElem hk]; rfl
theorem FO.step {n K i k : Nat} {r : List Nat} {s : T3} (h : FO n (k :: r) s) : FO n r (stp K i k s) := by
  have hk := h.rest k (by simp)
  have k1 : k < s.L.length := by rw [h.lL]; exact hk
  have k2 : k < s.X.length := by rw [h.lX]; exact hk
  unfold stp
  split
  · refine ⟨h.lL, by simpa using h.lX, h.hL, set_len h.hX (pgAt_len h.hL k1), fun j hj => h.rest j (by simp [hj]), fun j hj => ?_⟩
    by_cases e : k = j
    · subst e; simp only; rw [List.getElem?_set_self k2, pgAt_some k1]
    · simp only; rw [List.getElem?_set_ne e]; exact h.same j (by simp [hj]; omega)
  · refine ⟨by simpa using h.lL, h.lX, set_len h.hL (pgAt_len h.hX k2), h.hX, fun j hj => h.rest j (by simp [hj]), fun j hj => ?_⟩
    by_cases e : k = j
    · subst e; simp only; rw [List.getElem?_set_self k1, pgAt_some k2]
    · simp only; rw [List.getElem?_set_ne e]; exact h.same j (by simp [hj]; omega)
theorem FO.fl {n K : Nat} : ∀ (r : List Nat) (i : Nat) (s : T3), FO n r s → FO n [] (fl K i r s)
  | [], _, _, h => h
  | _ :: r, i, _, h => FO.fl r (i + 1) _ h.step
theorem Ok.start {M : MS} (h : Ok M) : FO M.L.length (keptL M.W M.L.length) ⟨M.L, M.X, []⟩ :=
  ⟨rfl, h.len, h.hL, h.hX, fun k hk => (keptL_mem.1 hk).1, fun k hk => by
    cases hb : M.W.testBit k with
    | false => exact h.same k hb
    | true => exact absurd (keptL_mem.2 ⟨h.wet k hb, hb⟩) hk⟩
theorem Ok.fall {M : MS} (h : Ok M) (K : Nat) : Ok (mFall M K) ∧ (mFall M K).L = (mFall M K).X ∧ (mFall M K).L.length = M.L.length := by
  have g := FO.fl (K := K) _ 0 _ h.start
  have e : (fallT M K).L = (fallT M K).X := List.ext_getElem? fun k => g.same k (by simp)
  have l1 : (fallT M K).L.length = M.L.length := g.lL
  refine ⟨⟨by simp only [mFall]; rw [l1]; exact h.n60, by simp only [mFall]; rw [e], g.hL, g.hX, by simp [mFall], by simp [mFall], fun k hk => by simp [mFall] at hk, fun k _ => by simp only [mFall]; rw [e], by simp [mFall], by simp [mFall]⟩, e, l1⟩
theorem Ok.write {M : MS} (h : Ok M) : Ok (mWrite M).2 := by
  have := h.l0; have := h.l1
  unfold mWrite
  split
  · exact h
  · split
    · exact ⟨h.n60, h.len, h.hL, h.hX, h.hW, h.hK, h.wet, h.same, by simp only; omega, by simp only; omega⟩
    · exact (h.fall _).1
theorem write_len {M : MS} (h : Ok M) : (mWrite M).2.L.length = M.L.length := by
  unfold mWrite
  split
  · rfl
  · split
    · rfl
    · exact (h.fall _).2.2
theorem Ok.lay {M : MS} (h : Ok M) (k : Int) (S : List UInt8) : Ok (mLay M k S).2 := by
  unfold mLay
  split
  · exact h
  · split
    · exact h
    · rename_i hf
      obtain ⟨⟨h1, h2⟩, hS⟩ := fitB_iff.1 (by simpa using hf)
      exact (h.put (by omega) hS).write
theorem lay_len {M : MS} (h : Ok M) (k : Int) (S : List UInt8) : (mLay M k S).2.L.length = M.L.length := by
  unfold mLay
  split
  · rfl
  · split
    · rfl
    · rename_i hf
      obtain ⟨⟨h1, h2⟩, hS⟩ := fitB_iff.1 (by simpa using hf)
      rw [write_len (h.put (by omega) hS)]; simp [mPut]
theorem Ok.fix {M : MS} (h : Ok M) : Ok (mFix M).2 := by
  unfold mFix
  split
  · exact h
  · split
    · exact h.write.fixed
    · exact h.write
theorem fix_len {M : MS} (h : Ok M) : (mFix M).2.L.length = M.L.length := by
  unfold mFix
  split
  · rfl
  · split
    · exact write_len h
    · exact write_len h
theorem Ok.off {M : MS} (h : Ok M) (l : List Bool) : Ok (mOff M l).2 := by
  unfold mOff
  split
  · exact (h.fall _).1
  · exact h
theorem off_len {M : MS} (h : Ok M) (l : List Bool) : (mOff M l).2.L.length = M.L.length := by
  unfold mOff
  split
  · exact (h.fall _).2.2
  · rfl
theorem rot_len (M : MS) (k : Int) (S : List UInt8) : (mRot M k S).L.length = M.L.length := by
  unfold mRot; split <;> simp
theorem snag_len (M : MS) (n : Int) (l : List Bool) : (mSnag M n l).L.length = M.L.length := by
  unfold mSnag; split <;> rfl
end Go.Proofs.Ytjjfdkgnagfbcaa
