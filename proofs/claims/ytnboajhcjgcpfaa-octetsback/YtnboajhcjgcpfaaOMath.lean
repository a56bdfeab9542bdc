/-
  Numbers as bytes (num), bytes as numbers (vl), maps as bytes (lay, dec), what is written and what is read as functions of what there was: no memory here.
-/
import Derived.Test.YtnboajhcjgcpfaaOStr
import Derived.Test.YtnboajhcjgcpfaaMapMath
namespace Go.Proofs.Ytnboajhcjgcpfaa
open Go.ChangeShapes Go.WideShapes Go.ChangeAt Go.RowKit

/-- A number's bytes, the lowest first. -/
def num : Nat → Nat → List UInt8
  | _, 0 => []
  | v, n + 1 => UInt8.ofNat (v % 256) :: num (v / 256) n
theorem num_length : ∀ (n v : Nat), (num v n).length = n
  | 0, _ => rfl
  | n + 1, v => by simp [num, num_length n]
theorem num_get : ∀ (n v i : Nat), i < n → (num v n)[i]? = some (UInt8.ofNat (byt v i))
  | 0, _, i, h => by omega
  | n + 1, v, 0, _ => by simp [num, byt]
  | n + 1, v, i + 1, h => by
    rw [num, List.getElem?_cons_succ, num_get n (v / 256) i (by omega)]
    unfold byt
    rw [Nat.div_div_eq_div_mul, show (256 : Nat) * 2 ^ (i * 8) = 2 ^ ((i + 1) * 8) by rw [show (256 : Nat) = 2 ^ 8 from rfl, ← Nat.pow_add, show 8 + i * 8 = (i + 1) * 8 by omega]]
theorem ofNat_byt (v i : Nat) : (UInt8.ofNat (byt v i)).toNat = byt v i := by
  simp [Nat.mod_eq_of_lt (byt_lt v i)]
theorem bytL_num (v n : Nat) : bytL v n = (num v n).map fun b => (b.toNat : Int) := by
  apply List.ext_getElem?
  intro i
  by_cases h : i < n
  · rw [List.getElem?_map, num_get n v i h]
    simp [bytL, h, ofNat_byt, -UInt8.toNat_ofNat']
  · rw [List.getElem?_eq_none (by rw [bytL_length]; omega), List.getElem?_eq_none (by rw [List.length_map, num_length]; omega)]
theorem str_num (v n : Nat) : strOfNums (bytL v n) = str (num v n) := by rw [bytL_num, nums_str]
/-- Bytes as a number. -/
def vl : List UInt8 → Nat
  | [] => 0
  | x :: r => x.toNat + 256 * vl r
theorem vl_num : ∀ (n v : Nat), v < 256 ^ n → vl (num v n) = v
  | 0, v, h => by simp at h; subst h; rfl
  | n + 1, v, h => by
    rw [num, vl, vl_num n (v / 256) (by rw [Nat.pow_succ] at h; omega)]
    have : (UInt8.ofNat (v % 256)).toNat = v % 256 := by simp
    rw [this]; omega
theorem vl_lt : ∀ (S : List UInt8), vl S < 256 ^ S.length
  | [] => by simp [vl]
  | x :: r => by
    have h1 := vl_lt r
    have h2 := x.toNat_lt
    rw [vl, List.length_cons, Nat.pow_succ]
    generalize 256 ^ r.length = p at *
    omega
theorem vl_append : ∀ (S T : List UInt8), vl (S ++ T) = vl S + 256 ^ S.length * vl T
  | [], T => by simp [vl]
  | x :: r, T => by
    rw [List.cons_append, vl, vl, vl_append r T, List.length_cons, Nat.pow_succ, Nat.mul_add, ← Nat.mul_assoc, Nat.mul_comm 256 (256 ^ r.length)]
    omega
theorem vl_take {S : List UInt8} {i : Nat} {x : UInt8} (h : S[i]? = some x) : vl (S.take (i + 1)) = vl (S.take i) + 256 ^ i * x.toNat := by
  have hi := (List.getElem?_eq_some_iff.1 h).1
  rw [List.take_add_one, h, Option.toList_some, vl_append, List.length_take, Nat.min_eq_left (by omega)]
  simp [vl]
theorem vl_drop {S : List UInt8} {i : Nat} {x : UInt8} (h : S[i]? = some x) : vl (S.drop i) = vl (S.drop (i + 1)) * 256 + x.toNat := by
  obtain ⟨h1, h2⟩ := List.getElem?_eq_some_iff.1 h
  rw [List.drop_eq_getElem_cons h1, h2, vl]; omega
theorem vl_one (x : UInt8) : vl [x] = x.toNat := by simp [vl]

/-- A number that so many bytes have. -/
def Fit (v n : Int) : Prop := 1 ≤ n ∧ n ≤ 4 ∧ 0 ≤ v ∧ v < 256 ^ n.toNat
instance (v n : Int) : Decidable (Fit v n) := by unfold Fit; infer_instance
theorem four_cases {n : Int} (h : 1 ≤ n ∧ n ≤ 4) : n = 1 ∨ n = 2 ∨ n = 3 ∨ n = 4 := by omega
/-- How many bytes a number has, five if more than four. -/
def szN (v : Int) : Int := if 4294967296 ≤ v then 5 else if 16777216 ≤ v then 4 else if 65536 ≤ v then 3 else if 256 ≤ v then 2 else 1
theorem fit_iff (v n : Int) : Fit v n ↔ (1 ≤ n ∧ n ≤ 4) ∧ 0 ≤ v ∧ szN v ≤ n := by
  unfold Fit szN
  constructor
  · rintro ⟨h1, h2, h3, h4⟩
    refine ⟨⟨h1, h2⟩, h3, ?_⟩
    rcases four_cases ⟨h1, h2⟩ with rfl | rfl | rfl | rfl <;> simp at h4 <;> (repeat split) <;> omega
  · rintro ⟨⟨h1, h2⟩, h3, h4⟩
    refine ⟨h1, h2, h3, ?_⟩
    rcases four_cases ⟨h1, h2⟩ with rfl | rfl | rfl | rfl <;> simp <;> (repeat' split at h4) <;> omega
theorem fit_lt {v n : Int} (h : Fit v n) : v.toNat < 256 ^ n.toNat ∧ v ≤ 4294967295 ∧ 1 ≤ n.toNat ∧ n.toNat ≤ 4 ∧ (n.toNat : Int) = n ∧ (v.toNat : Int) = v := by
  obtain ⟨h1, h2, h3, h4⟩ := h
  refine ⟨?_, ?_, by omega, by omega, by omega, by omega⟩
  · rcases four_cases ⟨h1, h2⟩ with rfl | rfl | rfl | rfl <;> simp at h4 ⊢ <;> omega
  · rcases four_cases ⟨h1, h2⟩ with rfl | rfl | rfl | rfl <;> simp at h4 <;> omega

/-- An extent's three bytes, a map's bytes. -/
def one3 (x : Ex) : List UInt8 := [UInt8.ofNat x.1.toNat, UInt8.ofNat x.2.1.toNat, UInt8.ofNat x.2.2.toNat]
def body3 (l : List Ex) : List UInt8 := l.flatMap one3
def lay (l : List Ex) : List UInt8 := UInt8.ofNat l.length :: body3 l
theorem body3_length (l : List Ex) : (body3 l).length = 3 * l.length := by
  induction l with
  | nil => rfl
  | cons x r ih => simp [body3, one3] at ih ⊢; omega
theorem body3_append (l m : List Ex) : body3 (l ++ m) = body3 l ++ body3 m := by simp [body3]
theorem body3_take {l : List Ex} {i : Nat} {x : Ex} (h : l[i]? = some x) : body3 (l.take (i + 1)) = body3 (l.take i) ++ one3 x := by
  rw [List.take_add_one, h, Option.toList_some, body3_append]; simp [body3]
/-- Three bytes each as extents. -/
def dec : List UInt8 → List Ex
  | a :: b :: c :: r => ((a.toNat : Int), (b.toNat : Int), (c.toNat : Int)) :: dec r
  | _ => []
theorem dec_length : ∀ (n : Nat) (S : List UInt8), S.length = 3 * n → (dec S).length = n
  | 0, S, h => by
    have : S = [] := List.length_eq_zero_iff.1 (by omega)
    subst this; rfl
  | n + 1, a :: b :: c :: r, h => by
    rw [dec, List.length_cons, dec_length n r (by simp at h; omega)]
  | n + 1, [], h => by simp at h
  | n + 1, [a], h => by simp at h; omega
  | n + 1, [a, b], h => by simp at h; omega
def By (x : Ex) : Prop := 0 ≤ x.1 ∧ x.1 ≤ 255 ∧ 0 ≤ x.2.1 ∧ x.2.1 ≤ 255 ∧ 0 ≤ x.2.2 ∧ x.2.2 ≤ 255
theorem ofNat_toNat_int {x : Int} (h0 : 0 ≤ x) (h1 : x ≤ 255) : (((UInt8.ofNat x.toNat).toNat : Nat) : Int) = x := by
  have : (UInt8.ofNat x.toNat).toNat = x.toNat := by
    simp; omega
  rw [this]; omega
theorem dec_body3 : ∀ (l : List Ex), (∀ x ∈ l, By x) → dec (body3 l) = l
  | [], _ => rfl
  | x :: r, h => by
    have hx := h x (by simp)
    obtain ⟨h1, h2, h3, h4, h5, h6⟩ := hx
    have e : body3 (x :: r) = UInt8.ofNat x.1.toNat :: UInt8.ofNat x.2.1.toNat :: UInt8.ofNat x.2.2.toNat :: body3 r := by simp [body3, one3]
    rw [e, dec, dec_body3 r (fun y hy => h y (by simp [hy])), ofNat_toNat_int h1 h2, ofNat_toNat_int h3 h4, ofNat_toNat_int h5 h6]
theorem dec_by : ∀ (S : List UInt8), ∀ x ∈ dec S, By x
  | a :: b :: c :: r, x, h => by
    rw [dec, List.mem_cons] at h
    rcases h with rfl | h
    · have h1 := a.toNat_lt; have h2 := b.toNat_lt; have h3 := c.toNat_lt
      unfold By; simp only; omega
    · exact dec_by r x h
  | [], x, h => by simp [dec] at h
  | [a], x, h => by simp [dec] at h
  | [a, b], x, h => by simp [dec] at h
theorem al_by {x : Ex} (h : Al x) : By x := by unfold Al at h; unfold By; omega
theorem ti_by {l : List Ex} (h : Ti l) : ∀ x ∈ l, By x := fun x hx => al_by (tp_al h x hx).1

instance decTp : (p : Ex) → (l : List Ex) → Decidable (Tp p l)
  | _, [] => .isTrue trivial
  | p, x :: r =>
    have := decTp x r
    inferInstanceAs (Decidable (p.1 + p.2.1 ≤ x.1 ∧ ¬ On p x ∧ Al x ∧ Tp x r))
instance (l : List Ex) : Decidable (Ti l) := decTp e0 l
/-! ### What is read. -/
abbrev St := Option (List UInt8)
def nN (st : St) (n : Int) : Nat := match st with
  | none => 0
  | some S => if 1 ≤ n ∧ n ≤ 4 ∧ n ≤ (S.length : Int) then vl (S.take n.toNat) else 0
def nS (st : St) (n : Int) : St := match st with
  | none => none
  | some S => if 1 ≤ n ∧ n ≤ 4 ∧ n ≤ (S.length : Int) then some (S.drop n.toNat) else none
/-- So many bytes. -/
def kN (st : St) (n : Nat) : List UInt8 := match st with
  | none => []
  | some S => if n ≤ S.length then S.take n else []
def kS (st : St) (n : Nat) : St := match st with
  | none => none
  | some S => if n ≤ S.length then some (S.drop n) else none
def tN (st : St) : List UInt8 := kN (nS st 1) (nN st 1)
def tS (st : St) : St := kS (nS st 1) (nN st 1)
def xL (st : St) : List Ex := dec (kN (nS st 1) (3 * nN st 1))
def xN (st : St) : List Ex := if Ti (xL st) then xL st else []
def xS (st : St) : St := if Ti (xL st) then kS (nS st 1) (3 * nN st 1) else none
def lft (st : St) : List UInt8 := st.getD []
end Go.Proofs.Ytnboajhcjgcpfaa
