/-
  OctetsBack: what is written of each, and how it is read; inputs that are too long.
-/
import Derived.Test.YtnboajhcjgcpfaaLightW
import Derived.Test.YtnboajhcjgcpfaaShortWalk
namespace Go.Proofs.Ytnboajhcjgcpfaa
open Go.ChangeShapes Go.WideShapes Go.ChangeAt Go.RowKit
attribute [local go_sem ↓] Go.wp_at_zero Go.wp_at_succ
attribute [local go_sem] str_size str_extract str_append str_toList

/-- The tidy list of a list. -/
def tidL (l : List Ex) : List Ex := l.foldl setL []
theorem tid_fold : ∀ (l t : List Ex) (m : List Int), Ti t → m.length = 64 → (∀ k, val t k = mv m k) → Ti (l.foldl setL t) ∧ ∀ k, val (l.foldl setL t) k = mv (l.foldl mSet m) k
  | [], t, m, h, _, hv => ⟨h, hv⟩
  | x :: r, t, m, h, hm, hv => by
    obtain ⟨h1, h2, _⟩ := setL_spec (x := x) h
    exact tid_fold r (setL t x) (mSet m x) h1 (by rw [mSet_length]; exact hm) (fun k => by
      rw [h2, mSet_mv hm]
      unfold setF
      rw [hv k])
theorem tid_ti (l : List Ex) : Ti (tidL l) := (tid_fold l [] mNone trivial (by simp [mNone]) (fun k => by rw [mNone_mv]; rfl)).1
theorem tid_val (l : List Ex) (k : Int) : val (tidL l) k = mv (mOf l) k := (tid_fold l [] mNone trivial (by simp [mNone]) (fun k => by rw [mNone_mv]; rfl)).2 k
theorem tidL_any {w : World} {v : Value} {l : List Ex} (hr : BkE.Row w v l) (hl : l.length ≤ 1000000) :
    Calls Try.prog 32 #[v] w fun e w' => ∃ v, e = .returned v ∧ w'.ownsRow w.heap.size 71 3 v (tidL l).length (BkE.itemsV (tidL l)) ∧ Below w.heap.size w w' :=
  (lawTidy_any hr hl).mono fun e w' ⟨v, L, he, ho, ht, hv, hb⟩ => by
    have : L = tidL l := ti_ext ht (tid_ti l) (fun k => by rw [hv, tid_val])
    subst this
    exact ⟨v, he, ho, hb⟩

/-! ### The low bits of a number. -/
theorem and_low (v : Int) (k : Nat) (hk : k ≤ 32) : bits .and .i64 v ((2 ^ k - 1 : Nat) : Int) = v % ((2 ^ k : Nat) : Int) := by
  have hp : 2 ^ k ≤ 4294967296 := Nat.pow_le_pow_right (n := 2) (by decide) hk
  have hp0 : 0 < 2 ^ k := Nat.pow_pos (by decide)
  have h1 : (BitVec.ofInt 64 v).toNat = (v % 18446744073709551616).toNat := by rw [BitVec.toNat_ofInt]; rfl
  have h2 : (BitVec.ofInt 64 ((2 ^ k - 1 : Nat) : Int)).toNat = 2 ^ k - 1 := by rw [BitVec.ofInt_natCast, BitVec.toNat_ofNat]; exact Nat.mod_eq_of_lt (by omega)
  have h3 : ((v % 18446744073709551616).toNat % 2 ^ k : Nat) < 4294967296 := Nat.lt_of_lt_of_le (Nat.mod_lt _ hp0) hp
  show IntKind.i64.wrap ((BitVec.ofInt 64 v &&& BitVec.ofInt 64 ((2 ^ k - 1 : Nat) : Int)).toNat : Int) = _
  rw [BitVec.toNat_and, h1, h2, Nat.and_two_pow_sub_one_eq_mod, IntWalk.i64_in _ (by omega), Int.natCast_emod, Int.toNat_of_nonneg (Int.emod_nonneg _ (by decide))]
  exact Int.emod_emod_of_dvd v (by
    rw [show (18446744073709551616 : Int) = ((2 ^ 64 : Nat) : Int) from rfl]
    exact Int.natCast_dvd_natCast.2 (Nat.pow_dvd_pow 2 (by omega)))
def lo (v : Int) (k : Nat) : Nat := (v % ((2 ^ k : Nat) : Int)).toNat
theorem lo_cast (v : Int) (k : Nat) : ((lo v k : Nat) : Int) = v % ((2 ^ k : Nat) : Int) := by
  have : (0 : Int) < ((2 ^ k : Nat) : Int) := by exact_mod_cast Nat.pow_pos (n := k) (show 0 < 2 by decide)
  exact Int.toNat_of_nonneg (Int.emod_nonneg _ (by omega))
theorem lo_lt (v : Int) (k : Nat) : lo v k < 2 ^ k := by
  have h : (0 : Int) < ((2 ^ k : Nat) : Int) := by exact_mod_cast Nat.pow_pos (n := k) (show 0 < 2 by decide)
  have h1 := Int.emod_lt_of_pos v h
  have h2 := lo_cast v k
  omega
theorem and_8 (v : Int) : bits .and .i64 v 255 = ((lo v 8 : Nat) : Int) := by rw [lo_cast]; exact and_low v 8 (by decide)
theorem and_16 (v : Int) : bits .and .i64 v 65535 = ((lo v 16 : Nat) : Int) := by rw [lo_cast]; exact and_low v 16 (by decide)
theorem and_32 (v : Int) : bits .and .i64 v 4294967295 = ((lo v 32 : Nat) : Int) := by rw [lo_cast]; exact and_low v 32 (by decide)

/-! ### What is written, what is read. -/
def wireN (v : Int) : List UInt8 := num (lo v 8) 1 ++ (num (lo v 16) 2 ++ num (lo v 32) 4)
def wire (e : OpE) : List UInt8 := if e.k = 1 then wireN e.v else if e.k = 2 then txt (e.s.take 255) else lay (tidL e.l)
def wires (os : List OpE) : List UInt8 := os.flatMap wire
theorem wires_take {os : List OpE} {i : Nat} {e : OpE} (h : os[i]? = some e) : wires (os.take (i + 1)) = wires (os.take i) ++ wire e := by
  unfold wires
  rw [List.take_add_one, h, Option.toList_some, List.flatMap_append]; simp
theorem wires_drop {os : List OpE} {i : Nat} {e : OpE} (h : os[i]? = some e) : wires (os.drop i) = wire e ++ wires (os.drop (i + 1)) := by
  obtain ⟨h1, h2⟩ := List.getElem?_eq_some_iff.1 h
  unfold wires
  rw [List.drop_eq_getElem_cons h1, h2]; simp
theorem lay_len (l : List Ex) : (lay l).length = 1 + 3 * l.length := by simp [lay, body3_length]; omega
theorem wire_length (e : OpE) : (wire e).length ≤ 300 := by
  unfold wire
  split
  · unfold wireN; simp [num_length]
  · split
    · rw [txt_length, List.length_take]; omega
    · rw [lay_len]; have := ti_len (tid_ti e.l); omega
theorem fit_lo (v : Int) : Fit ((lo v 8 : Nat) : Int) 1 ∧ Fit ((lo v 16 : Nat) : Int) 2 ∧ Fit ((lo v 32 : Nat) : Int) 4 := by
  have h1 := lo_lt v 8
  have h2 := lo_lt v 16
  have h3 := lo_lt v 32
  unfold Fit
  refine ⟨⟨by decide, by decide, by omega, ?_⟩, ⟨by decide, by decide, by omega, ?_⟩, ⟨by decide, by decide, by omega, ?_⟩⟩
  · show ((lo v 8 : Nat) : Int) < 256; omega
  · show ((lo v 16 : Nat) : Int) < 65536; omega
  · show ((lo v 32 : Nat) : Int) < 4294967296; omega
theorem num_read (v n : Nat) (h1 : 1 ≤ n) (h4 : n ≤ 4) (hv : v < 256 ^ n) (R : List UInt8) : nN (some (num v n ++ R)) (n : Int) = v ∧ nS (some (num v n ++ R)) (n : Int) = some R := by
  have hl := num_length n v
  rw [nN_in (by omega), nS_in (by omega), Int.toNat_natCast]
  unfold kN kS
  simp only
  rw [if_pos (by rw [List.length_append]; omega), if_pos (by rw [List.length_append]; omega), List.take_append_of_le_length (by omega), List.take_of_length_le (by omega), vl_num _ _ hv, List.drop_append_of_le_length (by omega), List.drop_of_length_le (by omega), List.nil_append]
  exact ⟨rfl, rfl⟩
theorem one_read (x : UInt8) (R : List UInt8) : nN (some (x :: R)) 1 = x.toNat ∧ nS (some (x :: R)) 1 = some R := by
  rw [nN_in (by decide), nS_in (by decide)]
  have h1 : (1 : Int).toNat = 1 := rfl
  rw [h1]
  simp [kN, kS, vl]
theorem text_read (s R : List UInt8) (hs : s.length ≤ 255) : tN (some (txt s ++ R)) = s ∧ tS (some (txt s ++ R)) = some R := by
  have hx : (UInt8.ofNat s.length).toNat = s.length := by simp; omega
  have e : txt s ++ R = UInt8.ofNat s.length :: (s ++ R) := rfl
  unfold tN tS
  rw [e, (one_read _ _).1, (one_read _ _).2, hx]
  unfold kN kS
  simp only
  rw [if_pos (by simp), if_pos (by simp), List.take_left, List.drop_left]
  exact ⟨rfl, rfl⟩
theorem ext_read (l : List Ex) (R : List UInt8) (ht : Ti l) : xN (some (lay l ++ R)) = l ∧ xS (some (lay l ++ R)) = some R := by
  have h64 := ti_len ht
  have hx : (UInt8.ofNat l.length).toNat = l.length := by simp; omega
  have e : lay l ++ R = UInt8.ofNat l.length :: (body3 l ++ R) := rfl
  have hb := body3_length l
  have hX : xL (some (lay l ++ R)) = l := by
    unfold xL
    rw [e, (one_read _ _).1, (one_read _ _).2, hx]
    unfold kN
    simp only
    rw [if_pos (by rw [List.length_append]; omega), ← hb, List.take_left, dec_body3 l (ti_by ht)]
  unfold xN xS
  rw [hX, if_pos ht, if_pos ht]
  refine ⟨rfl, ?_⟩
  rw [e, (one_read _ _).1, (one_read _ _).2, hx]
  unfold kS
  simp only
  rw [if_pos (by rw [List.length_append]; omega), ← hb, List.drop_left]

set_option maxRecDepth 100000 in
theorem back_early {W : World} {v : Value} {os : List OpE} (h : OpsAt W v os) (hL : LightB os = false) : Calls Try.prog 5 #[v] W fun e w' => e = .returned (.bool true) ∧ Below W.heap.size W w' := by
  have hl := Hid.intro (light_any h)
  rw [hL] at hl
  clear h hL
  go_enter Try.func5, Try.ntmps5
  go_wp2_with fail
  refine hl.out.mono ?_; rintro e w1 ⟨rfl, rfl⟩
  go_wp2_with fail
  refine (alive_any _).mono ?_; rintro e w2 ⟨rfl, c⟩
  have c' := Hid.intro c
  clear c
  go_wp2
  go_ret
  exact ⟨rfl, c'.out⟩
end Go.Proofs.Ytnboajhcjgcpfaa
