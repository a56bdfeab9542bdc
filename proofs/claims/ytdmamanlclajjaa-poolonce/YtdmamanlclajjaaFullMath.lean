/-
  PoolFull's blocks: so many, one behind the other; one of them taken out; what is put in then.
-/
import Derived.Test.YtdmamanlclajjaaPAlive
namespace Go.Proofs.Ytdmamanlclajjaa
open Go.ChangeShapes Go.WideShapes Go.ChangeAt Go.RowKit

def blk (i : Nat) : List UInt8 := [98, 108, 111, 99, 107, 45, UInt8.ofNat (65 + i / 30), UInt8.ofNat (65 + i % 30)]
def anew : List UInt8 := [97, 110, 101, 119, 48, 48, 48, 48]
def fl : Nat → Nat → List Bl
  | _, 0 => []
  | a, n + 1 => ((a : Int) + 1, 1, blk a) :: fl (a + 1) n

theorem blk_inj {i j : Nat} (hi : i < 60) (hj : j < 60) (h : blk i = blk j) : i = j := by
  unfold blk at h
  simp only [List.cons.injEq, and_true, true_and] at h
  have h1 := congrArg UInt8.toNat h.1
  have h2 := congrArg UInt8.toNat h.2
  simp only [UInt8.toNat_ofNat'] at h1 h2
  omega
theorem blk_anew (i : Nat) : blk i ≠ anew := fun h => by
  unfold blk anew at h
  simp at h
theorem blk_zer (i : Nat) : blk i ≠ zer := fun h => by
  unfold blk zer at h
  simp at h
theorem fl_len : ∀ (n a : Nat), (fl a n).length = n
  | 0, _ => rfl
  | n + 1, a => by simp [fl, fl_len n (a + 1)]
theorem fl_mem : ∀ (n a : Nat) (q : Bl), q ∈ fl a n → ∃ i, a ≤ i ∧ i < a + n ∧ q = ((i : Int) + 1, 1, blk i)
  | 0, a, q, h => by cases h
  | n + 1, a, q, h => by
    rcases List.mem_cons.1 h with rfl | h
    · exact ⟨a, by omega, by omega, rfl⟩
    · obtain ⟨i, h1, h2, h3⟩ := fl_mem n (a + 1) q h
      exact ⟨i, by omega, by omega, h3⟩
theorem fl_snoc : ∀ (n a : Nat), fl a (n + 1) = fl a n ++ [(((a + n : Nat) : Int) + 1, 1, blk (a + n))]
  | 0, a => by simp [fl]
  | n + 1, a => by
    have := fl_snoc n (a + 1)
    rw [fl, this]
    rw [show a + 1 + n = a + (n + 1) by omega]
    rfl
theorem fl_gap : ∀ (n a : Nat) (M : List Bl), (∀ q ∈ M, q.1 ≠ ((a + n : Nat) : Int) + 1) → gapN ((a : Int) + 1) (fl a n ++ M) = n
  | 0, a, M, h => by
    cases M with
    | nil => rfl
    | cons q r =>
      show gapN _ (q :: r) = 0
      unfold gapN
      rw [if_neg (by have := h q List.mem_cons_self; simpa using this)]
  | n + 1, a, M, h => by
    show gapN _ (_ :: (fl (a + 1) n ++ M)) = _
    unfold gapN
    rw [if_pos rfl]
    have := fl_gap n (a + 1) M (fun q hq => by have := h q hq; rw [show a + 1 + n = a + (n + 1) by omega]; exact this)
    rw [show ((a : Int) + 1 + 1) = (((a + 1 : Nat) : Int) + 1) by omega, this]
theorem fl_few (a n : Nat) : Few 1 (fl a n) := fun q hq => by
  obtain ⟨i, _, _, rfl⟩ := fl_mem n a q hq
  simp

/-- One more. -/
theorem put_fl {n most : Nat} (h : n < most) (h60 : most ≤ 60) : putL most (fl 0 n) (blk n) = (fl 0 (n + 1), (n : Int) + 1, 0) := by
  have hf : find (fl 0 n) (blk n) = 0 := find_not fun q hq => by
    obtain ⟨i, _, h2, rfl⟩ := fl_mem n 0 q hq
    intro e
    have := blk_inj (i := i) (j := n) (by omega) (by omega) e
    omega
  have hg : gap (fl 0 n) = n := by
    have := fl_gap n 0 [] (fun q hq => by cases hq)
    simpa [gap] using this
  unfold putL
  rw [if_neg (by simp [blk]), if_neg (blk_zer n), if_neg (by simp [hf]), if_neg (by rw [fl_len]; omega), hg, fl_snoc n 0]
  unfold insAt
  rw [List.take_of_length_le (by rw [fl_len]; omega), List.drop_eq_nil_of_le (by rw [fl_len]; omega)]
  simp
theorem anew_no (a n : Nat) (M : List Bl) (hM : ∀ q ∈ M, q.2.2 ≠ anew) : ∀ q ∈ fl a n ++ M, q.2.2 ≠ anew := fun q hq => by
  rcases List.mem_append.1 hq with hq | hq
  · obtain ⟨i, _, _, rfl⟩ := fl_mem n a q hq
    exact blk_anew i
  · exact hM q hq
theorem put_anew (m : Nat) : putL m (fl 0 m) anew = (fl 0 m, 0, 5) := by
  have hf : find (fl 0 m) anew = 0 := find_not (by have := anew_no 0 m [] (fun q hq => by cases hq); simpa using this)
  unfold putL
  rw [if_neg (by decide), if_neg (by decide), if_neg (by simp [hf]), if_pos (by rw [fl_len]; omega)]
theorem put_zeros (m : Nat) (L : List Bl) : putL m L zer = (L, 0, 0) := by
  unfold putL
  rw [if_neg (by decide), if_pos rfl]
/-- The first one is held twice. -/
def fl2 (m : Nat) : List Bl := (1, 2, blk 0) :: fl 1 (m - 1)
theorem fl_one {m : Nat} (h : 1 ≤ m) : fl 0 m = (1, 1, blk 0) :: fl 1 (m - 1) := by
  obtain ⟨k, rfl⟩ : ∃ k, m = k + 1 := ⟨m - 1, by omega⟩
  simp [fl]
theorem put_first {m : Nat} (h : 1 ≤ m) : putL m (fl 0 m) (blk 0) = (fl2 m, 1, 0) := by
  rw [fl_one h]
  have hf : find ((1, 1, blk 0) :: fl 1 (m - 1)) (blk 0) = 1 := by simp [find]
  unfold putL
  rw [if_neg (by decide), if_neg (by decide), if_pos (by rw [hf]; decide), hf]
  simp [bump, fl2]
theorem drop_first {m : Nat} (h : 1 ≤ m) : holdL (fl2 m) 1 (-1) = (fl 0 m, 0) := by
  rw [fl_one h]
  unfold holdL fl2
  simp [sel, bump]
theorem fl2_few (m : Nat) : Few 2 (fl2 m) := fun q hq => by
  rcases List.mem_cons.1 hq with rfl | hq
  · simp
  · have := fl_few 1 (m - 1) q hq; omega
theorem fl_sel : ∀ (n a k : Nat), a < k → k ≤ a + n → sel (fl a n) (k : Int) = some ((k : Int), 1, blk (k - 1))
  | 0, a, k, h, h' => by omega
  | n + 1, a, k, h, h' => by
    unfold fl sel
    by_cases e : k = a + 1
    · subst e; rw [if_pos (by simp)]; simp
    · rw [if_neg (by simp only; omega)]
      exact fl_sel n (a + 1) k (by omega) (by omega)
theorem fl_bump : ∀ (n a k : Nat), a < k → k ≤ a + n → bump (fl a n) (k : Int) (-1) = fl a (k - 1 - a) ++ fl k (a + n - k)
  | 0, a, k, h, h' => by omega
  | n + 1, a, k, h, h' => by
    unfold bump
    rw [fl]
    by_cases e : k = a + 1
    · subst e
      simp only
      rw [if_pos (by simp), if_neg (by decide), show a + 1 - 1 - a = 0 by omega, show a + (n + 1) - (a + 1) = n by omega]
      rfl
    · simp only
      rw [if_neg (by omega), fl_bump n (a + 1) k (by omega) (by omega), show k - 1 - a = (k - 1 - (a + 1)) + 1 by omega, show a + 1 + n - k = a + (n + 1) - k by omega]
      rfl
/-- One of them is taken out. -/
def hole (m k : Nat) : List Bl := fl 0 (k - 1) ++ fl k (m - k)
theorem drop_fl {m k : Nat} (h : 1 ≤ k) (hk : k ≤ m) : holdL (fl 0 m) (k : Int) (-1) = (hole m k, 0) := by
  unfold holdL hole
  rw [if_neg (by omega), fl_sel m 0 k (by omega) (by omega)]
  simp only
  rw [fl_bump m 0 k (by omega) (by omega)]
  simp
theorem hole_len {m k : Nat} (h : 1 ≤ k) (hk : k ≤ m) : (hole m k).length = m - 1 := by
  unfold hole; simp [fl_len]; omega
theorem hole_few (m k : Nat) : Few 1 (hole m k) := fun q hq => by
  rcases List.mem_append.1 hq with hq | hq
  · exact fl_few _ _ q hq
  · exact fl_few _ _ q hq
theorem put_hole {m k : Nat} (h : 1 ≤ k) (hk : k ≤ m) : (putL m (hole m k) anew).2 = ((k : Int), 0) ∧ (putL m (hole m k) anew).1.length = m := by
  have hf : find (hole m k) anew = 0 := find_not (anew_no _ _ _ (by have := anew_no k (m - k) [] (fun q hq => by cases hq); simpa using this))
  have hg : gap (hole m k) = k - 1 := by
    have := fl_gap (k - 1) 0 (fl k (m - k)) (fun q hq => by
      obtain ⟨i, h1, _, rfl⟩ := fl_mem _ _ q hq
      simp only; omega)
    exact this
  have e : putL m (hole m k) anew = (insAt (hole m k) (gap (hole m k)) ((gap (hole m k) : Int) + 1, 1, anew), (gap (hole m k) : Int) + 1, 0) := by
    unfold putL
    rw [if_neg (by decide), if_neg (by decide), if_neg (by simp [hf]), if_neg (by rw [hole_len h hk]; omega)]
  rw [e]
  refine ⟨?_, ?_⟩
  · simp only [hg]
    rw [show (((k - 1 : Nat) : Int) + 1) = (k : Int) by omega]
  · simp only
    rw [insAt_len (gap_le _), hole_len h hk]
    omega
end Go.Proofs.Ytdmamanlclajjaa
