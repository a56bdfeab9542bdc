/-
  The document's pool: At, Find, refs: a pool is a number and a list of blocks that is never written.
-/
import Derived.Test.YtdmamanlclajjaaGreatBkApart
namespace Go.Proofs.YtdmamanlclajjaaGreat
open Go.ChangeShapes Go.WideShapes Go.ChangeAt Go.RowKit

theorem rw_slice {w : World} {v : Value} {L : List Bl} (h : Bk.Row w v L) : ∃ a c, v = .slice a L.length c := h.slice
/-- The block at a place, behind what leaves all that was there. -/
theorem rw_at {w wr : World} {a : Option Addr} {c : Nat} {L : List Bl} (h : Bk.Row w (.slice a L.length c) L) (hb : Below w.heap.size w wr) {i : Nat} (hi : i < L.length) :
    ∃ g o q, a = some ⟨g, o, none⟩ ∧ g < w.heap.size ∧ L[i]? = some q ∧ wr.cell? ⟨g, o + i * 3, none⟩ = some (.int .i64 q.1) ∧ wr.cell? ⟨g, o + i * 3 + 1, none⟩ = some (.int .i64 q.2.1) ∧ wr.cell? ⟨g, o + i * 3 + 2, none⟩ = some (.string (str q.2.2)) := by
  rcases h with ⟨_, rfl⟩ | ⟨g, o, cap, hv, hg, hc⟩
  · simp at hi
  · cases hv
    obtain ⟨q, hq⟩ : ∃ q, L[i]? = some q := ⟨L[i], by simp [hi]⟩
    exact ⟨g, o, q, rfl, hg, hq, (hc.below hb hg) i q hq⟩

theorem sel_take {L : List Bl} {x : Int} {i : Nat} {q : Bl} (h : sel (L.take i) x = none) (hq : L[i]? = some q) : (q.1 = x → sel L x = some q) ∧ (q.1 ≠ x → sel (L.take (i + 1)) x = none) := by
  induction L generalizing i with
  | nil => simp at hq
  | cons r L ih =>
    cases i with
    | zero =>
      simp at hq; subst hq
      constructor
      · intro e; simp [sel, e]
      · intro e; simp [sel, e]
    | succ i =>
      simp only [List.take_succ_cons, sel] at h ⊢
      split at h
      · cases h
      · rename_i e
        have := ih h (by simpa using hq)
        simp only [if_neg e]
        exact this
theorem find_take {L : List Bl} {b : List UInt8} {i : Nat} {q : Bl} (h : ∀ r ∈ L.take i, r.2.2 ≠ b) (hq : L[i]? = some q) : (q.2.2 = b → find L b = q.1) ∧ (q.2.2 ≠ b → ∀ r ∈ L.take (i + 1), r.2.2 ≠ b) := by
  constructor
  · intro e
    induction L generalizing i with
    | nil => simp at hq
    | cons r L ih =>
      cases i with
      | zero => simp at hq; subst hq; simp [find, e]
      | succ i =>
        have h0 : r.2.2 ≠ b := h r (by simp)
        unfold find
        rw [if_neg h0]
        exact ih (i := i) (fun s hs => h s (by rw [List.take_succ_cons]; exact List.mem_cons_of_mem _ hs)) (by simpa using hq)
  · intro e r hr
    rw [List.take_add_one, hq] at hr
    rcases List.mem_append.1 hr with hr | hr
    · exact h r hr
    · simp at hr; subst hr; exact e

set_option maxRecDepth 100000 in
theorem rAt_any {w : World} {v : Value} {L : List Bl} (most : Int) (h : Bk.Row w v L) (x : Int) (hl : L.length ≤ 1000) :
    Calls Tryz.prog 16 #[.agg #[.int .i64 most, v], .int .i64 x] w fun e w' => ∃ a : Int, e = .returned (.int .i64 a) ∧ ((a = -1 ∧ sel L x = none) ∨ ∃ k : Nat, ∃ q, a = k ∧ k < L.length ∧ L[k]? = some q ∧ sel L x = some q) ∧ Below w.heap.size w w' := by
  obtain ⟨a, c, rfl⟩ := rw_slice h
  have h' := Hid.intro h
  clear h
  have hB0 : Below w.heap.size w (w.alloc (.cells #[.int .i64 most, .slice a L.length c] 28)) := (Below.refl _ _).alloc (Nat.le_refl _) _
  have hc1 : (w.alloc (.cells #[.int .i64 most, .slice a L.length c] 28)).cell? ⟨w.heap.size, 1, none⟩ = some (.slice a L.length c) := by
    have := heap_alloc_new w (.cells #[.int .i64 most, .slice a L.length c] 28)
    unfold World.cell?
    simp only [this]
    rfl
  go_enter Tryz.func16, Tryz.ntmps16
  go_wp2_with fail
  generalize (w.alloc (.cells #[.int .i64 most, .slice a L.length c] 28)) = W at *
  have hB0' := Hid.intro hB0
  clear hB0
  go_loopw [5] (fun iv wr => ∃ i : Nat, i ≤ L.length ∧ iv = .int .i64 i ∧ Hid (sel (L.take i) x = none) ∧ wr = W) (fun iv _ => L.length - (intOf iv).toNat)
  case atStart => exact ⟨0, Nat.zero_le _, rfl, rfl, rfl⟩
  case round =>
    obtain ⟨i, hi, rfl, hs, rfl⟩ := hrel
    have i0 : (0 : Int) ≤ (i : Int) := Int.natCast_nonneg _
    by_cases hlt : i < L.length
    · obtain ⟨g, o, q, rfl, hg, hq, c0, c1, c2⟩ := rw_at h'.out hB0'.out hlt
      have i1 : (i : Int) < (L.length : Int) := by omega
      have hst := Hid.intro (sel_take hs.out hq)
      have hq' := Hid.intro hq
      clear hq c1 c2
      by_cases e : q.1 = x
      · go_wp2
        go_ret
        exact ⟨_, rfl, .inr ⟨i, q, rfl, hlt, hq'.out, hst.out.1 e⟩, hB0'.out⟩
      · go_wp2
        go_roundw
        case rel => exact ⟨i + 1, by omega, by go_num, hst.out.2 e, trivial⟩
        case measure => simp [intOf]; omega
    · have i1 : ¬ (i : Int) < (L.length : Int) := by omega
      go_wp2
      go_ret
      refine ⟨_, rfl, .inl ⟨rfl, ?_⟩, hB0'.out⟩
      have := hs.out
      rwa [List.take_of_length_le (by omega)] at this

set_option maxRecDepth 100000 in
theorem rFind_any {w : World} {v : Value} {L : List Bl} (most : Int) (h : Bk.Row w v L) (b : List UInt8) (hl : L.length ≤ 1000) :
    Calls Tryz.prog 20 #[.agg #[.int .i64 most, v], .string (str b)] w fun e w' => e = .returned (.int .i64 (find L b)) ∧ Below w.heap.size w w' := by
  obtain ⟨a, c, rfl⟩ := rw_slice h
  have h' := Hid.intro h
  clear h
  have hB0 : Below w.heap.size w (w.alloc (.cells #[.int .i64 most, .slice a L.length c] 28)) := (Below.refl _ _).alloc (Nat.le_refl _) _
  have hc1 : (w.alloc (.cells #[.int .i64 most, .slice a L.length c] 28)).cell? ⟨w.heap.size, 1, none⟩ = some (.slice a L.length c) := by
    have := heap_alloc_new w (.cells #[.int .i64 most, .slice a L.length c] 28)
    unfold World.cell?
    simp only [this]
    rfl
  go_enter Tryz.func20, Tryz.ntmps20
  go_wp2_with fail
  generalize (w.alloc (.cells #[.int .i64 most, .slice a L.length c] 28)) = W at *
  have hB0' := Hid.intro hB0
  clear hB0
  go_loopw [5] (fun iv wr => ∃ i : Nat, i ≤ L.length ∧ iv = .int .i64 i ∧ Hid (∀ r ∈ L.take i, r.2.2 ≠ b) ∧ wr = W) (fun iv _ => L.length - (intOf iv).toNat)
  case atStart => exact ⟨0, Nat.zero_le _, rfl, fun r hr => by simp at hr, rfl⟩
  case round =>
    obtain ⟨i, hi, rfl, hs, rfl⟩ := hrel
    have i0 : (0 : Int) ≤ (i : Int) := Int.natCast_nonneg _
    by_cases hlt : i < L.length
    · obtain ⟨g, o, ⟨x, y, z⟩, rfl, hg, hq, c0, c1, c2⟩ := rw_at h'.out hB0'.out hlt
      have i1 : (i : Int) < (L.length : Int) := by omega
      have hst := Hid.intro (find_take hs.out hq)
      simp only at hst c0 c1 c2
      clear hq c1
      by_cases e : z = b
      · have hf := Hid.intro (hst.out.1 e)
        have ee : ((str z).toList == (str b).toList) = true := by rw [e]; simp
        clear hst
        go_wp2
        go_ret
        exact ⟨by rw [hf.out]; rfl, hB0'.out⟩
      · have ee : ((str z).toList == (str b).toList) = false := str_ne e
        have e' := Hid.intro e
        clear e
        go_wp2
        go_roundw
        case rel => exact ⟨i + 1, by omega, by go_num, hst.out.2 e'.out, trivial⟩
        case measure => simp [intOf]; omega
    · have i1 : ¬ (i : Int) < (L.length : Int) := by omega
      have hf : Hid (find L b = 0) := find_not fun q hq => by
        have := hs.out
        rw [List.take_of_length_le (by omega)] at this
        exact this q hq
      go_wp2
      go_ret
      exact ⟨by rw [hf.out]; rfl, hB0'.out⟩

def rfL : List Bl → Int → Int → List Bl
  | [], _, _ => []
  | q :: r, x, n => if q.1 = x then (if 0 < q.2.1 + n then (q.1, q.2.1 + n, q.2.2) :: rfL r x n else rfL r x n) else if 0 < q.2.1 then q :: rfL r x n else rfL r x n
theorem rfL_append : ∀ (L M : List Bl) (x n : Int), rfL (L ++ M) x n = rfL L x n ++ rfL M x n
  | [], M, x, n => rfl
  | q :: L, M, x, n => by
    have ih := rfL_append L M x n
    simp only [List.cons_append, rfL]
    split <;> split <;> simp [ih]
theorem rfL_same : ∀ (L : List Bl) (x n : Int), (∀ q ∈ L, 0 < q.2.1) → (∀ q ∈ L, q.1 ≠ x) → rfL L x n = L
  | [], x, n, _, _ => rfl
  | q :: L, x, n, h1, h2 => by
    rw [rfL, if_neg (h2 q (by simp)), if_pos (h1 q (by simp)), rfL_same L x n (fun r hr => h1 r (by simp [hr])) fun r hr => h2 r (by simp [hr])]
theorem rfL_bump : ∀ (L : List Bl) (x n : Int), B.Ord L → (∀ q ∈ L, 0 < q.2.1) → rfL L x n = bump L x n
  | [], x, n, _, _ => rfl
  | q :: L, x, n, ho, h1 => by
    have ho' : B.Ord L := ord_drop (q :: L) 1 ho
    have ih := rfL_bump L x n ho' fun r hr => h1 r (by simp [hr])
    unfold rfL bump
    by_cases e : q.1 = x
    · have hs : rfL L x n = L := rfL_same L x n (fun r hr => h1 r (by simp [hr])) fun r hr e' => by
        obtain ⟨j, hj⟩ := List.mem_iff_getElem?.1 hr
        have := B.ord_at (q :: L) 0 (j + 1) q r ho (by omega) rfl (by simpa using hj)
        omega
      rw [if_pos e, if_pos e, hs]
    · rw [if_neg e, if_neg e, if_pos (h1 q (by simp)), ih]
theorem rfL_step {L : List Bl} {x n : Int} {i : Nat} {q : Bl} (hq : L[i]? = some q) : rfL (L.take (i + 1)) x n = rfL (L.take i) x n ++ rfL [q] x n := by
  rw [List.take_add_one, hq, rfL_append]; rfl
theorem rfL_len (L : List Bl) (x n : Int) : (rfL L x n).length ≤ L.length := by
  induction L with
  | nil => simp [rfL]
  | cons q L ih =>
    unfold rfL
    split <;> split <;> simp <;> omega
end Go.Proofs.YtdmamanlclajjaaGreat

namespace Go.Proofs.YtdmamanlclajjaaGreat
open Go.ChangeShapes Go.WideShapes Go.ChangeAt Go.RowKit

set_option maxHeartbeats 1000000 in
set_option maxRecDepth 100000 in
theorem rRefs_any {w : World} {v : Value} {L : List Bl} (most : Int) (h : Bk.Row w v L) (x n : Int) (hl : L.length ≤ 1000) (hR : ∀ q ∈ L, 0 < q.2.1 ∧ q.2.1 ≤ 1000000) (hn : -1 ≤ n) (hn2 : n ≤ 1) :
    Calls Tryz.prog 26 #[.agg #[.int .i64 most, v], .int .i64 x, .int .i64 n] w fun e w' => ∃ v', e = .returned (.agg #[.int .i64 most, v']) ∧ w'.ownsRow w.heap.size 56 3 v' (rfL L x n).length (B.itemsV (rfL L x n)) ∧ Below w.heap.size w w' := by
  obtain ⟨a, c, rfl⟩ := rw_slice h
  have h' := Hid.intro h
  have hR' := Hid.intro hR
  clear h hR
  obtain ⟨i0, hi0, hz0', hz1', hz2'⟩ := info_parts Bk.Tryz.infoE
  have hB0 : Below w.heap.size w ((w.alloc (.cells #[.int .i64 most, .slice a L.length c] 28)).alloc (.cells #[.int .i64 0, .slice none 0 0] 28)) := ((Below.refl _ _).alloc (Nat.le_refl _) _).alloc (by simp) _
  have hp : ((w.alloc (.cells #[.int .i64 most, .slice a L.length c] 28)).alloc (.cells #[.int .i64 0, .slice none 0 0] 28)).heap[w.heap.size]? = some (.cells #[.int .i64 most, .slice a L.length c] 28 (0, 0)) := by
    have := heap_alloc_new w (.cells #[.int .i64 most, .slice a L.length c] 28)
    have h2 := ((Below.refl (w.heap.size + 1) (w.alloc (.cells #[.int .i64 most, .slice a L.length c] 28))).alloc (by simp) (.cells #[.int .i64 0, .slice none 0 0] 28)).block w.heap.size (by omega)
    exact h2.trans this
  have hr : ((w.alloc (.cells #[.int .i64 most, .slice a L.length c] 28)).alloc (.cells #[.int .i64 0, .slice none 0 0] 28)).heap[w.heap.size + 1]? = some (.cells #[.int .i64 0, .slice none 0 0] 28 (0, 0)) := by
    have := heap_alloc_new (w.alloc (.cells #[.int .i64 most, .slice a L.length c] 28)) (.cells #[.int .i64 0, .slice none 0 0] 28)
    rw [show (w.alloc (.cells #[.int .i64 most, .slice a L.length c] 28)).heap.size = w.heap.size + 1 by simp] at this
    exact this
  have hs : ((w.alloc (.cells #[.int .i64 most, .slice a L.length c] 28)).alloc (.cells #[.int .i64 0, .slice none 0 0] 28)).heap.size = w.heap.size + 2 := by simp
  go_enter Tryz.func26, Tryz.ntmps26
  go_wp2_with fail
  generalize ((w.alloc (.cells #[.int .i64 most, .slice a L.length c] 28)).alloc (.cells #[.int .i64 0, .slice none 0 0] 28)) = W at *
  have hB0' := Hid.intro hB0
  have hp' := Hid.intro hp
  have hr' := Hid.intro hr
  have hs' := Hid.intro hs
  clear hB0 hp hr hs
  go_loopw [7, 8] (fun ov iv wr => ∃ i : Nat, i ≤ L.length ∧ iv = .int .i64 i ∧ Hid (wr.ownsRow (w.heap.size + 2) 56 3 ov (rfL (L.take i) x n).length (B.itemsV (rfL (L.take i) x n))) ∧ Hid (Below (w.heap.size + 2) W wr)) (fun _ iv _ => L.length - (intOf iv).toNat)
  case atStart => exact ⟨0, Nat.zero_le _, rfl, World.ownsRow_nil _ _ _ _, Below.refl _ _⟩
  case round =>
    obtain ⟨i, hi, rfl, ho, hB⟩ := hrel
    have i0' : (0 : Int) ≤ (i : Int) := Int.natCast_nonneg _
    have hBw : Below w.heap.size w wr := hB0'.out.trans (hB.out.mono (by omega))
    have hbx : wr.heap[w.heap.size]? = some (.cells #[.int .i64 most, .slice a L.length c] 28 (0, 0)) := by rw [hB.out.block _ (by omega)]; exact hp'.out
    have hbr : wr.heap[w.heap.size + 1]? = some (.cells #[.int .i64 0, .slice none 0 0] 28 (0, 0)) := by rw [hB.out.block _ (by omega)]; exact hr'.out
    have k0 : wr.cell? ⟨w.heap.size, 0, none⟩ = some (.int .i64 most) := by unfold World.cell?; simp only [hbx]; rfl
    have k1 : wr.cell? ⟨w.heap.size, 1, none⟩ = some (.slice a L.length c) := by unfold World.cell?; simp only [hbx]; rfl
    have hsz : w.heap.size + 2 ≤ wr.heap.size := by have := hB.out.size; have := hs'.out; omega
    have hlen := rfL_len (L.take i) x n
    rw [List.length_take] at hlen
    by_cases hlt : i < L.length
    · obtain ⟨g, o, ⟨qa, qb, qc⟩, rfl, hg, hq, c0, c1, c2⟩ := rw_at h'.out hBw hlt
      have i1 : (i : Int) < (L.length : Int) := by omega
      obtain ⟨hq1, hq2⟩ := hR'.out _ (List.mem_of_getElem? hq)
      have hst := Hid.intro (rfL_step (x := x) (n := n) hq)
      simp only at c0 c1 c2 hq1 hq2
      clear hq hbx hbr
      have hBw' := Hid.intro hBw
      clear hBw
      obtain ⟨ov, oc, rfl⟩ := Bk.own_form ho.out
      by_cases e : qa = x
      · subst e
        by_cases hpos : 0 < qb + n
        · have hst2 : Hid (rfL (L.take (i + 1)) qa n = rfL (L.take i) qa n ++ [(qa, qb + n, qc)]) := Hid.intro (by rw [hst.out]; simp [rfL, hpos])
          clear hst
          have hs2 : (wr.alloc (.cells #[.int .i64 qa, .int .i64 (qb + n), .string (str qc)] 56)).heap.size = wr.heap.size + 1 := by simp
          have hnw : ((wr.alloc (.cells #[.int .i64 qa, .int .i64 (qb + n), .string (str qc)] 56)).alloc (.cells #[.int .i64 qa, .int .i64 (qb + n), .string (str qc)] 56)).heap[wr.heap.size + 1]? = some (.cells #[.int .i64 qa, .int .i64 (qb + n), .string (str qc)] 56 (0, 0)) := by
            have := heap_alloc_new (wr.alloc (.cells #[.int .i64 qa, .int .i64 (qb + n), .string (str qc)] 56)) (.cells #[.int .i64 qa, .int .i64 (qb + n), .string (str qc)] 56)
            rw [hs2] at this
            exact this
          have hnw' := Hid.intro hnw
          have hov := Hid.intro ((ho.out.alloc (.cells #[.int .i64 qa, .int .i64 (qb + n), .string (str qc)] 56)).alloc (.cells #[.int .i64 qa, .int .i64 (qb + n), .string (str qc)] 56))
          clear hs2 hnw
          go_wp2_with (at_builtin; refine wpList_append_lies _ rfl _ _ 26 rfl (w.heap.size + 2) 56 i0 (.agg #[.int .i64 0, .int .i64 0, .string ByteArray.empty]) 3 32 Tryz.underlying26 hi0 hz0' hz1' hz2' rfl (by decide) _ _ _ rfl hov.out ⟨wr.heap.size + 1, 0, none⟩ 1 1 [.int .i64 qa, .int .i64 (qb + n), .string (str qc)] rfl rfl (World.news_of_block (cs := #[.int .i64 qa, .int .i64 (qb + n), .string (str qc)]) (t := 56) (fr := (0, 0)) hnw'.out) (by simp [Value.oneCell']) (by decide) (by unfold maxLen; omega) (by omega) (by simp; omega) (wr.heap.size + 2) (by simp) ?_; intro g5 cap5 w5 hown5 hgrow5 hat5 hlt5)
          go_roundw
          case rel =>
            refine ⟨i + 1, by omega, by go_num, ?_, ?_⟩
            · rw [hst2.out, B.itemsV_append, List.length_append]; exact hown5
            · exact ((hB.out.alloc hsz _).alloc (by simp; omega) _).grown hgrow5 (by simp; omega) (fun j hj => (ho.out.lt j hj).1)
          case measure => simp [intOf]; omega
        · have hst2 : Hid (rfL (L.take (i + 1)) qa n = rfL (L.take i) qa n ++ []) := Hid.intro (by rw [hst.out]; simp [rfL, hpos])
          clear hst
          go_wp2
          go_roundw
          case rel =>
            refine ⟨i + 1, by omega, by go_num, ?_, ?_⟩
            · rw [hst2.out, List.append_nil]; exact ho.out.alloc _
            · exact hB.out.alloc hsz _
          case measure => simp [intOf]; omega
      · have hst2 : Hid (rfL (L.take (i + 1)) x n = rfL (L.take i) x n ++ [(qa, qb, qc)]) := Hid.intro (by rw [hst.out]; simp [rfL, e, hq1])
        clear hst
        have hs2 : (wr.alloc (.cells #[.int .i64 qa, .int .i64 (qb), .string (str qc)] 56)).heap.size = wr.heap.size + 1 := by simp
        have hnw : ((wr.alloc (.cells #[.int .i64 qa, .int .i64 (qb), .string (str qc)] 56)).alloc (.cells #[.int .i64 qa, .int .i64 (qb), .string (str qc)] 56)).heap[wr.heap.size + 1]? = some (.cells #[.int .i64 qa, .int .i64 (qb), .string (str qc)] 56 (0, 0)) := by
          have := heap_alloc_new (wr.alloc (.cells #[.int .i64 qa, .int .i64 (qb), .string (str qc)] 56)) (.cells #[.int .i64 qa, .int .i64 (qb), .string (str qc)] 56)
          rw [hs2] at this
          exact this
        have hnw' := Hid.intro hnw
        have hov := Hid.intro ((ho.out.alloc (.cells #[.int .i64 qa, .int .i64 (qb), .string (str qc)] 56)).alloc (.cells #[.int .i64 qa, .int .i64 (qb), .string (str qc)] 56))
        clear hs2 hnw
        go_wp2_with (at_builtin; refine wpList_append_lies _ rfl _ _ 26 rfl (w.heap.size + 2) 56 i0 (.agg #[.int .i64 0, .int .i64 0, .string ByteArray.empty]) 3 32 Tryz.underlying26 hi0 hz0' hz1' hz2' rfl (by decide) _ _ _ rfl hov.out ⟨wr.heap.size + 1, 0, none⟩ 1 1 [.int .i64 qa, .int .i64 (qb), .string (str qc)] rfl rfl (World.news_of_block (cs := #[.int .i64 qa, .int .i64 (qb), .string (str qc)]) (t := 56) (fr := (0, 0)) hnw'.out) (by simp [Value.oneCell']) (by decide) (by unfold maxLen; omega) (by omega) (by simp; omega) (wr.heap.size + 2) (by simp) ?_; intro g5 cap5 w5 hown5 hgrow5 hat5 hlt5)
        go_roundw
        case rel =>
          refine ⟨i + 1, by omega, by go_num, ?_, ?_⟩
          · rw [hst2.out, B.itemsV_append, List.length_append]; exact hown5
          · exact ((hB.out.alloc hsz _).alloc (by simp; omega) _).grown hgrow5 (by simp; omega) (fun j hj => (ho.out.lt j hj).1)
        case measure => simp [intOf]; omega
    · have i1 : ¬ (i : Int) < (L.length : Int) := by omega
      have hii : L.take i = L := List.take_of_length_le (by omega)
      rw [hii] at ho hlen
      have hf0 : wr.frozen? ⟨w.heap.size + 1, 0, none⟩ = false := by unfold World.frozen?; simp only [hbr]; rfl
      have hf1 : wr.frozen? ⟨w.heap.size + 1, 1, none⟩ = false := by unfold World.frozen?; simp only [hbr]; rfl
      have hr0 : wr.cell? ⟨w.heap.size + 1, 0, none⟩ = some (.int .i64 0) := by unfold World.cell?; simp only [hbr]; rfl
      have hr1 : wr.cell? ⟨w.heap.size + 1, 1, none⟩ = some (.slice none 0 0) := by unfold World.cell?; simp only [hbr]; rfl
      obtain ⟨ov, oc, rfl⟩ := Bk.own_form ho.out
      clear hbx hbr hii
      have hBw' := Hid.intro hBw
      clear hBw
      go_wp2
      have hne : (Value.slice ov (rfL L x n).length oc).ownBlock ≠ some (w.heap.size + 1) := fun e => by have := (ho.out.lt _ e).1; omega
      have ho2 := ownsRow_setCell_other (a := ⟨w.heap.size + 1, 1, none⟩) (ownsRow_setCell_other (a := ⟨w.heap.size + 1, 0, none⟩) ho.out hne (.int .i64 most)) hne (.slice ov (rfL L x n).length oc)
      have hbel : Below w.heap.size w ((wr.setCell ⟨w.heap.size + 1, 0, none⟩ (.int .i64 most)).setCell ⟨w.heap.size + 1, 1, none⟩ (.slice ov (rfL L x n).length oc)) := (hBw'.out.setCell (by show w.heap.size ≤ w.heap.size + 1; omega) _).setCell (by show w.heap.size ≤ w.heap.size + 1; omega) _
      refine bodyPost_ret (v := .agg #[.int .i64 most, .slice ov (rfL L x n).length oc]) ?_ rfl ⟨_, rfl, Bk.own_mono ho2 (by omega), hbel⟩
      simp [results, Tryz.results26, go_sem, hr0, hr1]
end Go.Proofs.YtdmamanlclajjaaGreat
