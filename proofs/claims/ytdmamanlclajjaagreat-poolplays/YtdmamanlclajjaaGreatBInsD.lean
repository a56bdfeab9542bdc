/-
  The contract of slices.Insert at a bucket, one item, at whatever place: the item is there, all else of the list stays; of memory nothing but the bucket's own block.
-/
import Derived.Test.YtdmamanlclajjaaGreatBInsC
namespace Go.Proofs.YtdmamanlclajjaaGreat.B
open Go.ChangeShapes Go.WideShapes Go.ChangeAt Go.RowKit

theorem take_of {α : Type} (a b : List α) (n : Nat) (h : a.length = n) : (a ++ b).take n = a := by subst h; simp
theorem drop_of {α : Type} (a b : List α) (n : Nat) (h : a.length = n) : (a ++ b).drop n = b := by subst h; simp
theorem spl_parts (a x b vs : List Value) (o : Nat) (ha : a.length = o) (hx : x.length = vs.length) : spl (a ++ x ++ b) o vs = a ++ vs ++ b := by
  unfold spl
  rw [List.append_assoc a x b, take_of a _ o ha]
  rw [← List.append_assoc, drop_of (a ++ x) b _ (by simp [ha, hx])]

def pv (p : Bl) : List Value := [.int .i64 p.1, .int .i64 p.2.1, .string (str p.2.2)]
theorem itemsV_ins (l : List Bl) (i : Nat) (p : Bl) : itemsV (l.take i ++ p :: l.drop i) = itemsV (l.take i) ++ pv p ++ itemsV (l.drop i) := by
  rw [itemsV_append]; simp [itemsV, pv]

/-- In place. -/
theorem shift_list (l : List Bl) (i : Nat) (p : Bl) (r : List Value) (hi : i < l.length) (hr : 3 ≤ r.length) :
    spl (spl (itemsV l ++ r) ((i + 1) * 3) (itemsV (l.drop i))) (i * 3) (pv p) = itemsV (l.take i ++ p :: l.drop i) ++ r.drop 3 := by
  have e0 : itemsV l = itemsV (l.take i) ++ itemsV (l.drop i) := by rw [← itemsV_append, List.take_append_drop]
  have hA : (itemsV (l.take i)).length = i * 3 := by rw [itemsV_length, List.length_take]; omega
  have hD : (itemsV (l.drop i)).length = (l.length - i) * 3 := by rw [itemsV_length, List.length_drop]
  obtain ⟨x, y, z, r', rfl⟩ : ∃ x y z r', r = x :: y :: z :: r' := by
    match r, hr with
    | x :: y :: z :: r', _ => exact ⟨x, y, z, r', rfl⟩
  have hD2 : 3 ≤ (itemsV (l.drop i)).length := by omega
  generalize hd : itemsV (l.drop i) = D at *
  obtain ⟨d0, d1, d2, D', rfl⟩ : ∃ x y z r', D = x :: y :: z :: r' := by
    match D, hD2 with
    | x :: y :: z :: r', _ => exact ⟨x, y, z, r', rfl⟩
  have e1 : itemsV l ++ x :: y :: z :: r' = (itemsV (l.take i) ++ [d0, d1, d2]) ++ (D' ++ [x, y, z]) ++ r' := by rw [e0]; simp
  rw [e1, spl_parts (itemsV (l.take i) ++ [d0, d1, d2]) (D' ++ [x, y, z]) r' (d0 :: d1 :: d2 :: D') ((i + 1) * 3) (by simp [hA]; omega) (by simp)]
  have e2 : itemsV (l.take i) ++ [d0, d1, d2] ++ d0 :: d1 :: d2 :: D' ++ r' = itemsV (l.take i) ++ [d0, d1, d2] ++ (d0 :: d1 :: d2 :: D' ++ r') := by simp
  rw [e2, spl_parts (itemsV (l.take i)) [d0, d1, d2] (d0 :: d1 :: d2 :: D' ++ r') (pv p) (i * 3) hA rfl, itemsV_ins, hd]
  simp

/-- In a new block. -/
theorem grow_list (l : List Bl) (i : Nat) (p : Bl) (z : List Value) (hi : i < l.length) :
    spl (spl (itemsV (l.take i) ++ itemsV (List.replicate (l.length + 1 - i) (0, 0, [])) ++ z) (i * 3) (pv p)) ((i + 1) * 3) (itemsV (l.drop i)) = itemsV (l.take i ++ p :: l.drop i) ++ z := by
  have hA : (itemsV (l.take i)).length = i * 3 := by rw [itemsV_length, List.length_take]; omega
  obtain ⟨k, hk⟩ : ∃ k, l.length + 1 - i = k + 1 := ⟨l.length - i, by omega⟩
  have e1 : itemsV (l.take i) ++ itemsV (List.replicate (l.length + 1 - i) (0, 0, [])) ++ z = itemsV (l.take i) ++ pv (0, 0, []) ++ (itemsV (List.replicate k (0, 0, [])) ++ z) := by
    rw [hk, List.replicate_succ]; simp [itemsV, pv]
  rw [e1, spl_parts (itemsV (l.take i)) (pv (0, 0, [])) _ (pv p) (i * 3) hA rfl]
  have e2 : itemsV (l.take i) ++ pv p ++ (itemsV (List.replicate k (0, 0, [])) ++ z) = (itemsV (l.take i) ++ pv p) ++ itemsV (List.replicate k (0, 0, [])) ++ z := by simp
  rw [e2, spl_parts (itemsV (l.take i) ++ pv p) (itemsV (List.replicate k (0, 0, []))) z (itemsV (l.drop i)) ((i + 1) * 3) (by simp [hA, pv]; omega) (by simp [itemsV_length]; omega), itemsV_ins]

theorem tail_cells (l : List Bl) (i : Nat) (r : List Value) : ∀ (j : Nat) v, (itemsV (l.drop i))[j]? = some v → (itemsV l ++ r)[i * 3 + j]? = some v := by
  intro j v hj
  rw [← itemsV_drop, List.getElem?_drop] at hj
  rw [List.getElem?_append_left (List.getElem?_eq_some_iff.1 hj).1]
  exact hj
theorem head_cells (l : List Bl) (i : Nat) (r : List Value) : ∀ (j : Nat) v, (itemsV (l.take i))[j]? = some v → (itemsV l ++ r)[j]? = some v := by
  intro j v hj
  rw [← itemsV_take, List.getElem?_take] at hj
  split at hj
  · rw [List.getElem?_append_left (List.getElem?_eq_some_iff.1 hj).1]
    exact hj
  · cases hj

theorem insert_any {w : World} {b : Nat} {v : Value} {l : List Bl} (p : Bl) (i vb : Nat) (h : Buk w b v l) (hb : b ≤ w.heap.size) (hl : l.length ≤ 1000) (hi : i ≤ l.length)
    (hv : w.heap[vb]? = some (.cells #[.int .i64 p.1, .int .i64 p.2.1, .string (str p.2.2)] 56 (0, 0))) (hne : v.ownBlock ≠ some vb) :
    Calls Tryz.prog 66 #[v, .int .i64 (i : Nat), .slice (some ⟨vb, 0, none⟩) 1 1] w fun e w' => ∃ v', e = .returned v' ∧ Put1 w w' b v v' (l.take i ++ p :: l.drop i) := by
  rcases Nat.lt_or_eq_of_le hi with hlt | rfl
  · rcases buk_cases h with ⟨_, rfl⟩ | ⟨g, cap, rfl, hbg, hg, hc⟩
    · simp at hlt
    · obtain ⟨_, _, hlc, hcm, r, hgb, hr⟩ := buk_block h
      have hnL : (l.take i ++ p :: l.drop i).length = l.length + 1 := by simp; omega
      have hD : (itemsV (l.drop i)).length = (l.length - i) * 3 := by rw [itemsV_length, List.length_drop]
      have hA : (itemsV (l.take i)).length = i * 3 := by rw [itemsV_length, List.length_take]; omega
      by_cases hroom : l.length + 1 ≤ cap
      · refine (insert_shift l.length cap i g vb p _ (itemsV (l.drop i)) w hlt hl hroom (by unfold maxLen at hcm; omega) hgb hv (fun e => hne (by rw [e]; rfl)) (by simp [itemsV_length, hr]; omega) hD (tail_cells l i r) (itemsV_one _)).mono ?_
        rintro e w' ⟨rfl, q, rfl⟩
        refine ⟨_, rfl, ?_, ⟨rfl, rfl, rfl, by simp, fun k _ hk => ?_⟩, fun g' hg' => .inl hg'⟩
        · rw [← hnL]
          refine buk_make hbg (by omega) hcm (r := r.drop 3) ?_ (by simp [hr]; omega)
          rw [← shift_list l i p r hlt (by omega)]
          exact setRow_at (w := w.drewN q) _ hgb
        · exact setRow_other _ _ _ _ (fun e => hk (by rw [e]; rfl))
      · refine (insert_grow l.length cap i g vb p _ (itemsV (l.take i)) (itemsV (l.drop i)) w hlt hl hlc (by omega) hgb hv hA (head_cells l i r) hD (tail_cells l i r) (itemsV_one _)).mono ?_
        rintro e w' ⟨G, h1, h2, rfl, hB, hblk⟩
        refine ⟨_, rfl, ?_, ⟨hB.os, hB.tape, hB.output, hB.size, fun k hk _ => hB.block k hk⟩, fun g' hg' => .inr ?_⟩
        · rw [← hnL]
          refine buk_make hb (by omega) h2 (r := itemsV (List.replicate (G - (l.length + 1)) (0, 0, []))) ?_ (by rw [itemsV_length, List.length_replicate, hnL])
          rw [← grow_list l i p _ hlt]
          exact hblk
        · cases hg'; exact Nat.le_refl _
  · have := insert_end p vb h hb hl hv
    simpa using this
end Go.Proofs.YtdmamanlclajjaaGreat.B
