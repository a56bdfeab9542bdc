/-
  The contract of extent.Ids, of every tidy list: one for each block that is not zeros, in the order of blocks.
-/
import Derived.Test.YtfikkbmilhcahaaECut
import Derived.Test.YtfikkbmilhcahaaMapMath
import Derived.Test.YtfikkbmilhcahaaBkIRow
namespace Go.Proofs.Ytfikkbmilhcahaa
open Go.ChangeShapes Go.WideShapes Go.ChangeAt Go.RowKit
attribute [local go_sem ↓] Go.wp_at_zero Go.wp_at_succ

def ids1 (x : Ex) : List Int := if x.2.2 = 0 then [] else (List.range x.2.1.toNat).map fun (j : Nat) => x.2.2 + (j : Int)
def idsL (l : List Ex) : List Int := l.flatMap ids1
/-- What is above 0 of what is said of so many blocks from b on. -/
def segI (f : Int → Int) (b : Int) (n : Nat) : List Int := ((List.range n).map fun (j : Nat) => f (b + (j : Int))).filter fun v => decide (0 < v)
theorem segI_add (f : Int → Int) (b : Int) (n m : Nat) : segI f b (n + m) = segI f b n ++ segI f (b + (n : Int)) m := by
  unfold segI
  rw [List.range_add, List.map_append, List.filter_append, List.map_map]
  congr 2
  apply List.map_congr_left
  intro j _
  simp only [Function.comp]
  congr 1
  push_cast; omega
theorem segI_nil {f : Int → Int} {b : Int} {n : Nat} (h : ∀ j : Nat, j < n → f (b + (j : Int)) ≤ 0) : segI f b n = [] := by
  unfold segI
  rw [List.filter_eq_nil_iff]
  intro v hv
  simp only [List.mem_map, List.mem_range] at hv
  obtain ⟨j, hj, rfl⟩ := hv
  have := h j hj
  simp; omega
theorem segI_congr {f g : Int → Int} {b : Int} {n : Nat} (h : ∀ j : Nat, j < n → f (b + (j : Int)) = g (b + (j : Int))) : segI f b n = segI g b n := by
  unfold segI
  congr 1
  apply List.map_congr_left
  intro j hj
  exact h j (by simpa using hj)
theorem segI_all {f : Int → Int} {b : Int} {n : Nat} {x : Ex} (h : ∀ j : Nat, j < n → f (b + (j : Int)) = x.2.2 + (j : Int)) (h0 : 0 < x.2.2) : segI f b n = (List.range n).map fun (j : Nat) => x.2.2 + (j : Int) := by
  unfold segI
  have e : (List.range n).map (fun (j : Nat) => f (b + (j : Int))) = (List.range n).map fun (j : Nat) => x.2.2 + (j : Int) := by
    apply List.map_congr_left
    intro j hj
    exact h j (by simpa using hj)
  rw [e, List.filter_eq_self]
  intro v hv
  simp only [List.mem_map, List.mem_range] at hv
  obtain ⟨j, hj, rfl⟩ := hv
  simp; omega
theorem ids_seg : ∀ (l : List Ex) (p : Ex) (b : Int), Tp p l → 0 ≤ b → b ≤ 64 → b = p.1 + p.2.1 → segI (val l) b (64 - b).toNat = idsL l
  | [], p, b, _, _, _, _ => by rw [segI_nil (fun j _ => by simp [val])]; rfl
  | x :: r, p, b, ⟨t1, t2, t3, t4⟩, b0, b1, hb => by
    have ax := t3; unfold Al at ax
    have hn : (64 - b).toNat = (x.1 - b).toNat + (x.2.1.toNat + (64 - (x.1 + x.2.1)).toNat) := by omega
    rw [hn, segI_add, segI_add]
    have e1 : segI (val (x :: r)) b (x.1 - b).toNat = [] := segI_nil fun j hj => by
      simp only [val]
      rw [if_neg (by omega), tp_lo t4 (by omega)]; omega
    have hb2 : b + (((x.1 - b).toNat : Nat) : Int) = x.1 := by omega
    have hb3 : x.1 + ((x.2.1.toNat : Nat) : Int) = x.1 + x.2.1 := by omega
    rw [e1, hb2, hb3, List.nil_append]
    have e3 : segI (val (x :: r)) (x.1 + x.2.1) (64 - (x.1 + x.2.1)).toNat = idsL r := by
      rw [← ids_seg r x (x.1 + x.2.1) t4 (by omega) (by omega) rfl]
      apply segI_congr
      intro j _
      simp only [val]
      rw [if_neg (by omega)]
    rw [e3]
    have e2 : segI (val (x :: r)) x.1 x.2.1.toNat = ids1 x := by
      unfold ids1
      by_cases hz : x.2.2 = 0
      · rw [if_pos hz]
        exact segI_nil fun j hj => by
          simp only [val]
          rw [if_pos (by omega)]; unfold idA; rw [if_pos hz]; omega
      · rw [if_neg hz]
        exact segI_all (fun j hj => by
          simp only [val]
          rw [if_pos (by omega)]; unfold idA; rw [if_neg hz]; omega) (by omega)
    rw [e2]; rfl
theorem ids_ti {l : List Ex} (h : Ti l) : idsL l = segI (val l) 0 64 := (ids_seg l e0 0 h (Int.le_refl _) (by omega) rfl).symm
theorem idsM_seg {m : List Int} (hm : m.length = 64) : m.filter (fun v => decide (0 < v)) = segI (mv m) 0 64 := by
  unfold segI
  congr 1
  apply List.ext_getElem?
  intro i
  by_cases h : i < 64
  · rw [mv_nat m i (by omega), List.getElem?_map, List.getElem?_range h]; simp
  · rw [List.getElem?_eq_none (by omega), List.getElem?_eq_none (by simp; omega)]
theorem ids_map {l : List Ex} {m : List Int} (h : Ti l) (hm : m.length = 64) (hv : ∀ k, val l k = mv m k) : idsL l = m.filter (fun v => decide (0 < v)) := by
  rw [ids_ti h, idsM_seg hm]
  exact segI_congr fun j _ => hv _
theorem idsL_take {l : List Ex} {i : Nat} {x : Ex} (h : l[i]? = some x) : idsL (l.take (i + 1)) = idsL (l.take i) ++ ids1 x := by
  unfold idsL
  rw [List.take_add_one, h]; simp
theorem ids1_len {x : Ex} (h : Al x) : (ids1 x).length ≤ 64 := by
  unfold Al at h; unfold ids1; split
  · simp
  · simp; omega
theorem idsL_len : ∀ (l : List Ex) (i : Nat), (∀ x ∈ l, Al x) → (idsL (l.take i)).length ≤ 64 * i
  | l, 0, _ => by simp [idsL]
  | l, i + 1, h => by
    by_cases hi : i < l.length
    · have := idsL_len l i h
      rw [idsL_take (List.getElem?_eq_getElem hi), List.length_append]
      have := ids1_len (h l[i] (List.getElem_mem hi))
      omega
    · have := idsL_len l i h
      rw [List.take_of_length_le (by omega)] at this ⊢
      omega

set_option maxRecDepth 100000 in
set_option maxHeartbeats 1000000 in
theorem ids_row {w : World} {v : Value} {l : List Ex} (hr : BkE.Row w v l) (ht : Ti l) :
    Calls Try.prog 18 #[v] w fun e w' => ∃ v, e = .returned v ∧ w'.ownsRow w.heap.size 3 1 v (idsL l).length (BkI.itemsV (idsL l)) ∧ Below w.heap.size w w' := by
  obtain ⟨i0, hi0, hz0', hz1', hz2'⟩ := info_parts BkI.Try.infoE
  obtain ⟨a, c, rfl⟩ := hr.slice
  have hl := ti_len ht
  have hr' := Hid.intro hr
  have hals : Hid (∀ x ∈ l, Al x) := Hid.intro (fun x hx => (tp_al ht x hx).1)
  clear hr ht
  obtain ⟨R, hR⟩ : ∃ R, Hid (idsL l = R) := ⟨_, rfl⟩
  rw [hR.out]
  go_enter Try.func18, Try.ntmps18
  go_wp2_with fail
  go_loopw [3, 9] (fun ov jv wr => ∃ i : Nat, i ≤ l.length ∧ jv = .int .i64 i ∧ wr.ownsRow w.heap.size 3 1 ov (idsL (l.take i)).length (BkI.itemsV (idsL (l.take i))) ∧ Below w.heap.size w wr) (fun _ jv _ => l.length - (intOf jv).toNat)
  case atStart => exact ⟨0, Nat.zero_le _, rfl, World.ownsRow_nil _ _ _ _, Below.refl _ _⟩
  case round =>
    obtain ⟨i, hi, rfl, hown, hB⟩ := hrel
    have i0' : (0 : Int) ≤ (i : Int) := Int.natCast_nonneg _
    by_cases hlt : i < l.length
    · obtain ⟨g, o, ⟨p, q, r⟩, rfl, hg, hp, d0, d1, d2⟩ := erow_at (hr'.out.below hB) hlt
      have hal : Al (p, q, r) := hals.out _ (List.mem_of_getElem? hp)
      have hal' := Hid.intro hal
      obtain ⟨h1, h2, h3, h4, h5⟩ : 0 ≤ p ∧ 1 ≤ q ∧ q ≤ 64 - p ∧ 0 ≤ r ∧ r ≤ 60 := by unfold Al at hal; simp only at hal; omega
      have i1 : (i : Int) < (l.length : Int) := by omega
      have htk := Hid.intro (idsL_take hp)
      have hbl := idsL_len l i hals.out
      simp only at d0 d1 d2
      have hbo := Hid.intro (Bx.new wr (p, q, r) 24)
      have hba : Below wr.heap.size wr (wr.alloc (.cells #[.int .i64 p, .int .i64 q, .int .i64 r] 24)) := (Below.refl _ _).alloc (Nat.le_refl _) _
      have hwa := Hid.intro (BkI.own_below hown hba)
      have hBa := Hid.intro (hB.trans (hba.mono hB.size))
      have hob : Hid (some wr.heap.size ≠ u3.ownBlock) := Hid.intro (fun e => by have := (hown.lt _ e.symm).2; omega)
      clear hal hp hown hB hba
      generalize idsL (l.take i) = outs at *
      by_cases hz : r = 0
      · have e1 : (r == 0) = true := by simp [hz]
        have hid : Hid (idsL (l.take (i + 1)) = outs) := Hid.intro (by rw [htk.out]; unfold ids1; rw [if_pos (by simpa using hz), List.append_nil])
        clear hz htk
        go_wp2
        go_roundw
        case rel => exact ⟨i + 1, by omega, by go_num, by rw [hid.out]; exact hwa.out, hBa.out⟩
        case measure => simp [intOf]; omega
      · have e1 : (r == 0) = false := by simp [hz]
        have hcut : Hid (ids1 (p, q, r) = (List.range q.toNat).map fun (j : Nat) => r + (j : Int)) := Hid.intro (by unfold ids1; rw [if_neg (by simpa using hz)])
        clear hz
        go_wp2_with fail
        clear d0 d1 d2 hg
        generalize wr.alloc (.cells #[.int .i64 p, .int .i64 q, .int .i64 r] 24) = w2 at *
        generalize wr.heap.size = O at *
        refine (tidy_any p q r _ (by omega)).mono ?_; rintro e w3 ⟨rfl, hb3⟩
        rw [show decide (Al (p, q, r)) = true by simp [hal'.out]]
        have hbo3 := Hid.intro (hbo.out.below hb3 hbo.out.lt)
        have hw3 := Hid.intro (BkI.own_below hwa.out hb3)
        have hB3 := Hid.intro (hBa.out.trans (hb3.mono hBa.out.size))
        clear hb3 hbo hwa hBa
        obtain ⟨a0, a1, a2, _⟩ := hbo3.out
        simp only at a0 a1 a2
        go_wp2_with fail
        go_loopw [3, 23] (fun ov jv wk => ∃ j : Nat, (j : Int) ≤ q ∧ jv = .int .i64 j ∧ wk.ownsRow w.heap.size 3 1 ov (outs ++ (ids1 (p, q, r)).take j).length (BkI.itemsV (outs ++ (ids1 (p, q, r)).take j)) ∧ Bx wk O (p, q, r) ∧ some O ≠ ov.ownBlock ∧ Below w.heap.size w wk) (fun _ jv _ => q.toNat - (intOf jv).toNat)
        case atStart => exact ⟨0, by omega, rfl, by simpa using hw3.out, hbo3.out, hob.out, hB3.out⟩
        case round =>
          clear hw3 hbo3 hob hB3 a0 a1 a2
          obtain ⟨j, hj, rfl, hown6, hbo6, hob6, hB6⟩ := hrel
          have j0 : (0 : Int) ≤ (j : Int) := Int.natCast_nonneg _
          obtain ⟨a0, a1, a2, _⟩ := id hbo6
          simp only at a0 a1 a2
          have hbo6' := Hid.intro hbo6
          clear hbo6
          by_cases hjl : (j : Int) < q
          · have htj : Hid ((ids1 (p, q, r)).take (j + 1) = (ids1 (p, q, r)).take j ++ [r + (j : Int)]) := Hid.intro (by
              rw [List.take_add_one, hcut.out, List.getElem?_map, List.getElem?_range (by omega)]; rfl)
            have hlen : (outs ++ (ids1 (p, q, r)).take j).length ≤ 64 * i + 64 := by
              rw [List.length_append, List.length_take]; omega
            generalize (ids1 (p, q, r)).take j = done at *
            obtain ⟨all, hall⟩ : ∃ all, Hid (outs ++ done = all) := ⟨_, rfl⟩
            rw [hall.out] at hown6 hlen
            have hBz := hB6.size
            have hOl := hbo6'.out.lt
            have hbnd : r + (j : Int) ≤ 200 := by omega
            go_wp2_with (at_builtin; refine wpList_append_lies _ rfl _ _ 51 rfl w.heap.size 3 i0 (.int .i64 0) 1 8 Try.underlying51 hi0 hz0' hz1' hz2' rfl (by decide) _ all.length (BkI.itemsV all) rfl (hown6.alloc _) ⟨wr.heap.size, 0, none⟩ 1 1 [.int .i64 (r + (j : Int))] rfl rfl (World.news_of_block (cs := #[.int .i64 (r + (j : Int))]) (t := 3) (fr := (0, 0)) (heap_alloc_new wr _)) (by simp [Value.oneCell']) (by decide) (by unfold maxLen; omega) (by omega) (by simp; omega) (wr.heap.size + 1) (by simp) ?_; intro g5 cap5 w5 hown5 hgrow5 hat5 hlt5)
            have hba : Below wr.heap.size wr (wr.alloc (.cells #[.int .i64 (r + (j : Int))] 3)) := (Below.refl _ _).alloc (Nat.le_refl _) _
            have hbf := Hid.intro ((hbo6'.out.below hba hOl).grown hgrow5 hob6)
            have hBf := Hid.intro ((hB6.trans (hba.mono hB6.size)).grown hgrow5 (by simp; omega) (fun b hb => (hown6.lt b hb).1))
            have hof : Hid (some O ≠ (Value.slice (some ⟨g5, 0, none⟩) (all.length + 1) cap5).ownBlock) := Hid.intro (fun e => by
              have e' : O = g5 := by simpa [Value.ownBlock] using e
              rcases hat5 with h | h
              · exact hob6 (by rw [e']; exact h.symm)
              · omega)
            have how := Hid.intro hown5
            clear hba hgrow5 hat5 hlt5 hown5 a0 a1 a2 hob6 hown6
            go_roundw
            case rel => exact ⟨j + 1, by omega, by go_num, by rw [htj.out, ← List.append_assoc, hall.out, List.length_append, BkI.itemsV_append]; exact how.out, hbf.out, hof.out, hBf.out⟩
            case measure => simp [intOf]; omega
          · have hje : j = q.toNat := by omega
            have hfull : Hid (outs ++ (ids1 (p, q, r)).take j = idsL (l.take (i + 1))) := Hid.intro (by
              rw [htk.out, hje, List.take_of_length_le (by rw [hcut.out]; simp)])
            rw [hfull.out] at hown6
            clear a0 a1 a2 hje
            go_wp2
            go_roundw
            case rel => exact ⟨i + 1, by omega, by go_num, hown6, hB6⟩
            case measure => simp [intOf]; omega
    · have hi' : i = l.length := by omega
      have hfull : idsL (l.take i) = R := by rw [hi', List.take_length]; exact hR.out
      rw [hfull] at hown
      clear hfull hR
      go_wp2
      go_ret
      exact ⟨_, rfl, hown, hB⟩
end Go.Proofs.Ytfikkbmilhcahaa
