/-
  What the document's Fix and Fall make of its disk in memory: a page over a page, all pages over all, new marks.
-/
import Derived.Test.YtjjfdkgnagfbcaaRB
import Derived.Shelf.Spec.SlicesInsert
namespace Go.Proofs.Ytjjfdkgnagfbcaa
open Go.ChangeShapes Go.WideShapes Go.ChangeAt Go.RowKit

theorem blk_type {w : World} {base base' : Nat} {e e' : TypeId} {size size' n n' g g' : Nat} {v v' : Value} {xs xs' : List Value} (h : w.ownsRow base e size v n xs) (h' : w.ownsRow base' e' size' v' n' xs') (hg : v.ownBlock = some g) (hg' : v'.ownBlock = some g') (he : e ≠ e') : g ≠ g' := by
  rintro rfl
  obtain ⟨c1, q1⟩ := own_blk h hg
  obtain ⟨c2, q2⟩ := own_blk h' hg'
  rw [q1] at q2
  simp at q2
  exact he q2.2
/-- One string of a list anew. -/
theorem SR.set {w : World} {F : Nat → Prop} {v : Value} {L : List (List UInt8)} {g k : Nat} (h : SR w F v L) (hg : v.ownBlock = some g) (P : List UInt8) (hk : k < L.length) : SR (w.setCell ⟨g, k, none⟩ (.string (str P))) F v (L.set k P) := by
  obtain ⟨a, c, rfl⟩ := h.form
  obtain ⟨g', rfl, _, _⟩ := h.at_ rfl hk
  cases hg
  refine ⟨?_, h.2⟩
  have := (World.ownsRow.stored h.1 k (.string (str P))).1
  rw [List.length_set, List.map_set]
  exact this
theorem BR.set {w : World} {F : Nat → Prop} {v : Value} {l : List Bool} {g k : Nat} (h : BR w F v l) (hg : v.ownBlock = some g) (b : Bool) (hk : k < l.length) : BR (w.setCell ⟨g, k, none⟩ (.bool b)) F v (l.set k b) := by
  obtain ⟨a, c, rfl⟩ := own_form h.1
  obtain ⟨g', rfl, _, _⟩ := h.at_ rfl hk
  cases hg
  refine ⟨?_, h.2⟩
  have := (World.ownsRow.stored h.1 k (.bool b)).1
  rw [List.length_set, List.map_set]
  exact this
theorem RM.storeX {w : World} {F : Nat → Prop} {r g k : Nat} {vN vX vW vK : Value} {off arm : Bool} {n : Int} {L X : List (List UInt8)} {wl kl : List Bool} (h : RM w F r vN vX vW vK off arm n L X wl kl) (hg : vX.ownBlock = some g) (P : List UInt8) (hk : k < X.length) :
    RM (w.setCell ⟨g, k, none⟩ (.string (str P))) F r vN vX vW vK off arm n L (X.set k P) wl kl where
  box := by rw [Below.heap_setCell _ _ _ _ (Ne.symm (h.ne.2.1 g hg))]; exact h.box
  sN := h.sN.keep (fun g' hg' => Below.heap_setCell _ _ _ _ (fun e => h.nX g' hg' (by rw [e]; exact hg))) fun _ h => h
  sX := h.sX.set hg P hk
  sW := h.sW.keep (fun g' hg' => Below.heap_setCell _ _ _ _ (blk_type h.sW.1 h.sX.1 hg' hg (by decide))) fun _ h => h
  sK := h.sK.keep (fun g' hg' => Below.heap_setCell _ _ _ _ (blk_type h.sK.1 h.sX.1 hg' hg (by decide))) fun _ h => h
  nX := h.nX
  nK := h.nK
  fr := h.fr
theorem RM.storeN {w : World} {F : Nat → Prop} {r g k : Nat} {vN vX vW vK : Value} {off arm : Bool} {n : Int} {L X : List (List UInt8)} {wl kl : List Bool} (h : RM w F r vN vX vW vK off arm n L X wl kl) (hg : vN.ownBlock = some g) (P : List UInt8) (hk : k < L.length) :
    RM (w.setCell ⟨g, k, none⟩ (.string (str P))) F r vN vX vW vK off arm n (L.set k P) X wl kl where
  box := by rw [Below.heap_setCell _ _ _ _ (Ne.symm (h.ne.1 g hg))]; exact h.box
  sN := h.sN.set hg P hk
  sX := h.sX.keep (fun g' hg' => Below.heap_setCell _ _ _ _ (fun e => h.nX g hg (by rw [← show g' = g from e]; exact hg'))) fun _ h => h
  sW := h.sW.keep (fun g' hg' => Below.heap_setCell _ _ _ _ (blk_type h.sW.1 h.sN.1 hg' hg (by decide))) fun _ h => h
  sK := h.sK.keep (fun g' hg' => Below.heap_setCell _ _ _ _ (blk_type h.sK.1 h.sN.1 hg' hg (by decide))) fun _ h => h
  nX := h.nX
  nK := h.nK
  fr := h.fr
theorem RM.storeW {w : World} {F : Nat → Prop} {r g k : Nat} {vN vX vW vK : Value} {off arm : Bool} {n : Int} {L X : List (List UInt8)} {wl kl : List Bool} (h : RM w F r vN vX vW vK off arm n L X wl kl) (hg : vW.ownBlock = some g) (b : Bool) (hk : k < wl.length) :
    RM (w.setCell ⟨g, k, none⟩ (.bool b)) F r vN vX vW vK off arm n L X (wl.set k b) kl where
  box := by rw [Below.heap_setCell _ _ _ _ (Ne.symm (h.ne.2.2.1 g hg))]; exact h.box
  sN := h.sN.keep (fun g' hg' => Below.heap_setCell _ _ _ _ (blk_type h.sN.1 h.sW.1 hg' hg (by decide))) fun _ h => h
  sX := h.sX.keep (fun g' hg' => Below.heap_setCell _ _ _ _ (blk_type h.sX.1 h.sW.1 hg' hg (by decide))) fun _ h => h
  sW := h.sW.set hg b hk
  sK := h.sK.keep (fun g' hg' => Below.heap_setCell _ _ _ _ (fun e => h.nK g hg (by rw [← show g' = g from e]; exact hg'))) fun _ h => h
  nX := h.nX
  nK := h.nK
  fr := h.fr

theorem sV_one (L : List (List UInt8)) : ∀ u ∈ L.map sV, u.oneCell' = true := by
  intro u hu
  obtain ⟨x, _, rfl⟩ := List.mem_map.1 hu
  rfl
/-- All strings of a list laid over another one of as many. -/
theorem SR.copies {w : World} {F : Nat → Prop} {vD vS : Value} {D S : List (List UInt8)} (hD : SR w F vD D) (hS : SR w F vS S) (hl : S.length = D.length) (hne : ∀ g, vD.ownBlock = some g → vS.ownBlock ≠ some g) :
    ∃ w', (∀ ty, (Builtin.copy_ #[60, 60] ty #[vD, vS]).run Try.prog w = .ok (goInt D.length) w') ∧ SR w' F vD S ∧ Keep (fun b => vD.ownBlock = some b) w w' := by
  obtain ⟨i, hi, hs⟩ : ∃ i, Try.prog.info? 9 = some i ∧ i.size = 1 := by
    have := (show (Try.prog.info? 9).map (·.size) = some 1 by kernel_rfl)
    cases hq : Try.prog.info? 9 with
    | none => rw [hq] at this; cases this
    | some i => rw [hq] at this; exact ⟨i, rfl, by simpa using this⟩
  obtain ⟨aD, cD, rfl⟩ := hD.form
  obtain ⟨aS, cS, rfl⟩ := hS.form
  by_cases h0 : D.length = 0
  · have hD0 := List.length_eq_zero_iff.1 h0
    have hS0 := List.length_eq_zero_iff.1 (hl.trans h0)
    subst hD0; subst hS0
    refine ⟨w, fun ty => ?_, hD, Keep.refl _⟩
    have hld : ∀ ad : Addr, (loadCells ad 0).run Try.prog w = .ok #[] w := fun ad => run_loadCells_list (P := Try.prog) w ad [] (by simp)
    cases aD <;> cases aS <;> simp [Builtin.copy_, run_underlying Try.underlying60, Builtin.lenOf, Builtin.firstCells, sizeOf, typeInfo, hi, storeCells, hld]
  · obtain ⟨gD, rfl, _, _⟩ := hD.at_ rfl (by omega : 0 < D.length)
    obtain ⟨gS, rfl, _, _⟩ := hS.at_ rfl (by omega : 0 < S.length)
    have hgne : gD ≠ gS := fun e => hne gD rfl (by rw [e]; rfl)
    rcases hD.1.2 with ⟨h1, _⟩ | ⟨g2, cap, cur, hv, _, hh, hc, hm, hcs, ht⟩
    · cases h1
    · cases hv
      have hld := run_loadCells_list (P := Try.prog) w ⟨gS, 0, none⟩ (S.map sV) (fun j v hj => by
        rw [Addr.add_mid, Nat.zero_add, World.ownsRow.cellAt hS.1 j (by have := (List.getElem?_eq_some_iff.1 hj).1; simp at this; omega)]
        exact hj)
      have hcur : cur.size = cD * 1 := hcs
      have hst := run_storeCells_at Try.prog gD 0 9 (S.map sV) 0 cur w hh (by simp; omega) (sV_one _)
      simp only [Nat.add_zero, Nat.zero_add, List.length_map, List.take_zero, List.nil_append] at hst
      refine ⟨w.setRow gD (S.map sV ++ cur.toList.drop S.length).toArray, fun ty => ?_, ⟨⟨by simp, .inr ⟨gD, cD, (S.map sV ++ cur.toList.drop S.length).toArray, by rw [hl], Nat.zero_le _, setRow_heap _ _ _ _ _ _ hh, by omega, hm, ?_, ?_⟩⟩, hD.2⟩, Keep.row rfl⟩
      · have hl2 : (S.map sV).length = D.length := by simp [hl]
        rw [hl2] at hld
        simp [Builtin.copy_, run_underlying Try.underlying60, Builtin.lenOf, Builtin.firstCells, sizeOf, typeInfo, hi, hs, hl]
        rw [hl] at hst
        simp [hld, hst]
      · simp; omega
      · simp
/-- New marks, none of them set. -/
def zb (n : Nat) : Array Value := ((List.replicate n false).map Value.bool).toArray
theorem made_bools (w : World) (n : Nat) (hn : n ≤ 60) : (Instr.makeSlice 30 (.int .i64 (n : Int)) (.int .i64 (n : Int))).run Try.prog w = .ok (.slice (some ⟨w.heap.size, 0, none⟩) n n) (w.alloc (.cells (zb n) 4)) := by
  obtain ⟨i0, hi, hz0, hz1, hz2⟩ := info_parts Try.info4b
  have hr := run_make (P := Try.prog) w 30 4 i0 (.bool false) Try.underlying30 hi hz0 .i64 .i64 (n : Int) (n : Int) (by omega) (by omega) (by rw [hz2]; omega) (by omega)
  simp only [Int.toNat_natCast, hz1, Nat.mul_one] at hr
  rw [hr]
  unfold zb
  congr 3
  apply Array.ext'
  apply List.ext_getElem?
  intro i
  by_cases hi : i < n
  · rw [List.map_replicate]
    show (madeCells _ n).toList[i]? = (List.replicate n (Value.bool false))[i]?
    rw [List.getElem?_replicate, if_pos hi]
    simp [madeCells, Value.cells, hi]
    rw [Nat.mod_one]
    rfl
  · rw [List.getElem?_eq_none (by simp [madeCells]; omega), List.getElem?_eq_none (by simp; omega)]
theorem RM.rewet {w : World} {F : Nat → Prop} {r m : Nat} {vN vX vW vK : Value} {off arm : Bool} {n : Int} {L X : List (List UInt8)} {wl kl : List Bool} (h : RM w F r vN vX vW vK off arm n L X wl kl) (hm : m ≤ 60) :
    RM ((w.alloc (.cells (zb m) 4)).setCell ⟨r, 2, none⟩ (.slice (some ⟨w.heap.size, 0, none⟩) m m)) (Fr F w) r vN vX (.slice (some ⟨w.heap.size, 0, none⟩) m m) vK off arm n L X (List.replicate m false) kl ∧
    Keep F w ((w.alloc (.cells (zb m) 4)).setCell ⟨r, 2, none⟩ (.slice (some ⟨w.heap.size, 0, none⟩) m m)) := by
  have hrl := lt_of_block h.box
  have old : ∀ (g : Nat), g < w.heap.size → g ≠ r → ((w.alloc (.cells (zb m) 4)).setCell ⟨r, 2, none⟩ (.slice (some ⟨w.heap.size, 0, none⟩) m m)).heap[g]? = w.heap[g]? := fun g hg hne => by
    rw [Below.heap_setCell _ _ _ _ hne, Below.heap_alloc _ _ _ hg]
  have hbx : (w.alloc (.cells (zb m) 4)).heap[r]? = some (.cells (rC vN vX vW vK off arm n).toArray 62 (0, 0)) := by rw [Below.heap_alloc _ _ _ hrl]; exact h.box
  refine ⟨⟨rbox hbx, ?_, ?_, ?_, ?_, h.nX, fun g hg e => ?_, .inl h.fr⟩, ?_⟩
  · exact h.sN.keep (fun g hg => old g (own_lt h.sN.1 hg) (h.ne.1 g hg)) fun _ h => .inl h
  · exact h.sX.keep (fun g hg => old g (own_lt h.sX.1 hg) (h.ne.2.1 g hg)) fun _ h => .inl h
  · refine ⟨⟨by simp, .inr ⟨w.heap.size, m, (zb m), by rw [List.length_replicate], Nat.zero_le _, ?_, by simp, by unfold maxLen; omega, by simp [zb], by simp [zb]⟩⟩, fun g hg => by cases hg; exact .inr (Nat.le_refl _)⟩
    rw [Below.heap_setCell _ _ _ _ (by show w.heap.size ≠ r; omega)]
    exact heap_alloc_new w _
  · exact h.sK.keep (fun g hg => old g (own_lt h.sK.1 hg) (h.ne.2.2.2 g hg)) fun _ h => .inl h
  · cases hg
    exact absurd (own_lt h.sK.1 e) (Nat.lt_irrefl _)
  · exact (Keep.of ((Below.refl _ _).alloc (Nat.le_refl _) _)).then (Keep.set h.fr)
/-- The wet page at its place. -/
theorem keptL_at {W : Nat} : ∀ {n k : Nat}, k < n → W.testBit k = true → (keptL W n)[(keptL W k).length]? = some k
  | 0, k, h, _ => by omega
  | n + 1, k, h, hb => by
    rw [keptL_succ]
    by_cases e : k = n
    · subst e
      rw [hb]
      simp
    · have := keptL_at (W := W) (n := n) (k := k) (by omega) hb
      rw [List.getElem?_append_left (List.getElem?_eq_some_iff.1 this).1]
      exact this
theorem keptL_le (W : Nat) : ∀ {n k : Nat}, k ≤ n → (keptL W k).length ≤ (keptL W n).length
  | 0, k, h => by have : k = 0 := by omega
                  subst this; exact Nat.le_refl _
  | n + 1, k, h => by
    by_cases e : k = n + 1
    · subst e; exact Nat.le_refl _
    · have := keptL_le W (n := n) (k := k) (by omega)
      rw [keptL_succ, List.length_append]
      omega
theorem RM.types {w w' : World} {F : Nat → Prop} {r : Nat} {vN vX vW vK : Value} {off arm : Bool} {n : Int} {L X : List (List UInt8)} {wl kl : List Bool} (h : RM w F r vN vX vW vK off arm n L X wl kl)
    (hs : ∀ (k : Nat) (cur : Array Value) (t : TypeId), w.heap[k]? = some (Obj.cells cur t (0, 0)) → t ≠ 3 → w'.heap[k]? = w.heap[k]?) : RM w' F r vN vX vW vK off arm n L X wl kl where
  box := by rw [hs r _ _ h.box (by decide)]; exact h.box
  sN := h.sN.keep (fun g hg => by obtain ⟨cur, q⟩ := own_blk h.sN.1 hg; exact hs g _ _ q (by decide)) fun _ h => h
  sX := h.sX.keep (fun g hg => by obtain ⟨cur, q⟩ := own_blk h.sX.1 hg; exact hs g _ _ q (by decide)) fun _ h => h
  sW := h.sW.keep (fun g hg => by obtain ⟨cur, q⟩ := own_blk h.sW.1 hg; exact hs g _ _ q (by decide)) fun _ h => h
  sK := h.sK.keep (fun g hg => by obtain ⟨cur, q⟩ := own_blk h.sK.1 hg; exact hs g _ _ q (by decide)) fun _ h => h
  nX := h.nX
  nK := h.nK
  fr := h.fr
theorem RM.drew {w : World} {F : Nat → Prop} {r : Nat} {vN vX vW vK : Value} {off arm : Bool} {n : Int} {L X : List (List UInt8)} {wl kl : List Bool} (h : RM w F r vN vX vW vK off arm n L X wl kl) : RM w.drew F r vN vX vW vK off arm n L X wl kl :=
  h.types fun _ _ _ _ _ => rfl
/-- All pages of the one laid over those of the other one. -/
theorem RM.copyN {w : World} {F : Nat → Prop} {r : Nat} {vN vX vW vK : Value} {off arm : Bool} {n : Int} {L X : List (List UInt8)} {wl kl : List Bool} (h : RM w F r vN vX vW vK off arm n L X wl kl) (hl : X.length = L.length) :
    ∃ w', (∀ ty, (Builtin.copy_ #[60, 60] ty #[vN, vX]).run Try.prog w = .ok (goInt L.length) w') ∧ RM w' F r vN vX vW vK off arm n X X wl kl ∧ Keep F w w' := by
  obtain ⟨w', hr, hs, hk⟩ := h.sN.copies h.sX hl h.nX
  have oth : ∀ g, g < w.heap.size → vN.ownBlock ≠ some g → w'.heap[g]? = w.heap[g]? := fun g hg hn => hk.block g hg hn
  refine ⟨w', hr, ⟨?_, hs, ?_, ?_, ?_, h.nX, h.nK, h.fr⟩, hk.mono fun k _ hg => h.sN.2 k hg⟩
  · rw [oth r (lt_of_block h.box) (fun e => h.ne.1 r e rfl)]; exact h.box
  · exact h.sX.keep (fun g hg => oth g (own_lt h.sX.1 hg) (fun e => h.nX g e hg)) fun _ h => h
  · exact h.sW.keep (fun g hg => oth g (own_lt h.sW.1 hg) (fun e => blk_type h.sW.1 h.sN.1 hg e (by decide) rfl)) fun _ h => h
  · exact h.sK.keep (fun g hg => oth g (own_lt h.sK.1 hg) (fun e => blk_type h.sK.1 h.sN.1 hg e (by decide) rfl)) fun _ h => h
/-- .. and the other way round. -/
theorem RM.copyX {w : World} {F : Nat → Prop} {r : Nat} {vN vX vW vK : Value} {off arm : Bool} {n : Int} {L X : List (List UInt8)} {wl kl : List Bool} (h : RM w F r vN vX vW vK off arm n L X wl kl) (hl : L.length = X.length) :
    ∃ w', (∀ ty, (Builtin.copy_ #[60, 60] ty #[vX, vN]).run Try.prog w = .ok (goInt X.length) w') ∧ RM w' F r vN vX vW vK off arm n L L wl kl ∧ Keep F w w' := by
  obtain ⟨w', hr, hs, hk⟩ := h.sX.copies h.sN hl (fun g hg e => h.nX g e hg)
  have oth : ∀ g, g < w.heap.size → vX.ownBlock ≠ some g → w'.heap[g]? = w.heap[g]? := fun g hg hn => hk.block g hg hn
  refine ⟨w', hr, ⟨?_, ?_, hs, ?_, ?_, h.nX, h.nK, h.fr⟩, hk.mono fun k _ hg => h.sX.2 k hg⟩
  · rw [oth r (lt_of_block h.box) (fun e => h.ne.2.1 r e rfl)]; exact h.box
  · exact h.sN.keep (fun g hg => oth g (own_lt h.sN.1 hg) (fun e => h.nX g hg e)) fun _ h => h
  · exact h.sW.keep (fun g hg => oth g (own_lt h.sW.1 hg) (fun e => blk_type h.sW.1 h.sX.1 hg e (by decide) rfl)) fun _ h => h
  · exact h.sK.keep (fun g hg => oth g (own_lt h.sK.1 hg) (fun e => blk_type h.sK.1 h.sX.1 hg e (by decide) rfl)) fun _ h => h
end Go.Proofs.Ytjjfdkgnagfbcaa
