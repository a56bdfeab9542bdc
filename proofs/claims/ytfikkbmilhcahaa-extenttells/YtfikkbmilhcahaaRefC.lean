/-
  The contracts of the document's Over, Said, Ids and Extents.
-/
import Derived.Test.YtfikkbmilhcahaaRefB
import Derived.Test.YtfikkbmilhcahaaRefSet
import Derived.Test.YtfikkbmilhcahaaBkIRow
import Derived.BigQuiet
namespace Go.Proofs.Ytfikkbmilhcahaa
open Go.ChangeShapes Go.WideShapes Go.ChangeAt Go.RowKit
attribute [local go_sem ↓] Go.wp_at_zero Go.wp_at_succ

/- Over -/
def oTo (m t : List Int) : Nat → List Int
  | 0 => m
  | k + 1 => if 0 ≤ mv t (k : Nat) then (oTo m t k).set k (mv t (k : Nat)) else oTo m t k
theorem oTo_length (m t : List Int) : ∀ k, (oTo m t k).length = m.length
  | 0 => rfl
  | k + 1 => by unfold oTo; split <;> simp [oTo_length m t k]
theorem oTo_mv (m t : List Int) (hl : m.length = 64) : ∀ n, n ≤ 64 → ∀ j : Int, mv (oTo m t n) j = if j < (n : Int) ∧ 0 ≤ mv t j then mv t j else mv m j
  | 0, _, j => by
    by_cases h : 0 ≤ j
    · rw [if_neg (by omega)]; rfl
    · have h1 : mv t j = -1 := by unfold mv; rw [if_neg h]
      rw [if_neg (by omega)]; rfl
  | n + 1, h, j => by
    unfold oTo
    have ih := oTo_mv m t hl n (by omega) j
    by_cases ht : 0 ≤ mv t (n : Nat)
    · rw [if_pos ht, set_mv _ _ _ (by rw [oTo_length]; omega), ih]
      by_cases e : j = (n : Int)
      · subst e; rw [if_pos rfl, if_pos ⟨by omega, ht⟩]
      · rw [if_neg e]
        by_cases h2 : j < (n : Int) ∧ 0 ≤ mv t j
        · rw [if_pos h2, if_pos ⟨by omega, h2.2⟩]
        · rw [if_neg h2, if_neg (by omega)]
    · rw [if_neg ht, ih]
      by_cases e : j = (n : Int)
      · subst e; rw [if_neg (by omega), if_neg (by omega)]
      · by_cases h2 : j < (n : Int) ∧ 0 ≤ mv t j
        · rw [if_pos h2, if_pos ⟨by omega, h2.2⟩]
        · rw [if_neg h2, if_neg (by omega)]
def mOver (m t : List Int) : List Int := oTo m t 64
theorem mOver_mv {m t : List Int} (hl : m.length = 64) (ht : t.length = 64) (j : Int) : mv (mOver m t) j = overF (mv m) (mv t) j := by
  unfold mOver overF
  rw [oTo_mv m t hl 64 (Nat.le_refl _)]
  by_cases h : 0 ≤ mv t j
  · have : j < 64 := by
      rcases Int.lt_or_le j 64 with h1 | h1
      · exact h1
      · rw [mv_out ht (by omega)] at h; omega
    rw [if_pos ⟨by omega, h⟩, if_pos h]
  · rw [if_neg (by omega), if_neg h]
theorem three_start {w : World} {m t : List Int} (hm : m.length = 64) (ht : t.length = 64) :
    MO (((w.alloc (.cells (iv m).toArray 29)).alloc (.cells (iv t).toArray 29)).alloc (.cells (iv (nTo 0)).toArray 29)) w.heap.size m ∧ MO (((w.alloc (.cells (iv m).toArray 29)).alloc (.cells (iv t).toArray 29)).alloc (.cells (iv (nTo 0)).toArray 29)) (w.heap.size + 1) t ∧ MO (((w.alloc (.cells (iv m).toArray 29)).alloc (.cells (iv t).toArray 29)).alloc (.cells (iv (nTo 0)).toArray 29)) (w.heap.size + 2) (nTo 0) ∧
    Below w.heap.size w (((w.alloc (.cells (iv m).toArray 29)).alloc (.cells (iv t).toArray 29)).alloc (.cells (iv (nTo 0)).toArray 29)) := by
  have e1 : (w.alloc (.cells (iv m).toArray 29)).heap.size = w.heap.size + 1 := by simp
  have e2 : ((w.alloc (.cells (iv m).toArray 29)).alloc (.cells (iv t).toArray 29)).heap.size = w.heap.size + 2 := by simp
  have a := MO.new w m hm
  have b := MO.new (w.alloc (.cells (iv m).toArray 29)) t ht
  have c := MO.new ((w.alloc (.cells (iv m).toArray 29)).alloc (.cells (iv t).toArray 29)) (nTo 0) (nTo_length (by omega))
  rw [e1] at b
  rw [e2] at c
  have al : ∀ {W : World} (o : Obj), Below W.heap.size W (W.alloc o) := fun o => (Below.refl _ _).alloc (Nat.le_refl _) _
  exact ⟨(a.below (al _) (by simp)).below (al _) (by simp; omega), b.below (al _) (by simp), c, ((al _).alloc (by simp) _).alloc (by simp; omega) _⟩
theorem MO.set {w : World} {b : Nat} {m : List Int} (h : MO w b m) (hl : m.length = 64) (k : Nat) (hk : k < 64) (v : Int) : MO (w.setCell ⟨b, k, none⟩ (.int .i64 v)) b (m.set k v) :=
  ⟨irange_set v h.r (by omega), there_set h.t _ _⟩
theorem MO.far {w : World} {b g j : Nat} {m : List Int} {u : Value} (h : MO w b m) (hne : b ≠ g) : MO (w.setCell ⟨g, j, none⟩ u) b m := ⟨rangefar hne h.r, there_set h.t _ _⟩

set_option maxRecDepth 100000 in
theorem refOver_any (m t : List Int) (hm : m.length = 64) (ht : t.length = 64) (w : World) :
    Calls Try.prog 24 #[.agg (iv m).toArray, .agg (iv t).toArray] w fun e w' => e = .returned (.agg (iv (mOver m t)).toArray) ∧ Below w.heap.size w w' := by
  have hm' := Hid.intro hm
  have ht' := Hid.intro ht
  clear hm ht
  go_enter Try.func24, Try.ntmps24
  go_wp2_with fail
  go_loopw [5] (fun jv wr => ∃ k : Nat, k ≤ 64 ∧ jv = .int .i64 k ∧ MO wr w.heap.size (oTo m t k) ∧ MO wr (w.heap.size + 1) t ∧ MO wr (w.heap.size + 2) (nTo 0) ∧ Below w.heap.size w wr) (fun jv _ => 64 - (intOf jv).toNat)
  case atStart =>
    obtain ⟨h1, h2, h3, h4⟩ := three_start (w := w) hm'.out ht'.out
    exact ⟨0, Nat.zero_le _, rfl, h1, h2, h3, h4⟩
  case round =>
    obtain ⟨k, hk, rfl, hM, hT, hD, hB⟩ := hrel
    have k0 : (0 : Int) ≤ (k : Int) := Int.natCast_nonneg _
    have hol : (oTo m t k).length = 64 := by rw [oTo_length]; exact hm'.out
    by_cases hlt : k < 64
    · have k1 : (k : Int) < 64 := by omega
      have c0 := imv_cell hT.r k (by rw [ht'.out]; exact hlt)
      obtain ⟨u, hu0, hf0⟩ := there_at hM.t hlt
      have hR := Hid.intro (And.intro hM (And.intro hT (And.intro hD hB)))
      have hol' := Hid.intro hol
      clear hM hT hD hB hol
      by_cases hv : 0 ≤ mv t (k : Nat)
      · have hst : Hid (oTo m t (k + 1) = (oTo m t k).set k (mv t (k : Nat))) := Hid.intro (by conv => lhs; unfold oTo; rw [if_pos hv])
        go_wp2
        go_roundw
        case rel => exact ⟨k + 1, by omega, by go_num, by rw [hst.out]; exact hR.out.1.set hol'.out k hlt _, hR.out.2.1.far (by omega), hR.out.2.2.1.far (by omega), hR.out.2.2.2.setCell (Nat.le_refl _) _⟩
        case measure => simp [intOf]; omega
      · have hst : Hid (oTo m t (k + 1) = oTo m t k) := Hid.intro (by conv => lhs; unfold oTo; rw [if_neg hv])
        go_wp2
        go_roundw
        case rel => exact ⟨k + 1, by omega, by go_num, by rw [hst.out]; exact hR.out.1, hR.out.2.1, hR.out.2.2.1, hR.out.2.2.2⟩
        case measure => simp [intOf]; omega
    · have hk' : k = 64 := by omega
      subst hk'
      change MO wr w.heap.size (mOver m t) at hM
      change (mOver m t).length = 64 at hol
      obtain ⟨f1, f2, f3, f4, f5⟩ := iv_facts hol
      have hF := Hid.intro (And.intro f2 (And.intro f4 f3))
      have hth : Hid (wr.there (w.heap.size + 2) 0 (iv (mOver m t)).toArray.size) := Hid.intro (by rw [f5]; exact hD.t)
      have hrm := Hid.intro hM.r
      have hthr : Hid (wr.there (w.heap.size + 2) 0 (iv (mOver m t)).length) := Hid.intro (by rw [f1]; exact hD.t)
      clear f1 f2 f3 f4 f5 hM hD hT
      go_wp2_with (first
        | (refine wpList_load_mid rfl 29 _ rfl w.heap.size 0 rfl (iv (mOver m t)) _ hrm.out Try.underlying29 rfl hF.out.1 ?_)
        | (refine wpList_store_mid rfl 29 _ _ rfl (w.heap.size + 2) 0 (iv (mOver m t)).toArray rfl rfl hth.out hF.out.2.1 hF.out.2.2 ?_))
      refine bodyPost_ret (v := .agg (iv (mOver m t)).toArray) (results_mid Try.results24 _ _ (w.heap.size + 2) (iv (mOver m t)) _ rfl ?_ Try.underlying29 rfl hF.out.1) rfl ⟨rfl, ?_⟩
      · exact World.rangeAt_setCells_same _ _ _ _ hthr.out
      · exact below_setCells _ _ _ _ hB (by omega)

/- Ids -/
def idsM (m : List Int) (n : Nat) : List Int := (m.take n).filter (fun v => decide (0 < v))
theorem idsM_succ {m : List Int} {k : Nat} (h : k < m.length) : idsM m (k + 1) = idsM m k ++ (if 0 < mv m (k : Nat) then [mv m (k : Nat)] else []) := by
  unfold idsM
  rw [List.take_add_one, mv_nat m k h, List.filter_append]
  congr 1
  simp only [Option.toList_some, List.filter_cons, List.filter_nil]
  split <;> split <;> simp_all
theorem idsM_len (m : List Int) (n : Nat) : (idsM m n).length ≤ n := Nat.le_trans (List.length_filter_le _ _) (by simp; omega)
set_option maxRecDepth 100000 in
theorem refIds_any (m : List Int) (hm : m.length = 64) (w : World) :
    Calls Try.prog 29 #[.agg (iv m).toArray] w fun e w' => ∃ v, e = .returned v ∧ w'.ownsRow w.heap.size 3 1 v (idsM m 64).length (BkI.itemsV (idsM m 64)) ∧ Below w.heap.size w w' := by
  obtain ⟨i0, hi0, hz0', hz1', hz2'⟩ := info_parts BkI.Try.infoE
  have hm' := Hid.intro hm
  clear hm
  go_enter Try.func29, Try.ntmps29
  go_wp2_with fail
  go_loopw [3, 4] (fun ov jv wr => ∃ k : Nat, k ≤ 64 ∧ jv = .int .i64 k ∧ wr.ownsRow (w.heap.size + 1) 3 1 ov (idsM m k).length (BkI.itemsV (idsM m k)) ∧ MO wr w.heap.size m ∧ Below w.heap.size w wr) (fun _ jv _ => 64 - (intOf jv).toNat)
  case atStart => exact ⟨0, Nat.zero_le _, rfl, World.ownsRow_nil _ _ _ _, MO.new w m hm'.out, (Below.refl _ _).alloc (Nat.le_refl _) _⟩
  case round =>
    obtain ⟨k, hk, rfl, hown, hM, hB⟩ := hrel
    have k0 : (0 : Int) ≤ (k : Int) := Int.natCast_nonneg _
    have hlen := idsM_len m k
    by_cases hlt : k < 64
    · have k1 : (k : Int) < 64 := by omega
      have c0 := imv_cell hM.r k (by rw [hm'.out]; exact hlt)
      have hst := Hid.intro (idsM_succ (m := m) (k := k) (by rw [hm'.out]; exact hlt))
      have hlt' := hM.lt
      have hR := Hid.intro (And.intro hM hB)
      generalize idsM m k = L at *
      clear hM hB
      by_cases hv : 0 < mv m (k : Nat)
      · have hst2 : Hid (idsM m (k + 1) = L ++ [mv m (k : Nat)]) := Hid.intro (by rw [hst.out, if_pos hv])
        clear hst
        go_wp2_with (at_builtin; refine wpList_append_lies _ rfl _ _ 51 rfl (w.heap.size + 1) 3 i0 (.int .i64 0) 1 8 Try.underlying51 hi0 hz0' hz1' hz2' rfl (by decide) _ L.length (BkI.itemsV L) rfl (hown.alloc _) ⟨wr.heap.size, 0, none⟩ 1 1 [.int .i64 (mv m (k : Nat))] rfl rfl (World.news_of_block (cs := #[.int .i64 (mv m (k : Nat))]) (t := 3) (fr := (0, 0)) (heap_alloc_new wr _)) (by simp [Value.oneCell']) (by decide) (by unfold maxLen; omega) (by omega) (by simp; omega) (wr.heap.size + 1) (by simp) ?_; intro g5 cap5 w5 hown5 hgrow5 hat5 hlt5)
        have hba : Below wr.heap.size wr (wr.alloc (.cells #[.int .i64 (mv m (k : Nat))] 3)) := (Below.refl _ _).alloc (Nat.le_refl _) _
        have hM5 := hR.out.1.below hba hlt'
        have hno : some w.heap.size ≠ u3.ownBlock := fun e => by have := (hown.lt _ e.symm).1; omega
        have hb5 := hgrow5.block w.heap.size (by simp; omega) hno
        have hM6 : Hid (MO w5 w.heap.size m) := Hid.intro ⟨fun j v hv => by rw [World.cell?_of_block (w := wr.alloc (.cells #[.int .i64 (mv m (k : Nat))] 3)) (a := ⟨w.heap.size, 0 + j, none⟩) hb5]; exact hM5.r j v hv, fun j hj => by
          rw [World.cell?_of_block (w := wr.alloc (.cells #[.int .i64 (mv m (k : Nat))] 3)) (a := ⟨w.heap.size, 0 + j, none⟩) hb5, World.frozen?_of_block (w := wr.alloc (.cells #[.int .i64 (mv m (k : Nat))] 3)) (a := ⟨w.heap.size, 0 + j, none⟩) hb5]; exact hM5.t j hj⟩
        have hB5 := Hid.intro ((hR.out.2.trans (hba.mono hR.out.2.size)).grown hgrow5 (by simp; omega) (fun b hb => by have := (hown.lt b hb).1; omega))
        have how := Hid.intro hown5
        clear hba hM5 hno hb5 hgrow5 hat5 hlt5 hown5
        go_roundw
        case rel => exact ⟨k + 1, by omega, by go_num, by rw [hst2.out, List.length_append, BkI.itemsV_append]; exact how.out, hM6.out, hB5.out⟩
        case measure => simp [intOf]; omega
      · have hst2 : Hid (idsM m (k + 1) = L) := Hid.intro (by rw [hst.out, if_neg hv, List.append_nil])
        clear hst
        go_wp2
        go_roundw
        case rel => exact ⟨k + 1, by omega, by go_num, by rw [hst2.out]; exact hown, hR.out.1, hR.out.2⟩
        case measure => simp [intOf]; omega
    · have hk' : k = 64 := by omega
      subst hk'
      clear hM
      go_wp2
      go_ret
      exact ⟨_, rfl, BkI.own_mono hown (Nat.le_succ _), hB⟩

/- Said -/
def sTo (m : List Int) (k : Nat) : List Bool := (List.range k).map (fun (j : Nat) => decide (0 ≤ mv m (j : Int))) ++ List.replicate (64 - k) false
theorem sTo_length {m : List Int} {k : Nat} (h : k ≤ 64) : (sTo m k).length = 64 := by simp [sTo]; omega
theorem sTo_set {m : List Int} {k : Nat} (h : k < 64) : (sTo m k).set k (decide (0 ≤ mv m (k : Int))) = sTo m (k + 1) := by
  unfold sTo
  rw [List.set_append, if_neg (by simp), List.length_map, List.length_range, Nat.sub_self]
  obtain ⟨n, hn⟩ : ∃ n, 64 - k = n + 1 := ⟨63 - k, by omega⟩
  have hn2 : 64 - (k + 1) = n := by omega
  rw [hn, hn2, List.replicate_succ, List.set_cons_zero, List.range_succ, List.map_append, List.append_assoc]
  rfl
theorem sTo_0 (m : List Int) : (bv (sTo m 0)).toArray = (List.replicate 64 (Value.bool false)).toArray := by simp [sTo, bv]
/-- The blocks of which something is said, as spans tell them. -/
theorem sTo_bits {m : List Int} {ps : List Sp} (h : ∀ k, In ps k ↔ 0 ≤ mv m k) : sTo m 64 = bitsOf ps := by
  unfold sTo bitsOf
  simp only [Nat.sub_self, List.replicate_zero, List.append_nil]
  apply List.map_congr_left
  intro k _
  simp only [decide_eq_decide]
  exact (h k).symm
set_option maxRecDepth 100000 in
theorem refSaid_any (m : List Int) (hm : m.length = 64) (w : World) :
    Calls Try.prog 26 #[.agg (iv m).toArray] w fun e w' => e = .returned (.agg (bv (sTo m 64)).toArray) ∧ Below w.heap.size w w' := by
  have hm' := Hid.intro hm
  clear hm
  go_enter Try.func26, Try.ntmps26
  go_wp2_with fail
  go_loopw [4] (fun jv wr => ∃ k : Nat, k ≤ 64 ∧ jv = .int .i64 k ∧ MO wr w.heap.size m ∧ wr.there (w.heap.size + 1) 0 64 ∧ wr.rangeAt (w.heap.size + 2) 0 (bv (sTo m k)) ∧ wr.there (w.heap.size + 2) 0 64 ∧ Below w.heap.size w wr ∧ w.heap.size + 2 < wr.heap.size) (fun jv _ => 64 - (intOf jv).toNat)
  case atStart =>
    have e1 : (w.alloc (.cells (iv m).toArray 29)).heap.size = w.heap.size + 1 := by simp
    have e2 : ((w.alloc (.cells (iv m).toArray 29)).alloc (.cells (bv (sTo m 0)).toArray 61)).heap.size = w.heap.size + 2 := by simp
    have al : ∀ {W : World} (o : Obj), Below W.heap.size W (W.alloc o) := fun o => (Below.refl _ _).alloc (Nat.le_refl _) _
    have hs : (bv (sTo m 0)).toArray.size = 64 := by rw [sTo_0]; simp
    have a := ((MO.new w m hm'.out).below (al (.cells (bv (sTo m 0)).toArray 61)) (by simp)).below (al (.cells (bv (sTo m 0)).toArray 61)) (by simp; omega)
    have b : ((w.alloc (.cells (iv m).toArray 29)).alloc (.cells (bv (sTo m 0)).toArray 61)).there (w.heap.size + 1) 0 64 := by
      have := there_new (w := w.alloc (.cells (iv m).toArray 29)) (C := (bv (sTo m 0)).toArray) (t := 61) (n := 64) (by omega)
      rw [e1] at this; exact this
    have c := range_new (w := (w.alloc (.cells (iv m).toArray 29)).alloc (.cells (bv (sTo m 0)).toArray 61)) (C := (bv (sTo m 0)).toArray) (t := 61)
    have d := there_new (w := (w.alloc (.cells (iv m).toArray 29)).alloc (.cells (bv (sTo m 0)).toArray 61)) (C := (bv (sTo m 0)).toArray) (t := 61) (n := 64) (by omega)
    rw [e2] at c d
    exact ⟨0, Nat.zero_le _, rfl, a, there_below (al _) (by simp) b, (by rw [List.toList_toArray] at c; exact c), d, ((al _).alloc (by simp) _).alloc (by simp; omega) _, by simp⟩
  case round =>
    obtain ⟨k, hk, rfl, hM, hD, hr, hu, hB, hz⟩ := hrel
    have k0 : (0 : Int) ≤ (k : Int) := Int.natCast_nonneg _
    by_cases hlt : k < 64
    · have k1 : (k : Int) < 64 := by omega
      have c0 := imv_cell hM.r k (by rw [hm'.out]; exact hlt)
      obtain ⟨u, hu0, hf0⟩ := there_at hu hlt
      have hR := Hid.intro (And.intro hM (And.intro hD (And.intro hr (And.intro hu hB))))
      clear hM hD hr hu hB
      go_wp2
      go_roundw
      case rel => exact ⟨k + 1, by omega, by go_num, hR.out.1.far (by omega), there_set hR.out.2.1 _ _, by rw [← sTo_set hlt]; exact range_set _ hR.out.2.2.1 (by rw [sTo_length (by omega)]; exact hlt), there_set hR.out.2.2.2.1 _ _, hR.out.2.2.2.2.setCell (by show w.heap.size ≤ w.heap.size + 2; omega) _, by simpa using hz⟩
      case measure => simp [intOf]; omega
    · have hk' : k = 64 := by omega
      subst hk'
      have hlen : (bv (sTo m 64)).length = 64 := by rw [bv_length, sTo_length (Nat.le_refl _)]
      have hinf : (Try.prog.info? 61).map (·.size) = some (bv (sTo m 64)).length := by rw [hlen]; exact info30
      have hone : (bv (sTo m 64)).toArray.all (·.oneCell') = true := all_oneCell_toArray (by intro v hv; simp only [bv, List.mem_map] at hv; obtain ⟨b, _, rfl⟩ := hv; rfl)
      have hinf2 : (Try.prog.info? 61).map (·.size) = some (bv (sTo m 64)).toArray.size := by simpa using hinf
      have hth : wr.there (w.heap.size + 1) 0 (bv (sTo m 64)).toArray.size := by simpa [hlen] using hD
      have hthr : wr.there (w.heap.size + 1) 0 (bv (sTo m 64)).length := by rw [hlen]; exact hD
      have HH := Hid.intro (And.intro hinf (And.intro hone (And.intro hinf2 (And.intro hth hthr))))
      clear hlen hinf hone hinf2 hth hthr hM hD hu
      go_wp2_with (first
        | (refine wpList_load_mid rfl 61 _ rfl (w.heap.size + 2) 0 rfl (bv (sTo m 64)) _ hr Try.underlying61 rfl HH.out.1 ?_)
        | (refine wpList_store_mid rfl 61 _ _ rfl (w.heap.size + 1) 0 (bv (sTo m 64)).toArray rfl rfl HH.out.2.2.2.1 HH.out.2.2.1 HH.out.2.1 ?_))
      refine bodyPost_ret (v := .agg (bv (sTo m 64)).toArray) (results_mid Try.results26 _ _ (w.heap.size + 1) (bv (sTo m 64)) _ rfl ?_ Try.underlying61 rfl HH.out.1) rfl ⟨rfl, ?_⟩
      · exact World.rangeAt_setCells_same _ _ _ _ HH.out.2.2.2.2
      · exact below_setCells _ _ _ _ hB (by omega)
end Go.Proofs.Ytfikkbmilhcahaa
