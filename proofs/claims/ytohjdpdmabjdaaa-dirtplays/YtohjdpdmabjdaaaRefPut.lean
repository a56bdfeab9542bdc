/-
  The contract of emulsionref1's Set.Put: the set with the blocks of every whole span of the list put in or taken out, one span behind the other; nothing that was there is written.
-/
import Derived.Test.YtohjdpdmabjdaaaSmall
import Derived.Test.YtohjdpdmabjdaaaRowz
import Derived.Deep.MidRow
namespace Go.Proofs.Ytohjdpdmabjdaaa
open Go.ChangeShapes Go.WideShapes Go.ChangeAt Go.RowKit
attribute [local go_sem ↓] Go.wp_at_zero Go.wp_at_succ

/-- A set's cells. -/
def bv (l : List Bool) : List Value := l.map Value.bool
/-- The first k blocks from f on put in, or taken out. -/
def putTo (l : List Bool) (f : Nat) (on : Bool) : Nat → List Bool
  | 0 => l
  | k + 1 => (putTo l f on k).set (f + k) on
def whB (f n : Int) : Bool := decide (0 ≤ f ∧ 1 ≤ n ∧ n ≤ 64 - f)
/-- A span put in, or taken out, if it is whole. -/
def putSpan (on : Bool) (l : List Bool) (p : Int × Int) : List Bool := if whB p.1 p.2 = true then putTo l p.1.toNat on p.2.toNat else l
def putL (on : Bool) (l : List Bool) (ps : List (Int × Int)) : List Bool := ps.foldl (putSpan on) l

theorem putTo_length (l : List Bool) (f : Nat) (on : Bool) : ∀ k, (putTo l f on k).length = l.length
  | 0 => rfl
  | k + 1 => by simp [putTo, putTo_length l f on k]
theorem putSpan_length (on : Bool) (l : List Bool) (p : Int × Int) : (putSpan on l p).length = l.length := by
  unfold putSpan; split
  · exact putTo_length _ _ _ _
  · rfl
theorem putL_length (on : Bool) : ∀ (ps : List (Int × Int)) (l : List Bool), (putL on l ps).length = l.length
  | [], _ => rfl
  | p :: ps, l => by
    have := putL_length on ps (putSpan on l p)
    simpa [putL, putSpan_length] using this
theorem bv_length (l : List Bool) : (bv l).length = l.length := by simp [bv]

theorem range_set {w : World} {b j : Nat} {l : List Bool} (v : Bool) (h : w.rangeAt b 0 (bv l)) (hj : j < l.length) : (w.setCell ⟨b, j, none⟩ (.bool v)).rangeAt b 0 (bv (l.set j v)) := by
  intro i x hx
  have hold : w.cell? ⟨b, j, none⟩ = some (.bool (l[j]'hj)) := by
    have := h j (.bool (l[j]'hj)) (by simp [bv, hj])
    simpa using this
  have hx' : (l.set j v)[i]?.map Value.bool = some x := by rw [← hx, bv, List.getElem?_map]
  by_cases e : i = j
  · subst e
    rw [List.getElem?_set_self hj] at hx'
    simp at hx'
    subst hx'
    simpa using World.cell?_setCell_same w ⟨b, i, none⟩ (.bool v) hold
  · rw [List.getElem?_set_ne (Ne.symm e)] at hx'
    have := h i x (by rw [← hx', bv, List.getElem?_map])
    rw [World.cell?_setCell_other]
    · exact this
    · intro ee
      have h1 : j = 0 + i := congrArg Addr.off ee
      omega

theorem there_set {w : World} {b o n : Nat} (h : w.there b o n) (p : Addr) (v : Value) : (w.setCell p v).there b o n := by
  intro j hj
  obtain ⟨h1, h2⟩ := h j hj
  refine ⟨?_, by rw [World.frozen?_setCell]; exact h2⟩
  obtain ⟨u, hu⟩ := Option.isSome_iff_exists.1 h1
  by_cases e : p = ⟨b, o + j, none⟩
  · subst e; rw [World.cell?_setCell_same _ _ _ hu]; rfl
  · rw [World.cell?_setCell_other _ _ _ _ e, hu]; rfl

/-- Ranges and room behind whatever is only new. -/
theorem range_below {w w' : World} {b o B : Nat} {cs : List Value} (hb : Below B w w') (hz : b < B) (h : w.rangeAt b o cs) : w'.rangeAt b o cs := fun j v hv => by
  rw [hb.cell (p := ⟨b, o + j, none⟩) hz]; exact h j v hv
theorem there_below {w w' : World} {b o n B : Nat} (hb : Below B w w') (hz : b < B) (h : w.there b o n) : w'.there b o n := fun j hj => by
  rw [hb.cell (p := ⟨b, o + j, none⟩) hz, hb.frozen (p := ⟨b, o + j, none⟩) hz]; exact h j hj

theorem range_new {w : World} {C : Array Value} {t : TypeId} : (w.alloc (.cells C t)).rangeAt w.heap.size 0 C.toList := by
  have := World.rangeAt_of_block (heap_alloc_new w (.cells C t)) 0 C.size
  simpa using this
theorem there_new {w : World} {C : Array Value} {t : TypeId} {n : Nat} (hn : n ≤ C.size) : (w.alloc (.cells C t)).there w.heap.size 0 n := by
  intro j hj
  refine ⟨?_, ?_⟩
  · rw [Nat.zero_add, World.cell?_alloc_new]; simp; omega
  · simp [go_sem]

/-- The two blocks that Put lays first. -/
theorem put_start {w : World} {C Z : Array Value} {t u : TypeId} (hC : C.size = 64) (hZ : Z.size = 64) :
    ((w.alloc (.cells C t)).alloc (.cells Z u)).rangeAt w.heap.size 0 C.toList ∧ ((w.alloc (.cells C t)).alloc (.cells Z u)).there w.heap.size 0 64 ∧
    ((w.alloc (.cells C t)).alloc (.cells Z u)).there (w.heap.size + 1) 0 64 ∧ Below w.heap.size w ((w.alloc (.cells C t)).alloc (.cells Z u)) ∧ w.heap.size + 1 < ((w.alloc (.cells C t)).alloc (.cells Z u)).heap.size := by
  refine ⟨World.rangeAt_alloc range_new _, World.there_alloc (there_new (by omega)) _, ?_, ((Below.refl _ _).alloc (Nat.le_refl _) _).alloc (by simp) _, by simp⟩
  have := there_new (w := w.alloc (.cells C t)) (C := Z) (t := u) (n := 64) (by omega)
  simpa using this

theorem below_setCells {B : Nat} {w : World} (b : Nat) : ∀ (vs : List Value) (o : Nat) (w' : World), Below B w w' → B ≤ b → Below B w (w'.setCells b o vs)
  | [], _, _, h, _ => h
  | v :: r, o, _, h, hb => below_setCells b r (o + 1) _ (h.setCell (p := ⟨b, o, none⟩) hb v) hb

theorem results_mid {fn : Func} {P : Program} {p : Tmp} {ty : TypeId} (h : fn.results = #[.cell p ty]) (tmps : Array Value) (w : World) (b : Nat) (cs : List Value) (d : TypeDesc) (ha : tmps.getD p undef = .pointer (some ⟨b, 0, none⟩)) (hc : w.rangeAt b 0 cs)
    (hu : P.underlying ty = some d) (hd : d.isRow = true) (hi : (P.info? ty).map (·.size) = some cs.length) : (results fn tmps).run P w = .ok (.agg cs.toArray) w := by
  simp only [results, h]
  have hl := run_loadVar_mid (P := P) w b 0 ty cs d hc hu hd hi
  have ha' : tmps[p]?.getD undef = .pointer (some ⟨b, 0, none⟩) := by simpa using ha
  simp [ha', asAddr, hl]

theorem info30 : (Try.prog.info? 27).map (·.size) = some 64 := by kernel_rfl

theorem put_step {w wz : World} {l : List Bool} {f : Int} {k : Nat} {on : Bool} (hl : l.length = 64) (hf : 0 ≤ f) (hfk : f + (k : Int) < 64)
    (h : wz.rangeAt w.heap.size 0 (bv (putTo l f.toNat on k)) ∧ wz.there w.heap.size 0 64 ∧ wz.there (w.heap.size + 1) 0 64 ∧ Below w.heap.size w wz ∧ w.heap.size + 1 < wz.heap.size) :
    (wz.setCell ⟨w.heap.size, (f + (k : Int)).toNat, none⟩ (.bool on)).rangeAt w.heap.size 0 (bv (putTo l f.toNat on (k + 1))) ∧ (wz.setCell ⟨w.heap.size, (f + (k : Int)).toNat, none⟩ (.bool on)).there w.heap.size 0 64 ∧
    (wz.setCell ⟨w.heap.size, (f + (k : Int)).toNat, none⟩ (.bool on)).there (w.heap.size + 1) 0 64 ∧ Below w.heap.size w (wz.setCell ⟨w.heap.size, (f + (k : Int)).toNat, none⟩ (.bool on)) ∧ w.heap.size + 1 < (wz.setCell ⟨w.heap.size, (f + (k : Int)).toNat, none⟩ (.bool on)).heap.size := by
  obtain ⟨h1, h2, h3, h4, h5⟩ := h
  refine ⟨?_, there_set h2 _ _, there_set h3 _ _, h4.setCell (Nat.le_refl _) _, ?_⟩
  · have e : (f + (k : Int)).toNat = f.toNat + k := by omega
    rw [e]
    exact range_set on h1 (by rw [putTo_length]; omega)
  · simpa using h5

theorem refPut_any (l : List Bool) (hl : l.length = 64) (g o n c : Nat) (ps : List (Int × Int)) (hn : ps.length = n) (hnm : n ≤ 1000000) (on : Bool) (w : World) (hg : g < w.heap.size)
    (hps : ∀ i p, ps[i]? = some p → w.cell? ⟨g, o + i * 2, none⟩ = some (.int .i64 p.1) ∧ w.cell? ⟨g, o + i * 2 + 1, none⟩ = some (.int .i64 p.2)) :
    Calls Try.prog 11 #[.agg (bv l).toArray, .slice (some ⟨g, o, none⟩) n c, .bool on] w fun e w' => e = .returned (.agg (bv (putL on l ps)).toArray) ∧ Below w.heap.size w w' := by
  have HPS : Hid (∀ i p, ps[i]? = some p → w.cell? ⟨g, o + i * 2, none⟩ = some (.int .i64 p.1) ∧ w.cell? ⟨g, o + i * 2 + 1, none⟩ = some (.int .i64 p.2)) := hps
  have HL : Hid (l.length = 64) := hl
  have HN : Hid (ps.length = n) := hn
  clear hps hl hn
  go_enter Try.func11, Try.ntmps11
  go_wp2_with fail
  go_loopw [7] (fun iv wr => ∃ i : Nat, i ≤ n ∧ iv = .int .i64 i ∧ wr.rangeAt w.heap.size 0 (bv (putL on l (ps.take i))) ∧ wr.there w.heap.size 0 64 ∧ wr.there (w.heap.size + 1) 0 64 ∧ Below w.heap.size w wr ∧ w.heap.size + 1 < wr.heap.size)
    (fun iv _ => n - (intOf iv).toNat)
  case atStart =>
    obtain ⟨h1, h2, h3, h4, h5⟩ := put_start (w := w) (C := (bv l).toArray) (Z := (List.replicate 64 (Value.bool false)).toArray) (t := 27) (u := 27) (by simp [bv_length, HL.out]) (by simp)
    exact ⟨0, Nat.zero_le _, rfl, h1, h2, h3, h4, h5⟩
  case round =>
    obtain ⟨i, hi, rfl, hr, ht, hu, hB, hz⟩ := hrel
    by_cases hlt : i < n
    · obtain ⟨p, hp⟩ : ∃ p, ps[i]? = some p := ⟨ps[i]'(by rw [HN.out]; exact hlt), by simp [HN.out, hlt]⟩
      obtain ⟨f, m⟩ := p
      have hpc := HPS.out i (f, m) hp
      have c0 : wr.cell? ⟨g, o + i * 2, none⟩ = some (.int .i64 f) := by rw [hB.cell (p := ⟨g, o + i * 2, none⟩) hg]; exact hpc.1
      have c1 : wr.cell? ⟨g, o + i * 2 + 1, none⟩ = some (.int .i64 m) := by rw [hB.cell (p := ⟨g, o + i * 2 + 1, none⟩) hg]; exact hpc.2
      have hc0 : Hid (w.cell? ⟨g, o + i * 2, none⟩ = some (.int .i64 f)) := hpc.1
      have hc1 : Hid (w.cell? ⟨g, o + i * 2 + 1, none⟩ = some (.int .i64 m)) := hpc.2
      clear hpc
      have hBi : 0 ≤ (i : Int) := Int.natCast_nonneg _
      by_cases hw : 0 ≤ f ∧ 1 ≤ m ∧ m ≤ 64 - f
      · obtain ⟨w1, w2, w3⟩ := hw
        have hli : (putL on l (ps.take i)).length = 64 := by rw [putL_length]; exact HL.out
        have HNX : Hid (putL on l (ps.take (i + 1)) = putTo (putL on l (ps.take i)) f.toNat on m.toNat) := by
          have e : ps.take (i + 1) = ps.take i ++ [(f, m)] := by rw [List.take_add_one, hp]; rfl
          show _ = _
          rw [e, putL, List.foldl_append]
          simp only [List.foldl_cons, List.foldl_nil, putSpan]
          rw [if_pos (by simp [whB]; omega)]
          rfl
        have HLI : Hid ((putL on l (ps.take i)).length = 64) := hli
        clear hli hp
        go_wp2_with fail
        go_loopw [8] (fun kv wk => ∃ k : Nat, (k : Int) ≤ m ∧ kv = .int .i64 k ∧ wk.rangeAt w.heap.size 0 (bv (putTo (putL on l (ps.take i)) f.toNat on k)) ∧ wk.there w.heap.size 0 64 ∧ wk.there (w.heap.size + 1) 0 64 ∧ Below w.heap.size w wk ∧ w.heap.size + 1 < wk.heap.size)
          (fun kv _ => m.toNat - (intOf kv).toNat)
        case atStart => exact ⟨0, by omega, rfl, hr, ht, hu, hB, hz⟩
        case round =>
          clear hr ht hu hB hz c0 c1
          obtain ⟨k, hk, rfl, hr, ht, hu, hB, hz⟩ := hrel
          have hko : (0 : Int) ≤ (k : Int) := Int.natCast_nonneg _
          have d0 : wr.cell? ⟨g, o + i * 2, none⟩ = some (.int .i64 f) := by rw [hB.cell (p := ⟨g, o + i * 2, none⟩) hg]; exact hc0.out
          have d1 : wr.cell? ⟨g, o + i * 2 + 1, none⟩ = some (.int .i64 m) := by rw [hB.cell (p := ⟨g, o + i * 2 + 1, none⟩) hg]; exact hc1.out
          go_wp2_with fail
          refine (refWhole_yes _ _ _ ⟨w1, w2, w3⟩).mono ?_; rintro e wz ⟨rfl, hbz⟩
          have hgr : g < wr.heap.size := by omega
          have d0 : wz.cell? ⟨g, o + i * 2, none⟩ = some (.int .i64 f) := by rw [hbz.cell (p := ⟨g, o + i * 2, none⟩) hgr]; exact d0
          have d1 : wz.cell? ⟨g, o + i * 2 + 1, none⟩ = some (.int .i64 m) := by rw [hbz.cell (p := ⟨g, o + i * 2 + 1, none⟩) hgr]; exact d1
          have hr := range_below hbz (Nat.lt_of_succ_lt hz) hr
          have ht := there_below hbz (Nat.lt_of_succ_lt hz) ht
          have hu := there_below hbz hz hu
          have hB := below_step hB hbz
          have hz := Nat.lt_of_lt_of_le hz hbz.size
          clear hbz hgr
          by_cases hkm : (k : Int) < m
          · have hj : (f + (k : Int)).toNat < 64 := by omega
            have ht0 := ht (f + (k : Int)).toNat hj
            rw [Nat.zero_add] at ht0
            obtain ⟨u, hu0⟩ := Option.isSome_iff_exists.1 ht0.1
            have hf0 := ht0.2
            clear ht0
            have hfk : 0 ≤ f + (k : Int) := by omega
            have hfk2 : f + (k : Int) < 64 := by omega
            have HR : Hid (wz.rangeAt w.heap.size 0 (bv (putTo (putL on l (ps.take i)) f.toNat on k)) ∧ wz.there w.heap.size 0 64 ∧ wz.there (w.heap.size + 1) 0 64 ∧ Below w.heap.size w wz ∧ w.heap.size + 1 < wz.heap.size) := ⟨hr, ht, hu, hB, hz⟩
            clear hr ht hu hB hz
            go_wp2
            go_roundw
            case rel =>
              have R := put_step HLI.out w1 hfk2 HR.out
              exact ⟨k + 1, by omega, by go_num, R.1, R.2.1, R.2.2.1, R.2.2.2.1, R.2.2.2.2⟩
            case measure => simp [intOf]; omega
          · go_wp2
            go_roundw
            case rel =>
              have ek : k = m.toNat := by omega
              exact ⟨i + 1, by omega, by go_num, by rw [HNX.out, ← ek]; exact hr, ht, hu, hB, hz⟩
            case measure => simp [intOf]; omega
      · have HW : Hid (¬ (0 ≤ f ∧ 1 ≤ m ∧ m ≤ 64 - f)) := hw
        have HNX : Hid (putL on l (ps.take (i + 1)) = putL on l (ps.take i)) := by
          have e : ps.take (i + 1) = ps.take i ++ [(f, m)] := by rw [List.take_add_one, hp]; rfl
          show _ = _
          rw [e, putL, List.foldl_append]
          simp only [List.foldl_cons, List.foldl_nil, putSpan]
          rw [if_neg (by simp [whB]; omega)]
          rfl
        clear hw hp
        go_wp2_with fail
        go_loopw [8] (fun kv wk => kv = .int .i64 0 ∧ wk.rangeAt w.heap.size 0 (bv (putL on l (ps.take i))) ∧ wk.there w.heap.size 0 64 ∧ wk.there (w.heap.size + 1) 0 64 ∧ Below w.heap.size w wk ∧ w.heap.size + 1 < wk.heap.size)
          (fun _ _ => 0)
        case atStart => exact ⟨rfl, hr, ht, hu, hB, hz⟩
        case round =>
          clear hr ht hu hB hz c0 c1
          obtain ⟨rfl, hr, ht, hu, hB, hz⟩ := hrel
          have d0 : wr.cell? ⟨g, o + i * 2, none⟩ = some (.int .i64 f) := by rw [hB.cell (p := ⟨g, o + i * 2, none⟩) hg]; exact hc0.out
          have d1 : wr.cell? ⟨g, o + i * 2 + 1, none⟩ = some (.int .i64 m) := by rw [hB.cell (p := ⟨g, o + i * 2 + 1, none⟩) hg]; exact hc1.out
          go_wp2_with fail
          refine (refWhole_no _ _ _ HW.out).mono ?_; rintro e wz ⟨rfl, hbz⟩
          have hr := range_below hbz (Nat.lt_of_succ_lt hz) hr
          have ht := there_below hbz (Nat.lt_of_succ_lt hz) ht
          have hu := there_below hbz hz hu
          have hB := below_step hB hbz
          have hz := Nat.lt_of_lt_of_le hz hbz.size
          clear hbz d0 d1
          go_wp2
          go_roundw
          case rel => exact ⟨i + 1, by omega, by go_num, by rw [HNX.out]; exact hr, ht, hu, hB, hz⟩
          case measure => simp [intOf]; omega
    · have hin : i = n := by omega
      have hfin : ps.take i = ps := by rw [List.take_of_length_le (by rw [HN.out]; omega)]
      rw [hfin] at hr
      subst hin
      clear hfin
      have hlen : (bv (putL on l ps)).length = 64 := by rw [bv_length, putL_length]; exact HL.out
      have hinf : (Try.prog.info? 27).map (·.size) = some (bv (putL on l ps)).length := by rw [hlen]; exact info30
      have hone : (bv (putL on l ps)).toArray.all (·.oneCell') = true := all_oneCell_toArray (by intro v hv; simp only [bv, List.mem_map] at hv; obtain ⟨b, _, rfl⟩ := hv; rfl)
      have hinf2 : (Try.prog.info? 27).map (·.size) = some (bv (putL on l ps)).toArray.size := by simpa using hinf
      have hth : wr.there (w.heap.size + 1) 0 (bv (putL on l ps)).toArray.size := by simpa [hlen] using hu
      have HH : Hid ((bv (putL on l ps)).length = 64 ∧ (Try.prog.info? 27).map (·.size) = some (bv (putL on l ps)).length ∧ (bv (putL on l ps)).toArray.all (·.oneCell') = true ∧ (Try.prog.info? 27).map (·.size) = some (bv (putL on l ps)).toArray.size ∧ wr.there (w.heap.size + 1) 0 (bv (putL on l ps)).toArray.size) := ⟨hlen, hinf, hone, hinf2, hth⟩
      clear hlen hinf hone hinf2 hth
      go_wp2_with (first
        | (refine wpList_load_mid rfl 27 _ rfl w.heap.size 0 rfl (bv (putL on l ps)) _ hr Try.underlying27 rfl HH.out.2.1 ?_)
        | (refine wpList_store_mid rfl 27 _ _ rfl (w.heap.size + 1) 0 (bv (putL on l ps)).toArray rfl rfl HH.out.2.2.2.2 HH.out.2.2.2.1 HH.out.2.2.1 ?_))
      refine bodyPost_ret (v := .agg (bv (putL on l ps)).toArray) (results_mid Try.results11 _ _ (w.heap.size + 1) (bv (putL on l ps)) _ rfl ?_ Try.underlying27 rfl HH.out.2.1) rfl ⟨rfl, ?_⟩
      · exact World.rangeAt_setCells_same _ _ _ _ (by have := HH.out.2.2.2.2; simpa using this)
      · exact below_setCells _ _ _ _ hB (by omega)
end Go.Proofs.Ytohjdpdmabjdaaa
