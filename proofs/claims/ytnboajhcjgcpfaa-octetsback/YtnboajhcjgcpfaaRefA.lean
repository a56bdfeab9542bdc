/-
  The contracts of the document's map: None, Set.
-/
import Derived.Test.YtnboajhcjgcpfaaMapMath
import Derived.Test.YtnboajhcjgcpfaaEBox
namespace Go.Proofs.Ytnboajhcjgcpfaa
open Go.ChangeShapes Go.WideShapes Go.ChangeAt Go.RowKit
attribute [local go_sem ↓] Go.wp_at_zero Go.wp_at_succ

def iv (m : List Int) : List Value := m.map (Value.int .i64)
theorem iv_length (m : List Int) : (iv m).length = m.length := by simp [iv]
theorem info29 : (Try.prog.info? 74).map (·.size) = some 64 := by kernel_rfl
theorem iv_one (m : List Int) : (iv m).toArray.all (·.oneCell') = true := all_oneCell_toArray (by intro v hv; simp only [iv, List.mem_map] at hv; obtain ⟨b, _, rfl⟩ := hv; rfl)
theorem irange_set {w : World} {b j : Nat} {l : List Int} (v : Int) (h : w.rangeAt b 0 (iv l)) (hj : j < l.length) : (w.setCell ⟨b, j, none⟩ (.int .i64 v)).rangeAt b 0 (iv (l.set j v)) := by
  intro i x hx
  have hold : w.cell? ⟨b, j, none⟩ = some (.int .i64 (l[j]'hj)) := by
    have := h j (.int .i64 (l[j]'hj)) (by simp [iv, hj])
    simpa using this
  have hx' : (l.set j v)[i]?.map (Value.int .i64) = some x := by rw [← hx, iv, List.getElem?_map]
  by_cases e : i = j
  · subst e
    rw [List.getElem?_set_self hj] at hx'
    simp at hx'
    subst hx'
    simpa using World.cell?_setCell_same w ⟨b, i, none⟩ (.int .i64 v) hold
  · rw [List.getElem?_set_ne (Ne.symm e)] at hx'
    have := h i x (by rw [← hx', iv, List.getElem?_map])
    rw [World.cell?_setCell_other]
    · exact this
    · intro ee
      have h1 : j = 0 + i := congrArg Addr.off ee
      omega
theorem rangefar {w : World} {b o g j : Nat} {cs : List Value} {u : Value} (hne : b ≠ g) (h : w.rangeAt b o cs) : (w.setCell ⟨g, j, none⟩ u).rangeAt b o cs := fun i v hv => by
  rw [World.cell?_of_block (w := w) (a := ⟨b, o + i, none⟩) (Below.heap_setCell w ⟨g, j, none⟩ u b hne)]; exact h i v hv
/-- Two blocks that are laid first. -/
theorem two_start {w : World} {C Z : Array Value} {t u : TypeId} (hC : C.size = 64) (hZ : Z.size = 64) :
    ((w.alloc (.cells C t)).alloc (.cells Z u)).there w.heap.size 0 64 ∧ ((w.alloc (.cells C t)).alloc (.cells Z u)).rangeAt (w.heap.size + 1) 0 Z.toList ∧
    ((w.alloc (.cells C t)).alloc (.cells Z u)).there (w.heap.size + 1) 0 64 ∧ Below w.heap.size w ((w.alloc (.cells C t)).alloc (.cells Z u)) ∧ w.heap.size + 1 < ((w.alloc (.cells C t)).alloc (.cells Z u)).heap.size := by
  refine ⟨World.there_alloc (there_new (by omega)) _, ?_, ?_, ((Below.refl _ _).alloc (Nat.le_refl _) _).alloc (by simp) _, by simp⟩
  · have := range_new (w := w.alloc (.cells C t)) (C := Z) (t := u)
    simpa using this
  · have := there_new (w := w.alloc (.cells C t)) (C := Z) (t := u) (n := 64) (by omega)
    simpa using this
/-- What stands at place k of a map. -/
theorem imv_cell {w : World} {b : Nat} {m : List Int} (h : w.rangeAt b 0 (iv m)) (k : Nat) (hk : k < m.length) : w.cell? ⟨b, k, none⟩ = some (.int .i64 (mv m k)) := by
  have := h k (.int .i64 (mv m k)) (by unfold iv; rw [List.getElem?_map, mv_nat m k hk]; rfl)
  simpa using this
theorem there_at {w : World} {b k : Nat} (h : w.there b 0 64) (hk : k < 64) : ∃ u, w.cell? ⟨b, k, none⟩ = some u ∧ w.frozen? ⟨b, k, none⟩ = false := by
  have h0 := h k hk
  rw [Nat.zero_add] at h0
  obtain ⟨u, hu⟩ := Option.isSome_iff_exists.1 h0.1
  exact ⟨u, hu, h0.2⟩
def nTo (k : Nat) : List Int := List.replicate k (-1) ++ List.replicate (64 - k) 0
theorem nTo_length {k : Nat} (h : k ≤ 64) : (nTo k).length = 64 := by simp [nTo]; omega
theorem nTo_set {k : Nat} (h : k < 64) : (nTo k).set k (-1) = nTo (k + 1) := by
  unfold nTo
  rw [List.set_append, if_neg (by simp), List.length_replicate, Nat.sub_self]
  obtain ⟨n, hn⟩ : ∃ n, 64 - k = n + 1 := ⟨63 - k, by omega⟩
  have hn2 : 64 - (k + 1) = n := by omega
  rw [hn, hn2, List.replicate_succ, List.set_cons_zero, List.replicate_succ', List.append_assoc]
  rfl
theorem nTo_64 : nTo 64 = mNone := by simp [nTo, mNone]
theorem nTo_0 : (iv (nTo 0)).toArray = (List.replicate 64 (Value.int .i64 0)).toArray := by simp [nTo, iv]
set_option maxRecDepth 100000 in
theorem refNone_any (w : World) :
    Calls Try.prog 79 #[] w fun e w' => e = .returned (.agg (iv mNone).toArray) ∧ Below w.heap.size w w' := by
  go_enter Try.func79, Try.ntmps79
  go_wp2_with fail
  go_loopw [2] (fun jv wr => ∃ k : Nat, k ≤ 64 ∧ jv = .int .i64 k ∧ wr.there w.heap.size 0 64 ∧ wr.rangeAt (w.heap.size + 1) 0 (iv (nTo k)) ∧ wr.there (w.heap.size + 1) 0 64 ∧ Below w.heap.size w wr ∧ w.heap.size + 1 < wr.heap.size) (fun jv _ => 64 - (intOf jv).toNat)
  case atStart =>
    obtain ⟨h1, h2, h3, h4, h5⟩ := two_start (w := w) (C := (iv (nTo 0)).toArray) (Z := (iv (nTo 0)).toArray) (t := 74) (u := 74) (by rw [nTo_0]; simp) (by rw [nTo_0]; simp)
    exact ⟨0, Nat.zero_le _, rfl, h1, h2, h3, h4, h5⟩
  case round =>
    obtain ⟨k, hk, rfl, ht, hr, hu, hB, hz⟩ := hrel
    have k0 : (0 : Int) ≤ (k : Int) := Int.natCast_nonneg _
    by_cases hlt : k < 64
    · obtain ⟨u, hu0, hf0⟩ := there_at hu hlt
      have k1 : (k : Int) < 64 := by omega
      have HR : Hid (wr.there w.heap.size 0 64 ∧ wr.rangeAt (w.heap.size + 1) 0 (iv (nTo k)) ∧ wr.there (w.heap.size + 1) 0 64 ∧ Below w.heap.size w wr) := ⟨ht, hr, hu, hB⟩
      clear ht hr hu hB
      go_wp2
      go_roundw
      case rel => exact ⟨k + 1, by omega, by go_num, there_set HR.out.1 _ _, by rw [← nTo_set hlt]; exact irange_set _ HR.out.2.1 (by rw [nTo_length (by omega)]; exact hlt), there_set HR.out.2.2.1 _ _, HR.out.2.2.2.setCell (by show w.heap.size ≤ w.heap.size + 1; omega) _, by simpa using hz⟩
      case measure => simp [intOf]; omega
    · have hk' : k = 64 := by omega
      subst hk'
      rw [nTo_64] at hr
      have HH : Hid ((iv mNone).length = 64 ∧ (Try.prog.info? 74).map (·.size) = some (iv mNone).length ∧ (iv mNone).toArray.all (·.oneCell') = true ∧ (Try.prog.info? 74).map (·.size) = some (iv mNone).toArray.size ∧ wr.there (w.heap.size) 0 (iv mNone).toArray.size) := by
        have hlen : (iv mNone).length = 64 := by rw [iv_length]; exact (by simp [mNone])
        exact ⟨hlen, by rw [hlen]; exact info29, iv_one _, by simpa [hlen] using info29, by simpa [hlen] using ht⟩
      go_wp2_with (first
        | (refine wpList_load_mid rfl 74 _ rfl (w.heap.size + 1) 0 rfl (iv mNone) _ hr Try.underlying74 rfl HH.out.2.1 ?_)
        | (refine wpList_store_mid rfl 74 _ _ rfl (w.heap.size) 0 (iv mNone).toArray rfl rfl HH.out.2.2.2.2 HH.out.2.2.2.1 HH.out.2.2.1 ?_))
      refine bodyPost_ret (v := .agg (iv mNone).toArray) (results_mid Try.results79 _ _ (w.heap.size) (iv mNone) _ rfl ?_ Try.underlying74 rfl HH.out.2.1) rfl ⟨rfl, ?_⟩
      · exact World.rangeAt_setCells_same _ _ _ _ (by have := HH.out.2.2.2.2; simpa using this)
      · exact below_setCells _ _ _ _ hB (by omega)
/-- What the document's Set carries: its map, the answer's block, x. -/
structure MS (w : World) (m : List Int) (x : Ex) (wr : World) : Prop where
  r : wr.rangeAt w.heap.size 0 (iv m)
  t : wr.there w.heap.size 0 64
  x : Bx wr (w.heap.size + 1) x
  d : wr.there (w.heap.size + 2) 0 64
  b : Below w.heap.size w wr
  z : w.heap.size + 2 < wr.heap.size
theorem MS.below {w wr w' : World} {m : List Int} {x : Ex} (h : MS w m x wr) (hb : Below wr.heap.size wr w') : MS w m x w' :=
  ⟨range_below hb (by have := h.z; omega) h.r, there_below hb (by have := h.z; omega) h.t, h.x.below hb h.x.lt, there_below hb h.z h.d, h.b.trans (hb.mono h.b.size), Nat.lt_of_lt_of_le h.z hb.size⟩
theorem MS.set {w wr : World} {m : List Int} {x : Ex} (h : MS w m x wr) (j : Nat) (v : Int) (hj : j < m.length) : MS w (m.set j v) x (wr.setCell ⟨w.heap.size, j, none⟩ (.int .i64 v)) := by
  have hb : ∀ k, k ≠ w.heap.size → (wr.setCell ⟨w.heap.size, j, none⟩ (.int .i64 v)).heap[k]? = wr.heap[k]? := fun k hk => Below.heap_setCell wr ⟨w.heap.size, j, none⟩ _ k hk
  have h1 := hb (w.heap.size + 1) (by omega)
  obtain ⟨a, b, c, d, e, f⟩ := h.x
  refine ⟨irange_set _ h.r hj, there_set h.t _ _, ⟨?_, ?_, ?_, ?_, ?_, ?_⟩, there_set h.d _ _, h.b.setCell (Nat.le_refl _) _, by simpa using h.z⟩
  · rw [World.cell?_of_block (w := wr) (a := ⟨w.heap.size + 1, 0, none⟩) h1]; exact a
  · rw [World.cell?_of_block (w := wr) (a := ⟨w.heap.size + 1, 1, none⟩) h1]; exact b
  · rw [World.cell?_of_block (w := wr) (a := ⟨w.heap.size + 1, 2, none⟩) h1]; exact c
  · rw [World.frozen?_of_block (w := wr) (a := ⟨w.heap.size + 1, 0, none⟩) h1]; exact d
  · rw [World.frozen?_of_block (w := wr) (a := ⟨w.heap.size + 1, 1, none⟩) h1]; exact e
  · rw [World.frozen?_of_block (w := wr) (a := ⟨w.heap.size + 1, 2, none⟩) h1]; exact f
theorem ms_start (w : World) (m : List Int) (hl : m.length = 64) (x : Ex) : MS w m x (((w.alloc (.cells (iv m).toArray 74)).alloc (.cells #[.int .i64 x.1, .int .i64 x.2.1, .int .i64 x.2.2] 71)).alloc (.cells (iv (nTo 0)).toArray 74)) := by
  have hb1 : Below w.heap.size w (w.alloc (.cells (iv m).toArray 74)) := (Below.refl _ _).alloc (Nat.le_refl _) _
  have h0 : (w.alloc (.cells (iv m).toArray 74)).heap.size = w.heap.size + 1 := by simp
  have hx := Bx.new (w.alloc (.cells (iv m).toArray 74)) x 71
  rw [h0] at hx
  have hr : (w.alloc (.cells (iv m).toArray 74)).rangeAt w.heap.size 0 (iv m) := by simpa using range_new (w := w) (C := (iv m).toArray) (t := 74)
  have ht : (w.alloc (.cells (iv m).toArray 74)).there w.heap.size 0 64 := there_new (by simp [iv_length, hl])
  refine ⟨World.rangeAt_alloc (World.rangeAt_alloc hr _) _, World.there_alloc (World.there_alloc ht _) _, hx.below ((Below.refl _ _).alloc (Nat.le_refl _) _) (by simp), ?_, ((hb1.alloc (by simp) _).alloc (by simp; omega) _), by simp⟩
  have := there_new (w := (w.alloc (.cells (iv m).toArray 74)).alloc (.cells #[.int .i64 x.1, .int .i64 x.2.1, .int .i64 x.2.2] 71)) (C := (iv (nTo 0)).toArray) (t := 74) (n := 64) (by rw [nTo_0]; simp)
  simpa using this
theorem alone_t (x : Ex) (w : World) (h : Al x) :
    Calls Try.prog 39 #[.agg #[.int .i64 x.1, .int .i64 x.2.1, .int .i64 x.2.2]] w fun e w' => e = .returned (.bool true) ∧ Below w.heap.size w w' :=
  (alone_any _ _ _ w).mono fun e w' ⟨he, hb⟩ => ⟨by rw [he]; simp [h], hb⟩
theorem alone_f (x : Ex) (w : World) (h : ¬ Al x) :
    Calls Try.prog 39 #[.agg #[.int .i64 x.1, .int .i64 x.2.1, .int .i64 x.2.2]] w fun e w' => e = .returned (.bool false) ∧ Below w.heap.size w w' :=
  (alone_any _ _ _ w).mono fun e w' ⟨he, hb⟩ => ⟨by rw [he]; simp [h], hb⟩
set_option maxRecDepth 100000 in
theorem refMSet_no (m : List Int) (hl : m.length = 64) (x : Ex) (w : World) (hx : ¬ Al x) :
    Calls Try.prog 80 #[.agg (iv m).toArray, .agg #[.int .i64 x.1, .int .i64 x.2.1, .int .i64 x.2.2]] w fun e w' => e = .returned (.agg (iv m).toArray) ∧ Below w.heap.size w w' := by
  obtain ⟨f, n, d⟩ := x
  have hx' := Hid.intro hx
  have hl' := Hid.intro hl
  clear hx hl
  simp only
  go_enter Try.func80, Try.ntmps80
  go_wp2_with fail
  go_loopw [5] (fun jv wr => jv = .int .i64 0 ∧ MS w m (f, n, d) wr) (fun jv _ => 0)
  case atStart => exact ⟨rfl, ms_start w m hl'.out (f, n, d)⟩
  case round =>
    obtain ⟨rfl, hM⟩ := hrel
    obtain ⟨a0, a1, a2, _⟩ := hM.x
    simp only at a0 a1 a2
    go_wp2_with fail
    refine (alone_f (f, n, d) _ hx'.out).mono ?_; rintro e w2 ⟨rfl, hb⟩
    have hM2 := hM.below hb
    obtain ⟨hr, _, _, hu, hB, hz⟩ := hM2
    clear hM hb a0 a1 a2
    have HH : Hid ((iv m).length = 64 ∧ (Try.prog.info? 74).map (·.size) = some (iv m).length ∧ (iv m).toArray.all (·.oneCell') = true ∧ (Try.prog.info? 74).map (·.size) = some (iv m).toArray.size ∧ w2.there (w.heap.size + 2) 0 (iv m).toArray.size) := by
      have hlen : (iv m).length = 64 := by rw [iv_length]; exact hl'.out
      exact ⟨hlen, by rw [hlen]; exact info29, iv_one _, by simpa [hlen] using info29, by simpa [hlen] using hu⟩
    go_wp2_with (first
      | (refine wpList_load_mid rfl 74 _ rfl (w.heap.size) 0 rfl (iv m) _ hr Try.underlying74 rfl HH.out.2.1 ?_)
      | (refine wpList_store_mid rfl 74 _ _ rfl (w.heap.size + 2) 0 (iv m).toArray rfl rfl HH.out.2.2.2.2 HH.out.2.2.2.1 HH.out.2.2.1 ?_))
    refine bodyPost_ret (v := .agg (iv m).toArray) (results_mid Try.results80 _ _ (w.heap.size + 2) (iv m) _ rfl ?_ Try.underlying74 rfl HH.out.2.1) rfl ⟨rfl, ?_⟩
    · exact World.rangeAt_setCells_same _ _ _ _ (by have := HH.out.2.2.2.2; simpa using this)
    · exact below_setCells _ _ _ _ hB (by omega)
set_option maxRecDepth 100000 in
theorem refMSet_yes (m : List Int) (hl : m.length = 64) (x : Ex) (w : World) (hx : Al x) :
    Calls Try.prog 80 #[.agg (iv m).toArray, .agg #[.int .i64 x.1, .int .i64 x.2.1, .int .i64 x.2.2]] w fun e w' => e = .returned (.agg (iv (setTo m x.1.toNat x.2.2 x.2.1.toNat)).toArray) ∧ Below w.heap.size w w' := by
  obtain ⟨f, n, d⟩ := x
  have hx' := Hid.intro hx
  have hl' := Hid.intro hl
  obtain ⟨h1, h2, h3, h4, h5⟩ : 0 ≤ f ∧ 1 ≤ n ∧ n ≤ 64 - f ∧ 0 ≤ d ∧ d ≤ 60 := by unfold Al at hx; simp only at hx; omega
  clear hx hl
  simp only
  obtain ⟨R, hR⟩ : ∃ R, Hid (setTo m f.toNat d n.toNat = R) := ⟨_, rfl⟩
  rw [hR.out]
  go_enter Try.func80, Try.ntmps80
  go_wp2_with fail
  go_loopw [5] (fun jv wr => ∃ k : Nat, (k : Int) ≤ n ∧ jv = .int .i64 k ∧ MS w (setTo m f.toNat d k) (f, n, d) wr) (fun jv _ => n.toNat - (intOf jv).toNat)
  case atStart => exact ⟨0, by omega, rfl, ms_start w m hl'.out (f, n, d)⟩
  case round =>
    obtain ⟨k, hk, rfl, hM⟩ := hrel
    have k0 : (0 : Int) ≤ (k : Int) := Int.natCast_nonneg _
    obtain ⟨a0, a1, a2, _⟩ := hM.x
    simp only at a0 a1 a2
    go_wp2_with fail
    refine (alone_t (f, n, d) _ hx'.out).mono ?_; rintro e w2 ⟨rfl, hb⟩
    have hM2 := hM.below hb
    clear hM hb a0 a1 a2
    obtain ⟨a0, a1, a2, _⟩ := hM2.x
    simp only at a0 a1 a2
    by_cases hlt : (k : Int) < n
    · obtain ⟨u, hu0, hf0⟩ := there_at hM2.t (k := (f + (k : Int)).toNat) (by omega)
      have hfk : 0 ≤ f + (k : Int) := by omega
      have hfk2 : f + (k : Int) < 64 := by omega
      have hj : f.toNat + k = (f + (k : Int)).toNat := by omega
      have hjl : Hid ((f + (k : Int)).toNat < (setTo m f.toNat d k).length) := Hid.intro (by rw [setTo_length, hl'.out]; omega)
      have hst : Hid (setTo m f.toNat d (k + 1) = (setTo m f.toNat d k).set (f + (k : Int)).toNat (if 0 < d then d + (k : Int) else 0)) := Hid.intro (by rw [← hj]; rfl)
      have HR := Hid.intro hM2
      clear hM2 hj
      by_cases hd : 0 < d
      · have hd2 : d + (k : Int) ≤ 200 := by omega
        go_wp2
        go_roundw
        case rel =>
          have hM := HR.out.set (f + (k : Int)).toNat 0 hjl.out
          have hM2 := hM.set (f + (k : Int)).toNat (d + (k : Int)) (by rw [List.length_set]; exact hjl.out)
          rw [List.set_set] at hM2
          exact ⟨k + 1, by omega, by go_num, by have e := hst.out; rw [if_pos (by omega)] at e; rw [e]; exact hM2⟩
        case measure => simp [intOf]; omega
      · go_wp2
        go_roundw
        case rel =>
          have hM := HR.out.set (f + (k : Int)).toNat 0 hjl.out
          exact ⟨k + 1, by omega, by go_num, by have e := hst.out; rw [if_neg (by omega)] at e; rw [e]; exact hM⟩
        case measure => simp [intOf]; omega
    · have hk' : k = n.toNat := by omega
      subst hk'
      rw [hR.out] at hM2
      obtain ⟨hr, _, _, hu, hB, hz⟩ := hM2
      have hRl : R.length = 64 := by rw [← hR.out, setTo_length]; exact hl'.out
      clear a0 a2
      have HH : Hid ((iv R).length = 64 ∧ (Try.prog.info? 74).map (·.size) = some (iv R).length ∧ (iv R).toArray.all (·.oneCell') = true ∧ (Try.prog.info? 74).map (·.size) = some (iv R).toArray.size ∧ w2.there (w.heap.size + 2) 0 (iv R).toArray.size) := by
        have hlen : (iv R).length = 64 := by rw [iv_length]; exact hRl
        exact ⟨hlen, by rw [hlen]; exact info29, iv_one _, by simpa [hlen] using info29, by simpa [hlen] using hu⟩
      go_wp2_with (first
        | (refine wpList_load_mid rfl 74 _ rfl (w.heap.size) 0 rfl (iv R) _ hr Try.underlying74 rfl HH.out.2.1 ?_)
        | (refine wpList_store_mid rfl 74 _ _ rfl (w.heap.size + 2) 0 (iv R).toArray rfl rfl HH.out.2.2.2.2 HH.out.2.2.2.1 HH.out.2.2.1 ?_))
      refine bodyPost_ret (v := .agg (iv R).toArray) (results_mid Try.results80 _ _ (w.heap.size + 2) (iv R) _ rfl ?_ Try.underlying74 rfl HH.out.2.1) rfl ⟨rfl, ?_⟩
      · exact World.rangeAt_setCells_same _ _ _ _ (by have := HH.out.2.2.2.2; simpa using this)
      · exact below_setCells _ _ _ _ hB (by omega)
/-- The document's Set, of every map and every extent. -/
theorem refMSet_any (m : List Int) (hl : m.length = 64) (x : Ex) (w : World) :
    Calls Try.prog 80 #[.agg (iv m).toArray, .agg #[.int .i64 x.1, .int .i64 x.2.1, .int .i64 x.2.2]] w fun e w' => e = .returned (.agg (iv (mSet m x)).toArray) ∧ Below w.heap.size w w' := by
  unfold mSet
  by_cases hx : Al x
  · rw [if_pos hx]; exact refMSet_yes m hl x w hx
  · rw [if_neg hx]; exact refMSet_no m hl x w hx
end Go.Proofs.Ytnboajhcjgcpfaa
