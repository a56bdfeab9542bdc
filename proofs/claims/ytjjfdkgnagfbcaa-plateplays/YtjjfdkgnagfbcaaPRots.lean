/-
  The walk of PlateRots, for every input: it returns true; nothing that was there is written. An array of six strings in memory.
-/
import Derived.Test.YtjjfdkgnagfbcaaPSnags
namespace Go.Proofs.Ytjjfdkgnagfbcaa
open Go.ChangeShapes Go.WideShapes Go.ChangeAt Go.RowKit
attribute [local go_sem ↓] Go.wp_at_zero Go.wp_at_succ
attribute [local go_sem] str_size str_extract str_append str_toList

def sV (T : List UInt8) : Value := .string (str T)
/-- An array of strings. -/
def SA (w : World) (b : Nat) (L : List (List UInt8)) : Prop := w.heap[b]? = some (.cells (L.map sV).toArray 48 (0, 0))
theorem SA.cell {w : World} {b : Nat} {L : List (List UInt8)} (h : SA w b L) {k : Nat} (hk : k < L.length) : w.cell? ⟨b, k, none⟩ = some (.string (str (pgAt L k))) := by
  have hb : w.heap[b]? = _ := h
  unfold World.cell?
  rw [hb]
  simp [pgAt, hk, sV]
theorem SA.fro {w : World} {b : Nat} {L : List (List UInt8)} (h : SA w b L) (k : Nat) : w.frozen? ⟨b, k, none⟩ = false := by
  have hb : w.heap[b]? = _ := h
  unfold World.frozen?; rw [hb]; simp
theorem SA.set {w : World} {b : Nat} {L : List (List UInt8)} (h : SA w b L) (k : Nat) (T : List UInt8) : SA (w.setCell ⟨b, k, none⟩ (.string (str T))) b (L.set k T) := by
  have hb : w.heap[b]? = _ := h
  show (w.setCell _ _).heap[b]? = _
  simp [World.setCell, Array.getElem?_modify, hb, List.map_set, sV]
theorem SA.keep {w w' : World} {b : Nat} {L : List (List UInt8)} (h : SA w b L) (e : w'.heap[b]? = w.heap[b]?) : SA w' b L := by
  show w'.heap[b]? = _; rw [e]; exact h
theorem SA.lt {w : World} {b : Nat} {L : List (List UInt8)} (h : SA w b L) : b < w.heap.size := lt_of_block h
theorem SA.below {w w' : World} {b : Nat} {L : List (List UInt8)} (h : SA w b L) (hb : Below w.heap.size w w') : SA w' b L := h.keep (hb.block b h.lt)
def z48 : Array Value := (List.replicate 6 (Value.string (str []))).toArray
theorem Try.info48 : (Try.prog.info? 48).map (fun i => (i.zero, i.size, i.bytes)) = some (some (.agg z48), 6, 96) := by kernel_rfl
theorem zero48 (w : World) : (zeroValue 48).run Try.prog w = .ok (.agg z48) w := by
  obtain ⟨i, hi, hz0, hz1, hz2⟩ := info_parts Try.info48
  simp [zeroValue, typeInfo, hi, hz0]
theorem SA.new (w : World) : SA (w.alloc (.cells z48 48)) w.heap.size (List.replicate 6 []) := by
  show (w.alloc _).heap[w.heap.size]? = _
  rw [heap_alloc_new w _]
  rfl
/-- Any number as one of six. -/
def six (x : Int) : Nat := ((x.tmod 6 + 6).tmod 6).toNat
theorem six_facts (x : Int) : six x < 6 ∧ IntKind.i64.wrap (x.tmod 6 + 6) = x.tmod 6 + 6 ∧ (x.tmod 6 + 6).tmod 6 = ((six x : Nat) : Int) := by
  have h1 : -6 < x.tmod 6 ∧ x.tmod 6 < 6 := by
    refine ⟨?_, Int.tmod_lt_of_pos _ (by decide)⟩
    have := Int.tmod_lt_of_pos (-x) (b := 6) (by decide)
    rw [Int.neg_tmod] at this
    omega
  have h2 : 0 ≤ (x.tmod 6 + 6).tmod 6 := Int.tmod_nonneg _ (by omega)
  have h3 : (x.tmod 6 + 6).tmod 6 < 6 := Int.tmod_lt_of_pos _ (by decide)
  unfold six
  refine ⟨by omega, by rw [IntKind.wrap_i64]; omega, by omega⟩
theorem rots_early {v : Value} {l : List OpE} {k : Int} {S : List UInt8} {w : World} (hv : OpsAt w v l) (h : LightB l = false ∨ 60 < S.length) : Calls Try.prog 6 #[v, .int .i64 k, .string (str S)] w fun e w' => e = .returned (.bool true) ∧ Below w.heap.size w w' := by
  have hA := Hid.intro (alive_any w)
  have hL := Hid.intro (light_any hv)
  clear hv
  cases h1 : LightB l with
  | false =>
    rw [h1] at hL
    clear h h1
    go_enter Try.func6, Try.ntmps6
    go_wp2_with fail
    refine hL.out.mono ?_; rintro e w0 ⟨rfl, rfl⟩
    go_wp2_with fail
    refine hA.out.mono ?_; rintro e w1 ⟨rfl, c⟩
    have c' := Hid.intro c
    clear c
    go_wp2
    go_ret
    exact ⟨rfl, c'.out⟩
  | true =>
    rw [h1] at hL
    have h2 : (60 : Int) < (S.length : Int) := by
      rcases h with h | h
      · rw [h1] at h; cases h
      · omega
    clear h h1
    go_enter Try.func6, Try.ntmps6
    go_wp2_with fail
    refine hL.out.mono ?_; rintro e w0 ⟨rfl, rfl⟩
    go_wp2_with fail
    refine hA.out.mono ?_; rintro e w1 ⟨rfl, c⟩
    have c' := Hid.intro c
    clear c
    go_wp2
    go_ret
    exact ⟨rfl, c'.out⟩
/-- A disk that goes on with no snag. -/
structure Free (M : MS) (n : Nat) : Prop where
  on : M.on = true
  left : M.left = -1
  len : M.L.length = n
theorem Free.new (n : Nat) : Free (mNew n) n := ⟨rfl, rfl, by simp [mNew]⟩
theorem Free.lay {M : MS} {n : Nat} (h : Free M n) {k : Nat} {S : List UInt8} (hk : k < n) (hS : S.length = 32) : mLay M (k : Int) S = (0, mPut M k S) ∧ Free (mPut M k S) n :=
  ⟨lay_free k S h.on h.left (by rw [h.len]; exact hk) hS, h.on, h.left, by simp [mPut, h.len]⟩
theorem Free.fix {M : MS} {n : Nat} (h : Free M n) : mFix M = (0, mFixed M) ∧ Free (mFixed M) n := ⟨fix_free h.on h.left, h.on, h.left, h.len⟩
theorem Free.get {M : MS} {n : Nat} (h : Free M n) {k : Nat} (hk : k < n) : mGetS M (k : Int) = pgAt M.L k ∧ mGetE M (k : Int) = 0 := by
  unfold mGetS mGetE has0
  rw [h.on, h.len, decide_eq_true (by omega)]
  exact ⟨rfl, rfl⟩

theorem Free.rot {M : MS} {n k : Nat} {S : List UInt8} (h : Free M n) (hW : M.W = 0) (hk : k < n) (hS : S.length = 32) : fitB M (k : Int) S = true ∧ Free (mRot M (k : Int) S) n ∧ (mRot M (k : Int) S).W = 0 ∧ (mRot M (k : Int) S).L = M.L.set k S := by
  have hf : fitB M (k : Int) S = true := fitB_iff.2 ⟨⟨by omega, by rw [h.len]; omega⟩, hS⟩
  refine ⟨hf, ?_⟩
  unfold mRot
  rw [hf]
  exact ⟨⟨h.on, h.left, by simp [h.len]⟩, by simp [hW, offW], rfl⟩
theorem rot_not {M : MS} {k : Int} {S : List UInt8} (h : fitB M k S = false) : mRot M k S = M := by unfold mRot; rw [h]; rfl
theorem off_none {M : MS} (ho : M.on = true) (hW : M.W = 0) (l : List Bool) : (mOff M l).2 = ⟨false, M.L, M.X, 0, -1, 0⟩ := by
  unfold mOff mFall fallT
  rw [ho, hW, keptL_zero]
  rfl
set_option maxHeartbeats 4000000 in
set_option maxRecDepth 100000 in
theorem rots_walk {v : Value} {l : List OpE} {k : Int} {S : List UInt8} {w : World} (hv : OpsAt w v l) (hLi : LightB l = true) (hS60 : S.length ≤ 60) : Calls Try.prog 6 #[v, .int .i64 k, .string (str S)] w fun e w' => e = .returned (.bool true) ∧ Below w.heap.size w w' := by
  have hA := Hid.intro (alive_any w)
  have hL := Hid.intro (light_any hv)
  rw [hLi] at hL
  have hN := Hid.intro (new_any 6 (by omega))
  have hP := Hid.intro page_any
  have hl1 : ¬ (60 : Int) < (S.length : Int) := by omega
  have hn60 := (light_all hLi).1
  have hFr := Hid.intro (Free.new 6)
  change Hid (∀ w, Calls Try.prog 9 _ w fun e w' => ∃ p gl gf, e = .returned (.pointer (some ⟨p, 0, none⟩)) ∧ PO w' p gl gf (mNew 6) ∧ _) at hN
  generalize mNew 6 = M0 at *
  obtain ⟨av, cv, rfl⟩ := hv.slice
  have hv' := Hid.intro hv
  clear hv hLi
  have n0 : (0 : Int) ≤ (l.length : Int) := Int.natCast_nonneg _
  go_enter Try.func6, Try.ntmps6
  go_wp2_with fail
  refine hL.out.mono ?_; rintro e w0 ⟨rfl, rfl⟩
  go_wp2_with fail
  refine hA.out.mono ?_; rintro e w1 ⟨rfl, c1⟩
  have hC1 := Hid.intro c1
  have s1 := c1.size
  clear c1
  go_wp2_with fail
  refine (hN.out _).mono ?_; rintro e w2 ⟨p, gl, gf, rfl, a1, b1, b2, b3, c2⟩
  have hC2 := Hid.intro (hC1.out.trans (c2.mono s1))
  have s2 := hC2.out.size
  have hA2 := Hid.intro a1
  have p1 : w0.heap.size ≤ p := by omega
  have p2 : w0.heap.size ≤ gl := by omega
  have p3 : w0.heap.size ≤ gf := by omega
  clear a1 c2 b1 b2 b3 hC1
  go_wp2_with fail
  generalize hln : l.length = n at *
  have hln' := Hid.intro hln
  clear hln
  go_loopw [8] (fun iv wr => ∃ (i : Nat) (M : MS), i ≤ n ∧ iv = .int .i64 (i : Int) ∧ PO wr p gl gf M ∧ Free M 6 ∧ Below w0.heap.size w0 wr) (fun iv _ => n - (intOf iv).toNat)
  case atStart => exact ⟨0, M0, Nat.zero_le _, rfl, hA2.out, hFr.out, hC2.out⟩
  case round =>
    obtain ⟨i, M, hi, rfl, hPO, hfree, hB⟩ := hrel
    have i0 : (0 : Int) ≤ (i : Int) := Int.natCast_nonneg _
    have hPO' := Hid.intro hPO
    have hB' := Hid.intro hB
    have sB := hB.size
    have hf' := Hid.intro hfree
    clear hPO hB hfree
    by_cases hlt : i < n
    · have i1 : (i : Int) < (n : Int) := by omega
      obtain ⟨g, o, ⟨ek, en, es, ekv, el⟩, rfl, hg, he, hop⟩ := op_at hv'.out (i := i) (by have := hln'.out; omega)
      obtain ⟨d0, d1, d2, d3, hrow, _, _⟩ := hop
      simp only at d0 d1 d2 d3 hrow
      have hd := Hid.intro (fun (W : World) (hb : Below w0.heap.size w0 W) => (show W.cell? ⟨g, o + i * 4 + 1, none⟩ = some (.int .i64 en) ∧ W.cell? ⟨g, o + i * 4 + 2, none⟩ = some (.string (str es)) from ⟨by rw [hb.cell (p := ⟨g, o + i * 4 + 1, none⟩) hg]; exact d1, by rw [hb.cell (p := ⟨g, o + i * 4 + 2, none⟩) hg]; exact d2⟩))
      obtain ⟨x0, x1, x2⟩ := six_facts en
      obtain ⟨hLy, hf2⟩ := hf'.out.lay x0 (pgS_length es)
      have hLay := Hid.intro (fun w' (g : PO w' p gl gf M) => lay_any g ((six en : Nat) : Int) (pgS es))
      rw [hLy] at hLay
      have hf2' := Hid.intro hf2
      have hPs := Hid.intro (hP.out es)
      clear d0 d1 d2 d3 hrow he hLy hf2
      change Hid (∀ w', _ → Calls Try.prog 13 _ w' fun e w'' => e = .returned (.int .i64 0) ∧ PO w'' p gl gf (mPut M (six en) (pgS es)) ∧ Keep (Fp p gl gf) w' w'') at hLay
      generalize mPut M (six en) (pgS es) = M2 at *
      generalize pgS es = Pe at *
      generalize six en = kx at *
      have x0i : (kx : Int) < 6 := by omega
      have x0j : (0 : Int) ≤ (kx : Int) := Int.natCast_nonneg _
      go_wp2_with fail
      refine wp_region_held_drew (S := fun w' => Below w0.heap.size w0 w') (by kernel_rfl) (hB'.out.drew) (fun hHeld => ?_)
      refine wpAnyH_take (i := 0) (v := .pointer (some ⟨p, 0, none⟩)) rfl (by kernel_rfl) (by kernel_rfl) (by kernel_rfl) (fun _ _ _ h => h) (Or.inl ⟨by rfl, fun w' hSw => by clear hSw; go_simp⟩) hHeld ?_
      change wpAnyH _ _ _ _ _ _ _ (Act.put _ (some 36) _) _
      simp only [Act.put, List.setIfInBounds_toArray, List.set_cons_zero, List.set_cons_succ]
      refine wpAnyH_take (i := 1) (v := .slice (some ⟨g, o, none⟩) n cv) rfl (by kernel_rfl) (by kernel_rfl) (by kernel_rfl) (fun _ _ _ h => h) (Or.inl ⟨by rfl, fun w' hSw => by clear hSw; go_simp⟩) hHeld ?_
      change wpAnyH _ _ _ _ _ _ _ (Act.put _ (some 37) _) _
      simp only [Act.put, List.setIfInBounds_toArray, List.set_cons_zero, List.set_cons_succ]
      refine wpAnyH_take (i := 2) (v := .int .i64 (i : Int)) rfl (by kernel_rfl) (by kernel_rfl) (by kernel_rfl) (fun _ _ _ h => h) (Or.inl ⟨by rfl, fun w' hSw => by clear hSw; go_simp⟩) hHeld ?_
      change wpAnyH _ _ _ _ _ _ _ (Act.put _ (some 38) _) _
      simp only [Act.put, List.setIfInBounds_toArray, List.set_cons_zero, List.set_cons_succ]
      refine wpAnyH_take (i := 3) (v := .pointer (some ⟨g, o + i * 4, none⟩)) rfl (by kernel_rfl) (by kernel_rfl) (by kernel_rfl) (fun _ _ _ h => h) (Or.inl ⟨by rfl, fun w' hSw => by clear hSw; go_simp⟩) hHeld ?_
      change wpAnyH _ _ _ _ _ _ _ (Act.put _ (some 39) _) _
      simp only [Act.put, List.setIfInBounds_toArray, List.set_cons_zero, List.set_cons_succ]
      refine wpAnyH_take (i := 4) (v := .pointer (some ⟨g, o + i * 4 + 1, none⟩)) rfl (by kernel_rfl) (by kernel_rfl) (by kernel_rfl) (fun _ _ _ h => h) (Or.inl ⟨by rfl, fun w' hSw => by clear hSw; go_simp⟩) hHeld ?_
      change wpAnyH _ _ _ _ _ _ _ (Act.put _ (some 40) _) _
      simp only [Act.put, List.setIfInBounds_toArray, List.set_cons_zero, List.set_cons_succ]
      refine wpAnyH_take (i := 5) (v := .int .i64 en) rfl (by kernel_rfl) (by kernel_rfl) (by kernel_rfl) (fun _ _ _ h => h) (Or.inl ⟨by rfl, fun w' hSw => by obtain ⟨q1, q2⟩ := hd.out _ hSw; go_simp⟩) hHeld ?_
      change wpAnyH _ _ _ _ _ _ _ (Act.put _ (some 41) _) _
      simp only [Act.put, List.setIfInBounds_toArray, List.set_cons_zero, List.set_cons_succ]
      refine wpAnyH_take (i := 6) (v := .int .i64 (en.tmod 6)) rfl (by kernel_rfl) (by kernel_rfl) (by kernel_rfl) (fun _ _ _ h => h) (Or.inl ⟨by rfl, fun w' hSw => by clear hSw; go_simp⟩) hHeld ?_
      change wpAnyH _ _ _ _ _ _ _ (Act.put _ (some 42) _) _
      simp only [Act.put, List.setIfInBounds_toArray, List.set_cons_zero, List.set_cons_succ]
      refine wpAnyH_take (i := 7) (v := .int .i64 (en.tmod 6 + 6)) rfl (by kernel_rfl) (by kernel_rfl) (by kernel_rfl) (fun _ _ _ h => h) (Or.inl ⟨by rfl, fun w' hSw => by clear hSw; go_simp⟩) hHeld ?_
      change wpAnyH _ _ _ _ _ _ _ (Act.put _ (some 43) _) _
      simp only [Act.put, List.setIfInBounds_toArray, List.set_cons_zero, List.set_cons_succ]
      refine wpAnyH_take (i := 8) (v := .int .i64 (kx : Int)) rfl (by kernel_rfl) (by kernel_rfl) (by kernel_rfl) (fun _ _ _ h => h) (Or.inl ⟨by rfl, fun w' hSw => by clear hSw; go_simp⟩) hHeld ?_
      change wpAnyH _ _ _ _ _ _ _ (Act.put _ (some 44) _) _
      simp only [Act.put, List.setIfInBounds_toArray, List.set_cons_zero, List.set_cons_succ]
      refine wpAnyH_take (i := 9) (v := .slice (some ⟨g, o, none⟩) n cv) rfl (by kernel_rfl) (by kernel_rfl) (by kernel_rfl) (fun _ _ _ h => h) (Or.inl ⟨by rfl, fun w' hSw => by clear hSw; go_simp⟩) hHeld ?_
      change wpAnyH _ _ _ _ _ _ _ (Act.put _ (some 45) _) _
      simp only [Act.put, List.setIfInBounds_toArray, List.set_cons_zero, List.set_cons_succ]
      refine wpAnyH_take (i := 10) (v := .int .i64 (i : Int)) rfl (by kernel_rfl) (by kernel_rfl) (by kernel_rfl) (fun _ _ _ h => h) (Or.inl ⟨by rfl, fun w' hSw => by clear hSw; go_simp⟩) hHeld ?_
      change wpAnyH _ _ _ _ _ _ _ (Act.put _ (some 46) _) _
      simp only [Act.put, List.setIfInBounds_toArray, List.set_cons_zero, List.set_cons_succ]
      refine wpAnyH_take (i := 11) (v := .pointer (some ⟨g, o + i * 4, none⟩)) rfl (by kernel_rfl) (by kernel_rfl) (by kernel_rfl) (fun _ _ _ h => h) (Or.inl ⟨by rfl, fun w' hSw => by clear hSw; go_simp⟩) hHeld ?_
      change wpAnyH _ _ _ _ _ _ _ (Act.put _ (some 47) _) _
      simp only [Act.put, List.setIfInBounds_toArray, List.set_cons_zero, List.set_cons_succ]
      refine wpAnyH_take (i := 12) (v := .pointer (some ⟨g, o + i * 4 + 2, none⟩)) rfl (by kernel_rfl) (by kernel_rfl) (by kernel_rfl) (fun _ _ _ h => h) (Or.inl ⟨by rfl, fun w' hSw => by clear hSw; go_simp⟩) hHeld ?_
      change wpAnyH _ _ _ _ _ _ _ (Act.put _ (some 48) _) _
      simp only [Act.put, List.setIfInBounds_toArray, List.set_cons_zero, List.set_cons_succ]
      refine wpAnyH_take (i := 13) (v := .string (str es)) rfl (by kernel_rfl) (by kernel_rfl) (by kernel_rfl) (fun _ _ _ h => h) (Or.inl ⟨by rfl, fun w' hSw => by obtain ⟨q1, q2⟩ := hd.out _ hSw; go_simp⟩) hHeld ?_
      change wpAnyH _ _ _ _ _ _ _ (Act.put _ (some 49) _) _
      simp only [Act.put, List.setIfInBounds_toArray, List.set_cons_zero, List.set_cons_succ]
      refine wpAnyH_ready (rs := [14]) (by kernel_rfl) (by simp) ?_
      refine AllReadyH.cons rfl (fun K hK => ?_) AllReadyH.nil
      go_simp
      refine (hPs.out _).mono ?_; rintro e w4 ⟨rfl, c4⟩; have hC4 := Hid.intro (hB'.out.drew.trans (c4.mono (show w0.heap.size ≤ wr.heap.size from sB))); have hA4 := Hid.intro (hPO'.out.drew.below c4); clear c4
      refine hK.out _ _ (hC4.out) (fun hHeld => ?_); clear hK K
      refine wpAnyH_ready (rs := [15]) (by kernel_rfl) (by simp) ?_
      refine AllReadyH.cons rfl (fun K hK => ?_) AllReadyH.nil
      go_simp
      refine (hLay.out _ hA4.out).mono ?_; rintro e w5 ⟨rfl, a5, c5⟩; have hA5 := Hid.intro a5; have hC5 := Hid.intro (hC4.out.trans (PO.fresh c5 hC4.out.size p1 p2 p3)); clear a5 c5
      refine hK.out _ _ (hC5.out) (fun hHeld => ?_); clear hK K
      refine wpAnyH_done (by kernel_rfl) ?_ _
      go_wp2
      go_roundw
      case rel => exact ⟨i + 1, M2, by omega, by go_num, hA5.out, hf2'.out, hC5.out⟩
      case measure => simp [intOf]; omega
    · have him : i = n := by omega
      subst him
      have i1 : ¬ (i : Int) < (i : Int) := by omega
      have hF := Hid.intro (fix_any hPO'.out)
      obtain ⟨e1, f1⟩ := hf'.out.fix
      rw [e1] at hF
      have hf1 := Hid.intro f1
      have hok1 := Hid.intro hPO'.out.ok.fixed
      have hW1 : Hid ((mFixed M).W = 0) := Hid.intro rfl
      clear e1 f1
      change Hid (Calls Try.prog 15 _ wr fun e w' => e = .returned (.int .i64 0) ∧ PO w' p gl gf (mFixed M) ∧ _) at hF
      generalize mFixed M = M1 at *
      obtain ⟨x0, x1, x2⟩ := six_facts k
      have hP' := Hid.intro (hP.out S)
      have hpl := Hid.intro (pgS_length S)
      generalize pgS S = Ps at *
      generalize hkx : six k = kx at *
      clear hkx
      have x0i : (kx : Int) < 6 := by omega
      have x0j : (0 : Int) ≤ (kx : Int) := Int.natCast_nonneg _
      have hz := zero48
      go_wp2_with fail
      refine hF.out.mono ?_; rintro e w4 ⟨rfl, a4, c4⟩
      have hA4 := Hid.intro (a4.below ((Below.refl _ _).alloc (Nat.le_refl _) (.cells z48 48)))
      have hC4 := Hid.intro ((hB'.out.trans (PO.fresh c4 sB p1 p2 p3)).alloc (Nat.le_trans sB c4.size) (.cells z48 48))
      have hS4 := Hid.intro (SA.new w4)
      have s4 : w0.heap.size ≤ w4.heap.size := Nat.le_trans sB c4.size
      have hb4 := a4.lt
      clear a4 c4 hPO' hB' hF
      go_wp2_with fail
      have hszA : (w4.alloc (.cells z48 48)).heap.size = w4.heap.size + 1 := by simp
      generalize w4.alloc (.cells z48 48) = w5 at *
      clear hz
      go_loopw [10] (fun jv wr => ∃ j : Nat, j ≤ 6 ∧ jv = .int .i64 (j : Int) ∧ PO wr p gl gf M1 ∧ SA wr w4.heap.size (M1.L.take j ++ List.replicate (6 - j) []) ∧ Below w0.heap.size w0 wr) (fun jv _ => 6 - (intOf jv).toNat)
      case atStart => exact ⟨0, by omega, rfl, hA4.out, hS4.out, hC4.out⟩
      case round =>
        obtain ⟨j, hj, rfl, hPOj, hSA, hBj⟩ := hrel
        have j0 : (0 : Int) ≤ (j : Int) := Int.natCast_nonneg _
        have hPOj' := Hid.intro hPOj
        have hSA' := Hid.intro hSA
        have hBj' := Hid.intro hBj
        have sBj := hBj.size
        have hlL := hf1.out.len
        by_cases hlt : j < 6
        · have j1 : (j : Int) < 6 := by omega
          have hG := Hid.intro (get_any hPOj (j : Int))
          rw [(hf1.out.get hlt).1, (hf1.out.get hlt).2] at hG
          have hcl : j < (M1.L.take j ++ List.replicate (6 - j) []).length := by simp; omega
          have hcc := hSA.cell hcl
          have hff := hSA.fro j
          have hset := Hid.intro (hSA.set j (pgAt M1.L j))
          have hstep : Hid ((M1.L.take j ++ List.replicate (6 - j) []).set j (pgAt M1.L j) = M1.L.take (j + 1) ++ List.replicate (6 - (j + 1)) []) := Hid.intro (by
            apply List.ext_getElem?
            intro t
            have ht : (M1.L.take j).length = j := by simp; omega
            have ht2 : (M1.L.take (j + 1)).length = j + 1 := by simp; omega
            by_cases e : j = t
            · subst e
              rw [List.getElem?_set_self hcl, List.getElem?_append_left (by omega), List.getElem?_take_of_lt (by omega), pgAt_some (by omega)]
            · rw [List.getElem?_set_ne e]
              by_cases c : t < j
              · rw [List.getElem?_append_left (by omega), List.getElem?_append_left (by omega), List.getElem?_take_of_lt c, List.getElem?_take_of_lt (by omega)]
              · rw [List.getElem?_append_right (by omega), List.getElem?_append_right (by omega), List.getElem?_replicate, List.getElem?_replicate, ht, ht2]
                by_cases c2 : t < 6
                · rw [if_pos (by omega), if_pos (by omega)]
                · rw [if_neg (by omega), if_neg (by omega)])
          generalize pgAt M1.L j = Pj at *
          have hK := Hid.intro (show Keep (fun b => b = w4.heap.size) wr (wr.setCell ⟨w4.heap.size, j, none⟩ (.string (str Pj))) from Keep.set rfl)
          clear hPOj hSA hBj
          go_wp2_with fail
          refine hG.out.mono ?_; rintro e w6 ⟨rfl, rfl⟩
          go_wp2
          go_roundw
          case rel => exact ⟨j + 1, by omega, by go_num, hPOj'.out.keep hK.out (fun b hb e => by have := hb4; rcases hb with rfl | rfl | rfl <;> omega), by rw [← hstep.out]; exact hset.out, hBj'.out.trans (hK.out.below (by omega) (fun b hb e => by omega))⟩
          case measure => simp [intOf]; omega
        · have hj6 : j = 6 := by omega
          subst hj6
          have j1 : ¬ (6 : Int) < 6 := by omega
          have hSA6 := Hid.intro (show SA wr w4.heap.size M1.L from by
            have := hSA
            rw [List.take_of_length_le (by omega), show 6 - 6 = 0 by rfl, List.replicate_zero, List.append_nil] at this; exact this)
          obtain ⟨r1, r2, r3, r4⟩ := hf1.out.rot hW1.out (by omega : kx < 6) hpl.out
          have hR := Hid.intro (fun w' (g : PO w' p gl gf M1) => rot_any g (kx : Int) Ps)
          rw [r1] at hR
          have hfit6 : Hid (fitB (mRot M1 (kx : Int) Ps) 6 Ps = false) := Hid.intro (by unfold fitB; rw [r2.len]; simp)
          have hfit0 : Hid (fitB (mRot M1 (kx : Int) Ps) (kx : Int) [] = false) := Hid.intro (by unfold fitB; simp)
          have hR6 := Hid.intro (fun w' (g : PO w' p gl gf (mRot M1 (kx : Int) Ps)) => rot_any g 6 Ps)
          have hR0 := Hid.intro (fun w' (g : PO w' p gl gf (mRot M1 (kx : Int) Ps)) => rot_any g (kx : Int) [])
          rw [rot_not hfit6.out, hfit6.out] at hR6
          rw [rot_not hfit0.out, hfit0.out] at hR0
          have hM2 := Hid.intro (And.intro r2 (And.intro r3 r4))
          clear r1 r2 r3 r4 hfit6 hfit0 hPOj hSA hBj hSA'
          change Hid (∀ w', _ → Calls Try.prog 23 _ w' fun e w'' => e = .returned (.bool true) ∧ PO w'' p gl gf (mRot M1 (kx : Int) Ps) ∧ _) at hR
          generalize mRot M1 (kx : Int) Ps = M2 at *
          generalize hwb : w4.heap.size = bw at *
          have hKB := Hid.intro (fun (w' w'' : World) (hk : Keep (Fp p gl gf) w' w'') (hs : SA w' bw M1.L) => hs.keep (hk.block bw hs.lt (fun e => by rcases e with e | e | e <;> omega)))
          clear hwb hA4 hC4 hS4 hszA
          go_wp2_with fail
          refine (hP'.out _).mono ?_; rintro e w6 ⟨rfl, c6⟩
          have hA6 := Hid.intro (hPOj'.out.below c6)
          have hC6 := Hid.intro (hBj'.out.trans (c6.mono sBj))
          have hS6 := Hid.intro (hSA6.out.below c6)
          have s6 := hC6.out.size
          clear c6 hPOj' hBj' hSA6
          go_wp2_with fail
          refine (hR.out _ hA6.out).mono ?_; rintro e w7 ⟨rfl, a7, c7⟩
          have hA7 := Hid.intro a7
          have hC7 := Hid.intro (hC6.out.trans (PO.fresh c7 s6 p1 p2 p3))
          have hS7 := Hid.intro (hKB.out _ _ c7 hS6.out)
          have s7 := hC7.out.size
          clear a7 c7 hA6 hC6 hS6
          go_wp2_with fail
          refine (hP'.out _).mono ?_; rintro e w8 ⟨rfl, c8⟩
          have hA8 := Hid.intro (hA7.out.below c8)
          have hC8 := Hid.intro (hC7.out.trans (c8.mono s7))
          have hS8 := Hid.intro (hS7.out.below c8)
          have s8 := hC8.out.size
          clear c8 hA7 hC7 hS7
          go_wp2_with fail
          refine (hR6.out _ hA8.out).mono ?_; rintro e w9 ⟨rfl, a9, c9⟩
          have hA9 := Hid.intro a9
          have hC9 := Hid.intro (hC8.out.trans (PO.fresh c9 s8 p1 p2 p3))
          have hS9 := Hid.intro (hKB.out _ _ c9 hS8.out)
          have s9 := hC9.out.size
          clear a9 c9 hA8 hC8 hS8
          go_wp2_with fail
          refine (hR0.out _ hA9.out).mono ?_; rintro e w10 ⟨rfl, a10, c10⟩
          have hA10 := Hid.intro a10
          have hC10 := Hid.intro (hC9.out.trans (PO.fresh c10 s9 p1 p2 p3))
          have hS10 := Hid.intro (hKB.out _ _ c10 hS9.out)
          have s10 := hC10.out.size
          clear a10 c10 hA9 hC9 hS9
          go_wp2_with fail
          refine (hP'.out _).mono ?_; rintro e w11 ⟨rfl, c11⟩
          have hA11 := Hid.intro (hA10.out.below c11)
          have hC11 := Hid.intro (hC10.out.trans (c11.mono s10))
          have hS11 := Hid.intro (hS10.out.below c11)
          have s11 := hC11.out.size
          clear c11 hA10 hC10 hS10
          have hcc := hS11.out.cell (k := kx) (by rw [hlL]; omega)
          have hff := hS11.out.fro kx
          have hS12 := Hid.intro (hS11.out.set kx Ps)
          have hK12 := Hid.intro (show Keep (fun b => b = bw) w11 (w11.setCell ⟨bw, kx, none⟩ (.string (str Ps))) from Keep.set rfl)
          have hA12 := Hid.intro (hA11.out.keep hK12.out (fun b hb e => by rcases hb with rfl | rfl | rfl <;> omega))
          have hC12 := Hid.intro (hC11.out.trans (hK12.out.below s11 (fun b hb e => by omega)))
          have hFl := Hid.intro (off_any hA12.out (show BoolsAt _ (.slice none 0 0) [] from .inl ⟨rfl, _, _, rfl⟩) (by decide))
          rw [off_none hM2.out.1.on hM2.out.2.1] at hFl
          clear hA11 hC11 hS11 hK12
          go_wp2_with fail
          generalize w11.setCell ⟨bw, kx, none⟩ (.string (str Ps)) = w12 at *
          have s12 := hC12.out.size
          refine hFl.out.mono ?_; rintro e w13 ⟨u, rfl, a13, o13, c13⟩
          have hA13 := Hid.intro a13
          have hC13 := Hid.intro (hC12.out.trans (PO.fresh c13 s12 p1 p2 p3))
          have hS13 := Hid.intro (hS12.out.keep (c13.block bw hS12.out.lt (fun e => by rcases e with e | e | e <;> omega)))
          have s13 := hC13.out.size
          have hPw := Hid.intro (power_any a13)
          clear a13 c13 o13 hA12 hC12 hS12 hFl hcc hff
          go_wp2_with fail
          refine hPw.out.mono ?_; rintro e w14 ⟨rfl, a14, c14⟩
          have hA14 := Hid.intro a14
          have hC14 := Hid.intro (hC13.out.trans (PO.fresh c14 s13 p1 p2 p3))
          have hS14 := Hid.intro (hS13.out.keep (c14.block bw hS13.out.lt (fun e => by rcases e with e | e | e <;> omega)))
          have s14 := hC14.out.size
          have hf3 : Hid (Free (mPower ⟨false, M2.L, M2.X, 0, -1, 0⟩) 6 ∧ (mPower ⟨false, M2.L, M2.X, 0, -1, 0⟩).L = M1.L.set kx Ps) := Hid.intro ⟨⟨rfl, rfl, hM2.out.1.len⟩, hM2.out.2.2⟩
          generalize mPower ⟨false, M2.L, M2.X, 0, -1, 0⟩ = M3 at *
          clear a14 c14 hA13 hC13 hS13 hPw
          go_wp2_with fail
          go_loopw [11] (fun tv wr => ∃ t : Nat, t ≤ 6 ∧ tv = .int .i64 (t : Int) ∧ wr = w14) (fun tv _ => 6 - (intOf tv).toNat)
          case atStart => exact ⟨0, by omega, rfl, rfl⟩
          case round =>
            obtain ⟨t, ht, rfl, rfl⟩ := hrel
            have t0 : (0 : Int) ≤ (t : Int) := Int.natCast_nonneg _
            by_cases hlt6 : t < 6
            · have t1 : (t : Int) < 6 := by omega
              have hG := Hid.intro (get_any hA14.out (t : Int))
              rw [(hf3.out.1.get hlt6).1, (hf3.out.1.get hlt6).2, hf3.out.2] at hG
              have hcc := hS14.out.cell (k := t) (by rw [List.length_set, hlL]; omega)
              generalize pgAt (M1.L.set kx Ps) t = Pt at *
              go_wp2_with fail
              refine hG.out.mono ?_; rintro e w15 ⟨rfl, rfl⟩
              go_wp2
              go_roundw
              case rel => exact ⟨t + 1, by omega, by go_num, trivial⟩
              case measure => simp [intOf]; omega
            · have t1 : ¬ (t : Int) < 6 := by omega
              go_wp2
              go_ret
              exact ⟨rfl, hC14.out⟩
theorem rots_any {v : Value} {l : List OpE} (k : Int) (S : List UInt8) {w : World} (_hk : k ≤ 9223372036854775807) (hv : OpsAt w v l) : Calls Try.prog 6 #[v, .int .i64 k, .string (str S)] w fun e w' => e = .returned (.bool true) ∧ Below w.heap.size w w' := by
  cases hL : LightB l with
  | false => exact rots_early hv (.inl hL)
  | true =>
    by_cases h : S.length ≤ 60
    · exact rots_walk hv hL h
    · exact rots_early hv (.inr (by omega))
end Go.Proofs.Ytjjfdkgnagfbcaa
