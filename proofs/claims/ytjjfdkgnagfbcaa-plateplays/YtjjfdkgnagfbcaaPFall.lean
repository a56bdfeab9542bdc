/-
  The contract of plate's fall: the power goes; of the wet pages those that are not kept are lost.
-/
import Derived.Test.YtjjfdkgnagfbcaaPBits
import Derived.Deep.Cut
import Derived.Deep.CutBlock
namespace Go.Proofs.Ytjjfdkgnagfbcaa
open Go.ChangeShapes Go.WideShapes Go.ChangeAt Go.RowKit
attribute [local go_sem ↓] Go.wp_at_zero Go.wp_at_succ
attribute [local go_sem] str_size str_extract str_append str_toList

theorem own_keep {w w' : World} {base : Nat} {e : TypeId} {sz n : Nat} {v : Value} {xs : List Value} (h : w.ownsRow base e sz v n xs) (hs : ∀ g, v.ownBlock = some g → base ≤ g → w'.heap[g]? = w.heap[g]?) : w'.ownsRow base e sz v n xs := by
  refine ⟨h.1, ?_⟩
  rcases h.2 with h2 | ⟨g, cap, cur, hv, hb, hg, hr⟩
  · exact .inl h2
  · exact .inr ⟨g, cap, cur, hv, hb, by rw [hs g (by rw [hv]; rfl) hb]; exact hg, hr⟩
theorem own_lt {w : World} {base : Nat} {e : TypeId} {sz n g : Nat} {v : Value} {xs : List Value} (h : w.ownsRow base e sz v n xs) (hg : v.ownBlock = some g) : g < w.heap.size := (h.lt g hg).2
theorem own_mono {w : World} {base b2 : Nat} {e : TypeId} {sz n : Nat} {v : Value} {xs : List Value} (h : w.ownsRow base e sz v n xs) (hb : b2 ≤ base) : w.ownsRow b2 e sz v n xs := by
  refine ⟨h.1, ?_⟩
  rcases h.2 with h2 | ⟨g, cap, cur, hv, hg, hr⟩
  · exact .inl h2
  · exact .inr ⟨g, cap, cur, hv, Nat.le_trans hb hg, hr⟩
theorem own_form {w : World} {base : Nat} {e : TypeId} {size : Nat} {v : Value} {n : Nat} {xs : List Value} (h : w.ownsRow base e size v n xs) : ∃ a c, v = .slice a n c := by
  rcases h.2 with ⟨rfl, rfl⟩ | ⟨g, cap, cur, hv, _⟩
  · exact ⟨_, _, rfl⟩
  · exact ⟨_, _, hv⟩
theorem own_int {w : World} {base n c i k : Nat} {a : Option Addr} {l : List Nat} (h : w.ownsRow base 3 1 (.slice a n c) n (intsV l)) (hi : l[i]? = some k) : ∃ g, a = some ⟨g, 0, none⟩ ∧ base ≤ g ∧ w.cell? ⟨g, i, none⟩ = some (.int .i64 (k : Int)) := by
  have hl : l.length = n := by have := h.1; simpa [intsV] using this
  have hil := (List.getElem?_eq_some_iff.1 hi).1
  obtain ⟨g, cap, hv, hb, hg⟩ := h.form (by omega)
  cases hv
  refine ⟨g, rfl, hb, ?_⟩
  rw [World.ownsRow.cellAt h i (by omega)]
  simp [intsV, hi]

/-- The memory of a plate. -/
def PMem (w : World) (p gl gf : Nat) (M : MS) : Prop := ∃ vl vf, w.heap[p]? = some (.cells (boxC M.on vl vf M.W M.left M.K).toArray 59 (0, 0)) ∧ RW w gl vl M.L ∧ RW w gf vf M.X
theorem PMem.keep {w w' : World} {p gl gf : Nat} {M : MS} (h : PMem w p gl gf M) (e : ∀ k, Fp p gl gf k → w'.heap[k]? = w.heap[k]?) : PMem w' p gl gf M := by
  obtain ⟨vl, vf, h1, h2, h3⟩ := h
  exact ⟨vl, vf, by rw [e p (.inl rfl)]; exact h1, h2.keep (e gl (.inr (.inl rfl))), h3.keep (e gf (.inr (.inr rfl)))⟩
theorem PMem.drew {w : World} {p gl gf : Nat} {M : MS} (h : PMem w p gl gf M) : PMem w.drew p gl gf M := h.keep fun _ _ => rfl
theorem PMem.lt {w : World} {p gl gf : Nat} {M : MS} (h : PMem w p gl gf M) : ∀ k, Fp p gl gf k → k < w.heap.size := by
  obtain ⟨vl, vf, h1, h2, h3⟩ := h
  rintro k (rfl | rfl | rfl)
  · exact lt_of_block h1
  · exact h2.lt
  · exact h3.lt
theorem PMem.below {w w' : World} {p gl gf : Nat} {M : MS} (h : PMem w p gl gf M) (hb : Below w.heap.size w w') : PMem w' p gl gf M := h.keep fun k hk => hb.block k (h.lt k hk)
theorem PMem.storeL {w : World} {p gl gf k : Nat} {M : MS} {S : List UInt8} (h : PMem w p gl gf M) (hk : k < M.L.length) (hS : S.length = 32) (h1 : p ≠ gl) (h2 : gl ≠ gf) : PMem (w.setCells gl (k * 32) (S.map bV)) p gl gf { M with L := M.L.set k S } := by
  obtain ⟨vl, vf, g1, g2, g3⟩ := h
  exact ⟨vl, vf, by rw [setCells_other _ _ _ _ _ h1]; exact g1, g2.store hk hS rfl, g3.keep (setCells_other _ _ _ _ _ h2.symm)⟩
theorem PMem.storeX {w : World} {p gl gf k : Nat} {M : MS} {S : List UInt8} (h : PMem w p gl gf M) (hk : k < M.X.length) (hS : S.length = 32) (h1 : p ≠ gf) (h2 : gl ≠ gf) : PMem (w.setCells gf (k * 32) (S.map bV)) p gl gf { M with X := M.X.set k S } := by
  obtain ⟨vl, vf, g1, g2, g3⟩ := h
  exact ⟨vl, vf, by rw [setCells_other _ _ _ _ _ h1]; exact g1, g2.keep (setCells_other _ _ _ _ _ h2), g3.store hk hS rfl⟩
/-- What a region that lays a page over another one reads. -/
theorem PMem.reads {w : World} {p gl gf k : Nat} {M : MS} (h : PMem w p gl gf M) (hL : k < M.L.length) (hX : M.X.length = M.L.length) : ∃ cl cf, M.L.length ≤ cl ∧ M.L.length ≤ cf ∧ w.cell? ⟨p, 2, none⟩ = some (.slice (some ⟨gl, 0, none⟩) M.L.length cl) ∧ w.cell? ⟨p, 3, none⟩ = some (.slice (some ⟨gf, 0, none⟩) M.L.length cf) ∧
    w.rangeAt gl (k * 32) ((pgAt M.L k).map bV) ∧ w.rangeAt gf (k * 32) ((pgAt M.X k).map bV) ∧ w.there gl (k * 32) 32 ∧ w.there gf (k * 32) 32 ∧ (pgAt M.L k).length = 32 ∧ (pgAt M.X k).length = 32 := by
  obtain ⟨vl, vf, g1, g2, g3⟩ := h
  have hc := cells_of g1
  obtain ⟨cl, rfl, hcl⟩ := g2.form
  obtain ⟨cf, rfl, hcf⟩ := g3.form
  obtain ⟨r1, t1⟩ := g2.range (pgAt_some hL)
  obtain ⟨r2, t2⟩ := g3.range (pgAt_some (by omega : k < M.X.length))
  exact ⟨cl, cf, hcl, by omega, hc.c2, by rw [← hX]; exact hc.c3, r1, r2, t1, t2, pgAt_len g2.len hL, pgAt_len g3.len (by omega)⟩
theorem size67 : (Try.prog.info? 67).map (·.size) = some 32 := by kernel_rfl
theorem und67 : Try.prog.underlying 67 = some (.array 32 5) := by kernel_rfl
def wl (M : MS) : List Nat := keptL M.W M.L.length
theorem fl_next {K i k : Nat} {l : List Nat} {s : T3} (h : l[i]? = some k) : fl K i (l.drop i) s = fl K (i + 1) (l.drop (i + 1)) (stp K i k s) := by
  obtain ⟨hi, rfl⟩ := List.getElem?_eq_some_iff.1 h
  rw [List.drop_eq_getElem_cons hi, fl]
theorem drop_next {i k : Nat} {l : List Nat} (h : l[i]? = some k) : l.drop i = k :: l.drop (i + 1) := by
  obtain ⟨hi, rfl⟩ := List.getElem?_eq_some_iff.1 h
  exact List.drop_eq_getElem_cons hi

set_option maxHeartbeats 4000000 in
set_option maxRecDepth 100000 in
theorem fall_any {w : World} {p gl gf : Nat} {M : MS} (h : PO w p gl gf M) (K : Nat) (hK : K < 18446744073709551616) :
    Calls Try.prog 34 #[.pointer (some ⟨p, 0, none⟩), .agg (wv K).toArray] w fun e w' => ∃ v, e = .returned v ∧ PO w' p gl gf (mFall M K) ∧ w'.ownsRow w.heap.size 3 1 v (lostL M K).length (intsV (lostL M K)) ∧ Keep (Fp p gl gf) w w' := by
  obtain ⟨ti0, hi0, hz0', hz1', hz2'⟩ := info_parts Try.info3
  obtain ⟨hap1, hap2⟩ := h.apart
  have hne := h.ne
  have hok := Hid.intro h.ok
  have hlt := Hid.intro h.lt
  have hfin := Hid.intro (hok.out.fall K)
  have hstart := Hid.intro hok.out.start
  have hn60 := h.ok.n60
  have hB1 := Hid.intro (show Below w.heap.size w (w.alloc (.cells (wv K).toArray 57)) from (Below.refl _ _).alloc (Nat.le_refl _) _)
  have hWB := Hid.intro (show WB (w.alloc (.cells (wv K).toArray 57)) w.heap.size K from heap_alloc_new w _)
  have hP1 := Hid.intro (h.below hB1.out)
  have hwet := Hid.intro (wet_any hP1.out)
  have hsz1 : (w.alloc (.cells (wv K).toArray 57)).heap.size = w.heap.size + 1 := by simp
  have hz := zero57
  clear h
  go_enter Try.func34, Try.ntmps34
  go_wp2_with fail
  generalize w.alloc (.cells (wv K).toArray 57) = w1 at *
  refine hwet.out.mono ?_; rintro e w2 ⟨vw, rfl, hvw, hB2⟩
  obtain ⟨aw, cw, rfl⟩ := own_form hvw
  have hB2' := Hid.intro hB2
  have hvw' := Hid.intro hvw
  have hP2 := Hid.intro (hP1.out.below hB2)
  have hWB2 := Hid.intro (show WB w2 w.heap.size K from by show w2.heap[w.heap.size]? = _; rw [hB2.block _ (by omega)]; exact hWB.out)
  have hsz2 := hB2.size
  have hnl : (keptL M.W M.L.length).length ≤ 60 := Nat.le_trans (keptL_length _ _) hn60
  generalize hn : (keptL M.W M.L.length).length = n at *
  have hn' := Hid.intro hn
  clear hvw hB2 hn hwet
  go_wp2_with fail
  go_loopw [5, 11] (fun v iv wr => ∃ (i : Nat) (s : T3), i ≤ n ∧ iv = .int .i64 (i : Int) ∧ PMem wr p gl gf { M with L := s.L, X := s.X } ∧ wr.ownsRow w.heap.size 3 1 v s.lost.length (intsV s.lost) ∧ (∀ g, v.ownBlock = some g → w2.heap.size ≤ g) ∧
      Keep (Fp p gl gf) w wr ∧ WB wr w.heap.size K ∧ wr.ownsRow w1.heap.size 3 1 (.slice aw n cw) n (intsV (keptL M.W M.L.length)) ∧ FO M.L.length ((keptL M.W M.L.length).drop i) s ∧ fl K i ((keptL M.W M.L.length).drop i) s = fallT M K ∧ s.lost.length ≤ i ∧ w2.heap.size ≤ wr.heap.size) (fun _ iv _ => n - (intOf iv).toNat)
  case atStart =>
    exact ⟨0, ⟨M.L, M.X, []⟩, Nat.zero_le _, rfl, hP2.out.mem, World.ownsRow_nil _ _ _ _, (fun g hg => by cases hg), Keep.of (hB1.out.trans (hB2'.out.mono (by omega))), hWB2.out, hvw'.out, by rw [List.drop_zero]; exact hstart.out, by rw [List.drop_zero]; rfl, Nat.le_refl _, Nat.le_refl _⟩
  case round =>
    obtain ⟨i, s, hi, rfl, hM, hv, hvg, hKp, hwb, hwv, hFO, hfl, hll, hszr⟩ := hrel
    have i0 : (0 : Int) ≤ (i : Int) := Int.natCast_nonneg _
    obtain ⟨av, cv, rfl⟩ := own_form hv
    by_cases hlt1 : i < n
    · have i1 : (i : Int) < (n : Int) := by omega
      obtain ⟨k, hk⟩ : ∃ k, (keptL M.W M.L.length)[i]? = some k := ⟨_, List.getElem?_eq_getElem (by have := hn'.out; omega)⟩
      obtain ⟨gw, rfl, hgw, hcw⟩ := own_int hwv hk
      rw [drop_next hk] at hFO
      have hkn := hFO.rest k (by simp)
      have hFO2 := Hid.intro (hFO.step (K := K) (i := i))
      have hfl2 := Hid.intro ((fl_next (K := K) (s := s) hk).symm.trans hfl)
      have lL : ({ M with L := s.L, X := s.X } : MS).L.length = M.L.length := hFO.lL
      have lX : ({ M with L := s.L, X := s.X } : MS).X.length = M.L.length := hFO.lX
      have hM' := Hid.intro hM
      obtain ⟨cl, cf, hcl, hcf, d2, d3, rL, rX, tL, tX, pL, pX⟩ := hM.reads (k := k) (by omega) (by omega)
      rw [lL] at d2 d3 hcl hcf
      have hh := Hid.intro (bhas_any i hwb.cell.1 hK (by omega))
      have hv' := Hid.intro hv
      have hvg' := Hid.intro hvg
      have hKp' := Hid.intro hKp
      have hwb' := Hid.intro hwb
      have hwv' := Hid.intro hwv
      have rL' := Hid.intro rL
      have rX' := Hid.intro rX
      have tL' := Hid.intro tL
      have tX' := Hid.intro tX
      have d2' := Hid.intro d2
      have d3' := Hid.intro d3
      have hlL := Hid.intro lL
      have hlX := Hid.intro lX
      have hapb : Hid (∀ k, Fp p gl gf k → k < w.heap.size) := Hid.intro (fun k hk => by rcases hk with rfl | rfl | rfl <;> first | exact hlt.out.1 | exact hlt.out.2.1 | exact hlt.out.2.2)
      have hwg : gw < wr.heap.size := own_lt hwv rfl
      have hw1s : w.heap.size < w1.heap.size := by omega
      clear hM hv hvg hKp hwb hwv hFO hfl rL rX tL tX lL lX d2 d3
      have k0 : (0 : Int) ≤ (k : Int) := Int.natCast_nonneg _
      have k1 : (k : Int) < (M.L.length : Int) := by omega
      generalize hbL : pgAt s.L k = PL at *
      generalize hbX : pgAt s.X k = PX at *
      have hbL' := Hid.intro hbL
      have hbX' := Hid.intro hbX
      clear hbL hbX
      generalize hnn : M.L.length = nn at *
      have hnn' := Hid.intro hnn
      clear hnn
      cases hb : K.testBit i with
      | true =>
        rw [hb] at hh
        have hs2 : Hid (stp K i k s = { s with X := s.X.set k PL }) := Hid.intro (by unfold stp; rw [if_pos hb, hbL'.out])
        clear hb
        go_wp2_with fail
        refine hh.out.mono ?_; rintro e w4 ⟨rfl, rfl⟩
        go_wp2_with fail
        refine wp_region_held_drew (S := fun w' => w'.cell? ⟨p, 3, none⟩ = some (.slice (some ⟨gf, 0, none⟩) nn cf) ∧ w'.cell? ⟨p, 2, none⟩ = some (.slice (some ⟨gl, 0, none⟩) nn cl) ∧ w'.rangeAt gl (k * 32) (PL.map bV) ∧ w'.there gf (k * 32) 32) (by kernel_rfl) (⟨d3'.out, d2'.out, rL'.out, tX'.out⟩) (fun hHeld => ?_)
        refine wpAnyH_take (i := 0) (v := .pointer (some ⟨p, 0, none⟩)) rfl (by kernel_rfl) (by kernel_rfl) (by kernel_rfl) (fun _ _ _ h => h) (Or.inl ⟨by rfl, fun w' hSw => by clear hSw; go_simp⟩) hHeld ?_
        change wpAnyH _ _ _ _ _ _ _ (Act.put _ (some 18) _) _
        simp only [Act.put, List.setIfInBounds_toArray, List.set_cons_zero, List.set_cons_succ]
        refine wpAnyH_take (i := 1) (v := .pointer (some ⟨p, 0, none⟩)) rfl (by kernel_rfl) (by kernel_rfl) (by kernel_rfl) (fun _ _ _ h => h) (Or.inl ⟨by rfl, fun w' hSw => by clear hSw; go_simp⟩) hHeld ?_
        change wpAnyH _ _ _ _ _ _ _ (Act.put _ (some 19) _) _
        simp only [Act.put, List.setIfInBounds_toArray, List.set_cons_zero, List.set_cons_succ]
        refine wpAnyH_take (i := 2) (v := .pointer (some ⟨p, 3, none⟩)) rfl (by kernel_rfl) (by kernel_rfl) (by kernel_rfl) (fun _ _ _ h => h) (Or.inl ⟨by rfl, fun w' hSw => by clear hSw; go_simp⟩) hHeld ?_
        change wpAnyH _ _ _ _ _ _ _ (Act.put _ (some 20) _) _
        simp only [Act.put, List.setIfInBounds_toArray, List.set_cons_zero, List.set_cons_succ]
        refine wpAnyH_take (i := 3) (v := .slice (some ⟨gf, 0, none⟩) nn cf) rfl (by kernel_rfl) (by kernel_rfl) (by kernel_rfl) (fun _ _ _ h => h) (Or.inl ⟨by rfl, fun w' hSw => by obtain ⟨s0, s1, _, _⟩ := hSw; go_simp⟩) hHeld ?_
        change wpAnyH _ _ _ _ _ _ _ (Act.put _ (some 21) _) _
        simp only [Act.put, List.setIfInBounds_toArray, List.set_cons_zero, List.set_cons_succ]
        refine wpAnyH_take (i := 4) (v := .int .i64 (k : Int)) rfl (by kernel_rfl) (by kernel_rfl) (by kernel_rfl) (fun _ _ _ h => h) (Or.inl ⟨by rfl, fun w' hSw => by clear hSw; go_simp⟩) hHeld ?_
        change wpAnyH _ _ _ _ _ _ _ (Act.put _ (some 22) _) _
        simp only [Act.put, List.setIfInBounds_toArray, List.set_cons_zero, List.set_cons_succ]
        refine wpAnyH_take (i := 5) (v := .pointer (some ⟨p, 0, none⟩)) rfl (by kernel_rfl) (by kernel_rfl) (by kernel_rfl) (fun _ _ _ h => h) (Or.inl ⟨by rfl, fun w' hSw => by clear hSw; go_simp⟩) hHeld ?_
        change wpAnyH _ _ _ _ _ _ _ (Act.put _ (some 23) _) _
        simp only [Act.put, List.setIfInBounds_toArray, List.set_cons_zero, List.set_cons_succ]
        refine wpAnyH_take (i := 6) (v := .pointer (some ⟨p, 0, none⟩)) rfl (by kernel_rfl) (by kernel_rfl) (by kernel_rfl) (fun _ _ _ h => h) (Or.inl ⟨by rfl, fun w' hSw => by clear hSw; go_simp⟩) hHeld ?_
        change wpAnyH _ _ _ _ _ _ _ (Act.put _ (some 24) _) _
        simp only [Act.put, List.setIfInBounds_toArray, List.set_cons_zero, List.set_cons_succ]
        refine wpAnyH_take (i := 7) (v := .pointer (some ⟨p, 2, none⟩)) rfl (by kernel_rfl) (by kernel_rfl) (by kernel_rfl) (fun _ _ _ h => h) (Or.inl ⟨by rfl, fun w' hSw => by clear hSw; go_simp⟩) hHeld ?_
        change wpAnyH _ _ _ _ _ _ _ (Act.put _ (some 25) _) _
        simp only [Act.put, List.setIfInBounds_toArray, List.set_cons_zero, List.set_cons_succ]
        refine wpAnyH_take (i := 8) (v := .slice (some ⟨gl, 0, none⟩) nn cl) rfl (by kernel_rfl) (by kernel_rfl) (by kernel_rfl) (fun _ _ _ h => h) (Or.inl ⟨by rfl, fun w' hSw => by obtain ⟨s0, s1, _, _⟩ := hSw; go_simp⟩) hHeld ?_
        change wpAnyH _ _ _ _ _ _ _ (Act.put _ (some 26) _) _
        simp only [Act.put, List.setIfInBounds_toArray, List.set_cons_zero, List.set_cons_succ]
        refine wpAnyH_take (i := 9) (v := .int .i64 (k : Int)) rfl (by kernel_rfl) (by kernel_rfl) (by kernel_rfl) (fun _ _ _ h => h) (Or.inl ⟨by rfl, fun w' hSw => by clear hSw; go_simp⟩) hHeld ?_
        change wpAnyH _ _ _ _ _ _ _ (Act.put _ (some 27) _) _
        simp only [Act.put, List.setIfInBounds_toArray, List.set_cons_zero, List.set_cons_succ]
        refine wpAnyH_take (i := 10) (v := .pointer (some ⟨gl, k * 32, none⟩)) rfl (by kernel_rfl) (by kernel_rfl) (by kernel_rfl) (fun _ _ _ h => h) (Or.inl ⟨by rfl, fun w' hSw => by clear hSw; go_simp⟩) hHeld ?_
        change wpAnyH _ _ _ _ _ _ _ (Act.put _ (some 28) _) _
        simp only [Act.put, List.setIfInBounds_toArray, List.set_cons_zero, List.set_cons_succ]
        refine wpAnyH_take (i := 11) (v := .agg (PL.map bV).toArray) rfl (by kernel_rfl) (by kernel_rfl) (by kernel_rfl) (fun _ _ _ h => h) (yieldsIf_load_mid (by rfl) 67 _ rfl gl (k * 32) rfl (PL.map bV) _ (fun _ h => h.2.2.1) und67 rfl (by rw [List.length_map, pL]; exact size67)) hHeld ?_
        change wpAnyH _ _ _ _ _ _ _ (Act.put _ (some 29) _) _
        simp only [Act.put, List.setIfInBounds_toArray, List.set_cons_zero, List.set_cons_succ]
        refine wpAnyH_take (i := 12) (v := .pointer (some ⟨gf, k * 32, none⟩)) rfl (by kernel_rfl) (by kernel_rfl) (by kernel_rfl) (fun _ _ _ h => h) (Or.inl ⟨by rfl, fun w' hSw => by clear hSw; go_simp⟩) hHeld ?_
        change wpAnyH _ _ _ _ _ _ _ (Act.put _ (some 30) _) _
        simp only [Act.put, List.setIfInBounds_toArray, List.set_cons_zero, List.set_cons_succ]
        refine wpAnyH_ready (rs := [13]) (by kernel_rfl) (by simp) ?_
        refine AllReadyH.cons rfl (fun K hK => ?_) AllReadyH.nil
        rw [if_pos (by rfl)]
        refine wp_store_mid 67 _ _ rfl gf (k * 32) (PL.map bV).toArray rfl rfl (by simpa [pL] using hHeld.2.2.2) (by simpa [pL] using size67) (all_oneCell_toArray (bV_all _)) ?_
        refine hK.out _ (w4.drew.setCells gf (k * 32) (PL.map bV)) ⟨?_, ?_, ?_, ?_⟩ (fun hHeld => ?_)
        · rw [World.cell?_of_block (w := w4.drew) (setCells_other _ _ _ _ _ hap2)]; exact d3'.out
        · rw [World.cell?_of_block (w := w4.drew) (setCells_other _ _ _ _ _ hap2)]; exact d2'.out
        · exact World.rangeAt_setCells_apart (w := w4.drew) rL'.out _ _ _ (.inl hne)
        · exact World.there_setCells (w := w4.drew) tX'.out _ _ _
        clear hK K
        refine wpAnyH_done (by kernel_rfl) ?_ _
        have hM5 := Hid.intro (hM'.out.drew.storeX (k := k) (S := PL) (by have := hlX.out; have := hnn'.out; simp only at *; omega) pL hap2 hne)
        have hother : Hid (∀ j, w.heap.size ≤ j → (w4.drew.setCells gf (k * 32) (PL.map bV)).heap[j]? = w4.heap[j]?) := Hid.intro (fun j hj => setCells_other _ _ _ _ _ (fun e => by have := hapb.out gf (.inr (.inr rfl)); omega))
        have hszz : (w4.drew.setCells gf (k * 32) (PL.map bV)).heap.size = w4.heap.size := (setCells_facts _ _ _ _).2.2.2
        have hKp5 := Hid.intro (hKp'.out.then ((Keep.of (F := Fp p gl gf) below_drw).then (Keep.sets (o := k * 32) (vs := PL.map bV) (.inr (.inr rfl)))))
        generalize w4.drew.setCells gf (k * 32) (PL.map bV) = w5 at *
        go_wp2
        go_roundw
        case rel =>
          refine ⟨i + 1, stp K i k s, by omega, by go_num, by rw [hs2.out]; exact hM5.out, ?_, hvg'.out, hKp5.out, ?_, ?_, hFO2.out, hfl2.out, by rw [hs2.out]; simp only; omega, by omega⟩
          · rw [hs2.out]; exact own_keep hv'.out fun g _ hg => hother.out g hg
          · show w5.heap[w.heap.size]? = _
            rw [hother.out _ (Nat.le_refl _)]; exact hwb'.out
          · exact own_keep hwv'.out fun g _ hg => hother.out g (by omega)
        case measure => simp [intOf]; omega
      | false =>
        rw [hb] at hh
        have hs2 : Hid (stp K i k s = { s with L := s.L.set k PX, lost := s.lost ++ [k] }) := Hid.intro (by unfold stp; rw [hb, hbX'.out]; simp)
        clear hb
        go_wp2_with fail
        refine hh.out.mono ?_; rintro e w4 ⟨rfl, rfl⟩
        go_wp2_with fail
        refine wp_region_held_drew (S := fun w' => w'.cell? ⟨p, 2, none⟩ = some (.slice (some ⟨gl, 0, none⟩) nn cl) ∧ w'.cell? ⟨p, 3, none⟩ = some (.slice (some ⟨gf, 0, none⟩) nn cf) ∧ w'.rangeAt gf (k * 32) (PX.map bV) ∧ w'.there gl (k * 32) 32) (by kernel_rfl) (⟨d2'.out, d3'.out, rX'.out, tL'.out⟩) (fun hHeld => ?_)
        refine wpAnyH_take (i := 0) (v := .pointer (some ⟨p, 0, none⟩)) rfl (by kernel_rfl) (by kernel_rfl) (by kernel_rfl) (fun _ _ _ h => h) (Or.inl ⟨by rfl, fun w' hSw => by clear hSw; go_simp⟩) hHeld ?_
        change wpAnyH _ _ _ _ _ _ _ (Act.put _ (some 31) _) _
        simp only [Act.put, List.setIfInBounds_toArray, List.set_cons_zero, List.set_cons_succ]
        refine wpAnyH_take (i := 1) (v := .pointer (some ⟨p, 0, none⟩)) rfl (by kernel_rfl) (by kernel_rfl) (by kernel_rfl) (fun _ _ _ h => h) (Or.inl ⟨by rfl, fun w' hSw => by clear hSw; go_simp⟩) hHeld ?_
        change wpAnyH _ _ _ _ _ _ _ (Act.put _ (some 32) _) _
        simp only [Act.put, List.setIfInBounds_toArray, List.set_cons_zero, List.set_cons_succ]
        refine wpAnyH_take (i := 2) (v := .pointer (some ⟨p, 2, none⟩)) rfl (by kernel_rfl) (by kernel_rfl) (by kernel_rfl) (fun _ _ _ h => h) (Or.inl ⟨by rfl, fun w' hSw => by clear hSw; go_simp⟩) hHeld ?_
        change wpAnyH _ _ _ _ _ _ _ (Act.put _ (some 33) _) _
        simp only [Act.put, List.setIfInBounds_toArray, List.set_cons_zero, List.set_cons_succ]
        refine wpAnyH_take (i := 3) (v := .slice (some ⟨gl, 0, none⟩) nn cl) rfl (by kernel_rfl) (by kernel_rfl) (by kernel_rfl) (fun _ _ _ h => h) (Or.inl ⟨by rfl, fun w' hSw => by obtain ⟨s0, s1, _, _⟩ := hSw; go_simp⟩) hHeld ?_
        change wpAnyH _ _ _ _ _ _ _ (Act.put _ (some 34) _) _
        simp only [Act.put, List.setIfInBounds_toArray, List.set_cons_zero, List.set_cons_succ]
        refine wpAnyH_take (i := 4) (v := .int .i64 (k : Int)) rfl (by kernel_rfl) (by kernel_rfl) (by kernel_rfl) (fun _ _ _ h => h) (Or.inl ⟨by rfl, fun w' hSw => by clear hSw; go_simp⟩) hHeld ?_
        change wpAnyH _ _ _ _ _ _ _ (Act.put _ (some 35) _) _
        simp only [Act.put, List.setIfInBounds_toArray, List.set_cons_zero, List.set_cons_succ]
        refine wpAnyH_take (i := 5) (v := .pointer (some ⟨p, 0, none⟩)) rfl (by kernel_rfl) (by kernel_rfl) (by kernel_rfl) (fun _ _ _ h => h) (Or.inl ⟨by rfl, fun w' hSw => by clear hSw; go_simp⟩) hHeld ?_
        change wpAnyH _ _ _ _ _ _ _ (Act.put _ (some 36) _) _
        simp only [Act.put, List.setIfInBounds_toArray, List.set_cons_zero, List.set_cons_succ]
        refine wpAnyH_take (i := 6) (v := .pointer (some ⟨p, 0, none⟩)) rfl (by kernel_rfl) (by kernel_rfl) (by kernel_rfl) (fun _ _ _ h => h) (Or.inl ⟨by rfl, fun w' hSw => by clear hSw; go_simp⟩) hHeld ?_
        change wpAnyH _ _ _ _ _ _ _ (Act.put _ (some 37) _) _
        simp only [Act.put, List.setIfInBounds_toArray, List.set_cons_zero, List.set_cons_succ]
        refine wpAnyH_take (i := 7) (v := .pointer (some ⟨p, 3, none⟩)) rfl (by kernel_rfl) (by kernel_rfl) (by kernel_rfl) (fun _ _ _ h => h) (Or.inl ⟨by rfl, fun w' hSw => by clear hSw; go_simp⟩) hHeld ?_
        change wpAnyH _ _ _ _ _ _ _ (Act.put _ (some 38) _) _
        simp only [Act.put, List.setIfInBounds_toArray, List.set_cons_zero, List.set_cons_succ]
        refine wpAnyH_take (i := 8) (v := .slice (some ⟨gf, 0, none⟩) nn cf) rfl (by kernel_rfl) (by kernel_rfl) (by kernel_rfl) (fun _ _ _ h => h) (Or.inl ⟨by rfl, fun w' hSw => by obtain ⟨s0, s1, _, _⟩ := hSw; go_simp⟩) hHeld ?_
        change wpAnyH _ _ _ _ _ _ _ (Act.put _ (some 39) _) _
        simp only [Act.put, List.setIfInBounds_toArray, List.set_cons_zero, List.set_cons_succ]
        refine wpAnyH_take (i := 9) (v := .int .i64 (k : Int)) rfl (by kernel_rfl) (by kernel_rfl) (by kernel_rfl) (fun _ _ _ h => h) (Or.inl ⟨by rfl, fun w' hSw => by clear hSw; go_simp⟩) hHeld ?_
        change wpAnyH _ _ _ _ _ _ _ (Act.put _ (some 40) _) _
        simp only [Act.put, List.setIfInBounds_toArray, List.set_cons_zero, List.set_cons_succ]
        refine wpAnyH_take (i := 10) (v := .pointer (some ⟨gf, k * 32, none⟩)) rfl (by kernel_rfl) (by kernel_rfl) (by kernel_rfl) (fun _ _ _ h => h) (Or.inl ⟨by rfl, fun w' hSw => by clear hSw; go_simp⟩) hHeld ?_
        change wpAnyH _ _ _ _ _ _ _ (Act.put _ (some 41) _) _
        simp only [Act.put, List.setIfInBounds_toArray, List.set_cons_zero, List.set_cons_succ]
        refine wpAnyH_take (i := 11) (v := .agg (PX.map bV).toArray) rfl (by kernel_rfl) (by kernel_rfl) (by kernel_rfl) (fun _ _ _ h => h) (yieldsIf_load_mid (by rfl) 67 _ rfl gf (k * 32) rfl (PX.map bV) _ (fun _ h => h.2.2.1) und67 rfl (by rw [List.length_map, pX]; exact size67)) hHeld ?_
        change wpAnyH _ _ _ _ _ _ _ (Act.put _ (some 42) _) _
        simp only [Act.put, List.setIfInBounds_toArray, List.set_cons_zero, List.set_cons_succ]
        refine wpAnyH_take (i := 12) (v := .pointer (some ⟨gl, k * 32, none⟩)) rfl (by kernel_rfl) (by kernel_rfl) (by kernel_rfl) (fun _ _ _ h => h) (Or.inl ⟨by rfl, fun w' hSw => by clear hSw; go_simp⟩) hHeld ?_
        change wpAnyH _ _ _ _ _ _ _ (Act.put _ (some 43) _) _
        simp only [Act.put, List.setIfInBounds_toArray, List.set_cons_zero, List.set_cons_succ]
        refine wpAnyH_ready (rs := [13]) (by kernel_rfl) (by simp) ?_
        refine AllReadyH.cons rfl (fun K hK => ?_) AllReadyH.nil
        rw [if_pos (by rfl)]
        refine wp_store_mid 67 _ _ rfl gl (k * 32) (PX.map bV).toArray rfl rfl (by simpa [pX] using hHeld.2.2.2) (by simpa [pX] using size67) (all_oneCell_toArray (bV_all _)) ?_
        refine hK.out _ (w4.drew.setCells gl (k * 32) (PX.map bV)) ⟨?_, ?_, ?_, ?_⟩ (fun hHeld => ?_)
        · rw [World.cell?_of_block (w := w4.drew) (setCells_other _ _ _ _ _ hap1)]; exact d2'.out
        · rw [World.cell?_of_block (w := w4.drew) (setCells_other _ _ _ _ _ hap1)]; exact d3'.out
        · exact World.rangeAt_setCells_apart (w := w4.drew) rX'.out _ _ _ (.inl hne.symm)
        · exact World.there_setCells (w := w4.drew) tL'.out _ _ _
        clear hK K
        refine wpAnyH_done (by kernel_rfl) ?_ _
        have hM5 := Hid.intro (hM'.out.drew.storeL (k := k) (S := PX) (by have := hlL.out; have := hnn'.out; simp only at *; omega) pX hap1 hne)
        have hother : Hid (∀ j, w.heap.size ≤ j → (w4.drew.setCells gl (k * 32) (PX.map bV)).heap[j]? = w4.heap[j]?) := Hid.intro (fun j hj => setCells_other _ _ _ _ _ (fun e => by have := hapb.out gl (.inr (.inl rfl)); omega))
        have hszz : (w4.drew.setCells gl (k * 32) (PX.map bV)).heap.size = w4.heap.size := (setCells_facts _ _ _ _).2.2.2
        have hKp5 := Hid.intro (hKp'.out.then ((Keep.of (F := Fp p gl gf) below_drw).then (Keep.sets (o := k * 32) (vs := PX.map bV) (.inr (.inl rfl)))))
        have hv5 := Hid.intro (own_keep hv'.out fun g _ hg => hother.out g hg)
        generalize w4.drew.setCells gl (k * 32) (PX.map bV) = w5 at *
        have hvl : s.lost.length ≤ 60 := by omega
        have hbase : w.heap.size ≤ w5.heap.size := by omega
        have hszz' := Hid.intro hszz
        clear hszz
        go_wp2_with (at_builtin; refine wpList_append_lies _ rfl _ _ 38 rfl w.heap.size 3 ti0 (.int .i64 0) 1 8 Try.underlying38 hi0 hz0' hz1' hz2' rfl (by decide) _ s.lost.length (intsV s.lost) rfl (hv5.out.alloc _) ⟨w5.heap.size, 0, none⟩ 1 1 [.int .i64 (k : Int)] rfl rfl (World.news_of_block (cs := #[.int .i64 (k : Int)]) (t := 3) (fr := (0, 0)) (heap_alloc_new w5 _)) (by simp [Value.oneCell']) (by decide) (by unfold maxLen; omega) (by omega) (by simp; omega) (w5.heap.size + 1) (by simp) ?_; intro g6 cap6 w6 hown6 hgrow6 hat6 hlt6)
        have hg6 : w2.heap.size ≤ g6 := by
          rcases hat6 with h1 | h1
          · exact hvg'.out g6 h1
          · have := hszz'.out; omega
        have hgrown : ∀ j, j < w5.heap.size → (∀ g, (Value.slice av s.lost.length cv).ownBlock = some g → j ≠ g) → w6.heap[j]? = w5.heap[j]? := fun j hj hn => by
          rw [hgrow6.block j (by simp; omega) (fun e => hn j e.symm rfl)]
          exact Below.heap_alloc _ _ _ hj
        have hszg : w5.heap.size + 1 ≤ w6.heap.size := by have := hgrow6.size; simpa using this
        have hK6 : Keep (Fp p gl gf) w w6 := ⟨hgrow6.os.trans hKp5.out.os, hgrow6.tape.trans hKp5.out.tape, hgrow6.output.trans hKp5.out.output, by omega, fun j hj hnF => by
          rw [hgrown j (by omega) (fun g hg => by have := hvg'.out g hg; omega)]
          exact hKp5.out.block j hj hnF⟩
        have hgrown' := Hid.intro hgrown
        have hK6' := Hid.intro hK6
        have hszg' := Hid.intro hszg
        clear hgrown hK6 hszg
        go_wp2
        go_roundw
        case rel =>
          refine ⟨i + 1, stp K i k s, by omega, by go_num, ?_, by rw [hs2.out]; simpa [intsV] using hown6, (fun g hg => by cases hg; exact hg6), ?_, ?_, ?_, hFO2.out, hfl2.out, by rw [hs2.out]; simp; omega, ?_⟩
          · rw [hs2.out]
            exact hM5.out.keep fun j hj => by
              have hj' := hapb.out j hj
              exact hgrown'.out j (by omega) (fun g hg => by have := hvg'.out g hg; omega)
          · exact hK6'.out
          · show w6.heap[w.heap.size]? = _
            rw [hgrown'.out _ (by have := hszz'.out; omega) (fun g hg => by have := hvg'.out g hg; omega), hother.out _ (Nat.le_refl _)]; exact hwb'.out
          · refine own_keep hwv'.out fun g hg0 hg => ?_
            have hg2 : g < w2.heap.size := own_lt hvw'.out hg0
            rw [hgrown'.out g (by have := hszz'.out; omega) (fun g' hg' => by have := hvg'.out g' hg'; omega), hother.out g (by omega)]
          · have := hszg'.out; have := hszz'.out; omega
        case measure => simp [intOf]; omega
    · have him : i = n := by omega
      subst him
      have i1 : ¬ (i : Int) < (i : Int) := by omega
      have hfl2 : s = fallT M K := by
        rw [List.drop_eq_nil_of_le (by have := hn'.out; omega)] at hfl
        exact hfl
      clear hfl hFO
      have hlost : Hid (s.lost = lostL M K) := Hid.intro (by rw [hfl2]; rfl)
      have hMX : Hid (mFall M K = ⟨false, s.L, s.X, 0, -1, 0⟩) := Hid.intro (by rw [hfl2]; rfl)
      obtain ⟨vl, vf, g1, g2, g3⟩ := hM
      have hc := cells_of g1
      have q1 := hc.c1
      have qf := hc.fz 1
      have e1 := box_on g1 false
      have e2 := box_W4 e1 0
      have e3 := box_left e2 (-1)
      have e4 := box_K4 e3 0
      have hc2 := cells_of e2
      have q8 := hc2.c8
      have q8f := hc2.fz 8
      have t4 := (box_range e1).2.2.1
      have t9 := (box_range e3).2.2.2
      have hend : Hid (PMem ((((wr.setCell ⟨p, 1, none⟩ (.bool false)).setCells p 4 (wv 0)).setCell ⟨p, 8, none⟩ (.int .i64 (-1))).setCells p 9 (wv 0)) p gl gf (mFall M K)) := Hid.intro (by
        rw [hMX.out]
        have oth : ∀ j, j ≠ p → ((((wr.setCell ⟨p, 1, none⟩ (.bool false)).setCells p 4 (wv 0)).setCell ⟨p, 8, none⟩ (.int .i64 (-1))).setCells p 9 (wv 0)).heap[j]? = wr.heap[j]? := fun j hj => by
          rw [setCells_other _ _ _ _ _ hj, Below.heap_setCell _ _ _ _ hj, setCells_other _ _ _ _ _ hj, Below.heap_setCell _ _ _ _ hj]
        exact ⟨vl, vf, e4, g2.keep (oth gl hap1.symm), g3.keep (oth gf hap2.symm)⟩)
      have hK4 : Hid (Keep (Fp p gl gf) w ((((wr.setCell ⟨p, 1, none⟩ (.bool false)).setCells p 4 (wv 0)).setCell ⟨p, 8, none⟩ (.int .i64 (-1))).setCells p 9 (wv 0))) := Hid.intro
        (hKp.then ((Keep.set (.inl rfl)).then ((Keep.sets (.inl rfl)).then ((Keep.set (.inl rfl)).then (Keep.sets (.inl rfl))))))
      have hv4 : Hid (((((wr.setCell ⟨p, 1, none⟩ (.bool false)).setCells p 4 (wv 0)).setCell ⟨p, 8, none⟩ (.int .i64 (-1))).setCells p 9 (wv 0)).ownsRow w.heap.size 3 1 (.slice av s.lost.length cv) s.lost.length (intsV s.lost)) := Hid.intro
        (own_keep hv fun g _ hg => by
          have hj : g ≠ p := fun e => by have := hlt.out.1; omega
          rw [setCells_other _ _ _ _ _ hj, Below.heap_setCell _ _ _ _ hj, setCells_other _ _ _ _ _ hj, Below.heap_setCell _ _ _ _ hj])
      have t4' := Hid.intro t4
      have t9' := Hid.intro t9
      clear hv hKp hwb hwv g1 g2 g3 hc hc2 e1 e2 e3 e4 t4 t9 hfl2
      clear hvg
      go_upto_region 11 with (refine wpList_store_mid rfl 57 _ _ rfl p 4 z57 rfl rfl t4'.out size57 (all_oneCell_toArray (wv_all 0)) ?_)
      change Code.wp _ _ _ _ ((wr.setCell ⟨p, 1, none⟩ (.bool false)).setCells p 4 (wv 0))
      generalize (wr.setCell ⟨p, 1, none⟩ (.bool false)).setCells p 4 (wv 0) = W2 at *
      go_upto_region 12 with (refine wpList_store_mid rfl 57 _ _ rfl p 9 z57 rfl rfl t9'.out size57 (all_oneCell_toArray (wv_all 0)) ?_)
      change Code.wp _ _ _ _ ((W2.setCell ⟨p, 8, none⟩ (.int .i64 (-1))).setCells p 9 (wv 0))
      generalize (W2.setCell ⟨p, 8, none⟩ (.int .i64 (-1))).setCells p 9 (wv 0) = W4 at *
      clear q1 qf q8 q8f t4' t9'
      go_wp2
      go_ret
      exact ⟨_, rfl, ⟨hend.out, hne, hfin.out.1⟩, (by rw [← hlost.out]; exact hv4.out), hK4.out⟩
end Go.Proofs.Ytjjfdkgnagfbcaa
