/-
  The walk of PlateLasts, for every input: it returns true; nothing that was there is written.
-/
import Derived.Test.YtjjfdkgnagfbcaaPLMath
namespace Go.Proofs.Ytjjfdkgnagfbcaa
open Go.ChangeShapes Go.WideShapes Go.ChangeAt Go.RowKit
attribute [local go_sem ↓] Go.wp_at_zero Go.wp_at_succ
attribute [local go_sem] str_size str_extract str_append str_toList

theorem fill_step {Q : List (List UInt8)} {j : Nat} (hQ : Q.length = 6) (hlt : j < 6) : (Q.take j ++ List.replicate (6 - j) []).set j (pgAt Q j) = Q.take (j + 1) ++ List.replicate (6 - (j + 1)) [] := by
  have hcl : j < (Q.take j ++ List.replicate (6 - j) ([] : List UInt8)).length := by simp; omega
  apply List.ext_getElem?
  intro t
  have ht : (Q.take j).length = j := by simp; omega
  have ht2 : (Q.take (j + 1)).length = j + 1 := by simp; omega
  by_cases e : j = t
  · subst e
    rw [List.getElem?_set_self hcl, List.getElem?_append_left (by omega), List.getElem?_take_of_lt (by omega), pgAt_some (by omega)]
  · rw [List.getElem?_set_ne e]
    by_cases c : t < j
    · rw [List.getElem?_append_left (by omega), List.getElem?_append_left (by omega), List.getElem?_take_of_lt c, List.getElem?_take_of_lt (by omega)]
    · rw [List.getElem?_append_right (by omega), List.getElem?_append_right (by omega), List.getElem?_replicate, List.getElem?_replicate, ht, ht2]
      by_cases c2 : t < 6
      · rw [if_pos (by omega), if_pos (by omega)]
      · rw [if_neg (by omega), if_neg (by omega)]
theorem SA.range {w : World} {b : Nat} {L : List (List UInt8)} (h : SA w b L) : w.rangeAt b 0 (L.map sV) ∧ w.there b 0 L.length := by
  have hb : w.heap[b]? = _ := h
  refine ⟨fun j v hj => ?_, fun j hj => ⟨?_, by rw [Nat.zero_add]; exact h.fro j⟩⟩
  · rw [Nat.zero_add]
    unfold World.cell?
    rw [hb]
    simpa using hj
  · rw [Nat.zero_add, h.cell hj]; rfl
theorem sV_all (L : List (List UInt8)) : ∀ u ∈ L.map sV, u.oneCell' = true := by
  intro u hu
  obtain ⟨x, _, rfl⟩ := List.mem_map.1 hu
  rfl
theorem size48 : (Try.prog.info? 48).map (·.size) = some 6 := by kernel_rfl
theorem SA.all {w : World} {b : Nat} {L L' : List (List UInt8)} (h : SA w b L) (hl : L'.length = L.length) : SA (w.setCells b 0 (L'.map sV)) b L' := by
  have hb : w.heap[b]? = _ := h
  show (w.setCells b 0 (L'.map sV)).heap[b]? = _
  rw [setCells_block b 48 (0, 0) _ 0 _ w hb]
  congr 3
  apply List.ext_getElem?
  intro i
  rw [setAll_get _ _ _ _ (by simp; omega)]
  by_cases hi : i < L'.length
  · rw [if_pos (by simp; omega)]; rfl
  · rw [if_neg (by simp; omega), List.getElem?_eq_none (by simp; omega), List.getElem?_eq_none (by simp; omega)]
set_option maxRecDepth 100000 in
theorem lasts_early {u v kv : Value} {l1 l2 : List OpE} {l3 : List Bool} {w : World} (hu : OpsAt w u l1) (hv : OpsAt w v l2) (hk : BoolsAt w kv l3) (h : LightB l1 = false ∨ LightB l2 = false ∨ 60 < l3.length) : Calls Try.prog 4 #[u, v, kv] w fun e w' => e = .returned (.bool true) ∧ Below w.heap.size w w' := by
  have hA := Hid.intro (alive_any w)
  have hL1 := Hid.intro (light_any hu)
  have hL2 := Hid.intro (light_any hv)
  obtain ⟨a, c, rfl⟩ := hk.form
  clear hv hu hk
  cases h1 : LightB l1 with
  | false =>
    rw [h1] at hL1
    clear h h1
    go_enter Try.func4, Try.ntmps4
    go_wp2_with fail
    refine hL1.out.mono ?_; rintro e w0 ⟨rfl, rfl⟩
    go_wp2_with fail
    refine hA.out.mono ?_; rintro e w1 ⟨rfl, c⟩
    have c' := Hid.intro c
    clear c
    go_wp2
    go_ret
    exact ⟨rfl, c'.out⟩
  | true =>
    rw [h1] at hL1
    cases h2 : LightB l2 with
    | false =>
      rw [h2] at hL2
      clear h h1 h2
      go_enter Try.func4, Try.ntmps4
      go_wp2_with fail
      refine hL1.out.mono ?_; rintro e w0 ⟨rfl, rfl⟩
      go_wp2_with fail
      refine hL2.out.mono ?_; rintro e w0 ⟨rfl, rfl⟩
      go_wp2_with fail
      refine hA.out.mono ?_; rintro e w1 ⟨rfl, c⟩
      have c' := Hid.intro c
      clear c
      go_wp2
      go_ret
      exact ⟨rfl, c'.out⟩
    | true =>
      rw [h2] at hL2
      have h3 : (60 : Int) < (l3.length : Int) := by
        rcases h with h | h | h
        · rw [h1] at h; cases h
        · rw [h2] at h; cases h
        · omega
      clear h h1 h2
      go_enter Try.func4, Try.ntmps4
      go_wp2_with fail
      refine hL1.out.mono ?_; rintro e w0 ⟨rfl, rfl⟩
      go_wp2_with fail
      refine hL2.out.mono ?_; rintro e w0 ⟨rfl, rfl⟩
      go_wp2_with fail
      refine hA.out.mono ?_; rintro e w1 ⟨rfl, c⟩
      have c' := Hid.intro c
      clear c
      go_wp2
      go_ret
      exact ⟨rfl, c'.out⟩
theorem new_L : (mNew 6).L = List.replicate 6 (pgS []) := by decide +kernel

set_option maxHeartbeats 8000000 in
set_option maxRecDepth 100000 in
theorem lasts_walk {u v kv : Value} {l1 l2 : List OpE} {l3 : List Bool} {w : World} (hu : OpsAt w u l1) (hv : OpsAt w v l2) (hk : BoolsAt w kv l3) (hi1 : LightB l1 = true) (hi2 : LightB l2 = true) (hk60 : l3.length ≤ 60) : Calls Try.prog 4 #[u, v, kv] w fun e w' => e = .returned (.bool true) ∧ Below w.heap.size w w' := by
  have hA := Hid.intro (alive_any w)
  have hL1 := Hid.intro (light_any hu)
  have hL2 := Hid.intro (light_any hv)
  rw [hi1] at hL1
  rw [hi2] at hL2
  have hN := Hid.intro (new_any 6 (by omega))
  have hP := Hid.intro page_any
  have hP0 := Hid.intro (page_any [])
  have hnL := Hid.intro new_L
  have hk1 : ¬ (60 : Int) < (l3.length : Int) := by omega
  have hFr := Hid.intro (Free.new 6)
  have hp0l := Hid.intro (pgS_length [])
  change Hid (∀ w, Calls Try.prog 9 _ w fun e w' => ∃ p gl gf, e = .returned (.pointer (some ⟨p, 0, none⟩)) ∧ PO w' p gl gf (mNew 6) ∧ _) at hN
  generalize mNew 6 = M0 at *
  generalize hpp : pgS [] = P0 at *
  clear hpp
  obtain ⟨au, cu, rfl⟩ := hu.slice
  obtain ⟨av, cv, rfl⟩ := hv.slice
  obtain ⟨ak, ck, rfl⟩ := hk.form
  have hu' := Hid.intro hu
  have hv' := Hid.intro hv
  have hk' := Hid.intro hk
  have hz := zero48
  have hn160 := (light_all hi1).1
  have hn260 := (light_all hi2).1
  clear hu hv hk hi1 hi2
  generalize hn1 : l1.length = n1 at *
  generalize hn2 : l2.length = n2 at *
  generalize hn3 : l3.length = n3 at *
  have hn1' := Hid.intro hn1
  have hn2' := Hid.intro hn2
  have hn3' := Hid.intro hn3
  clear hn1 hn2 hn3
  go_enter Try.func4, Try.ntmps4
  go_wp2_with fail
  refine hL1.out.mono ?_; rintro e w0 ⟨rfl, rfl⟩
  go_wp2_with fail
  refine hL2.out.mono ?_; rintro e w00 ⟨rfl, rfl⟩
  go_wp2_with fail
  refine hA.out.mono ?_; rintro e w1 ⟨rfl, c1⟩
  have hC1 := Hid.intro c1
  have s1 := c1.size
  clear c1 hL1 hL2 hA
  go_wp2_with fail
  refine (hN.out _).mono ?_; rintro e w2 ⟨p, gl, gf, rfl, a1, b1, b2, b3, c2⟩
  have hC2 := Hid.intro (hC1.out.trans (c2.mono s1))
  have s2 := hC2.out.size
  have hz1 : Below w2.heap.size w2 ((w2.alloc (.cells z48 48)).alloc (.cells z48 48)) := ((Below.refl _ _).alloc (Nat.le_refl _) _).alloc (by simp) _
  have hA2 := Hid.intro (a1.below hz1)
  have hC3 := Hid.intro (hC2.out.trans (hz1.mono s2))
  have hSf := Hid.intro ((SA.new w2).keep (Below.heap_alloc (w2.alloc (.cells z48 48)) (.cells z48 48) _ (by simp)))
  have hSn := Hid.intro (show SA ((w2.alloc (.cells z48 48)).alloc (.cells z48 48)) (w2.heap.size + 1) (List.replicate 6 []) from by
    have := SA.new (w2.alloc (.cells z48 48)); rw [show (w2.alloc (.cells z48 48)).heap.size = w2.heap.size + 1 by simp] at this; exact this)
  have hpl := a1.lt
  have hszz : ((w2.alloc (.cells z48 48)).alloc (.cells z48 48)).heap.size = w2.heap.size + 2 := by simp
  have p1 : w00.heap.size ≤ p := by omega
  have p2 : w00.heap.size ≤ gl := by omega
  have p3 : w00.heap.size ≤ gf := by omega
  clear a1 c2 b1 b2 b3 hC1 hz1 hC2
  go_wp2_with fail
  generalize (w2.alloc (.cells z48 48)).alloc (.cells z48 48) = w3 at *
  have hKA : Hid (∀ (w' w'' : World) (L : List (List UInt8)) (b : Nat), w2.heap.size ≤ b → Keep (Fp p gl gf) w' w'' → SA w' b L → SA w'' b L) := Hid.intro (fun w' w'' L b hb hk hs => hs.keep (hk.block b hs.lt (fun e => by rcases e with e | e | e <;> omega)))
  have hKP : Hid (∀ (w' : World) (b k : Nat) (M : MS) (T : Value), w2.heap.size ≤ b → PO w' p gl gf M → PO (w'.setCell ⟨b, k, none⟩ T) p gl gf M) := Hid.intro (fun w' b k M T hb h => h.keep (F := fun j => j = b) (Keep.set rfl) (fun j hj e => by rcases hj with rfl | rfl | rfl <;> omega))
  have hKS : Hid (∀ (w' : World) (b b' k : Nat) (L : List (List UInt8)) (T : Value), b' ≠ b → SA w' b' L → SA (w'.setCell ⟨b, k, none⟩ T) b' L) := Hid.intro (fun w' b b' k L T hb h => h.keep (Below.heap_setCell _ _ _ _ hb))
  generalize hbf : w2.heap.size = bf at *
  have hbf' := Hid.intro hbf
  clear hbf
  go_loopw [10] (fun jv wr => ∃ j : Nat, j ≤ 6 ∧ jv = .int .i64 (j : Int) ∧ PO wr p gl gf M0 ∧ SA wr bf ((List.replicate 6 P0).take j ++ List.replicate (6 - j) []) ∧ SA wr (bf + 1) (List.replicate 6 []) ∧ Below w00.heap.size w00 wr) (fun jv _ => 6 - (intOf jv).toNat)
  case atStart => exact ⟨0, by omega, rfl, hA2.out, hSf.out, hSn.out, hC3.out⟩
  case round =>
    obtain ⟨j, hj, rfl, hPOj, hSAj, hSNj, hBj⟩ := hrel
    have j0 : (0 : Int) ≤ (j : Int) := Int.natCast_nonneg _
    have sBj := hBj.size
    have hPOj' := Hid.intro hPOj
    have hSNj' := Hid.intro hSNj
    have hSAj' := Hid.intro hSAj
    have hBj' := Hid.intro hBj
    clear hPOj hSNj hSAj hBj
    by_cases hlt : j < 6
    · have j1 : (j : Int) < 6 := by omega
      have hfs := Hid.intro (fill_step (Q := List.replicate 6 P0) (by simp) hlt)
      rw [show pgAt (List.replicate 6 P0) j = P0 from by unfold pgAt; rw [List.getElem?_replicate, if_pos hlt]; rfl] at hfs
      go_wp2_with fail
      refine (hP0.out _).mono ?_; rintro e w4 ⟨rfl, c4⟩
      have hS4 := Hid.intro (hSAj'.out.below c4)
      have hcc := hS4.out.cell (k := j) (by simp; omega)
      have hff := hS4.out.fro j
      have hB4 := Hid.intro (hBj'.out.trans (c4.mono sBj))
      have hP4 := Hid.intro (hPOj'.out.below c4)
      have hN4 := Hid.intro (hSNj'.out.below c4)
      have s4 := c4.size
      clear c4
      go_wp2
      go_roundw
      case rel => exact ⟨j + 1, by omega, by go_num, hKP.out _ _ _ _ _ (Nat.le_refl _) hP4.out, by rw [← hfs.out]; exact hS4.out.set j P0, hKS.out _ _ _ _ _ _ (by omega) hN4.out, hB4.out.setCell (by show w00.heap.size ≤ bf; omega) _⟩
      case measure => simp [intOf]; omega
    · have hj6 : j = 6 := by omega
      subst hj6
      have j1 : ¬ (6 : Int) < 6 := by omega
      have hSf6 := Hid.intro (show SA wr bf M0.L from by
        have := hSAj'.out
        rw [List.take_of_length_le (by simp), show 6 - 6 = 0 by rfl, List.replicate_zero, List.append_nil, ← hnL.out] at this; exact this)
      have hA6 := Hid.intro hPOj'.out
      have hS6 := Hid.intro hSNj'.out
      have hB6 := Hid.intro hBj'.out
      clear hPOj' hSNj' hSAj' hBj' hA2 hSf hSn hC3
      go_wp2_with fail
      have n10 : (0 : Int) ≤ (n1 : Int) := Int.natCast_nonneg _
      go_loopw [11] (fun iv wr => ∃ (i : Nat) (M : MS), i ≤ n1 ∧ iv = .int .i64 (i : Int) ∧ PO wr p gl gf M ∧ Free M 6 ∧ SA wr bf M.L ∧ SA wr (bf + 1) (List.replicate 6 []) ∧ Below w00.heap.size w00 wr) (fun iv _ => n1 - (intOf iv).toNat)
      case atStart => exact ⟨0, M0, Nat.zero_le _, rfl, hA6.out, hFr.out, hSf6.out, hS6.out, hB6.out⟩
      case round =>
        obtain ⟨i, M, hi, rfl, hPO, hfree, hSF, hSN, hB⟩ := hrel
        have i0 : (0 : Int) ≤ (i : Int) := Int.natCast_nonneg _
        have hPO' := Hid.intro hPO
        have hB' := Hid.intro hB
        have sB := hB.size
        have hf' := Hid.intro hfree
        have hSF' := Hid.intro hSF
        have hSN' := Hid.intro hSN
        clear hPO hB hfree hSF hSN hA6 hSf6 hS6 hB6
        by_cases hlt : i < n1
        · have i1 : (i : Int) < (n1 : Int) := by omega
          obtain ⟨g, o, ⟨ek, en, es, ekv, el⟩, rfl, hg, he, hop⟩ := op_at hu'.out (i := i) (by have := hn1'.out; omega)
          obtain ⟨d0, d1, d2, d3, hrow, _, _⟩ := hop
          simp only at d0 d1 d2 d3 hrow
          have hd := Hid.intro (fun (W : World) (hb : Below w00.heap.size w00 W) => (show W.cell? ⟨g, o + i * 4 + 2, none⟩ = some (.string (str es)) from by rw [hb.cell (p := ⟨g, o + i * 4 + 2, none⟩) hg]; exact d2))
          have d1' : wr.cell? ⟨g, o + i * 4 + 1, none⟩ = some (.int .i64 en) := by rw [hB'.out.cell (p := ⟨g, o + i * 4 + 1, none⟩) hg]; exact d1
          have d2' := hd.out wr hB'.out
          obtain ⟨x0, x1, x2⟩ := six_facts en
          obtain ⟨hLy, hf2⟩ := hf'.out.lay x0 (pgS_length es)
          have hLay := Hid.intro (fun w' (g : PO w' p gl gf M) => lay_any g ((six en : Nat) : Int) (pgS es))
          rw [hLy] at hLay
          have hf2' := Hid.intro hf2
          have hPs := Hid.intro (hP.out es)
          have hML := Hid.intro (show M.L.set (six en) (pgS es) = (mPut M (six en) (pgS es)).L from rfl)
          have hlL := Hid.intro hf'.out.len
          clear d0 d1 d2 d3 hrow he hLy hf2
          change Hid (∀ w', _ → Calls Try.prog 13 _ w' fun e w'' => e = .returned (.int .i64 0) ∧ PO w'' p gl gf (mPut M (six en) (pgS es)) ∧ Keep (Fp p gl gf) w' w'') at hLay
          generalize mPut M (six en) (pgS es) = M2 at *
          generalize pgS es = Pe at *
          generalize six en = kx at *
          have x0i : (kx : Int) < 6 := by omega
          have x0j : (0 : Int) ≤ (kx : Int) := Int.natCast_nonneg _
          go_wp2_with fail
          refine (hPs.out _).mono ?_; rintro e w4 ⟨rfl, c4⟩
          have hA4 := Hid.intro (hPO'.out.below c4)
          have hB4 := Hid.intro (hB'.out.trans (c4.mono sB))
          have hF4 := Hid.intro (hSF'.out.below c4)
          have hN4 := Hid.intro (hSN'.out.below c4)
          have s4 := hB4.out.size
          clear c4 hPO' hB' hSF' hSN' d1' d2'
          go_wp2_with fail
          refine (hLay.out _ hA4.out).mono ?_; rintro e w5 ⟨rfl, a5, c5⟩
          have hA5 := Hid.intro a5
          have hB5 := Hid.intro (hB4.out.trans (PO.fresh c5 s4 p1 p2 p3))
          have hF5 := Hid.intro (hKA.out _ _ _ _ (Nat.le_refl _) c5 hF4.out)
          have hN5 := Hid.intro (hKA.out _ _ _ _ (Nat.le_add_right _ _) c5 hN4.out)
          have s5 := hB5.out.size
          have d5 := hd.out w5 hB5.out
          clear a5 c5 hA4 hB4 hF4 hN4
          go_wp2_with fail
          refine (hPs.out _).mono ?_; rintro e w6 ⟨rfl, c6⟩
          have hA6 := Hid.intro (hA5.out.below c6)
          have hB6 := Hid.intro (hB5.out.trans (c6.mono s5))
          have hF6 := Hid.intro (hF5.out.below c6)
          have hN6 := Hid.intro (hN5.out.below c6)
          have hcc := hF6.out.cell (k := kx) (by rw [hlL.out]; omega)
          have hff := hF6.out.fro kx
          clear c6 hA5 hB5 hF5 hN5 d5
          go_wp2
          go_roundw
          case rel => exact ⟨i + 1, M2, by omega, by go_num, hKP.out _ _ _ _ _ (Nat.le_refl _) hA6.out, hf2'.out, by rw [← hML.out]; exact hF6.out.set kx Pe, hKS.out _ _ _ _ _ _ (by omega) hN6.out, hB6.out.setCell (by show w00.heap.size ≤ bf; omega) _⟩
          case measure => simp [intOf]; omega
        · have him : i = n1 := by omega
          subst him
          have i1 : ¬ (i : Int) < (i : Int) := by omega
          have hF := Hid.intro (fix_any hPO'.out)
          obtain ⟨e1, f1⟩ := hf'.out.fix
          rw [e1] at hF
          have hf1 := Hid.intro f1
          have hX1 := Hid.intro (show (mFixed M).X = (mFixed M).L from rfl)
          have hML := Hid.intro (show (mFixed M).L = M.L from rfl)
          clear e1 f1
          change Hid (Calls Try.prog 15 _ wr fun e w' => e = .returned (.int .i64 0) ∧ PO w' p gl gf (mFixed M) ∧ _) at hF
          rw [← hML.out] at hSF'
          generalize mFixed M = M1 at *
          go_wp2_with fail
          refine hF.out.mono ?_; rintro e w4 ⟨rfl, a4, c4⟩
          have hA4 := Hid.intro a4
          have hB4 := Hid.intro (hB'.out.trans (PO.fresh c4 sB p1 p2 p3))
          have hF4 := Hid.intro (hKA.out _ _ _ _ (Nat.le_refl _) c4 hSF'.out)
          have hN4 := Hid.intro (hKA.out _ _ _ _ (Nat.le_add_right _ _) c4 hSN'.out)
          have s4 := hB4.out.size
          have hr4 := Hid.intro hF4.out.range.1
          have ht4 := Hid.intro hN4.out.range.2
          have hl6 := Hid.intro (show (M1.L.map sV).length = 6 from by rw [List.length_map]; exact hf1.out.len)
          have hN5 := Hid.intro (hN4.out.all (L' := M1.L) (by rw [hf1.out.len]; rfl))
          have hKs := Hid.intro (Keep.sets (F := fun b => b = bf + 1) (w := w4) (g := bf + 1) (o := 0) (vs := M1.L.map sV) rfl)
          have hF5 := Hid.intro (hF4.out.keep (hKs.out.block bf hF4.out.lt (by omega)))
          have hA5 := Hid.intro (hA4.out.keep hKs.out (fun j hj e => by have e' : j = bf + 1 := e; rcases hj with h | h | h <;> omega))
          have hB5 := Hid.intro (hB4.out.trans (hKs.out.below s4 (fun j hj e => by have e' : j = bf + 1 := e; omega)))
          have hs6 : Hid ((Try.prog.info? 48).map (·.size) = some (M1.L.map sV).length) := Hid.intro (by rw [hl6.out]; exact size48)
          have hs6b : Hid ((Try.prog.info? 48).map (·.size) = some (M1.L.map sV).toArray.size) := Hid.intro (by rw [List.size_toArray, hl6.out]; exact size48)
          have ht6 : Hid (w4.there (bf + 1) 0 (M1.L.map sV).toArray.size) := Hid.intro (by rw [List.size_toArray, hl6.out]; exact ht4.out)
          clear a4 c4 hPO' hB' hSF' hSN' hF
          go_wp2_with (first | (refine wpList_load_mid rfl 48 _ rfl bf 0 rfl (M1.L.map sV) _ hr4.out Try.underlying48 rfl hs6.out ?_) | (refine wpList_store_mid rfl 48 _ _ rfl (bf + 1) 0 _ rfl rfl ht6.out hs6b.out (all_oneCell_toArray (sV_all _)) ?_))
          change Code.wp _ _ _ _ (w4.setCells (bf + 1) 0 (M1.L.map sV))
          generalize w4.setCells (bf + 1) 0 (M1.L.map sV) = w5 at *
          clear hs6 hs6b ht6 hr4 ht4 hKs hA4 hB4 hF4 hN4
          have n20 : (0 : Int) ≤ (n2 : Int) := Int.natCast_nonneg _
          go_wp2_with fail
          go_loopw [13] (fun iv wr => ∃ (i : Nat) (M : MS), i ≤ n2 ∧ iv = .int .i64 (i : Int) ∧ PO wr p gl gf M ∧ Free M 6 ∧ M.X = M1.L ∧ SA wr bf M1.L ∧ SA wr (bf + 1) M.L ∧ Below w00.heap.size w00 wr) (fun iv _ => n2 - (intOf iv).toNat)
          case atStart => exact ⟨0, M1, Nat.zero_le _, rfl, hA5.out, hf1.out, hX1.out, hF5.out, hN5.out, hB5.out⟩
          case round =>
            clear hA5 hF5 hN5 hB5 hf' hML i0 i1 hi
            obtain ⟨i, M, hi, rfl, hPO, hfree, hMX, hSF, hSN, hB⟩ := hrel
            have i0 : (0 : Int) ≤ (i : Int) := Int.natCast_nonneg _
            have hPO' := Hid.intro hPO
            have hB' := Hid.intro hB
            have sB := hB.size
            have hf' := Hid.intro hfree
            have hMX' := Hid.intro hMX
            have hSF' := Hid.intro hSF
            have hSN' := Hid.intro hSN
            clear hPO hB hfree hSF hSN hMX
            by_cases hlt : i < n2
            · have i1 : (i : Int) < (n2 : Int) := by omega
              obtain ⟨g, o, ⟨ek, en, es, ekv, el⟩, rfl, hg, he, hop⟩ := op_at hv'.out (i := i) (by have := hn2'.out; omega)
              obtain ⟨d0, d1, d2, d3, hrow, _, _⟩ := hop
              simp only at d0 d1 d2 d3 hrow
              have hd := Hid.intro (fun (W : World) (hb : Below w00.heap.size w00 W) => (show W.cell? ⟨g, o + i * 4 + 2, none⟩ = some (.string (str es)) from by rw [hb.cell (p := ⟨g, o + i * 4 + 2, none⟩) hg]; exact d2))
              have d1' : wr.cell? ⟨g, o + i * 4 + 1, none⟩ = some (.int .i64 en) := by rw [hB'.out.cell (p := ⟨g, o + i * 4 + 1, none⟩) hg]; exact d1
              have d2' := hd.out wr hB'.out
              obtain ⟨x0, x1, x2⟩ := six_facts en
              obtain ⟨hLy, hf2⟩ := hf'.out.lay x0 (pgS_length es)
              have hLay := Hid.intro (fun w' (g : PO w' p gl gf M) => lay_any g ((six en : Nat) : Int) (pgS es))
              rw [hLy] at hLay
              have hf2' := Hid.intro hf2
              have hPs := Hid.intro (hP.out es)
              have hML := Hid.intro (show M.L.set (six en) (pgS es) = (mPut M (six en) (pgS es)).L from rfl)
              have hMX2 := Hid.intro (show (mPut M (six en) (pgS es)).X = M1.L from hMX'.out)
              have hlL := Hid.intro hf'.out.len
              clear d0 d1 d2 d3 hrow he hLy hf2
              change Hid (∀ w', _ → Calls Try.prog 13 _ w' fun e w'' => e = .returned (.int .i64 0) ∧ PO w'' p gl gf (mPut M (six en) (pgS es)) ∧ Keep (Fp p gl gf) w' w'') at hLay
              generalize mPut M (six en) (pgS es) = M2 at *
              generalize pgS es = Pe at *
              generalize six en = kx at *
              have x0i : (kx : Int) < 6 := by omega
              have x0j : (0 : Int) ≤ (kx : Int) := Int.natCast_nonneg _
              go_wp2_with fail
              refine (hPs.out _).mono ?_; rintro e w4 ⟨rfl, c4⟩
              have hA4 := Hid.intro (hPO'.out.below c4)
              have hB4 := Hid.intro (hB'.out.trans (c4.mono sB))
              have hF4 := Hid.intro (hSF'.out.below c4)
              have hN4 := Hid.intro (hSN'.out.below c4)
              have s4 := hB4.out.size
              clear c4 hPO' hB' hSF' hSN' d1' d2'
              go_wp2_with fail
              refine (hLay.out _ hA4.out).mono ?_; rintro e w5 ⟨rfl, a5, c5⟩
              have hA5 := Hid.intro a5
              have hB5 := Hid.intro (hB4.out.trans (PO.fresh c5 s4 p1 p2 p3))
              have hF5 := Hid.intro (hKA.out _ _ _ _ (Nat.le_refl _) c5 hF4.out)
              have hN5 := Hid.intro (hKA.out _ _ _ _ (Nat.le_add_right _ _) c5 hN4.out)
              have s5 := hB5.out.size
              have d5 := hd.out w5 hB5.out
              clear a5 c5 hA4 hB4 hF4 hN4
              go_wp2_with fail
              refine (hPs.out _).mono ?_; rintro e w6 ⟨rfl, c6⟩
              have hA6 := Hid.intro (hA5.out.below c6)
              have hB6 := Hid.intro (hB5.out.trans (c6.mono s5))
              have hF6 := Hid.intro (hF5.out.below c6)
              have hN6 := Hid.intro (hN5.out.below c6)
              have hcc := hN6.out.cell (k := kx) (by rw [hlL.out]; omega)
              have hff := hN6.out.fro kx
              clear c6 hA5 hB5 hF5 hN5 d5
              go_wp2
              go_roundw
              case rel => exact ⟨i + 1, M2, by omega, by go_num, hKP.out _ _ _ _ _ (Nat.le_add_right _ _) hA6.out, hf2'.out, hMX2.out, hKS.out _ _ _ _ _ _ (by omega) hF6.out, by rw [← hML.out]; exact hN6.out.set kx Pe, hB6.out.setCell (by show w00.heap.size ≤ bf + 1; omega) _⟩
              case measure => simp [intOf]; omega
            · have him : i = n2 := by omega
              subst him
              have i1 : ¬ (i : Int) < (i : Int) := by omega
              have hWt := Hid.intro (wet_any hPO'.out)
              have hplr := hPO'.out.lt
              have hFs := Hid.intro (fall_spec hPO'.out.ok l3)
              have hll6 := Hid.intro (lost_len M (kw l3))
              have hlL := Hid.intro hf'.out.len
              have hOn : mOff M l3 = (lostL M (kw l3), mFall M (kw l3)) := by unfold mOff; rw [hf'.out.on]; rfl
              have hFl := Hid.intro (fun w' (g : PO w' p gl gf M) (hb : BoolsAt w' (.slice ak n3 ck) l3) => off_any g hb (by have := hn3'.out; omega))
              rw [hOn] at hFl
              have hMf := Hid.intro (show Free (mPower (mFall M (kw l3))) 6 ∧ (mPower (mFall M (kw l3))).L = (mFall M (kw l3)).L ∧ (mPower (mFall M (kw l3))).W = 0 from ⟨⟨rfl, rfl, by show (mFall M (kw l3)).L.length = 6; rw [(hPO'.out.ok.fall _).2.2, hlL.out]⟩, rfl, rfl⟩)
              have hofff := Hid.intro (show (mFall M (kw l3)).on = false from rfl)
              rw [hMX'.out, hlL.out] at hFs
              rw [hlL.out] at hll6
              rw [hlL.out] at hWt
              have hkb := Hid.intro (fun (w' : World) (hb : Below w00.heap.size w00 w') => hk'.out.below hb)
              clear hOn
              change Hid (∀ w', _ → _ → Calls Try.prog 16 _ w' fun e w'' => ∃ u, e = .returned u ∧ PO w'' p gl gf (mFall M (kw l3)) ∧ w''.ownsRow w'.heap.size 3 1 u (lostL M (kw l3)).length (intsV (lostL M (kw l3))) ∧ _) at hFl
              generalize mFall M (kw l3) = M2 at *
              generalize lostL M (kw l3) = ll at *
              generalize hwl : keptL M.W 6 = wl at *
              have hwl6 : Hid (wl.length ≤ 6 ∧ ∀ k ∈ wl, k < 6) := Hid.intro (by rw [← hwl]; exact ⟨keptL_length _ _, fun k hk => (keptL_mem.1 hk).1⟩)
              have hM2L : Hid (M2.L.length = 6) := Hid.intro (by rw [← hMf.out.2.1]; exact hMf.out.1.len)
              clear hwl
              go_wp2_with fail
              refine hWt.out.mono ?_; rintro e w4 ⟨vw, rfl, o4, c4⟩
              obtain ⟨aw, cw, rfl⟩ := own_form o4
              have hA4 := Hid.intro (hPO'.out.below c4)
              have hB4 := Hid.intro (hB'.out.trans (c4.mono sB))
              have hF4 := Hid.intro (hSF'.out.below c4)
              have hN4 := Hid.intro (hSN'.out.below c4)
              have hO4 := Hid.intro o4
              have s4 := hB4.out.size
              have c4s := c4.size
              clear c4 o4 hPO' hB' hSF' hSN' hWt
              go_wp2_with fail
              refine (hFl.out _ hA4.out (hkb.out _ hB4.out)).mono ?_; rintro e w5 ⟨u, rfl, a5, o5, c5⟩
              obtain ⟨ao, co, rfl⟩ := own_form o5
              have hA5 := Hid.intro a5
              have hB5 := Hid.intro (hB4.out.trans (PO.fresh c5 s4 p1 p2 p3))
              have hF5 := Hid.intro (hKA.out _ _ _ _ (Nat.le_refl _) c5 hF4.out)
              have hN5 := Hid.intro (hKA.out _ _ _ _ (Nat.le_add_right _ _) c5 hN4.out)
              have hWs5 := Hid.intro (own_keep hO4.out fun g hg hgb => c5.block g (own_lt hO4.out hg) (fun e => by rcases e with h | h | h <;> omega))
              have hO5 := Hid.intro o5
              have s5 := hB5.out.size
              have hPw := Hid.intro (power_any a5)
              rw [hofff.out] at hPw
              clear a5 c5 o5 hA4 hB4 hF4 hN4 hFl
              go_wp2_with fail
              refine hPw.out.mono ?_; rintro e w6 ⟨rfl, a6, c6⟩
              have hplw := hA5.out.lt
              have hLB6 := Hid.intro (show LB w00 w6 p gl gf bf (bf + 1) (mPower M2) M1.L M.L (.slice ao ll.length co) (.slice aw wl.length cw) ll wl from
                ⟨a6, hKA.out _ _ _ _ (Nat.le_refl _) c6 hF5.out, hKA.out _ _ _ _ (Nat.le_add_right _ _) c6 hN5.out,
                 own_mono (own_keep hO5.out fun g hg hgb => c6.block g (own_lt hO5.out hg) (fun e => by rcases e with h | h | h <;> omega)) (Nat.zero_le _),
                 own_mono (own_keep hWs5.out fun g hg hgb => c6.block g (own_lt hWs5.out hg) (fun e => by rcases e with h | h | h <;> omega)) (Nat.zero_le _),
                 hB5.out.trans (PO.fresh c6 s5 p1 p2 p3)⟩)
              have s6 := hLB6.out.be.size
              generalize mPower M2 = M3 at *
              clear a6 c6 hA5 hB5 hF5 hN5 hO5 hWs5 hO4 hPw
              have hb6 := Hid.intro (show Below w6.heap.size w6 (w6.alloc (.map #[] 0)) from (Below.refl _ _).alloc (Nat.le_refl _) _)
              have hm6 := Hid.intro (made_map w6)
              have hmk := run_makeMap (P := Try.prog) 49 w6
              have hLB7 := Hid.intro (hLB6.out.below hb6.out)
              clear hLB6 hb6
              go_wp2_with fail
              generalize w6.alloc (.map #[] 0) = w7 at *
              generalize hmg : w6.heap.size = mg at *
              have hmg' := Hid.intro hmg
              clear hmg
              have ll0 : (0 : Int) ≤ (ll.length : Int) := Int.natCast_nonneg _
              go_loopw [18] (fun iv wr => ∃ i : Nat, i ≤ ll.length ∧ iv = .int .i64 (i : Int) ∧ OwnM wr mg i (ll.take i) ∧ LB w00 wr p gl gf bf (bf + 1) M3 M1.L M.L (.slice ao ll.length co) (.slice aw wl.length cw) ll wl) (fun iv _ => ll.length - (intOf iv).toNat)
              case atStart => exact ⟨0, Nat.zero_le _, rfl, hm6.out, hLB7.out⟩
              case round =>
                clear hm6 hLB7 i0 i1
                obtain ⟨i, hi, rfl, hOM, hLB⟩ := hrel
                have i0 : (0 : Int) ≤ (i : Int) := Int.natCast_nonneg _
                have hOM' := Hid.intro hOM
                have hLB' := Hid.intro hLB
                clear hOM hLB
                by_cases hlt : i < ll.length
                · have i1 : (i : Int) < (ll.length : Int) := by omega
                  obtain ⟨k, hk⟩ : ∃ k, ll[i]? = some k := ⟨_, List.getElem?_eq_getElem hlt⟩
                  obtain ⟨go, rfl, _, hcc⟩ := own_int hLB'.out.ou hk
                  have hk6 : k < 6 := hwl6.out.2 k (hFs.out.2.1 k (List.mem_of_getElem? hk))
                  obtain ⟨w8, hpr, ho8, hg8⟩ := put_run hOM'.out k (by omega) (by have := hll6.out; omega)
                  have ho8' := Hid.intro ho8
                  have hg8' := Hid.intro hg8
                  have htk := Hid.intro (show ll.take i ++ [k] = ll.take (i + 1) from by rw [List.take_add_one, hk]; rfl)
                  have hll7 := hll6.out
                  clear ho8 hg8
                  go_wp2
                  go_roundw
                  case rel => exact ⟨i + 1, by omega, by go_num, by rw [← htk.out]; exact ho8'.out, hLB'.out.map hOM'.out s6 hg8'.out⟩
                  case measure => simp [intOf]; omega
                · have him : i = ll.length := by omega
                  subst him
                  have i1 : ¬ (ll.length : Int) < (ll.length : Int) := by omega
                  have hg0 : Hid (OwnM wr mg ll.length ll) := Hid.intro (by have := hOM'.out; rw [List.take_length] at this; exact this)
                  have hmk := run_makeMap (P := Try.prog) 49 wr
                  have hbr := Hid.intro (show Below wr.heap.size wr (wr.alloc (.map #[] 0)) from (Below.refl _ _).alloc (Nat.le_refl _) _)
                  have hgr := Hid.intro (hg0.out.below hbr.out)
                  have hir := Hid.intro (made_map wr)
                  have hLBr := Hid.intro (hLB'.out.below hbr.out)
                  have sr := hLB'.out.be.size
                  have hmgl : mg < wr.heap.size := World.ownsMap.lt hg0.out
                  clear hg0 hbr hOM' hLB'
                  go_wp2_with fail
                  generalize wr.alloc (.map #[] 0) = w9 at *
                  generalize hmi : wr.heap.size = mi at *
                  have hmi' := Hid.intro hmi
                  clear hmi hmk
                  have wl0 : (0 : Int) ≤ (wl.length : Int) := Int.natCast_nonneg _
                  go_loopw [20] (fun iv wr => ∃ i : Nat, i ≤ wl.length ∧ iv = .int .i64 (i : Int) ∧ OwnM wr mg ll.length ll ∧ OwnM wr mi i (wl.take i) ∧ LB w00 wr p gl gf bf (bf + 1) M3 M1.L M.L (.slice ao ll.length co) (.slice aw wl.length cw) ll wl) (fun iv _ => wl.length - (intOf iv).toNat)
                  case atStart => exact ⟨0, Nat.zero_le _, rfl, hgr.out, hir.out, hLBr.out⟩
                  case round =>
                    clear hgr hir hLBr i0 i1
                    obtain ⟨i, hi, rfl, hOG, hOI, hLB⟩ := hrel
                    have i0 : (0 : Int) ≤ (i : Int) := Int.natCast_nonneg _
                    have hOG' := Hid.intro hOG
                    have hOI' := Hid.intro hOI
                    have hLB' := Hid.intro hLB
                    clear hOG hOI hLB
                    by_cases hlt : i < wl.length
                    · have i1 : (i : Int) < (wl.length : Int) := by omega
                      obtain ⟨k, hk⟩ : ∃ k, wl[i]? = some k := ⟨_, List.getElem?_eq_getElem hlt⟩
                      obtain ⟨go, rfl, _, hcc⟩ := own_int hLB'.out.ow hk
                      have hk6 : k < 6 := hwl6.out.2 k (List.mem_of_getElem? hk)
                      obtain ⟨w8, hpr, ho8, hg8⟩ := put_run hOI'.out k (by omega) (by have := hwl6.out.1; omega)
                      have ho8' := Hid.intro ho8
                      have hg8' := Hid.intro hg8
                      have htk := Hid.intro (show wl.take i ++ [k] = wl.take (i + 1) from by rw [List.take_add_one, hk]; rfl)
                      have hLB8 := Hid.intro (hLB'.out.map hOI'.out sr hg8)
                      have hOG8 := Hid.intro (hOG'.out.keep (hg8.block mg (World.ownsMap.lt hOG'.out) (fun e => by simp at e; omega)))
                      obtain ⟨go2, he2, _, hcc8⟩ := own_int hLB8.out.ow hk
                      cases he2
                      have hlook := look_any (hOG8.out.below below_drw) k (by omega)
                      have hspec := hFs.out.1 i k hk
                      have hn3x := hn3'.out
                      have hwl7 := hwl6.out.1
                      have hkB := hkb.out _ hLB8.out.be
                      have hspec' := Hid.intro hspec
                      clear ho8 hg8 hspec hn3x
                      by_cases hin : i < n3
                      · have hin1 : (i : Int) < (n3 : Int) := by omega
                        obtain ⟨gk, ok, rfl, hgk, _, hcb⟩ := hkB.at_ (i := i) (by have := hn3'.out; omega)
                        cases hbv : l3.getD i false with
                        | true =>
                          rw [hbv] at hcb
                          rw [decide_eq_false (fun h => by have := hspec'.out.1 h; rw [hbv] at this; cases this)] at hlook
                          clear hkB hbv hwl7
                          go_wp2_with fail
                          go_region
                          all_goals
                            go_wp2
                            go_roundw
                            case rel => exact ⟨i + 1, by omega, by go_num, hOG8.out.below below_drw, by rw [← htk.out]; exact ho8'.out.below below_drw, hLB8.out.below below_drw⟩
                            case measure => simp [intOf]; omega
                        | false =>
                          rw [hbv] at hcb
                          rw [decide_eq_true (hspec'.out.2 hbv)] at hlook
                          clear hkB hbv hwl7
                          go_wp2_with fail
                          go_region
                          all_goals
                            go_wp2
                            go_roundw
                            case rel => exact ⟨i + 1, by omega, by go_num, hOG8.out.below below_drw, by rw [← htk.out]; exact ho8'.out.below below_drw, hLB8.out.below below_drw⟩
                            case measure => simp [intOf]; omega
                      · have hin1 : ¬ (i : Int) < (n3 : Int) := by omega
                        rw [decide_eq_true (hspec'.out.2 (by rw [List.getD, List.getElem?_eq_none (by have := hn3'.out; omega)]; rfl))] at hlook
                        clear hkB
                        go_wp2_with fail
                        go_region
                        all_goals
                          go_wp2
                          go_roundw
                          case rel => exact ⟨i + 1, by omega, by go_num, hOG8.out.below below_drw, by rw [← htk.out]; exact ho8'.out.below below_drw, hLB8.out.below below_drw⟩
                          case measure => simp [intOf]; omega
                    · have him : i = wl.length := by omega
                      subst him
                      have i1 : ¬ (wl.length : Int) < (wl.length : Int) := by omega
                      have hOI2 := Hid.intro (show OwnM wr mi wl.length wl from by have := hOI'.out; rw [List.take_length] at this; exact this)
                      clear hOI'
                      go_wp2_with fail
                      go_loopw [21] (fun tv wz => ∃ t : Nat, t ≤ 6 ∧ tv = .int .i64 (t : Int) ∧ wz = wr) (fun tv _ => 6 - (intOf tv).toNat)
                      case atStart => exact ⟨0, by omega, rfl, rfl⟩
                      case round =>
                        clear i0 i1
                        obtain ⟨t, ht, rfl, rfl⟩ := hrel
                        have t0 : (0 : Int) ≤ (t : Int) := Int.natCast_nonneg _
                        by_cases hlt6 : t < 6
                        · have t1 : (t : Int) < 6 := by omega
                          have hG := Hid.intro (get_any hLB'.out.po (t : Int))
                          rw [(hMf.out.1.get hlt6).1, (hMf.out.1.get hlt6).2, hMf.out.2.1] at hG
                          have hcf := hLB'.out.sf.cell (k := t) (by rw [hf1.out.len]; exact hlt6)
                          have hcn := hLB'.out.sn.cell (k := t) (by rw [hlL.out]; exact hlt6)
                          have hl1 := look_any hOG'.out t (by omega)
                          have hl2 := look_any hOI2.out t (by omega)
                          by_cases hin : t ∈ ll
                          · rw [decide_eq_true hin] at hl1
                            rw [decide_eq_true (hFs.out.2.1 t hin)] at hl2
                            rw [hFs.out.2.2.1 t hin] at hG
                            have hG' := hG
                            clear hG hin
                            generalize pgAt M1.L t = Pa at *
                            generalize pgAt M.L t = Pb at *
                            go_wp2_with fail
                            refine hG'.out.mono ?_; rintro e w15 ⟨rfl, rfl⟩
                            go_wp2
                            go_roundw
                            case rel => exact ⟨t + 1, by omega, by go_num, trivial⟩
                            case measure => simp [intOf]; omega
                          · rw [decide_eq_false hin] at hl1
                            rw [hFs.out.2.2.2 t hin] at hG
                            have hG' := hG
                            clear hG hin hl2
                            generalize pgAt M1.L t = Pa at *
                            generalize pgAt M.L t = Pb at *
                            go_wp2_with fail
                            refine hG'.out.mono ?_; rintro e w15 ⟨rfl, rfl⟩
                            go_wp2
                            go_roundw
                            case rel => exact ⟨t + 1, by omega, by go_num, trivial⟩
                            case measure => simp [intOf]; omega
                        · have t1 : ¬ (t : Int) < 6 := by omega
                          have hWl := Hid.intro (wet_any hLB'.out.po)
                          rw [hMf.out.2.2, keptL_zero] at hWl
                          go_wp2_with fail
                          refine hWl.out.mono ?_; rintro e w16 ⟨vv, rfl, o16, c16⟩
                          obtain ⟨ax, cx, rfl⟩ := own_form o16
                          have hBE := Hid.intro (hLB'.out.be.trans (c16.mono hLB'.out.be.size))
                          clear o16 c16
                          go_wp2
                          go_ret
                          exact ⟨rfl, hBE.out⟩
theorem lasts_any {u v kv : Value} {l1 l2 : List OpE} {l3 : List Bool} {w : World} (hu : OpsAt w u l1) (hv : OpsAt w v l2) (hk : BoolsAt w kv l3) : Calls Try.prog 4 #[u, v, kv] w fun e w' => e = .returned (.bool true) ∧ Below w.heap.size w w' := by
  cases h1 : LightB l1 with
  | false => exact lasts_early hu hv hk (.inl h1)
  | true =>
    cases h2 : LightB l2 with
    | false => exact lasts_early hu hv hk (.inr (.inl h2))
    | true =>
      by_cases h3 : l3.length ≤ 60
      · exact lasts_walk hu hv hk h1 h2 h3
      · exact lasts_early hu hv hk (.inr (.inr (by omega)))
end Go.Proofs.Ytjjfdkgnagfbcaa
