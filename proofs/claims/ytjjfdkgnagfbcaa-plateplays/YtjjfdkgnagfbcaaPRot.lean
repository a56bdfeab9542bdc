/-
  The contracts of plate's Rot, New and Twin.
-/
import Derived.Test.YtjjfdkgnagfbcaaPCallsB
import Derived.Lib.LazyBuf
namespace Go.Proofs.Ytjjfdkgnagfbcaa
open Go.ChangeShapes Go.WideShapes Go.ChangeAt Go.RowKit
attribute [local go_sem ↓] Go.wp_at_zero Go.wp_at_succ
attribute [local go_sem] str_size str_extract str_append str_toList

set_option maxHeartbeats 4000000 in
set_option maxRecDepth 100000 in
theorem rot_any {w : World} {p gl gf : Nat} {M : MS} (h : PO w p gl gf M) (k : Int) (S : List UInt8) :
    Calls Try.prog 23 #[.pointer (some ⟨p, 0, none⟩), .int .i64 k, .string (str S)] w fun e w' => e = .returned (.bool (fitB M k S)) ∧ PO w' p gl gf (mRot M k S) ∧ Keep (Fp p gl gf) w w' := by
  have hF := Hid.intro (fits_any h k S)
  have hokr := Hid.intro (h.ok.rot k S)
  unfold mRot at hokr ⊢
  cases hf : fitB M k S with
  | false =>
    rw [hf] at hF
    have h' := Hid.intro h
    clear h hokr
    simp only [Bool.false_eq_true, if_false]
    go_enter Try.func23, Try.ntmps23
    go_wp2_with fail
    refine hF.out.mono ?_; rintro e w1 ⟨rfl, rfl⟩
    go_wp2
    go_ret
    exact ⟨rfl, h'.out, Keep.refl _⟩
  | true =>
    rw [hf] at hF
    rw [hf] at hokr
    simp only [if_true] at hokr ⊢
    obtain ⟨⟨h1, h2⟩, hS⟩ := fitB_iff.1 hf
    obtain ⟨k, rfl⟩ : ∃ j : Nat, k = j := ⟨k.toNat, by omega⟩
    have hk : k < M.L.length := by omega
    simp only [Int.toNat_natCast] at hokr ⊢
    have k0 : (0 : Int) ≤ (k : Int) := h1
    have hne := h.ne
    obtain ⟨hap1, hap2⟩ := h.apart
    have hM0 : PMem w p gl gf M := h.mem
    obtain ⟨cl0, cf0, hcl0, hcf0, e2, e3, _, _, uL, _, _, _⟩ := hM0.reads hk h.ok.len
    have hcp := copy_page (c := 32) hS uL
    have hM1 := hM0.storeL hk hS hap1 hne
    have hX1 := h.ok.len
    have hnW := h.ok.hW
    have hn60 := h.ok.n60
    have hK1 := Hid.intro (Keep.sets (F := Fp p gl gf) (w := w) (g := gl) (o := k * 32) (vs := S.map bV) (.inr (.inl rfl)))
    have hpgs : Hid (pgAt (M.L.set k S) k = S) := Hid.intro (by unfold pgAt; rw [List.getElem?_set_self hk]; rfl)
    have hcl0' := hcl0
    clear h hf hM0 hcf0 e3 uL
    go_enter Try.func23, Try.ntmps23
    go_wp2_with fail
    refine hF.out.mono ?_; rintro e w1 ⟨rfl, rfl⟩
    go_wp2_with fail
    clear e2 hcp
    generalize w1.setCells gl (k * 32) (S.map bV) = w4 at *
    obtain ⟨cl, cf, hcl, hcf, d2, d3, rL, rX, tL, tX, pL, pX⟩ := hM1.reads (k := k) (by simpa using hk) (by simpa using hX1)
    simp only [List.length_set] at d2 d3 hcl hcf
    simp only [hpgs.out] at rL
    have hM1' := Hid.intro hM1
    have rL' := Hid.intro rL
    have tX' := Hid.intro tX
    have d2' := Hid.intro d2
    have d3' := Hid.intro d3
    have pS := hS
    clear hM1 rL rX tL tX d2 d3 pL pX
    generalize hnn : M.L.length = nn at *
    have hnn' := Hid.intro hnn
    clear hnn
    refine wp_region_held_drew (S := fun w' => w'.cell? ⟨p, 3, none⟩ = some (.slice (some ⟨gf, 0, none⟩) nn cf) ∧ w'.cell? ⟨p, 2, none⟩ = some (.slice (some ⟨gl, 0, none⟩) nn cl) ∧ w'.rangeAt gl (k * 32) (S.map bV) ∧ w'.there gf (k * 32) 32) (by kernel_rfl) (⟨d3'.out, d2'.out, rL'.out, tX'.out⟩) (fun hHeld => ?_)
    refine wpAnyH_take (i := 0) (v := .pointer (some ⟨p, 0, none⟩)) rfl (by kernel_rfl) (by kernel_rfl) (by kernel_rfl) (fun _ _ _ h => h) (Or.inl ⟨by rfl, fun w' hSw => by clear hSw; go_simp⟩) hHeld ?_
    change wpAnyH _ _ _ _ _ _ _ (Act.put _ (some 21) _) _
    simp only [Act.put, List.setIfInBounds_toArray, List.set_cons_zero, List.set_cons_succ]
    refine wpAnyH_take (i := 1) (v := .pointer (some ⟨p, 0, none⟩)) rfl (by kernel_rfl) (by kernel_rfl) (by kernel_rfl) (fun _ _ _ h => h) (Or.inl ⟨by rfl, fun w' hSw => by clear hSw; go_simp⟩) hHeld ?_
    change wpAnyH _ _ _ _ _ _ _ (Act.put _ (some 22) _) _
    simp only [Act.put, List.setIfInBounds_toArray, List.set_cons_zero, List.set_cons_succ]
    refine wpAnyH_take (i := 2) (v := .pointer (some ⟨p, 3, none⟩)) rfl (by kernel_rfl) (by kernel_rfl) (by kernel_rfl) (fun _ _ _ h => h) (Or.inl ⟨by rfl, fun w' hSw => by clear hSw; go_simp⟩) hHeld ?_
    change wpAnyH _ _ _ _ _ _ _ (Act.put _ (some 23) _) _
    simp only [Act.put, List.setIfInBounds_toArray, List.set_cons_zero, List.set_cons_succ]
    refine wpAnyH_take (i := 3) (v := .slice (some ⟨gf, 0, none⟩) nn cf) rfl (by kernel_rfl) (by kernel_rfl) (by kernel_rfl) (fun _ _ _ h => h) (Or.inl ⟨by rfl, fun w' hSw => by obtain ⟨s0, s1, _, _⟩ := hSw; go_simp⟩) hHeld ?_
    change wpAnyH _ _ _ _ _ _ _ (Act.put _ (some 24) _) _
    simp only [Act.put, List.setIfInBounds_toArray, List.set_cons_zero, List.set_cons_succ]
    refine wpAnyH_take (i := 4) (v := .int .i64 (k : Int)) rfl (by kernel_rfl) (by kernel_rfl) (by kernel_rfl) (fun _ _ _ h => h) (Or.inl ⟨by rfl, fun w' hSw => by clear hSw; go_simp⟩) hHeld ?_
    change wpAnyH _ _ _ _ _ _ _ (Act.put _ (some 25) _) _
    simp only [Act.put, List.setIfInBounds_toArray, List.set_cons_zero, List.set_cons_succ]
    refine wpAnyH_take (i := 5) (v := .pointer (some ⟨p, 0, none⟩)) rfl (by kernel_rfl) (by kernel_rfl) (by kernel_rfl) (fun _ _ _ h => h) (Or.inl ⟨by rfl, fun w' hSw => by clear hSw; go_simp⟩) hHeld ?_
    change wpAnyH _ _ _ _ _ _ _ (Act.put _ (some 26) _) _
    simp only [Act.put, List.setIfInBounds_toArray, List.set_cons_zero, List.set_cons_succ]
    refine wpAnyH_take (i := 6) (v := .pointer (some ⟨p, 0, none⟩)) rfl (by kernel_rfl) (by kernel_rfl) (by kernel_rfl) (fun _ _ _ h => h) (Or.inl ⟨by rfl, fun w' hSw => by clear hSw; go_simp⟩) hHeld ?_
    change wpAnyH _ _ _ _ _ _ _ (Act.put _ (some 27) _) _
    simp only [Act.put, List.setIfInBounds_toArray, List.set_cons_zero, List.set_cons_succ]
    refine wpAnyH_take (i := 7) (v := .pointer (some ⟨p, 2, none⟩)) rfl (by kernel_rfl) (by kernel_rfl) (by kernel_rfl) (fun _ _ _ h => h) (Or.inl ⟨by rfl, fun w' hSw => by clear hSw; go_simp⟩) hHeld ?_
    change wpAnyH _ _ _ _ _ _ _ (Act.put _ (some 28) _) _
    simp only [Act.put, List.setIfInBounds_toArray, List.set_cons_zero, List.set_cons_succ]
    refine wpAnyH_take (i := 8) (v := .slice (some ⟨gl, 0, none⟩) nn cl) rfl (by kernel_rfl) (by kernel_rfl) (by kernel_rfl) (fun _ _ _ h => h) (Or.inl ⟨by rfl, fun w' hSw => by obtain ⟨s0, s1, _, _⟩ := hSw; go_simp⟩) hHeld ?_
    change wpAnyH _ _ _ _ _ _ _ (Act.put _ (some 29) _) _
    simp only [Act.put, List.setIfInBounds_toArray, List.set_cons_zero, List.set_cons_succ]
    refine wpAnyH_take (i := 9) (v := .int .i64 (k : Int)) rfl (by kernel_rfl) (by kernel_rfl) (by kernel_rfl) (fun _ _ _ h => h) (Or.inl ⟨by rfl, fun w' hSw => by clear hSw; go_simp⟩) hHeld ?_
    change wpAnyH _ _ _ _ _ _ _ (Act.put _ (some 30) _) _
    simp only [Act.put, List.setIfInBounds_toArray, List.set_cons_zero, List.set_cons_succ]
    refine wpAnyH_take (i := 10) (v := .pointer (some ⟨gl, k * 32, none⟩)) rfl (by kernel_rfl) (by kernel_rfl) (by kernel_rfl) (fun _ _ _ h => h) (Or.inl ⟨by rfl, fun w' hSw => by clear hSw; go_simp⟩) hHeld ?_
    change wpAnyH _ _ _ _ _ _ _ (Act.put _ (some 31) _) _
    simp only [Act.put, List.setIfInBounds_toArray, List.set_cons_zero, List.set_cons_succ]
    refine wpAnyH_take (i := 11) (v := .agg (S.map bV).toArray) rfl (by kernel_rfl) (by kernel_rfl) (by kernel_rfl) (fun _ _ _ h => h) (yieldsIf_load_mid (by rfl) 67 _ rfl gl (k * 32) rfl (S.map bV) _ (fun _ h => h.2.2.1) und67 rfl (by rw [List.length_map, pS]; exact size67)) hHeld ?_
    change wpAnyH _ _ _ _ _ _ _ (Act.put _ (some 32) _) _
    simp only [Act.put, List.setIfInBounds_toArray, List.set_cons_zero, List.set_cons_succ]
    refine wpAnyH_take (i := 12) (v := .pointer (some ⟨gf, k * 32, none⟩)) rfl (by kernel_rfl) (by kernel_rfl) (by kernel_rfl) (fun _ _ _ h => h) (Or.inl ⟨by rfl, fun w' hSw => by clear hSw; go_simp⟩) hHeld ?_
    change wpAnyH _ _ _ _ _ _ _ (Act.put _ (some 33) _) _
    simp only [Act.put, List.setIfInBounds_toArray, List.set_cons_zero, List.set_cons_succ]
    refine wpAnyH_ready (rs := [13]) (by kernel_rfl) (by simp) ?_
    refine AllReadyH.cons rfl (fun K hK => ?_) AllReadyH.nil
    rw [if_pos (by rfl)]
    refine wp_store_mid 67 _ _ rfl gf (k * 32) (S.map bV).toArray rfl rfl (by simpa [pS] using hHeld.2.2.2) (by simpa [pS] using size67) (all_oneCell_toArray (bV_all _)) ?_
    refine hK.out _ (w4.drew.setCells gf (k * 32) (S.map bV)) ⟨?_, ?_, ?_, ?_⟩ (fun hHeld => ?_)
    · rw [World.cell?_of_block (w := w4.drew) (setCells_other _ _ _ _ _ hap2)]; exact d3'.out
    · rw [World.cell?_of_block (w := w4.drew) (setCells_other _ _ _ _ _ hap2)]; exact d2'.out
    · exact World.rangeAt_setCells_apart (w := w4.drew) rL'.out _ _ _ (.inl hne)
    · exact World.there_setCells (w := w4.drew) tX'.out _ _ _
    clear hK K
    refine wpAnyH_done (by kernel_rfl) ?_ _
    have hM5 := Hid.intro (hM1'.out.drew.storeX (k := k) (S := S) (by simp only; have := hnn'.out; omega) hS hap2 hne)
    have hc5 : (w4.drew.setCells gf (k * 32) (S.map bV)).cell? ⟨p, 4, none⟩ = some (.int .u64 (M.W : Int)) ∧ (w4.drew.setCells gf (k * 32) (S.map bV)).frozen? ⟨p, 4, none⟩ = false := by
      obtain ⟨vl, vf, g1, _, _⟩ := hM5.out
      exact ⟨(cells_of g1).c4, (cells_of g1).fz 4⟩
    have hcut := Hid.intro (bcut_any k hc5.1 hc5.2 hnW (by have := hnn'.out; omega))
    have hK5 := Hid.intro ((hK1.out.drew).then (Keep.sets (F := Fp p gl gf) (g := gf) (o := k * 32) (vs := S.map bV) (.inr (.inr rfl))))
    clear hc5
    generalize w4.drew.setCells gf (k * 32) (S.map bV) = w5 at *
    go_wp2_with fail
    refine hcut.out.mono ?_; rintro e w6 ⟨rfl, rfl⟩
    have hend : Hid (PMem (w5.setCell ⟨p, 4, none⟩ (.int .u64 ((offW M.W k : Nat) : Int))).drew p gl gf { M with L := M.L.set k S, X := M.X.set k S, W := offW M.W k }) := Hid.intro (by
      obtain ⟨vl, vf, g1, g2, g3⟩ := hM5.out
      exact PMem.drew ⟨vl, vf, box_W g1 _, g2.keep (Below.heap_setCell _ _ _ _ hap1.symm), g3.keep (Below.heap_setCell _ _ _ _ hap2.symm)⟩)
    go_wp2
    go_ret
    exact ⟨rfl, ⟨hend.out, hne, hokr.out⟩, (hK5.out.then (Keep.set (.inl rfl))).drew⟩
theorem rot_nil (k : Int) (S : List UInt8) (w : World) : Calls Try.prog 23 #[.pointer none, .int .i64 k, .string (str S)] w fun e w' => e = .returned (.bool false) ∧ w' = w := by
  go_enter Try.func23, Try.ntmps23
  go_wp2_with fail
  refine (fits_nil k S w).mono ?_; rintro e w1 ⟨rfl, rfl⟩
  go_wp2
  go_ret
  exact ⟨rfl, rfl⟩

/-! ### New -/
def zp : List UInt8 := List.replicate 32 0
def mNew (n : Nat) : MS := ⟨true, List.replicate n zp, List.replicate n zp, 0, -1, 0⟩
theorem mNew_ok {n : Nat} (h : n ≤ 60) : Ok (mNew n) := by
  refine ⟨by simpa [mNew] using h, rfl, ?_, ?_, by simp [mNew], by simp [mNew], fun k hk => by simp [mNew] at hk, fun k _ => rfl, by simp [mNew], by simp [mNew]⟩
  · intro P hP; have := List.eq_of_mem_replicate hP; subst this; rfl
  · intro P hP; have := List.eq_of_mem_replicate hP; subst this; rfl
def z67 : Array Value := (List.replicate 32 (Value.int .u8 0)).toArray
theorem Try.info67 : (Try.prog.info? 67).map (fun i => (i.zero, i.size, i.bytes)) = some (some (.agg z67), 32, 32) := by kernel_rfl
theorem z67_get (b : Nat) (hb : b < 32) : z67[b]? = some (.int .u8 0) := by
  unfold z67; rw [List.getElem?_toArray, List.getElem?_replicate, if_pos hb]
theorem made_get (n : Nat) : madeCells z67 (n * 32) = (pg (List.replicate n zp)).toArray := by
  apply Array.ext'
  apply List.ext_getElem?
  intro i
  have hz : ∀ P ∈ List.replicate n zp, P.length = 32 := fun P hP => by have := List.eq_of_mem_replicate hP; subst this; rfl
  have hl := pg_length _ hz
  rw [List.length_replicate] at hl
  by_cases hi : i < n * 32
  · obtain ⟨a, b, hb, rfl⟩ : ∃ a b, b < 32 ∧ i = a * 32 + b := ⟨i / 32, i % 32, Nat.mod_lt _ (by decide), by omega⟩
    have ha : a < n := by omega
    rw [pg_get _ _ _ hz hb, List.getElem?_replicate, if_pos ha]
    have : (zp.map bV)[b]? = some (.int .u8 0) := by
      rw [List.getElem?_map]
      unfold zp
      rw [List.getElem?_replicate, if_pos hb]
      rfl
    rw [show ((some zp).bind fun P => (P.map bV)[b]?) = (zp.map bV)[b]? from rfl, this]
    have hs : z67.size = 32 := rfl
    have hm : (a * 32 + b) % 32 = b := by omega
    simp only [madeCells, hs]
    have hz5 : z67[b]! = Value.int .u8 0 := by rw [Array.getElem!_eq_getD, Array.getD_eq_getD_getElem?, z67_get b hb]; rfl
    simp [hi, hm, hz5]
  · rw [List.getElem?_eq_none (by simp [madeCells]; omega), List.getElem?_eq_none (by simp; omega)]
theorem made_run (w : World) (n : Nat) (hn : n ≤ 60) : (Instr.makeSlice 54 (.int .i64 (n : Int)) (.int .i64 (n : Int))).run Try.prog w = .ok (.slice (some ⟨w.heap.size, 0, none⟩) n n) (w.alloc (.cells (pg (List.replicate n zp)).toArray 67)) := by
  obtain ⟨i0, hi, hz0, hz1, hz2⟩ := info_parts Try.info67
  have hr := run_make (P := Try.prog) w 54 67 i0 (.agg z67) Try.underlying54 hi hz0 .i64 .i64 (n : Int) (n : Int) (by omega) (by omega) (by rw [hz2]; omega) (by omega)
  simp only [Int.toNat_natCast, hz1] at hr
  rw [hr, show (Value.agg z67).cells = z67 from rfl, made_get]
theorem rw_new (w : World) (n : Nat) : RW (w.alloc (.cells (pg (List.replicate n zp)).toArray 67)) w.heap.size (.slice (some ⟨w.heap.size, 0, none⟩) n n) (List.replicate n zp) := by
  refine ⟨fun P hP => by have := List.eq_of_mem_replicate hP; subst this; rfl, n, [], by rw [List.length_replicate], by rw [List.length_replicate]; exact Nat.le_refl _, ?_⟩
  rw [List.append_nil]
  exact heap_alloc_new w _
def z59 : Array Value := #[.bool false, .bool false, .slice none 0 0, .slice none 0 0, .int .u64 0, .int .u64 0, .int .u64 0, .int .u64 0, .int .i64 0, .int .u64 0, .int .u64 0, .int .u64 0, .int .u64 0]
theorem Try.info59 : (Try.prog.info? 59).map (fun i => (i.zero, i.size, i.bytes)) = some (some (.agg z59), 13, 128) := by kernel_rfl
theorem zero59 (w : World) : (zeroValue 59).run Try.prog w = .ok (.agg z59) w := by
  obtain ⟨i, hi, hz0, hz1, hz2⟩ := info_parts Try.info59
  simp [zeroValue, typeInfo, hi, hz0]
theorem size59 : (Try.prog.info? 59).map (·.size) = some 13 := by kernel_rfl
theorem new_po {W : World} {n gl gf : Nat} (hn : n ≤ 60) (h1 : RW W gl (.slice (some ⟨gl, 0, none⟩) n n) (List.replicate n zp)) (h2 : RW W gf (.slice (some ⟨gf, 0, none⟩) n n) (List.replicate n zp)) (hne : gl ≠ gf) :
    PO (W.alloc (.cells (boxC true (.slice (some ⟨gl, 0, none⟩) n n) (.slice (some ⟨gf, 0, none⟩) n n) 0 (-1) 0).toArray 59)).drew W.heap.size gl gf (mNew n) :=
  ⟨⟨_, _, heap_alloc_new W _, h1.keep (Below.heap_alloc _ _ _ h1.lt), h2.keep (Below.heap_alloc _ _ _ h2.lt)⟩, hne, mNew_ok hn⟩
set_option maxRecDepth 100000 in
theorem new_any (pages : Int) (hp : pages ≤ 60) (w : World) :
    Calls Try.prog 9 #[.int .i64 pages] w fun e w' => ∃ p gl gf, e = .returned (.pointer (some ⟨p, 0, none⟩)) ∧ PO w' p gl gf (mNew pages.toNat) ∧ w.heap.size ≤ p ∧ w.heap.size ≤ gl ∧ w.heap.size ≤ gf ∧ Below w.heap.size w w' := by
  obtain ⟨n, hn, hn60, hmx⟩ : ∃ n : Nat, pages.toNat = n ∧ n ≤ 60 ∧ max pages 0 = (n : Int) := ⟨pages.toNat, rfl, by omega, by omega⟩
  have hmn : min (n : Int) 250 = (n : Int) := by omega
  rw [hn]
  clear hn hp
  have hmk := fun w1 => made_run w1 n hn60
  have hz := zero59
  simp only [z59] at hz
  have q1 := rw_new w n
  have q2 := rw_new (w.alloc (.cells (pg (List.replicate n zp)).toArray 67)) n
  have hs1 : (w.alloc (.cells (pg (List.replicate n zp)).toArray 67)).heap.size = w.heap.size + 1 := by simp
  have hs2 : ((w.alloc (.cells (pg (List.replicate n zp)).toArray 67)).alloc (.cells (pg (List.replicate n zp)).toArray 67)).heap.size = w.heap.size + 1 + 1 := by simp
  rw [hs1] at q2
  have q1' := q1.keep (Below.heap_alloc _ (.cells (pg (List.replicate n zp)).toArray 67) _ q1.lt)
  have hA := Hid.intro (new_po hn60 q1' q2 (by omega))
  have hB := Hid.intro (new_po hn60 q2 q1' (by omega))
  have hb0 : Below w.heap.size w ((w.alloc (.cells (pg (List.replicate n zp)).toArray 67)).alloc (.cells (pg (List.replicate n zp)).toArray 67)) := ((Below.refl _ _).alloc (Nat.le_refl _) _).alloc (by simp) _
  have hbA := Hid.intro (fun o => (hb0.alloc (by simp; omega) o).drew)
  rw [hs2] at hA hB
  clear q1 q2 q1' hs1 hs2 hb0
  have hn0 : (0 : Int) ≤ (n : Int) := Int.natCast_nonneg _
  go_enter Try.func9, Try.ntmps9
  go_wp2_with fail
  go_region
  · go_wp2
    go_ret
    exact ⟨_, _, _, rfl, hA.out, by omega, by omega, by omega, hbA.out _⟩
  · go_wp2
    go_ret
    exact ⟨_, _, _, rfl, hB.out, by omega, by omega, by omega, hbA.out _⟩

/-! ### Twin -/
theorem rw_own {w : World} {base : Nat} {v : Value} {L : List (List UInt8)} (h : w.ownsRow base 67 32 v L.length (pg L)) (hL : ∀ P ∈ L, P.length = 32) (hv : v ≠ .slice none 0 0) : ∃ g, base ≤ g ∧ RW w g v L := by
  rcases h.2 with ⟨h1, _⟩ | ⟨g, cap, cur, rfl, hb, hg, hc, _, hcs, ht⟩
  · exact absurd h1 hv
  · refine ⟨g, hb, hL, cap, cur.toList.drop (L.length * 32), rfl, hc, ?_⟩
    rw [hg, ← ht, List.take_append_drop]
theorem own_empty67 (w : World) : (w.alloc (.cells #[] 67)).ownsRow w.heap.size 67 32 (.slice (some ⟨w.heap.size, 0, none⟩) 0 0) 0 [] :=
  ⟨rfl, .inr ⟨w.heap.size, 0, #[], rfl, Nat.le_refl _, by have := heap_alloc_new w (.cells #[] 67); simpa using this, Nat.le_refl _, Nat.zero_le _, rfl, rfl⟩⟩
theorem eql54 (w : World) (a : Option Addr) (l c : Nat) : (binOp .eql 54 (.slice a l c) (.slice none 0 0)).run Try.prog w = .ok (.bool a.isNone) w := run_eql_slice_nil w 54 67 a l c Try.underlying54
attribute [local go_sem] eql54
theorem z67_size : (Value.agg z67).cells.size = 32 := rfl
set_option maxRecDepth 100000 in
theorem clone_any {w : World} {g : Nat} {v : Value} {L : List (List UInt8)} (h : RW w g v L) (hl : L.length ≤ 60) :
    Calls Try.prog 29 #[v] w fun e w' => ∃ u g', e = .returned u ∧ RW w' g' u L ∧ w.heap.size ≤ g' ∧ Below w.heap.size w w' := by
  obtain ⟨i0, hi0, hz0', hz1', hz2'⟩ := info_parts Try.info67
  obtain ⟨cap, r, rfl, hc, hg⟩ := h.blk
  have hLl := h.len
  have hpl := pg_length _ h.len
  have hba : Below w.heap.size w (w.alloc (.cells #[] 67)) := (Below.refl _ _).alloc (Nat.le_refl _) _
  have hcs : Hid (∀ (j : Nat) u, (pg L)[j]? = some u → (w.alloc (.cells #[] 67)).cell? ((⟨g, 0, none⟩ : Addr).add j) = some u) := Hid.intro (fun j u hu => by
    rw [Addr.add_mid, Nat.zero_add]
    rw [hba.cell (p := ⟨g, j, none⟩) h.lt]
    unfold World.cell?
    rw [hg]
    simp only [List.getElem?_toArray]
    rw [List.getElem?_append_left (List.getElem?_eq_some_iff.1 hu).1]; exact hu)
  clear hg h
  by_cases h0 : L = []
  · subst h0
    go_enter Try.func29, Try.ntmps29
    go_wp2
    go_ret
    obtain ⟨g', hg', hr⟩ := rw_own (L := []) (own_empty67 w) hLl (by simp)
    exact ⟨_, g', rfl, hr, hg', hba⟩
  · have h0' : 0 < L.length := List.length_pos_iff.2 h0
    clear h0
    go_enter Try.func29, Try.ntmps29
    go_wp2_with (at_builtin; refine wpList_append_lies _ rfl _ _ 54 rfl w.heap.size 67 i0 (.agg z67) 32 32 Try.underlying54 hi0 hz0' hz1' hz2' z67_size (by decide) _ 0 [] rfl (own_empty67 w) ⟨g, 0, none⟩ L.length cap (pg L) rfl hpl hcs.out (pg_all L) h0' (by unfold maxLen; omega) (by omega) (by simp) (w.heap.size + 1) (by simp) ?_; intro g5 cap5 w5 hown5 hgrow5 hat5 hlt5)
    go_ret
    obtain ⟨g', hg', hr⟩ := rw_own (L := L) (by simpa using hown5) hLl (by simp)
    exact ⟨_, g', rfl, hr, hg', hba.grown hgrow5 (by simp) (fun j hj => by cases hj; exact Nat.le_refl _)⟩
theorem PMem.whole {w : World} {p gl gf : Nat} {M : MS} (h : PMem w p gl gf M) : ∃ vl vf, w.rangeAt p 0 (boxC M.on vl vf M.W M.left M.K) ∧ RW w gl vl M.L ∧ RW w gf vf M.X := by
  obtain ⟨vl, vf, h1, h2, h3⟩ := h
  refine ⟨vl, vf, ?_, h2, h3⟩
  have := World.rangeAt_of_block h1 0 13
  simpa [boxC] using this
theorem boxC_length (on : Bool) (vl vf : Value) (W : Nat) (left : Int) (K : Nat) : (boxC on vl vf W left K).length = 13 := rfl
theorem boxC_one {on : Bool} {vl vf : Value} {W : Nat} {left : Int} {K : Nat} (h1 : vl.oneCell' = true) (h2 : vf.oneCell' = true) : ∀ u ∈ boxC on vl vf W left K, u.oneCell' = true := by
  intro u hu
  simp only [boxC, List.mem_cons, List.not_mem_nil, or_false] at hu
  rcases hu with rfl | rfl | rfl | rfl | rfl | rfl | rfl | rfl | rfl | rfl | rfl | rfl | rfl <;> first | rfl | exact h1 | exact h2
theorem RW.one {w : World} {g : Nat} {v : Value} {L : List (List UInt8)} (h : RW w g v L) : v.oneCell' = true := by
  obtain ⟨cap, rfl, _⟩ := h.form; rfl
theorem there59 (w : World) : (w.alloc (.cells z59 59)).there w.heap.size 0 13 := there_new (by decide)
theorem box_all (w : World) (on : Bool) (vl vf : Value) (W : Nat) (left : Int) (K : Nat) : ((w.alloc (.cells z59 59)).setCells w.heap.size 0 (boxC on vl vf W left K)).heap[w.heap.size]? = some (.cells (boxC on vl vf W left K).toArray 59 (0, 0)) := by
  rw [setCells_block w.heap.size 59 (0, 0) (boxC on vl vf W left K) 0 z59.toList _ (heap_alloc_new w _)]
  rfl
theorem box_l {w : World} {p : Nat} {on : Bool} {vl vf : Value} {W : Nat} {left : Int} {K : Nat} (h : w.heap[p]? = some (.cells (boxC on vl vf W left K).toArray 59 (0, 0))) (u : Value) : (w.setCell ⟨p, 2, none⟩ u).heap[p]? = some (.cells (boxC on u vf W left K).toArray 59 (0, 0)) := by
  simp [World.setCell, Array.getElem?_modify, h, boxC]
theorem box_f {w : World} {p : Nat} {on : Bool} {vl vf : Value} {W : Nat} {left : Int} {K : Nat} (h : w.heap[p]? = some (.cells (boxC on vl vf W left K).toArray 59 (0, 0))) (u : Value) : (w.setCell ⟨p, 3, none⟩ u).heap[p]? = some (.cells (boxC on vl u W left K).toArray 59 (0, 0)) := by
  simp [World.setCell, Array.getElem?_modify, h, boxC]
set_option maxHeartbeats 4000000 in
set_option maxRecDepth 100000 in
theorem twin_any {w : World} {p gl gf : Nat} {M : MS} (h : PO w p gl gf M) :
    Calls Try.prog 12 #[.pointer (some ⟨p, 0, none⟩)] w fun e w' => ∃ p' gl' gf', e = .returned (.pointer (some ⟨p', 0, none⟩)) ∧ PO w' p' gl' gf' M ∧ w.heap.size ≤ p' ∧ w.heap.size ≤ gl' ∧ w.heap.size ≤ gf' ∧ Below w.heap.size w w' := by
  have hN := Hid.intro (isNone_any h)
  have hok := Hid.intro h.ok
  have hn60 := h.ok.n60
  have hXl := h.ok.len
  obtain ⟨vl, vf, hr, hL, hX⟩ := PMem.whole (show PMem w p gl gf M from h.mem)
  have hO := Hid.intro h
  have hr' := Hid.intro hr
  have hz := zero59
  have hall := Hid.intro (boxC_one (on := M.on) (W := M.W) (left := M.left) (K := M.K) hL.one hX.one)
  have hth := Hid.intro (there59 w)
  have hbx := Hid.intro (box_all w M.on vl vf M.W M.left M.K)
  have hb1 := Hid.intro ((((Below.refl w.heap.size w).alloc (Nat.le_refl _) (.cells z59 59)).trans ((Keep.sets (F := fun j => j = w.heap.size) (w := w.alloc (.cells z59 59)) (g := w.heap.size) (o := 0) (vs := boxC M.on vl vf M.W M.left M.K) rfl).below (b := w.heap.size) (by simp) (fun j hj e => by omega))))
  have hs1 : ((w.alloc (.cells z59 59)).setCells w.heap.size 0 (boxC M.on vl vf M.W M.left M.K)).heap.size = w.heap.size + 1 := by rw [(setCells_facts _ _ _ _).2.2.2]; simp
  clear h hr
  go_enter Try.func12, Try.ntmps12
  go_wp2_with fail
  refine hN.out.mono ?_; rintro e w1 ⟨rfl, rfl⟩
  go_wp2_with (first | (refine wpList_load_mid rfl 59 _ rfl p 0 rfl (boxC M.on vl vf M.W M.left M.K) _ hr'.out Try.underlying59 rfl (by rw [boxC_length]; exact size59) ?_) | (refine wpList_store_mid rfl 59 _ _ rfl w1.heap.size 0 _ rfl rfl hth.out size59 (all_oneCell_toArray hall.out) ?_))
  change Code.wp _ _ _ _ ((w1.alloc (.cells z59 59)).setCells w1.heap.size 0 (boxC M.on vl vf M.W M.left M.K))
  generalize (w1.alloc (.cells z59 59)).setCells w1.heap.size 0 (boxC M.on vl vf M.W M.left M.K) = w2 at *
  have hrr := Hid.intro hr'.out
  clear hr' hth hall hz
  have hLk := Hid.intro (show RW w2.drew gl vl M.L from hL.keep (hb1.out.block gl hL.lt))
  have hXk := Hid.intro (show RW w2.drew gf vf M.X from hX.keep (hb1.out.block gf hX.lt))
  have hX60 : M.X.length ≤ 60 := by omega
  have hpl := hO.out.lt.1
  have hcc := Hid.intro (show w2.cell? ⟨p, 2, none⟩ = some vl ∧ w2.cell? ⟨p, 3, none⟩ = some vf from by
    rw [hb1.out.cell (p := ⟨p, 2, none⟩) hpl, hb1.out.cell (p := ⟨p, 3, none⟩) hpl]
    have := hrr.out
    exact ⟨by simpa [boxC] using this 2 vl rfl, by simpa [boxC] using this 3 vf rfl⟩)
  clear hL hX
  refine wp_region_held_drew (S := fun w' => w'.cell? ⟨p, 2, none⟩ = some vl ∧ w'.cell? ⟨p, 3, none⟩ = some vf) (by kernel_rfl) (hcc.out) (fun hHeld => ?_)
  refine wpAnyH_take (i := 0) (v := .pointer (some ⟨p, 0, none⟩)) rfl (by kernel_rfl) (by kernel_rfl) (by kernel_rfl) (fun _ _ _ h => h) (Or.inl ⟨by rfl, fun w' hSw => by clear hSw; go_simp⟩) hHeld ?_
  change wpAnyH _ _ _ _ _ _ _ (Act.put _ (some 9) _) _
  simp only [Act.put, List.setIfInBounds_toArray, List.set_cons_zero, List.set_cons_succ]
  refine wpAnyH_take (i := 1) (v := .pointer (some ⟨p, 0, none⟩)) rfl (by kernel_rfl) (by kernel_rfl) (by kernel_rfl) (fun _ _ _ h => h) (Or.inl ⟨by rfl, fun w' hSw => by clear hSw; go_simp⟩) hHeld ?_
  change wpAnyH _ _ _ _ _ _ _ (Act.put _ (some 10) _) _
  simp only [Act.put, List.setIfInBounds_toArray, List.set_cons_zero, List.set_cons_succ]
  refine wpAnyH_take (i := 2) (v := .pointer (some ⟨p, 2, none⟩)) rfl (by kernel_rfl) (by kernel_rfl) (by kernel_rfl) (fun _ _ _ h => h) (Or.inl ⟨by rfl, fun w' hSw => by clear hSw; go_simp⟩) hHeld ?_
  change wpAnyH _ _ _ _ _ _ _ (Act.put _ (some 11) _) _
  simp only [Act.put, List.setIfInBounds_toArray, List.set_cons_zero, List.set_cons_succ]
  refine wpAnyH_take (i := 3) (v := vl) rfl (by kernel_rfl) (by kernel_rfl) (by kernel_rfl) (fun _ _ _ h => h) (Or.inl ⟨by rfl, fun w' hSw => by obtain ⟨s0, s1⟩ := hSw; go_simp⟩) hHeld ?_
  change wpAnyH _ _ _ _ _ _ _ (Act.put _ (some 12) _) _
  simp only [Act.put, List.setIfInBounds_toArray, List.set_cons_zero, List.set_cons_succ]
  refine wpAnyH_take (i := 5) (v := .pointer (some ⟨p, 0, none⟩)) rfl (by kernel_rfl) (by kernel_rfl) (by kernel_rfl) (fun _ _ _ h => h) (Or.inl ⟨by rfl, fun w' hSw => by clear hSw; go_simp⟩) hHeld ?_
  change wpAnyH _ _ _ _ _ _ _ (Act.put _ (some 14) _) _
  simp only [Act.put, List.setIfInBounds_toArray, List.set_cons_zero, List.set_cons_succ]
  refine wpAnyH_take (i := 6) (v := .pointer (some ⟨p, 0, none⟩)) rfl (by kernel_rfl) (by kernel_rfl) (by kernel_rfl) (fun _ _ _ h => h) (Or.inl ⟨by rfl, fun w' hSw => by clear hSw; go_simp⟩) hHeld ?_
  change wpAnyH _ _ _ _ _ _ _ (Act.put _ (some 15) _) _
  simp only [Act.put, List.setIfInBounds_toArray, List.set_cons_zero, List.set_cons_succ]
  refine wpAnyH_take (i := 7) (v := .pointer (some ⟨p, 3, none⟩)) rfl (by kernel_rfl) (by kernel_rfl) (by kernel_rfl) (fun _ _ _ h => h) (Or.inl ⟨by rfl, fun w' hSw => by clear hSw; go_simp⟩) hHeld ?_
  change wpAnyH _ _ _ _ _ _ _ (Act.put _ (some 16) _) _
  simp only [Act.put, List.setIfInBounds_toArray, List.set_cons_zero, List.set_cons_succ]
  refine wpAnyH_take (i := 8) (v := vf) rfl (by kernel_rfl) (by kernel_rfl) (by kernel_rfl) (fun _ _ _ h => h) (Or.inl ⟨by rfl, fun w' hSw => by obtain ⟨s0, s1⟩ := hSw; go_simp⟩) hHeld ?_
  change wpAnyH _ _ _ _ _ _ _ (Act.put _ (some 17) _) _
  simp only [Act.put, List.setIfInBounds_toArray, List.set_cons_zero, List.set_cons_succ]
  refine wpAnyH_ready (rs := [4]) (by kernel_rfl) (by simp) ?_
  refine AllReadyH.cons rfl (fun K hK => ?_) AllReadyH.nil
  go_simp
  refine (clone_any hLk.out hn60).mono ?_; rintro e x1 ⟨u1, g1, rfl, hr1, hg1, hd1⟩; obtain ⟨q1, rfl, _⟩ := hr1.form
  refine hK.out _ _ (by rw [hd1.cell (p := ⟨p, 2, none⟩) (by show p < w2.heap.size; omega), hd1.cell (p := ⟨p, 3, none⟩) (by show p < w2.heap.size; omega)]; exact hcc.out) (fun hHeld => ?_); clear hK K
  refine wpAnyH_ready (rs := [9]) (by kernel_rfl) (by simp) ?_
  refine AllReadyH.cons rfl (fun K hK => ?_) AllReadyH.nil
  go_simp
  refine (clone_any (hXk.out.keep (hd1.block gf hXk.out.lt)) hX60).mono ?_; rintro e x2 ⟨u2, g2, rfl, hr2, hg2, hd2⟩; obtain ⟨q2, rfl, _⟩ := hr2.form
  refine hK.out _ _ (by have h9 := hd1.size; change w2.heap.size ≤ _ at h9; rw [hd2.cell (p := ⟨p, 2, none⟩) (by show p < x1.heap.size; omega), hd2.cell (p := ⟨p, 3, none⟩) (by show p < x1.heap.size; omega), hd1.cell (p := ⟨p, 2, none⟩) (by show p < w2.heap.size; omega), hd1.cell (p := ⟨p, 3, none⟩) (by show p < w2.heap.size; omega)]; exact hcc.out) (fun hHeld => ?_); clear hK K
  refine wpAnyH_take (i := 10) (v := .pointer (some ⟨w1.heap.size, 2, none⟩)) rfl (by kernel_rfl) (by kernel_rfl) (by kernel_rfl) (fun _ _ _ h => h) (Or.inl ⟨by rfl, fun w' hSw => by clear hSw; go_simp⟩) hHeld ?_
  change wpAnyH _ _ _ _ _ _ _ (Act.put _ (some 19) _) _
  simp only [Act.put, List.setIfInBounds_toArray, List.set_cons_zero, List.set_cons_succ]
  have hne : g1 ≠ g2 := by
    have := hr1.lt; omega
  have h9 : w2.heap.size ≤ x1.heap.size := hd1.size
  have h10 := hd2.size
  have hbx2 := Hid.intro (show x2.heap[w1.heap.size]? = some (.cells (boxC M.on vl vf M.W M.left M.K).toArray 59 (0, 0)) from by
    rw [hd2.block _ (by omega), hd1.block _ (by show w1.heap.size < w2.heap.size; omega)]; exact hbx.out)
  have hc2 := (cells_of hbx2.out).c2
  have hc3 := (cells_of hbx2.out).c3
  have hf2 := (cells_of hbx2.out).fz 2
  have hf3 := (cells_of hbx2.out).fz 3
  have e1 := Hid.intro (box_l hbx2.out (.slice (some ⟨g1, 0, none⟩) M.L.length q1))
  have e2 := Hid.intro (box_f e1.out (.slice (some ⟨g2, 0, none⟩) M.L.length q2))
  have hpn : p ≠ w1.heap.size := by omega
  have n1 : g1 ≠ w1.heap.size := by have : w2.heap.size ≤ g1 := hg1; omega
  have n2 : g2 ≠ w1.heap.size := by omega
  have hr1' := Hid.intro (((hr1.keep (hd2.block g1 hr1.lt)).keep (w' := x2.setCell ⟨w1.heap.size, 2, none⟩ (.slice (some ⟨g1, 0, none⟩) M.L.length q1)) (Below.heap_setCell _ _ _ _ n1)))
  have hr2' := Hid.intro ((hr2.keep (w' := x2.setCell ⟨w1.heap.size, 2, none⟩ (.slice (some ⟨g1, 0, none⟩) M.L.length q1)) (Below.heap_setCell _ _ _ _ n2)))
  have hx1 := hr1.lt
  have hx2 := hr2.lt
  have hbel := Hid.intro ((((hb1.out.trans (below_drw.mono (by omega))).trans (hd1.mono (by show w1.heap.size ≤ w2.heap.size; omega))).trans (hd2.mono (by omega : w1.heap.size ≤ x1.heap.size))))
  have hcp := Hid.intro (show x2.cell? ⟨p, 2, none⟩ = some vl ∧ x2.cell? ⟨p, 3, none⟩ = some vf from hHeld)
  have hbel2 := Hid.intro (hbel.out.setCell (p := ⟨w1.heap.size, 2, none⟩) (Nat.le_refl _) (.slice (some ⟨g1, 0, none⟩) M.L.length q1))
  have hg1' : w2.heap.size ≤ g1 := hg1
  clear hr1 hr2 hd1 hd2 hHeld
  refine wpAnyH_ready (rs := [11]) (by kernel_rfl) (by simp) ?_
  refine AllReadyH.cons rfl (fun K hK => ?_) AllReadyH.nil
  go_simp
  refine hK.out _ _ (by rw [World.cell?_of_block (w := x2) (a := ⟨p, 2, none⟩) (Below.heap_setCell _ _ _ _ hpn), World.cell?_of_block (w := x2) (a := ⟨p, 3, none⟩) (Below.heap_setCell _ _ _ _ hpn)]; exact hcp.out) (fun hHeld => ?_); clear hK K
  refine wpAnyH_take (i := 12) (v := .pointer (some ⟨w1.heap.size, 3, none⟩)) rfl (by kernel_rfl) (by kernel_rfl) (by kernel_rfl) (fun _ _ _ h => h) (Or.inl ⟨by rfl, fun w' hSw => by clear hSw; go_simp⟩) hHeld ?_
  change wpAnyH _ _ _ _ _ _ _ (Act.put _ (some 20) _) _
  simp only [Act.put, List.setIfInBounds_toArray, List.set_cons_zero, List.set_cons_succ]
  clear hc2 hf2 hc3 hf3
  have hc3 := (cells_of e1.out).c3
  have hf3 := (cells_of e1.out).fz 3
  generalize x2.setCell ⟨w1.heap.size, 2, none⟩ (.slice (some ⟨g1, 0, none⟩) M.L.length q1) = x3 at *
  refine wpAnyH_ready (rs := [13]) (by kernel_rfl) (by simp) ?_
  refine AllReadyH.cons rfl (fun K hK => ?_) AllReadyH.nil
  go_simp
  refine hK.out _ _ (by rw [World.cell?_of_block (w := x3) (a := ⟨p, 2, none⟩) (Below.heap_setCell _ _ _ _ hpn), World.cell?_of_block (w := x3) (a := ⟨p, 3, none⟩) (Below.heap_setCell _ _ _ _ hpn)]; exact hHeld) (fun hHeld => ?_); clear hK K
  refine wpAnyH_done (by kernel_rfl) ?_ _
  have hend : Hid (PMem (x3.setCell ⟨w1.heap.size, 3, none⟩ (.slice (some ⟨g2, 0, none⟩) M.L.length q2)) w1.heap.size g1 g2 M) := Hid.intro
    ⟨_, _, e2.out, hr1'.out.keep (Below.heap_setCell _ _ _ _ n1), (by have := hr2'.out; rw [hXl] at this; exact this.keep (Below.heap_setCell _ _ _ _ n2))⟩
  clear hc3 hf3
  go_wp2
  go_ret
  exact ⟨_, g1, g2, rfl, ⟨hend.out, hne, hok.out⟩, Nat.le_refl _, by omega, by omega, hbel2.out.setCell (Nat.le_refl _) _⟩
theorem twin_nil (w : World) : Calls Try.prog 12 #[.pointer none] w fun e w' => e = .returned (.pointer none) ∧ w' = w := by
  go_enter Try.func12, Try.ntmps12
  go_wp2_with fail
  refine (isNone_nil w).mono ?_; rintro e w1 ⟨rfl, rfl⟩
  go_wp2
  go_ret
  exact ⟨rfl, rfl⟩
end Go.Proofs.Ytjjfdkgnagfbcaa
