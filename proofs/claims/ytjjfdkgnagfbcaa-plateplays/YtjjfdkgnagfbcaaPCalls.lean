/-
  The contracts of plate's write, Lay, Get, Fall, Power, Snag.
-/
import Derived.Test.YtjjfdkgnagfbcaaPFall
namespace Go.Proofs.Ytjjfdkgnagfbcaa
open Go.ChangeShapes Go.WideShapes Go.ChangeAt Go.RowKit
attribute [local go_sem ↓] Go.wp_at_zero Go.wp_at_succ
attribute [local go_sem] str_size str_extract str_append str_toList

theorem copy_str {w : World} {g o n c : Nat} {T : List UInt8} (hn : T.length ≤ n) (hc : ∀ j, j < T.length → (w.cell? ⟨g, o + j, none⟩).isSome = true) (hf : ∀ j, j < T.length → w.frozen? ⟨g, o + j, none⟩ = false) :
    (Builtin.copy_ #[51, 9] 3 #[.slice (some ⟨g, o, none⟩) n c, .string (str T)]).run Try.prog w = .ok (goInt T.length) (w.setCells g o (T.map bV)) := by
  obtain ⟨i0, hi, hz0, hz1, hz2⟩ := info_parts Try.info5
  have hst := run_storeCells_cells (P := Try.prog) g o (T.map bV) 0 w (by simpa using hc) (by simpa using hf) (by simp [bV_one])
  have hm : Nat.min T.length n = T.length := Nat.min_eq_left hn
  have hx : List.take T.length (List.map (fun (b : UInt8) => Value.int IntKind.u8 (b.toNat : Int)) (str T).data.toList) = T.map bV := by
    rw [List.take_of_length_le (by simp [str])]; rfl
  simp only [Nat.add_zero] at hst
  simp [Builtin.copy_, run_underlying Try.underlying51, Builtin.lenOf, Builtin.firstCells, sizeOf, typeInfo, hi, str_size, hm, hx, hst]
theorem copy_page {w : World} {g o c : Nat} {T : List UInt8} (hT : T.length = 32) (ht : w.there g o 32) :
    (Builtin.copy_ #[51, 9] 3 #[.slice (some ⟨g, o, none⟩) 32 c, .string (str T)]).run Try.prog w = .ok (goInt 32) (w.setCells g o (T.map bV)) := by
  have := copy_str (w := w) (g := g) (o := o) (n := 32) (c := c) (T := T) (by omega) (fun j hj => (ht j (by omega)).1) (fun j hj => (ht j (by omega)).2)
  rw [hT] at this; exact this
theorem conv_page {w : World} {g o c : Nat} {S : List UInt8} (hS : S.length = 32) (hr : w.rangeAt g o (S.map bV)) :
    (convert 51 9 (.slice (some ⟨g, o, none⟩) 32 c)).run Try.prog w = .ok (.string (str S)) w := by
  rw [← nums_str]
  refine run_convert_bytes_arg (P := Try.prog) w 51 5 Try.underlying51 Try.underlying5 g o 32 c _ (by simp [hS]) (fun j hj => ?_) 9 Try.underlying9
  rw [hr j (bV (S[j]'(by omega))) (by simp [hS, hj])]
  simp [bV, List.getD, hS, hj]

theorem PO.mput {w : World} {p gl gf k : Nat} {M : MS} {S : List UInt8} (h : PO w p gl gf M) (hk : k < M.L.length) (hS : S.length = 32) : PO ((w.setCells gl (k * 32) (S.map bV)).setCell ⟨p, 4, none⟩ (.int .u64 ((onW M.W k : Nat) : Int))) p gl gf (mPut M k S) := by
  obtain ⟨h1, h2⟩ := h.apart
  obtain ⟨vl, vf, g1, g2, g3⟩ := PMem.storeL (show PMem w p gl gf M from h.mem) hk hS h1 h.ne
  refine ⟨⟨vl, vf, box_W g1 _, g2.keep ?_, g3.keep ?_⟩, h.ne, h.ok.put hk hS⟩
  · exact Below.heap_setCell _ _ _ _ h1.symm
  · exact Below.heap_setCell _ _ _ _ h2.symm
theorem PO.drew {w : World} {p gl gf : Nat} {M : MS} (h : PO w p gl gf M) : PO w.drew p gl gf M := h.below below_drw
theorem Keep.drew {F : Nat → Prop} {w w' : World} (h : Keep F w w') : Keep F w w'.drew := h.then (Keep.of below_drw)

set_option maxRecDepth 100000 in
theorem write_any {w : World} {p gl gf : Nat} {M : MS} (h : PO w p gl gf M) :
    Calls Try.prog 33 #[.pointer (some ⟨p, 0, none⟩)] w fun e w' => e = .returned (.int .i64 (mWrite M).1) ∧ PO w' p gl gf (mWrite M).2 ∧ Keep (Fp p gl gf) w w' := by
  have hl0 := h.ok.l0
  have hl1 := h.ok.l1
  obtain ⟨vl, vf, hb, g2, g3⟩ := h.mem
  have hc := cells_of hb
  have c8 := hc.c8
  have f8 := hc.fz 8
  unfold mWrite
  by_cases h1 : M.left = -1
  · rw [if_pos h1]
    rw [h1] at c8
    have h' := Hid.intro h
    clear h hb g2 g3 hc h1 hl0 hl1
    go_enter Try.func33, Try.ntmps33
    go_wp2
    go_ret
    exact ⟨rfl, h'.out, Keep.refl _⟩
  · rw [if_neg h1]
    by_cases h2 : 0 < M.left
    · rw [if_pos h2]
      have hw := box_left hb (M.left - 1)
      obtain ⟨a1, a2⟩ := h.apart
      have hend : Hid (PO (w.setCell ⟨p, 8, none⟩ (.int .i64 (M.left - 1))) p gl gf { M with left := M.left - 1 }) := Hid.intro
        ⟨⟨vl, vf, hw, g2.keep (Below.heap_setCell _ _ _ _ a1.symm), g3.keep (Below.heap_setCell _ _ _ _ a2.symm)⟩, h.ne, ⟨h.ok.n60, h.ok.len, h.ok.hL, h.ok.hX, h.ok.hW, h.ok.hK, h.ok.wet, h.ok.same, by simp only; omega, by simp only; omega⟩⟩
      have hwr : IntKind.i64.wrap (M.left - 1) = M.left - 1 := by rw [IntKind.wrap_i64]; omega
      have hne : (M.left == -1) = false := beq_false_of_ne h1
      generalize hL : M.left = lf at *
      clear h hb g2 g3 hc hw
      go_enter Try.func33, Try.ntmps33
      go_wp2
      go_ret
      exact ⟨rfl, hend.out, Keep.set (.inl rfl)⟩
    · rw [if_neg h2]
      have h0 : M.left = 0 := by omega
      rw [h0] at c8
      have hr := Hid.intro (box_range hb).2.1
      have hf := Hid.intro (fall_any h M.K h.ok.hK)
      have hu : Try.prog.underlying 57 = some (.array 4 55) := by kernel_rfl
      clear h hb g2 g3 hc h0 h1 h2
      go_enter Try.func33, Try.ntmps33
      go_wp2_with (refine wpList_load_mid rfl 57 _ rfl p 9 rfl (wv M.K) _ hr.out hu rfl size57 ?_)
      refine hf.out.mono ?_; rintro e w4 ⟨v, rfl, a, _, b⟩
      have a' := Hid.intro a
      have b' := Hid.intro b
      clear a b
      go_wp2
      go_ret
      exact ⟨rfl, a'.out, b'.out⟩

set_option maxRecDepth 100000 in
theorem lay_any {w : World} {p gl gf : Nat} {M : MS} (h : PO w p gl gf M) (k : Int) (S : List UInt8) :
    Calls Try.prog 13 #[.pointer (some ⟨p, 0, none⟩), .int .i64 k, .string (str S)] w fun e w' => e = .returned (.int .i64 (mLay M k S).1) ∧ PO w' p gl gf (mLay M k S).2 ∧ Keep (Fp p gl gf) w w' := by
  have hR := Hid.intro (ready_any h)
  have hF := Hid.intro (fits_any h k S)
  unfold mReady at hR
  unfold mLay
  cases ho : M.on with
  | false =>
    rw [ho] at hR
    simp only [Bool.false_eq_true, if_false] at hR
    have h' := Hid.intro h
    clear h
    simp only [if_true]
    go_enter Try.func13, Try.ntmps13
    go_wp2_with fail
    refine hR.out.mono ?_; rintro e w1 ⟨rfl, rfl⟩
    go_wp2
    go_ret
    exact ⟨rfl, h'.out, Keep.refl _⟩
  | true =>
    rw [ho] at hR
    simp only [if_true] at hR
    simp only [Bool.true_eq_false, if_false]
    cases hf : fitB M k S with
    | false =>
      rw [hf] at hF
      have h' := Hid.intro h
      clear h
      simp only [if_true]
      go_enter Try.func13, Try.ntmps13
      go_wp2_with fail
      refine hR.out.mono ?_; rintro e w1 ⟨rfl, rfl⟩
      go_wp2_with fail
      refine hF.out.mono ?_; rintro e w2 ⟨rfl, rfl⟩
      go_wp2
      go_ret
      exact ⟨rfl, h'.out, Keep.refl _⟩
    | true =>
      rw [hf] at hF
      simp only [Bool.true_eq_false, if_false]
      obtain ⟨⟨h1, h2⟩, hS⟩ := fitB_iff.1 hf
      obtain ⟨j, rfl⟩ : ∃ j : Nat, k = j := ⟨k.toNat, by omega⟩
      have hj : j < M.L.length := by omega
      simp only [Int.toNat_natCast]
      obtain ⟨cl, cf, hcl, hcf, d2, d3, rL, rX, tL, tX, pL, pX⟩ := PMem.reads (show PMem w p gl gf M from h.mem) hj h.ok.len
      have hcp := copy_page (c := 32) hS tL
      have hP := Hid.intro (h.mput hj hS)
      obtain ⟨a1, a2⟩ := h.apart
      have hc4 : (w.setCells gl (j * 32) (S.map bV)).cell? ⟨p, 4, none⟩ = some (.int .u64 (M.W : Int)) ∧ (w.setCells gl (j * 32) (S.map bV)).frozen? ⟨p, 4, none⟩ = false := by
        obtain ⟨vl, vf, g1, g2, g3⟩ := PMem.storeL (show PMem w p gl gf M from h.mem) hj hS a1 h.ne
        exact ⟨(cells_of g1).c4, (cells_of g1).fz 4⟩
      have hput := Hid.intro (bput_any j hc4.1 hc4.2 h.ok.hW (by have := h.ok.n60; omega))
      have hK1 := Hid.intro ((Keep.sets (F := Fp p gl gf) (w := w) (g := gl) (o := j * 32) (vs := S.map bV) (.inr (.inl rfl))).then (Keep.set (o := 4) (u := .int .u64 ((onW M.W j : Nat) : Int)) (.inl rfl)))
      have hwr := Hid.intro (write_any hP.out.drew)
      clear h rL rX tL tX pL pX d3 hcf hS hc4 hf
      generalize M.L.length = n at *
      go_enter Try.func13, Try.ntmps13
      go_wp2_with fail
      refine hR.out.mono ?_; rintro e w1 ⟨rfl, rfl⟩
      go_wp2_with fail
      refine hF.out.mono ?_; rintro e w2 ⟨rfl, rfl⟩
      go_wp2_with fail
      refine hput.out.mono ?_; rintro e w3 ⟨rfl, rfl⟩
      go_wp2_with fail
      refine hwr.out.mono ?_; rintro e w4 ⟨rfl, a, b⟩
      have a' := Hid.intro a
      have b' := Hid.intro (hK1.out.drew.then b)
      clear a b
      go_wp2
      go_ret
      exact ⟨rfl, a'.out, b'.out⟩
end Go.Proofs.Ytjjfdkgnagfbcaa
