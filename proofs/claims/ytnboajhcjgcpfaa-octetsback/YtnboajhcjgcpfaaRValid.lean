/-
  The contract of the document's Valid, of every list: whether it is tidy.
-/
import Derived.Test.YtnboajhcjgcpfaaRefD
import Derived.Test.YtnboajhcjgcpfaaEValid
import Derived.Deep.QuietTactic
namespace Go.Proofs.Ytnboajhcjgcpfaa
open Go.ChangeShapes Go.WideShapes Go.ChangeAt Go.RowKit
attribute [local go_sem ↓] Go.wp_at_zero Go.wp_at_succ

theorem fold_val : ∀ (l : List Ex) (p : Ex) (m : List Int), Tp p l → m.length = 64 → ∀ k, mv (l.foldl mSet m) k = if 0 ≤ val l k then val l k else mv m k
  | [], p, m, _, _, k => by simp [val]
  | x :: r, p, m, h, hm, k => by
    have hx : Al x := h.2.2.1
    rw [List.foldl_cons, fold_val r x (mSet m x) h.2.2.2 (by rw [mSet_length]; exact hm) k, mSet_mv hm]
    have e : val (x :: r) k = if x.1 ≤ k ∧ k < x.1 + x.2.1 then idA x k else val r k := rfl
    by_cases hk : x.1 ≤ k ∧ k < x.1 + x.2.1
    · have h1 := tp_lo h.2.2.2 hk.2
      have h2 := idA_low hx hk.1
      rw [if_pos hk] at e
      have h3 : setF (mv m) x k = idA x k := by unfold setF; exact if_pos ⟨hx, hk⟩
      rw [h3, e, h1, if_neg (by omega), if_pos h2]
    · rw [if_neg hk] at e
      have h3 : setF (mv m) x k = mv m k := by unfold setF; exact if_neg (fun g => hk g.2)
      rw [h3, e]
theorem mOf_val {l : List Ex} (h : Ti l) (k : Int) : val l k = mv (mOf l) k := by
  unfold mOf
  rw [fold_val l e0 mNone h (by simp [mNone]), mNone_mv]
  rcases tp_val h k with g | g
  · rw [g]; rfl
  · rw [if_pos g.1]

theorem keep3 {W0 W W' : World} {g o : Nat} {x y z : Value} (h : W.cell? ⟨g, o, none⟩ = some x ∧ W.cell? ⟨g, o + 1, none⟩ = some y ∧ W.cell? ⟨g, o + 2, none⟩ = some z ∧ Below W0.heap.size W0 W) (hb : Below W.heap.size W W') :
    W'.cell? ⟨g, o, none⟩ = some x ∧ W'.cell? ⟨g, o + 1, none⟩ = some y ∧ W'.cell? ⟨g, o + 2, none⟩ = some z ∧ Below W0.heap.size W0 W' := by
  obtain ⟨a, b, c, d⟩ := h
  obtain ⟨hc, _⟩ := bcell hb
  exact ⟨by rw [hc _ _ (cell_lt a)]; exact a, by rw [hc _ _ (cell_lt a)]; exact b, by rw [hc _ _ (cell_lt a)]; exact c, below_step d hb⟩
theorem held4 {W0 W : World} {A B C : Prop} (h : A ∧ B ∧ C ∧ Below W0.heap.size W0 W) : Below W0.heap.size W0 W := h.2.2.2
set_option maxRecDepth 100000 in
set_option maxHeartbeats 2000000 in
theorem rvalid_any {w : World} {v : Value} {l : List Ex} (hr : BkE.Row w v l) (hl : l.length ≤ 1000000) :
    Calls Try.prog 16 #[v, .int .i64 64] w fun e w' => e = .returned (.bool (decide (Ti l))) ∧ Below w.heap.size w w' := by
  by_cases h64 : 64 < l.length
  · have hR : decide (Ti l) = false := decide_eq_false (fun h => by have := ti_len h; omega)
    rw [hR]
    obtain ⟨a, c, rfl⟩ := hr.slice
    have i1 : (64 : Int) < (l.length : Int) := by omega
    go_enter Try.func16, Try.ntmps16
    go_wp2
    go_ret
    exact ⟨rfl, Below.refl _ _⟩
  have i64 : ¬ (64 : Int) < (l.length : Int) := by omega
  obtain ⟨a, c, rfl⟩ := hr.slice
  have hr' := Hid.intro hr
  clear hr
  obtain ⟨R, hR⟩ : ∃ R, Hid (decide (Ti l) = R) := ⟨_, rfl⟩
  rw [hR.out]
  have hno : Hid (¬ Ti l → R = false) := Hid.intro (fun h => by rw [← hR.out]; exact decide_eq_false h)
  go_enter Try.func16, Try.ntmps16
  go_wp2_with fail
  go_loopw [5] (fun jv wr => ∃ i : Nat, i ≤ l.length ∧ jv = .int .i64 i ∧ (∀ x ∈ l.take i, Al x) ∧ Below w.heap.size w wr) (fun jv _ => l.length - (intOf jv).toNat)
  case atStart => exact ⟨0, Nat.zero_le _, rfl, fun x hx => by simp at hx, Below.refl _ _⟩
  case round =>
    obtain ⟨i, hi, rfl, hf, hB⟩ := hrel
    have i0' : (0 : Int) ≤ (i : Int) := Int.natCast_nonneg _
    have hf' := Hid.intro hf
    clear hf
    by_cases hlt : i < l.length
    · obtain ⟨g, o, ⟨p, q, r⟩, rfl, hg, hp, d0, d1, d2⟩ := erow_at (hr'.out.below hB) hlt
      have i1 : (i : Int) < (l.length : Int) := by omega
      simp only at d0 d1 d2
      have hp' := Hid.intro hp
      have hB' := Hid.intro hB
      have hzl := hB.size
      clear hp hB
      by_cases hal : Al (p, q, r)
      · have hal' := Hid.intro hal
        have hpq : ¬ 64 < p + q := by unfold Al at hal; simp only at hal; omega
        have hdc : decide (64 < p + q) = false := by simp; omega
        have hw : IntKind.i64.wrap (p + q) = p + q := IntWalk.i64_in _ (by unfold Al at hal; simp only at hal; omega)
        clear hal
        have hnx := Hid.intro (show ∀ x ∈ l.take (i + 1), Al x from fun x hx => by
          rw [List.take_add_one, hp'.out, Option.toList_some, List.mem_append, List.mem_singleton] at hx
          rcases hx with hx | rfl
          · exact hf'.out x hx
          · exact hal'.out)
        go_wp2_with fail
        go_region_held3 (fun w' => w'.cell? ⟨g, o + i * 3, none⟩ = some (.int .i64 p) ∧ w'.cell? ⟨g, o + i * 3 + 1, none⟩ = some (.int .i64 q) ∧ w'.cell? ⟨g, o + i * 3 + 2, none⟩ = some (.int .i64 r) ∧ Below wr.heap.size wr w')
          (first
            | exact ⟨d0, d1, d2, below_drw⟩
            | exact keep3 (by assumption) hx1)
          (first
            | (go_at_call 39; refine (alone_t (p, q, r) _ hal'.out).mono ?_; rintro e x1 ⟨rfl, hx1⟩))
        all_goals
          have hB6 : Hid (Below w.heap.size w x1) := Hid.intro (hB'.out.trans ((held4 (W := x1) (W0 := wr) (by assumption)).mono hB'.out.size))
          go_wp2
          go_roundw
          case rel => exact ⟨i + 1, by omega, by go_num, hnx.out, hB6.out⟩
          case measure => simp [intOf]; omega
      · have hRf := Hid.intro (hno.out (fun h => hal (tp_al h _ (List.mem_of_getElem? hp'.out)).1))
        have hal' := Hid.intro hal
        clear hal
        have hstart := Hid.intro (show wr.drew.cell? ⟨g, o + i * 3, none⟩ = some (.int .i64 p) ∧ wr.drew.cell? ⟨g, o + i * 3 + 1, none⟩ = some (.int .i64 q) ∧ wr.drew.cell? ⟨g, o + i * 3 + 2, none⟩ = some (.int .i64 r) ∧ Below wr.heap.size wr wr.drew from ⟨d0, d1, d2, below_drw⟩)
        go_wp2_with fail
        refine wp_region_held_drew (S := fun w' => w'.cell? ⟨g, o + i * 3, none⟩ = some (.int .i64 p) ∧ w'.cell? ⟨g, o + i * 3 + 1, none⟩ = some (.int .i64 q) ∧ w'.cell? ⟨g, o + i * 3 + 2, none⟩ = some (.int .i64 r) ∧ Below wr.heap.size wr w') (by kernel_rfl) (hstart.out) (fun hHeld => ?_)
        refine wpAnyH_take (i := 0) (v := .slice (some ⟨g, o, none⟩) l.length c) rfl (by kernel_rfl) (by kernel_rfl) (by kernel_rfl) (fun _ _ _ h => h) (Or.inl ⟨by rfl, fun w' hSw => by clear hSw; go_simp⟩) hHeld ?_
        change wpAnyH _ _ _ _ _ _ _ (Act.put _ (some 17) _) _
        simp only [Act.put, List.setIfInBounds_toArray, List.set_cons_zero, List.set_cons_succ]
        refine wpAnyH_take (i := 1) (v := .int .i64 (i : Int)) rfl (by kernel_rfl) (by kernel_rfl) (by kernel_rfl) (fun _ _ _ h => h) (Or.inl ⟨by rfl, fun w' hSw => by clear hSw; go_simp⟩) hHeld ?_
        change wpAnyH _ _ _ _ _ _ _ (Act.put _ (some 18) _) _
        simp only [Act.put, List.setIfInBounds_toArray, List.set_cons_zero, List.set_cons_succ]
        refine wpAnyH_take (i := 2) (v := .pointer (some ⟨g, o + i * 3, none⟩)) rfl (by kernel_rfl) (by kernel_rfl) (by kernel_rfl) (fun _ _ _ h => h) (Or.inl ⟨by rfl, fun w' hSw => by clear hSw; go_simp⟩) hHeld ?_
        change wpAnyH _ _ _ _ _ _ _ (Act.put _ (some 19) _) _
        simp only [Act.put, List.setIfInBounds_toArray, List.set_cons_zero, List.set_cons_succ]
        refine wpAnyH_take (i := 3) (v := .agg #[.int .i64 p, .int .i64 q, .int .i64 r]) rfl (by kernel_rfl) (by kernel_rfl) (by kernel_rfl) (fun _ _ _ h => h) (Or.inl ⟨by rfl, fun w' hSw => by obtain ⟨s0, s1, s2, _⟩ := hSw; go_simp⟩) hHeld ?_
        change wpAnyH _ _ _ _ _ _ _ (Act.put _ (some 20) _) _
        simp only [Act.put, List.setIfInBounds_toArray, List.set_cons_zero, List.set_cons_succ]
        refine wpAnyH_ready (rs := [4]) (by kernel_rfl) (by simp) ?_
        refine AllReadyH.cons rfl (fun K hK => ?_) AllReadyH.nil
        go_simp
        refine (alone_f (p, q, r) _ hal'.out).mono ?_; rintro e x1 ⟨rfl, hx1⟩
        refine hK.out _ _ (keep3 hHeld hx1) (fun hHeld => ?_); clear hK K
        refine wpAnyH_take (i := 5) (v := .bool true) rfl (by kernel_rfl) (by kernel_rfl) (by kernel_rfl) (fun _ _ _ h => h) (Or.inl ⟨by rfl, fun w' hSw => by clear hSw; go_simp⟩) hHeld ?_
        change wpAnyH _ _ _ _ _ _ _ (Act.put _ (some 22) _) _
        simp only [Act.put, List.setIfInBounds_toArray, List.set_cons_zero, List.set_cons_succ]
        refine wpAnyH_take (i := 6) (v := .bool true) rfl (by kernel_rfl) (by kernel_rfl) (by kernel_rfl) (fun _ _ _ h => h) (Or.inl ⟨by rfl, fun w' hSw => by clear hSw; go_simp⟩) hHeld ?_
        change wpAnyH _ _ _ _ _ _ _ (Act.put _ (some 23) _) _
        simp only [Act.put, List.setIfInBounds_toArray, List.set_cons_zero, List.set_cons_succ]
        refine wpAnyH_take (i := 7) (v := undef) rfl (by kernel_rfl) (by kernel_rfl) (by kernel_rfl) (fun _ _ _ h => h) (Or.inr ⟨by rfl, rfl⟩) hHeld ?_
        change wpAnyH _ _ _ _ _ _ _ (Act.put _ (some 24) _) _
        simp only [Act.put, List.setIfInBounds_toArray, List.set_cons_zero, List.set_cons_succ]
        refine wpAnyH_take (i := 8) (v := undef) rfl (by kernel_rfl) (by kernel_rfl) (by kernel_rfl) (fun _ _ _ h => h) (Or.inr ⟨by rfl, rfl⟩) hHeld ?_
        change wpAnyH _ _ _ _ _ _ _ (Act.put _ (some 25) _) _
        simp only [Act.put, List.setIfInBounds_toArray, List.set_cons_zero, List.set_cons_succ]
        refine wpAnyH_take (i := 9) (v := undef) rfl (by kernel_rfl) (by kernel_rfl) (by kernel_rfl) (fun _ _ _ h => h) (Or.inr ⟨by rfl, rfl⟩) hHeld ?_
        change wpAnyH _ _ _ _ _ _ _ (Act.put _ (some 26) _) _
        simp only [Act.put, List.setIfInBounds_toArray, List.set_cons_zero, List.set_cons_succ]
        refine wpAnyH_take (i := 10) (v := undef) rfl (by kernel_rfl) (by kernel_rfl) (by kernel_rfl) (fun _ _ _ h => h) (Or.inr ⟨by rfl, rfl⟩) hHeld ?_
        change wpAnyH _ _ _ _ _ _ _ (Act.put _ (some 27) _) _
        simp only [Act.put, List.setIfInBounds_toArray, List.set_cons_zero, List.set_cons_succ]
        refine wpAnyH_take (i := 11) (v := undef) rfl (by kernel_rfl) (by kernel_rfl) (by kernel_rfl) (fun _ _ _ h => h) (Or.inr ⟨by rfl, rfl⟩) hHeld ?_
        change wpAnyH _ _ _ _ _ _ _ (Act.put _ (some 28) _) _
        simp only [Act.put, List.setIfInBounds_toArray, List.set_cons_zero, List.set_cons_succ]
        refine wpAnyH_take (i := 12) (v := undef) rfl (by kernel_rfl) (by kernel_rfl) (by kernel_rfl) (fun _ _ _ h => h) (Or.inr ⟨by rfl, rfl⟩) hHeld ?_
        change wpAnyH _ _ _ _ _ _ _ (Act.put _ (some 29) _) _
        simp only [Act.put, List.setIfInBounds_toArray, List.set_cons_zero, List.set_cons_succ]
        refine wpAnyH_take (i := 13) (v := undef) rfl (by kernel_rfl) (by kernel_rfl) (by kernel_rfl) (fun _ _ _ h => h) (Or.inr ⟨by rfl, rfl⟩) hHeld ?_
        change wpAnyH _ _ _ _ _ _ _ (Act.put _ (some 30) _) _
        simp only [Act.put, List.setIfInBounds_toArray, List.set_cons_zero, List.set_cons_succ]
        refine wpAnyH_take (i := 14) (v := undef) rfl (by kernel_rfl) (by kernel_rfl) (by kernel_rfl) (fun _ _ _ h => h) (Or.inr ⟨by rfl, rfl⟩) hHeld ?_
        change wpAnyH _ _ _ _ _ _ _ (Act.put _ (some 31) _) _
        simp only [Act.put, List.setIfInBounds_toArray, List.set_cons_zero, List.set_cons_succ]
        refine wpAnyH_take (i := 15) (v := undef) rfl (by kernel_rfl) (by kernel_rfl) (by kernel_rfl) (fun _ _ _ h => h) (Or.inr ⟨by rfl, rfl⟩) hHeld ?_
        change wpAnyH _ _ _ _ _ _ _ (Act.put _ (some 32) _) _
        simp only [Act.put, List.setIfInBounds_toArray, List.set_cons_zero, List.set_cons_succ]
        refine wpAnyH_take (i := 16) (v := undef) rfl (by kernel_rfl) (by kernel_rfl) (by kernel_rfl) (fun _ _ _ h => h) (Or.inr ⟨by rfl, rfl⟩) hHeld ?_
        change wpAnyH _ _ _ _ _ _ _ (Act.put _ (some 33) _) _
        simp only [Act.put, List.setIfInBounds_toArray, List.set_cons_zero, List.set_cons_succ]
        refine wpAnyH_take (i := 17) (v := undef) rfl (by kernel_rfl) (by kernel_rfl) (by kernel_rfl) (fun _ _ _ h => h) (Or.inr ⟨by rfl, rfl⟩) hHeld ?_
        change wpAnyH _ _ _ _ _ _ _ (Act.put _ (some 34) _) _
        simp only [Act.put, List.setIfInBounds_toArray, List.set_cons_zero, List.set_cons_succ]
        refine wpAnyH_take (i := 18) (v := undef) rfl (by kernel_rfl) (by kernel_rfl) (by kernel_rfl) (fun _ _ _ h => h) (Or.inr ⟨by rfl, rfl⟩) hHeld ?_
        change wpAnyH _ _ _ _ _ _ _ (Act.put _ (some 35) _) _
        simp only [Act.put, List.setIfInBounds_toArray, List.set_cons_zero, List.set_cons_succ]
        refine wpAnyH_take (i := 19) (v := undef) rfl (by kernel_rfl) (by kernel_rfl) (by kernel_rfl) (fun _ _ _ h => h) (Or.inr ⟨by rfl, rfl⟩) hHeld ?_
        change wpAnyH _ _ _ _ _ _ _ (Act.put _ (some 36) _) _
        simp only [Act.put, List.setIfInBounds_toArray, List.set_cons_zero, List.set_cons_succ]
        refine wpAnyH_take (i := 20) (v := .bool true) rfl (by kernel_rfl) (by kernel_rfl) (by kernel_rfl) (fun _ _ _ h => h) (Or.inl ⟨by rfl, fun w' hSw => by clear hSw; go_simp⟩) hHeld ?_
        change wpAnyH _ _ _ _ _ _ _ (Act.put _ (some 37) _) _
        simp only [Act.put, List.setIfInBounds_toArray, List.set_cons_zero, List.set_cons_succ]
        refine wpAnyH_done (by kernel_rfl) ?_ _
        have hB6 : Hid (Below w.heap.size w x1) := Hid.intro (hB'.out.trans ((held4 hHeld).mono hB'.out.size))
        go_wp2
        go_ret
        exact ⟨by rw [hRf.out]; rfl, hB6.out⟩
    · have hi' : i = l.length := by omega
      have hB' := Hid.intro hB
      have hrr := Hid.intro (hr'.out.below hB)
      clear hB
      go_wp2_with fail
      refine (refOf_any hrr.out hl).mono ?_; rintro e w1 ⟨rfl, hb1⟩
      go_wp2_with fail
      refine (refExt_any (mOf l) (mOf_sane l) w1).mono ?_; rintro e w2 ⟨v2, L, rfl, ho, ht, hv, hb2⟩
      have hB2 := Hid.intro (hB'.out.trans ((below_step hb1 hb2).mono hB'.out.size))
      have hsame := Hid.intro (show Ti l → l = L from fun h => ti_ext h ht (fun k => by rw [mOf_val h, hv]))
      have ht' := Hid.intro ht
      have hr2 := Hid.intro (BkE.own_row ho)
      have hr3 := Hid.intro (hrr.out.below (below_step hb1 hb2))
      obtain ⟨b, d, rfl⟩ := hr2.out.slice
      have hLl := ti_len ht
      clear ho ht hv hb1 hb2 hB' hrr
      obtain ⟨n, hn⟩ : ∃ n, L.length = n := ⟨_, rfl⟩
      rw [hn] at hr2 ⊢
      by_cases hlen : L.length = l.length
      · rw [hlen] at hn
        subst hn
        have hlen' := Hid.intro hlen
        clear hlen
        go_wp2_with fail
        go_loopw [7] (fun jv wr => ∃ i : Nat, i ≤ l.length ∧ jv = .int .i64 i ∧ L.take i = l.take i ∧ Below w2.heap.size w2 wr) (fun jv _ => l.length - (intOf jv).toNat)
        case atStart => exact ⟨0, Nat.zero_le _, rfl, rfl, Below.refl _ _⟩
        case round =>
          obtain ⟨i, hi, rfl, hf, hB⟩ := hrel
          have i0' : (0 : Int) ≤ (i : Int) := Int.natCast_nonneg _
          have hfi := Hid.intro hf
          have hB3 := Hid.intro hB
          clear hf
          by_cases hlt : i < l.length
          · have i1 : (i : Int) < (l.length : Int) := by omega
            obtain ⟨g, o, ⟨p, q, r⟩, rfl, hg, hp, d0, d1, d2⟩ := erow_at (hr3.out.below hB) hlt
            obtain ⟨g', o', ⟨p', q', r'⟩, rfl, hg', hp', e0, e1, e2⟩ := erow_at (hr2.out.below hB) (i := i) (by rw [hlen'.out]; exact hlt)
            simp only at d0 d1 d2 e0 e1 e2
            have hpp := Hid.intro hp
            have hpp' := Hid.intro hp'
            clear hp hp' hB
            by_cases hpe : (p', q', r') = (p, q, r)
            · cases hpe
              have hnx := Hid.intro (show L.take (i + 1) = l.take (i + 1) by rw [List.take_add_one, List.take_add_one, hpp.out, hpp'.out, hfi.out])
              go_wp2_with fail
              go_quiet (fail)
              go_wp2
              go_roundw
              case rel => exact ⟨i + 1, by omega, by go_num, hnx.out, hB3.out.trans ((below_drwN wr _).mono hB3.out.size)⟩
              case measure => simp [intOf]; omega
            · have hRf := Hid.intro (hno.out (fun h => hpe (by have := hpp.out; rw [hsame.out h, hpp'.out] at this; exact Option.some.inj this)))
              by_cases z1 : p' = p
              · subst z1
                by_cases z2 : q' = q
                · subst z2
                  have z3 : ¬ r' = r := fun h => hpe (by rw [h])
                  have y3 : (r' == r) = false := beq_false_of_ne z3
                  clear hpe
                  go_wp2_with fail
                  go_quiet (fail)
                  go_wp2
                  go_ret
                  exact ⟨by rw [hRf.out]; rfl, hB2.out.trans ((hB3.out.trans ((below_drwN wr _).mono hB3.out.size)).mono hB2.out.size)⟩
                · have y2 : (q' == q) = false := beq_false_of_ne z2
                  clear hpe
                  go_wp2_with fail
                  go_quiet (fail)
                  go_wp2
                  go_ret
                  exact ⟨by rw [hRf.out]; rfl, hB2.out.trans ((hB3.out.trans ((below_drwN wr _).mono hB3.out.size)).mono hB2.out.size)⟩
              · have y1 : (p' == p) = false := beq_false_of_ne z1
                clear hpe
                go_wp2_with fail
                go_quiet (fail)
                go_wp2
                go_ret
                exact ⟨by rw [hRf.out]; rfl, hB2.out.trans ((hB3.out.trans ((below_drwN wr _).mono hB3.out.size)).mono hB2.out.size)⟩
          · have hi' : i = l.length := by omega
            subst hi'
            have hfin : R = true := by
              rw [← hR.out]
              have h1 := hfi.out
              rw [List.take_length, ← hlen'.out, List.take_length] at h1
              rw [← h1]; exact decide_eq_true ht'.out
            go_wp2
            go_ret
            exact ⟨by rw [hfin]; rfl, hB2.out.trans (hB.mono hB2.out.size)⟩
      · have hRf := Hid.intro (hno.out (fun h => hlen (by rw [← hsame.out h])))
        have e1 : ¬ (n : Int) = (l.length : Int) := by omega
        go_wp2
        go_ret
        exact ⟨by rw [hRf.out]; rfl, hB2.out⟩
end Go.Proofs.Ytnboajhcjgcpfaa
