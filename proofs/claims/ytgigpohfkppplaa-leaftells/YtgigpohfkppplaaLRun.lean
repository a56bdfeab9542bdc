/-
  The contract of the document's Unslot.
-/
import Derived.Test.YtgigpohfkppplaaLRslot
namespace Go.Proofs.Ytgigpohfkppplaa
open Go.ChangeShapes Go.WideShapes Go.ChangeAt Go.RowKit
attribute [local go_sem] str_size str_extract str_append str_toList

set_option maxRecDepth 100000 in
theorem runslot_len (P : List UInt8) (w : World) (hl : ¬ P.length = 32) :
    Calls Try.prog 22 #[.string (str P)] w fun e w' => e = .returned (.tuple #[.int .i64 0, .slice none 0 0]) ∧ w = w' := by
  have hl' : ¬ (P.length : Int) = 32 := by omega
  go_enter Try.func22, Try.ntmps22
  go_wp2
  go_ret2
  exact ⟨rfl, rfl⟩
theorem sixth {P : List UInt8} (hl : P.length = 32) : (∀ w, (Instr.index 9 (.string (str P)) (.int .i64 5)).run Try.prog w = .ok (.int .u8 (cnL P : Int)) w) ∧ cnL P < 256 := by
  have h5 : ∃ x, P[5]? = some x ∧ cnL P = x.toNat := ⟨P[5]'(by omega), List.getElem?_eq_getElem (by omega), by rw [cnL, List.getD_eq_getElem?_getD, List.getElem?_eq_getElem (by omega)]; rfl⟩
  obtain ⟨x5, hx5, hc5⟩ := h5
  exact ⟨fun w => by rw [hc5]; exact str_at P 5 x5 hx5 w, by rw [hc5]; exact x5.toNat_lt⟩
set_option maxRecDepth 100000 in
theorem runslot_many (P : List UInt8) (w : World) (hl : P.length = 32) (h : 11 < cnL P) :
    Calls Try.prog 22 #[.string (str P)] w fun e w' => e = .returned (.tuple #[.int .i64 0, .slice none 0 0]) ∧ w = w' := by
  have hl' : (P.length : Int) = 32 := by omega
  obtain ⟨hat5, hm5⟩ := sixth hl
  generalize cnL P = m at *
  have h1 : (11 : Int) < (m : Int) := by omega
  go_enter Try.func22, Try.ntmps22
  go_wp2
  go_ret2
  exact ⟨rfl, rfl⟩
theorem intsV_snoc (l : List Int) (x : Int) : BkI.itemsV (l ++ [x]) = BkI.itemsV l ++ [.int .i64 x] := by rw [BkI.itemsV_append]; rfl
set_option maxRecDepth 100000 in
set_option maxHeartbeats 4000000 in
theorem runslot_in (P : List UInt8) (w : World) (hl : P.length = 32) (h11 : cnL P ≤ 11) :
    Calls Try.prog 22 #[.string (str P)] w fun e w' => ∃ v, e = .returned (.tuple #[.int .i64 (usG P), v]) ∧ w'.ownsRow w.heap.size 3 1 v (usP P).length (BkI.itemsV (usP P)) ∧ Below w.heap.size w w' := by
  obtain ⟨i0, hi0, hz0', hz1', hz2'⟩ := info_parts BkI.Try.infoE
  obtain ⟨hat5, hm5⟩ := sixth hl
  have hv4 : (P.tail.take 4).length = 4 := by rw [List.length_take, List.length_tail]; omega
  have h1 := Hid.intro (fun w => value_any (P.tail.take 4) w (by omega))
  have hsg : vl (P.tail.take 4) = sgL P := by rw [sgL, List.drop_one]
  rw [hsg] at h1
  have hX := psN_length (n := cnL P) hl (by omega)
  have h3 := Hid.intro (fun (w' : World) (v : Value) (hr : w'.ownsRow w.heap.size 3 1 v (cnL P) (BkI.itemsV (psN (cnL P) P))) => rslot_any (w := w') (v := v) (ps := psN (cnL P) P) (sgL P) (BkI.own_row (by rw [hX]; exact hr)))
  have hiff : slS (sgL P) (psN (cnL P) P) = P ↔ Iss P := by have := un_iff hl; rwa [Nat.min_eq_left h11] at this
  have hy : Hid (Iss P → usG P = (sgL P : Int) ∧ usP P = psN (cnL P) P ∧ decide (Sl (sgL P) (psN (cnL P) P)) = true ∧ (slS (sgL P) (psN (cnL P) P) == P) = true) :=
    Hid.intro fun h => ⟨if_pos h, by rw [usP, if_pos h]; rfl, decide_eq_true h.2.2.1, eq_yes (hiff.2 h)⟩
  have hn : Hid (¬ Iss P → usG P = 0 ∧ usP P = [] ∧ (decide (Sl (sgL P) (psN (cnL P) P)) = false ∨ (slS (sgL P) (psN (cnL P) P) == P) = false)) :=
    Hid.intro fun h => ⟨if_neg h, if_neg h, .inr (eq_no fun e => h (hiff.1 e))⟩
  have hps := fun i (hi : i < cnL P) => Hid.intro (show ∃ x, P[6 + i]? = some x from ⟨P[6 + i]'(by omega), List.getElem?_eq_getElem _⟩)
  have hps' := Hid.intro hps
  clear hps hiff hsg
  have hl' : (P.length : Int) = 32 := by omega
  generalize usG P = UG at *
  generalize usP P = UP at *
  generalize decide (Sl (sgL P) (psN (cnL P) P)) = OK at *
  generalize slS (sgL P) (psN (cnL P) P) = L at *
  generalize hcn : cnL P = m at *
  generalize sgL P = G at *
  have m0 : (0 : Int) ≤ (m : Int) := Int.natCast_nonneg _
  have m1 : (m : Int) ≤ 11 := by omega
  clear hcn
  go_enter Try.func22, Try.ntmps22
  go_wp2_with fail
  refine (h1.out _).mono ?_; rintro e w9 ⟨rfl, hw9⟩
  obtain rfl : w = w9 := hw9.symm
  clear hw9
  go_wp2_with fail
  go_loopw [5, 6] (fun lv iv wr => ∃ i : Nat, i ≤ m ∧ iv = .int .i64 i ∧ wr.ownsRow w.heap.size 3 1 lv i (BkI.itemsV (psN i P)) ∧ Below w.heap.size w wr) (fun _ iv _ => m - (intOf iv).toNat)
  case atStart => exact ⟨0, Nat.zero_le _, rfl, by rw [psN_zero]; exact World.ownsRow_nil _ _ _ _, Below.refl _ _⟩
  case round =>
    obtain ⟨i, hi, rfl, hown, hB⟩ := hrel
    have i0' : (0 : Int) ≤ (i : Int) := Int.natCast_nonneg _
    obtain ⟨aa, cc, rfl⟩ := own_form5 hown
    have hown' := Hid.intro hown
    have hB' := Hid.intro hB
    clear hown
    by_cases hlt : i < m
    · have i1 : (i : Int) < m := by omega
      obtain ⟨x, hx⟩ := (hps'.out i hlt).out
      have hat := str_at P (6 + i) x hx wr
      rw [show ((6 + i : Nat) : Int) = 6 + (i : Int) by omega] at hat
      unfold bV at hat
      have hst : Hid (BkI.itemsV (psN (i + 1) P) = BkI.itemsV (psN i P) ++ [.int .i64 (x.toNat : Int)]) := by rw [psN_succ hx, intsV_snoc]; exact rfl
      have hm : x.toNat < 256 := x.toNat_lt
      have hsz : w.heap.size ≤ wr.heap.size := hB.size
      clear hx hB
      generalize x.toNat = z at *
      go_wp2_with (at_builtin; refine wpList_append_lies _ rfl _ _ 33 rfl w.heap.size 3 i0 (.int .i64 0) 1 8 Try.underlying33 hi0 hz0' hz1' hz2' rfl (by decide) _ i (BkI.itemsV (psN i P)) rfl (hown'.out.alloc _) ⟨wr.heap.size, 0, none⟩ 1 1 [.int .i64 (z : Int)] rfl rfl (World.news_of_block (cs := #[.int .i64 (z : Int)]) (t := 3) (fr := (0, 0)) (heap_alloc_new wr _)) (by simp [Value.oneCell']) (by decide) (by unfold maxLen; omega) (by omega) (by simp; omega) (wr.heap.size + 1) (by simp) ?_; intro g5 cap5 w5 hown5 hgrow5 hat5 hlt5)
      have hne : ∀ x, (Value.slice aa i cc).ownBlock = some x → w.heap.size ≤ x := fun x hx => (hown'.out.lt x hx).1
      have hB5 : Below w.heap.size w w5 := (hB'.out.alloc hB'.out.size _).grown hgrow5 (by simp; omega) (fun x hx => hne x hx)
      go_roundw
      case rel => exact ⟨i + 1, by omega, by go_num, by rw [hst.out]; exact hown5, hB5⟩
      case measure => simp [intOf]; omega
    · obtain rfl : i = m := by omega
      have hown' := hown'.out
      by_cases hI : Iss P
      · obtain ⟨e1, e2, e3, e4⟩ := hy.out hI
        have f12 := Hid.intro (And.intro e1 e2)
        clear e1 e2 hB
        go_wp2_with fail
        refine (h3.out _ _ hown').mono ?_; rintro e w3 ⟨rfl, hb3⟩
        have hb3' := Hid.intro (hB'.out.trans (hb3.mono hB'.out.size))
        have hv3 := Hid.intro (BkI.own_below hown' hb3)
        clear hb3
        go_wp2
        go_ret2
        rw [f12.out.1, f12.out.2, hX]
        exact ⟨_, rfl, hv3.out, hb3'.out⟩
      · obtain ⟨e1, e2, e3⟩ := hn.out hI
        have f12 := Hid.intro (And.intro e1 e2)
        clear e1 e2 hB
        rcases e3 with e3 | e3
        · subst e3
          go_wp2_with fail
          refine (h3.out _ _ hown').mono ?_; rintro e w3 ⟨rfl, hb3⟩
          have hb3' := Hid.intro (hB'.out.trans (hb3.mono hB'.out.size))
          clear hb3
          go_wp2
          go_ret2
          rw [f12.out.1, f12.out.2]
          exact ⟨_, rfl, World.ownsRow_nil _ _ _ _, hb3'.out⟩
        · cases OK
          · skip
            go_wp2_with fail
            refine (h3.out _ _ hown').mono ?_; rintro e w3 ⟨rfl, hb3⟩
            have hb3' := Hid.intro (hB'.out.trans (hb3.mono hB'.out.size))
            clear hb3
            go_wp2
            go_ret2
            rw [f12.out.1, f12.out.2]
            exact ⟨_, rfl, World.ownsRow_nil _ _ _ _, hb3'.out⟩
          · skip
            go_wp2_with fail
            refine (h3.out _ _ hown').mono ?_; rintro e w3 ⟨rfl, hb3⟩
            have hb3' := Hid.intro (hB'.out.trans (hb3.mono hB'.out.size))
            clear hb3
            go_wp2
            go_ret2
            rw [f12.out.1, f12.out.2]
            exact ⟨_, rfl, World.ownsRow_nil _ _ _ _, hb3'.out⟩

theorem runslot_any (P : List UInt8) (w : World) :
    Calls Try.prog 22 #[.string (str P)] w fun e w' => ∃ v, e = .returned (.tuple #[.int .i64 (usG P), v]) ∧ w'.ownsRow w.heap.size 3 1 v (usP P).length (BkI.itemsV (usP P)) ∧ Below w.heap.size w w' := by
  by_cases hl : P.length = 32
  · by_cases h : cnL P ≤ 11
    · exact runslot_in P w hl h
    · have hI : ¬ Iss P := fun hh => h hh.2.1
      rw [show usG P = 0 from if_neg hI, show usP P = [] from if_neg hI]
      exact (runslot_many P w hl (by omega)).mono fun e w' ⟨a, b⟩ => ⟨_, a, World.ownsRow_nil _ _ _ _, by rw [← b]; exact Below.refl _ _⟩
  · have hI : ¬ Iss P := fun hh => hl hh.1
    rw [show usG P = 0 from if_neg hI, show usP P = [] from if_neg hI]
    exact (runslot_len P w hl).mono fun e w' ⟨a, b⟩ => ⟨_, a, World.ownsRow_nil _ _ _ _, by rw [← b]; exact Below.refl _ _⟩
end Go.Proofs.Ytgigpohfkppplaa
