/-
  The contract of Parts.
-/
import Derived.Test.YtgigpohfkppplaaLRun
namespace Go.Proofs.Ytgigpohfkppplaa
open Go.ChangeShapes Go.WideShapes Go.ChangeAt Go.RowKit
attribute [local go_sem] str_size str_extract str_append str_toList

def sV (T : List UInt8) : Value := .string (str T)
def lenV : Value → Nat
  | .string b => b.size
  | _ => 0
theorem lenV_str (T : List UInt8) : lenV (.string (str T)) = T.length := str_size T
theorem Try.infoS : (Try.prog.info? 9).map (fun i => (i.zero, i.size, i.bytes)) = some (some (.string ByteArray.empty), 1, 16) := by kernel_rfl
/-- The first parts, so many. -/
def pfx (S : List UInt8) (i : Nat) : List (List UInt8) := (List.range i).map (chk S)
theorem pfx_succ (S : List UInt8) (i : Nat) : pfx S (i + 1) = pfx S i ++ [chk S i] := by
  rw [pfx, List.range_succ, List.map_append]; rfl
theorem pfx_all (S : List UInt8) : pfx S (need S.length) = prt S := rfl
theorem pfx_mapsucc (S : List UInt8) (i : Nat) : (pfx S (i + 1)).map sV = (pfx S i).map sV ++ [sV (chk S i)] := by
  rw [pfx_succ, List.map_append]; rfl
theorem drop_next (S : List UInt8) (i : Nat) : (S.drop (27 * i)).drop 27 = S.drop (27 * (i + 1)) := by
  rw [List.drop_drop, show 27 * i + 27 = 27 * (i + 1) by omega]
theorem make_strs (w : World) (n : Nat) (hn : n ≤ 1000000) : ∃ w1, (Instr.makeSlice 29 (.int .i64 0) (.int .i64 (n : Int))).run Try.prog w = .ok (.slice (some ⟨w.heap.size, 0, none⟩) 0 n) w1 ∧ w1.ownsRow w.heap.size 9 1 (.slice (some ⟨w.heap.size, 0, none⟩) 0 n) 0 [] ∧ w.grownBy w1 none := by
  obtain ⟨i0, hi, hz0, hz1, hz2⟩ := info_parts Try.infoS
  exact run_make_own (P := Try.prog) w w.heap.size 29 9 i0 (.string ByteArray.empty) 1 Try.underlying29 hi hz0 hz1 .i64 .i64 n (by rw [hz2]; omega) (by unfold maxLen; omega) (Nat.le_refl _)

set_option maxRecDepth 100000 in
set_option maxHeartbeats 8000000 in
theorem parts_any (S : List UInt8) (w : World) (hS : S.length ≤ 1000000) :
    Calls Try.prog 14 #[.string (str S)] w fun e w' => ∃ v, e = .returned v ∧ w'.ownsRow w.heap.size 9 1 v (need S.length) ((prt S).map sV) ∧ Below w.heap.size w w' := by
  obtain ⟨i0, hi0, hz0', hz1', hz2'⟩ := info_parts Try.infoS
  have hnd : need S.length ≤ 1000000 := by unfold need; omega
  obtain ⟨w1, hmk, hown1, hgr1⟩ := make_strs w (need S.length) hnd
  have h1 := Hid.intro (fun w => need_any S.length w (by omega) (by omega))
  rw [ned_nat] at h1
  have hb1 := Hid.intro (below_app0 hgr1)
  have hown1' := Hid.intro hown1
  clear hown1 hgr1
  have s0 : (0 : Int) ≤ (S.length : Int) := Int.natCast_nonneg _
  have hpa := Hid.intro (pfx_all S)
  have hne : Hid (need S.length = (S.length + 26) / 27) := Hid.intro rfl
  generalize hN : need S.length = nn at *
  have n0 : (0 : Int) ≤ (nn : Int) := Int.natCast_nonneg _
  go_enter Try.func14, Try.ntmps14
  go_wp2_with fail
  refine (h1.out _).mono ?_; rintro e w9 ⟨rfl, hw9⟩
  obtain rfl : w = w9 := hw9.symm
  clear hw9
  go_wp2_with fail
  clear hmk h1
  go_loopw [0, 3] (fun sv pv wr => ∃ i : Nat, 27 * i ≤ S.length ∧ sv = .string (str (S.drop (27 * i))) ∧ wr.ownsRow w.heap.size 9 1 pv i ((pfx S i).map sV) ∧ Below w.heap.size w wr) (fun sv _ _ => lenV sv)
  case atStart => exact ⟨0, by omega, rfl, hown1'.out, hb1.out⟩
  case round =>
    obtain ⟨i, hi, rfl, hown, hB⟩ := hrel
    obtain ⟨aa, cc, rfl⟩ := own_form5 hown
    have hown' := Hid.intro hown
    have hB' := Hid.intro hB
    have hsz : w.heap.size ≤ wr.heap.size := hB.size
    have hdl := Hid.intro (show (S.drop (27 * i)).length = S.length - 27 * i from List.length_drop)
    have hch : (S.drop (27 * i)).take 27 = chk S i := rfl
    have hdn := Hid.intro (drop_next S i)
    have hps := Hid.intro (pfx_mapsucc S i)
    have hcs := chk_length S i
    clear hown hB
    generalize hR : S.drop (27 * i) = R at *
    generalize hC : chk S i = C at *
    generalize hPF : (pfx S i).map sV = PF at *
    have hC' := Hid.intro hC
    have hR' := Hid.intro hR
    have hPF' := Hid.intro hPF
    clear hC hR hPF
    by_cases hlt : 27 < S.length - 27 * i
    · have hownd : wr.drew.ownsRow w.heap.size 9 1 (.slice aa i cc) i PF := hown'.out
      have htk : List.take (R.length - 27) (List.drop 27 R) = List.drop 27 R := List.take_of_length_le (by rw [List.length_drop]; omega)
      have hl1 : (27 : Int) < (R.length : Int) := by have := hdl.out; omega
      have hl2 : (27 : Int) ≤ (R.length : Int) := by omega
      go_wp2_with fail
      go_region_law (first
        | (refine step_append_lies _ (by rfl) _ _ 29 (by rfl) w.heap.size 9 i0 (.string ByteArray.empty) 1 16 Try.underlying29 hi0 hz0' hz1' hz2' rfl (by decide) (.slice aa i cc) i PF (by rfl) (hownd.alloc _) ⟨wr.heap.size, 0, none⟩ 1 1 [.string (str C)] (by rfl) (by rfl) (World.news_of_block (cs := #[.string (str C)]) (t := 9) (fr := (0, 0)) (heap_alloc_new wr.drew _)) (by simp [Value.oneCell']) (by decide) (by unfold maxLen; omega) (by omega) (by simp; omega) (wr.heap.size + 1) (by simp) ?_; intro g5 cap5 w5 hown5 hgrow5 hat5 hlt5))
      all_goals
        have hB5 : Below w.heap.size w w5 := ((hB'.out.alloc hsz (.cells #[.string (str C)] 9)).drew).grown hgrow5 (by simp; omega) (fun x hx => (hown'.out.lt x hx).1)
        have hB5' := Hid.intro hB5
        have hown5' := Hid.intro hown5
        clear hown5 hgrow5 hat5 hlt5 hB5
        simp only [List.getElem_toArray, List.getElem_cons_succ, List.getElem_cons_zero, Act.put, List.setIfInBounds_toArray, List.set_cons_zero, List.set_cons_succ]
        go_wp2
        go_roundw
        case rel => exact ⟨i + 1, by have := hdl.out; omega, by rw [← hdn.out], by rw [hps.out]; exact hown5'.out, hB5'.out⟩
        case measure => simp [lenV_str, List.length_drop]; omega
    · have hR27 : R.length ≤ 27 := by have := hdl.out; omega
      by_cases h0 : R.length = 0
      · have hRe : R = [] := List.length_eq_zero_iff.1 h0
        subst hRe
        have hin : i = nn := by have := hne.out; have := hdl.out; simp at this; omega
        clear hlt
        go_wp2
        go_ret
        refine ⟨_, rfl, ?_, hB'.out⟩
        rw [← hpa.out, ← hin, hPF'.out]
        exact hown'.out
      · have hin : Hid (i + 1 = nn) := Hid.intro (by have := hne.out; have := hdl.out; omega)
        have hCR : C = R := by rw [← hch]; exact List.take_of_length_le hR27
        have hRn : R.isEmpty = false := by cases hq : R with
          | nil => rw [hq] at h0; exact absurd rfl h0
          | cons _ _ => rfl
        have hl1 : ¬ (27 : Int) < (R.length : Int) := by omega
        have hps2 := hps.out
        rw [hCR] at hps2
        have hps' := Hid.intro hps2
        clear hlt hps hps2 hch hcs hCR
        go_wp2_with (at_builtin; refine wpList_append_lies _ rfl _ _ 29 rfl w.heap.size 9 i0 (.string ByteArray.empty) 1 16 Try.underlying29 hi0 hz0' hz1' hz2' rfl (by decide) (.slice aa i cc) i PF rfl (hown'.out.alloc _) ⟨wr.heap.size, 0, none⟩ 1 1 [.string (str R)] rfl rfl (World.news_of_block (cs := #[.string (str R)]) (t := 9) (fr := (0, 0)) (heap_alloc_new wr _)) (by simp [Value.oneCell']) (by decide) (by unfold maxLen; omega) (by omega) (by simp; omega) (wr.heap.size + 1) (by simp) ?_; intro g5 cap5 w5 hown5 hgrow5 hat5 hlt5; have hB5 := Hid.intro ((hB'.out.alloc hsz (.cells #[.string (str R)] 9)).grown hgrow5 (by simp; omega) (fun x hx => (hown'.out.lt x hx).1)); have hown5' := Hid.intro hown5; clear hown5 hgrow5 hat5 hlt5)
        go_ret
        refine ⟨_, rfl, ?_, hB5.out⟩
        rw [← hpa.out, ← hin.out, hps'.out]
        exact hown5'.out
end Go.Proofs.Ytgigpohfkppplaa
