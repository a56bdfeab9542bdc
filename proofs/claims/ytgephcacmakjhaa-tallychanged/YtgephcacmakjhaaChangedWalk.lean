/-
  The walk of TallyChanged, for every input: it returns true; nothing that was there is written.
-/
import Derived.Test.YtgephcacmakjhaaTalMem
import Derived.Deep.QuietTactic
import Derived.BigQuiet
import Derived.Deep.RegionHeld3
namespace Go.Proofs.Ytgephcacmakjhaa
open Go.ChangeShapes Go.WideShapes Go.ChangeAt Go.RowKit
attribute [local go_sem] str_size

set_option maxRecDepth 100000 in
theorem changed_out (S : List UInt8) (at_ : Int) (c : Nat) (w : World) (h1 : S.length = 0 ∨ 3000 < S.length) :
    Calls Try.prog 4 #[.string (str S), .int .i64 at_, .int .u8 (c : Int)] w fun e w' => e = .returned (.bool true) ∧ Below w.heap.size w w' := by
  by_cases g : S.length = 0
  · have i1 : (S.length : Int) = 0 := by omega
    go_enter Try.func4, Try.ntmps4
    go_wp2_with fail
    refine (alive_any _).mono ?_; rintro e w1 ⟨rfl, hb1⟩
    have hb1' := Hid.intro hb1
    go_wp2
    go_ret
    exact ⟨rfl, hb1'.out⟩
  · have i1 : ¬ (S.length : Int) = 0 := by omega
    have i2 : (3000 : Int) < (S.length : Int) := by omega
    go_enter Try.func4, Try.ntmps4
    go_wp2_with fail
    refine (alive_any _).mono ?_; rintro e w1 ⟨rfl, hb1⟩
    have hb1' := Hid.intro hb1
    go_wp2
    go_ret
    exact ⟨rfl, hb1'.out⟩

theorem place_in (n : Nat) (a : Int) (h0 : 0 < n) : ∃ k : Nat, (a.tmod n + n).tmod n = (k : Int) ∧ k < n := by
  have h1 := Int.lt_tmod_of_pos a (show (0 : Int) < (n : Int) by omega)
  have h3 : (a.tmod n + n).tmod n < n := Int.tmod_lt_of_pos _ (by omega)
  have h2 : 0 ≤ (a.tmod n + n).tmod n := Int.tmod_nonneg _ (by omega)
  exact ⟨((a.tmod n + n).tmod n).toNat, by omega, by omega⟩

theorem below_drwN (w : World) (n : Nat) : Below w.heap.size w (w.drewN n) := ⟨rfl, rfl, rfl, Nat.le_refl _, fun _ _ => rfl⟩
theorem news_bb {w : World} {g : Nat} {S : List UInt8} (h : BB w g S) : ∀ (j : Nat) (u : Value), (S.map bV)[j]? = some u → w.cell? ((⟨g, 0, none⟩ : Addr).add j) = some u := fun j u hj => by
  rw [List.getElem?_map] at hj
  cases hx : S[j]? with
  | none => rw [hx] at hj; cases hj
  | some x => rw [hx] at hj; cases hj; rw [show (⟨g, 0, none⟩ : Addr).add j = ⟨g, j, none⟩ by unfold Addr.add; split <;> simp_all]; exact h.bytes j x hx
theorem one_bv (S : List UInt8) : ∀ u ∈ S.map bV, u.oneCell' = true := fun u hu => by
  obtain ⟨x, _, rfl⟩ := List.mem_map.1 hu; rfl
theorem own_cap {w : World} {base g cap n : Nat} {xs : List Value} (h : w.ownsRow base 5 1 (.slice (some ⟨g, 0, none⟩) n cap) n xs) (hn : 0 < n) : n ≤ cap ∧ base ≤ g := by
  rcases h.2 with ⟨h1, h2⟩ | ⟨g', cap', cur, hv, hb, _, hc, _⟩
  · omega
  · cases hv; exact ⟨hc, hb⟩
theorem app_out {w3 w5 : World} {G g5 n cap5 : Nat} {T : List UInt8} (hT : T.length = n) (hn : 0 < n) (hbb : BB w3 G T)
    (hown : w5.ownsRow w3.heap.size 5 1 (.slice (some ⟨g5, 0, none⟩) (0 + n) cap5) (0 + n) ([] ++ T.map bV)) (hg : w3.grownBy w5 (Value.slice none 0 0).ownBlock) (hlt : g5 < w5.heap.size) :
    n ≤ cap5 ∧ BB w5 g5 T ∧ BB w5 G T ∧ g5 ≠ G ∧ Below w3.heap.size w3 w5 := by
  rw [Nat.zero_add, List.nil_append] at hown
  obtain ⟨h1, h2⟩ := own_cap hown hn
  subst hT
  have hlt3 := hbb.lt
  refine ⟨h1, BB.own hown hlt, hbb.grown hg (by simp [Value.ownBlock]), by omega, ⟨hg.os, hg.tape, hg.output, hg.size, fun k hk => hg.block k hk (by simp [Value.ownBlock])⟩⟩
theorem put_out {w w3 w5 : World} {B G g5 n k cap5 : Nat} {T : List UInt8} {x : UInt8} (c : UInt8) (hT : T.length = n) (hn : 0 < n) (hbb : Hid (BB w3 G T)) (hb : Hid (Below B w w3)) (hB : B ≤ w3.heap.size) (hx : Hid (T[k]? = some x))
    (hown : w5.ownsRow w3.heap.size 5 1 (.slice (some ⟨g5, 0, none⟩) (0 + n) cap5) (0 + n) ([] ++ T.map bV)) (hg : w3.grownBy w5 (Value.slice none 0 0).ownBlock) (hlt : g5 < w5.heap.size) :
    n ≤ cap5 ∧ w5.cell? ⟨g5, k, none⟩ = some (.int .u8 (x.toNat : Int)) ∧ w5.frozen? ⟨g5, k, none⟩ = false ∧
    (convert 32 9 (.slice (some ⟨g5, 0, none⟩) n cap5)).run Try.prog (w5.setCell ⟨g5, k, none⟩ (.int .u8 (c.toNat : Int))) = .ok (.string (str (T.set k c))) (w5.setCell ⟨g5, k, none⟩ (.int .u8 (c.toNat : Int))) ∧
    Hid (BB (w5.setCell ⟨g5, k, none⟩ (.int .u8 (c.toNat : Int))) g5 (T.set k c) ∧ BB (w5.setCell ⟨g5, k, none⟩ (.int .u8 (c.toNat : Int))) G T ∧ Below B w (w5.setCell ⟨g5, k, none⟩ (.int .u8 (c.toNat : Int)))) := by
  obtain ⟨h1, h2, h3, h4, h5⟩ := app_out hT hn hbb.out hown hg hlt
  rw [Nat.zero_add] at hown
  have hg5 := (own_cap hown hn).2
  have hk := (List.getElem?_eq_some_iff.1 hx.out).1
  exact ⟨h1, h2.bytes k x hx.out, h2.fro k hk, (h2.set (i := k) c).str (T := T.set k c) (List.take_of_length_le (by rw [List.length_set]; omega)) (by rw [List.length_set]; omega),
    h2.set c, h3.other h4 _, (hb.out.trans (h5.mono hB)).setCell (p := ⟨g5, k, none⟩) (Nat.le_trans hB hg5) _⟩

set_option maxHeartbeats 4000000 in
set_option maxRecDepth 100000 in
theorem ch_b_no (S : List UInt8) (at_ : Int) (c x : UInt8) (k : Nat) (w : World) (g0 : 0 < S.length) (g1 : S.length ≤ 3000) (hk : (at_.tmod S.length + S.length).tmod S.length = (k : Int)) (hx : S[k]? = some x) (hc : c ≠ x) (hl : ¬ k + 1 < S.length) :
    Calls Try.prog 4 #[.string (str S), .int .i64 at_, .int .u8 (c.toNat : Int)] w fun e w' => e = .returned (.bool true) ∧ Below w.heap.size w w' := by
  have i1 : ¬ (S.length : Int) = 0 := by omega
  have i2 : ¬ (3000 : Int) < (S.length : Int) := by omega
  have i3 : ¬ S = [] := fun h => by rw [h] at g0; exact absurd g0 (by decide)
  have i4 : ¬ S.length = 0 := by omega
  have i5 : ((S.length : Int) == 0) = false := by simpa using i3
  have hkn : k < S.length := (List.getElem?_eq_some_iff.1 hx).1
  have t1 := Int.lt_tmod_of_pos at_ (show (0 : Int) < (S.length : Int) by omega)
  have t2 := Int.tmod_lt_of_pos at_ (show (0 : Int) < (S.length : Int) by omega)
  have hs := Hid.intro (fun w => seal_any S w (by omega))
  have hix := str_at S k x hx
  have k0 : (0 : Int) ≤ (k : Int) := Int.natCast_nonneg _
  have k1 : (k : Int) < (S.length : Int) := by omega
  have lA := sld_length S
  unfold bV at hix
  have of2 := Hid.intro (fun w => of_any S w (by omega))
  have o1 := Hid.intro (fun w => open_no (S.set k c) (by4 (ofN S)) w (by rw [List.length_set]; omega) rfl (by4_ne (one_other S k x c hx hc)))
  have of1 := Hid.intro (fun w => of_any (S.set k c) w (by rw [List.length_set]; omega))
  have hp1 : ((sld S).set k c).take S.length = S.set k c := by rw [sld_set S k c hkn]; exact List.take_left' (by rw [List.length_set])
  rw [← sld_set S k c hkn] at o1
  have hne1 : ((ofN (S.set k c) : Int) == (ofN S : Int)) = false := beq_false_of_ne (fun e => one_other S k x c hx hc (by omega))
  have hcx : ((c.toNat : Int) != (x.toNat : Int)) = true := by
    have : ¬ (c.toNat : Int) = (x.toNat : Int) := fun e => hc (UInt8.toNat_inj.1 (by omega))
    simpa using this
  generalize hZ1 : ofN (S.set k c) = z1 at *
  have hk1d : decide ((k : Int) + 1 < (S.length : Int)) = false := decide_eq_false (by omega)
  have hk1 : ¬ (k : Int) + 1 < (S.length : Int) := by omega
  have hkw : IntKind.i64.wrap ((k : Int) + 1) = (k : Int) + 1 := by rw [IntKind.wrap_i64]; omega
  generalize hA : at_.tmod (S.length : Int) = q at *
  have wq : IntKind.i64.wrap (q + (S.length : Int)) = q + (S.length : Int) := by rw [IntKind.wrap_i64]; omega
  have w4 : IntKind.i64.wrap ((S.length : Int) + 4) = (S.length : Int) + 4 := by rw [IntKind.wrap_i64]; omega
  have hTx := Hid.intro (show (sld S)[k]? = some x by rw [sld, List.getElem?_append_left hkn]; exact hx)
  generalize hT : sld S = T at *
  generalize ofN S = z at *
  obtain ⟨i0, hi0, hz0', hz1', hz2'⟩ := info_parts Try.info5
  have hx_ := Hid.intro hx; clear hx
  go_enter Try.func4, Try.ntmps4
  go_wp2_with fail
  refine (alive_any _).mono ?_; rintro e w1 ⟨rfl, hb1⟩
  go_wp2_with fail
  refine (hs.out _).mono ?_; rintro e w2 ⟨rfl, hb2⟩
  have hb := Hid.intro (hb1.trans (hb2.mono hb1.size))
  clear hb1 hb2
  obtain ⟨w3, cap, hcv, hcap, hB3, hb3⟩ := bytes_of_str w2 T
  have hb' := Hid.intro (hb.out.trans (hB3.mono hb.out.size))
  have hbb := Hid.intro hb3
  have hG : w.heap.size ≤ w2.heap.size := hb.out.size
  rw [lA] at hcv hcap
  clear hB3 hb3
  go_wp2_with (at_builtin; refine wpList_append_lies _ rfl _ _ 32 rfl w3.heap.size 5 i0 (.int .u8 0) 1 1 Try.underlying32 hi0 hz0' hz1' hz2' rfl (by decide) (.slice none 0 0) 0 [] rfl (World.ownsRow_nil _ _ _ _) ⟨w2.heap.size, 0, none⟩ (S.length + 4) cap (T.map bV) rfl (by rw [List.length_map, lA, Nat.mul_one]) (news_bb hbb.out) (one_bv T) (by omega) (by unfold maxLen; omega) (by omega) (Nat.le_refl _) w3.heap.size rfl ?_; intro g5 cap5 w5 hown5 hgrow5 hat5 hlt5; have hG3 := hb'.out.size; obtain ⟨hc5, hcl5, hfr5, hcv5, hx5⟩ := put_out c lA (by omega) hbb hb' hG3 hTx hown5 hgrow5 hlt5; have hc5' : ((S.length : Int)) ≤ (cap5 : Int) := (by omega); clear hown5 hgrow5 hat5)
  clear hcl5 hfr5 hcv5 hcv hcap hbb hb'
  generalize w5.setCell ⟨g5, k, none⟩ (.int .u8 (c.toNat : Int)) = w6 at *
  refine (o1.out _).mono ?_; rintro e w7 ⟨rfl, hb7⟩
  have hBB := hx5.out.1.below hb7
  have hBG := Hid.intro (hx5.out.2.1.below hb7)
  have hBW := Hid.intro (hx5.out.2.2.trans (hb7.mono hx5.out.2.2.size))
  have hcv7 := hBB.str (cap := cap5) (n := S.length) hp1 (by rw [List.length_set]; omega)
  clear hx5 hb7 hBB hp1 o1
  go_wp2_with fail
  refine (of1.out _).mono ?_; rintro e w8 ⟨rfl, rfl⟩
  go_wp2_with fail
  refine (of2.out _).mono ?_; rintro e w9 ⟨rfl, rfl⟩
  clear hcv7 of1 of2
  go_wp2_with fail
  go_quiet (fail)
  go_wp2
  go_ret
  exact ⟨rfl, hBW.out.trans ((below_drwN _ _).mono hBW.out.size)⟩

set_option maxHeartbeats 4000000 in
set_option maxRecDepth 100000 in
theorem ch_b_eq (S : List UInt8) (at_ : Int) (c x : UInt8) (k : Nat) (w : World) (g0 : 0 < S.length) (g1 : S.length ≤ 3000) (hk : (at_.tmod S.length + S.length).tmod S.length = (k : Int)) (hx : S[k]? = some x) (hc : c ≠ x) (hy : S[k + 1]? = some x) :
    Calls Try.prog 4 #[.string (str S), .int .i64 at_, .int .u8 (c.toNat : Int)] w fun e w' => e = .returned (.bool true) ∧ Below w.heap.size w w' := by
  have i1 : ¬ (S.length : Int) = 0 := by omega
  have i2 : ¬ (3000 : Int) < (S.length : Int) := by omega
  have i3 : ¬ S = [] := fun h => by rw [h] at g0; exact absurd g0 (by decide)
  have i4 : ¬ S.length = 0 := by omega
  have i5 : ((S.length : Int) == 0) = false := by simpa using i3
  have hkn : k < S.length := (List.getElem?_eq_some_iff.1 hx).1
  have t1 := Int.lt_tmod_of_pos at_ (show (0 : Int) < (S.length : Int) by omega)
  have t2 := Int.tmod_lt_of_pos at_ (show (0 : Int) < (S.length : Int) by omega)
  have hs := Hid.intro (fun w => seal_any S w (by omega))
  have hix := str_at S k x hx
  have k0 : (0 : Int) ≤ (k : Int) := Int.natCast_nonneg _
  have k1 : (k : Int) < (S.length : Int) := by omega
  have lA := sld_length S
  unfold bV at hix
  have of2 := Hid.intro (fun w => of_any S w (by omega))
  have o1 := Hid.intro (fun w => open_no (S.set k c) (by4 (ofN S)) w (by rw [List.length_set]; omega) rfl (by4_ne (one_other S k x c hx hc)))
  have of1 := Hid.intro (fun w => of_any (S.set k c) w (by rw [List.length_set]; omega))
  have hp1 : ((sld S).set k c).take S.length = S.set k c := by rw [sld_set S k c hkn]; exact List.take_left' (by rw [List.length_set])
  rw [← sld_set S k c hkn] at o1
  have hne1 : ((ofN (S.set k c) : Int) == (ofN S : Int)) = false := beq_false_of_ne (fun e => one_other S k x c hx hc (by omega))
  have hcx : ((c.toNat : Int) != (x.toNat : Int)) = true := by
    have : ¬ (c.toNat : Int) = (x.toNat : Int) := fun e => hc (UInt8.toNat_inj.1 (by omega))
    simpa using this
  generalize hZ1 : ofN (S.set k c) = z1 at *
  have hk1n : k + 1 < S.length := (List.getElem?_eq_some_iff.1 hy).1
  have hk1 : (k : Int) + 1 < (S.length : Int) := by omega
  have hkw : IntKind.i64.wrap ((k : Int) + 1) = (k : Int) + 1 := by rw [IntKind.wrap_i64]; omega
  have hk10 : (0 : Int) ≤ (k : Int) + 1 := by omega
  have hiy0 := str_at S (k + 1) x hy
  have hiy : ∀ w, (Instr.index 9 (.string (str S)) (.int .i64 ((k : Int) + 1))).run Try.prog w = .ok (bV x) w := hiy0
  clear hiy0
  unfold bV at hiy
  have hsw : ((x.toNat : Int) != (x.toNat : Int)) = false := by simp
  generalize hA : at_.tmod (S.length : Int) = q at *
  have wq : IntKind.i64.wrap (q + (S.length : Int)) = q + (S.length : Int) := by rw [IntKind.wrap_i64]; omega
  have w4 : IntKind.i64.wrap ((S.length : Int) + 4) = (S.length : Int) + 4 := by rw [IntKind.wrap_i64]; omega
  have hTx := Hid.intro (show (sld S)[k]? = some x by rw [sld, List.getElem?_append_left hkn]; exact hx)
  generalize hT : sld S = T at *
  generalize ofN S = z at *
  obtain ⟨i0, hi0, hz0', hz1', hz2'⟩ := info_parts Try.info5
  have hx_ := Hid.intro hx; clear hx; have hy_ := Hid.intro hy; clear hy
  go_enter Try.func4, Try.ntmps4
  go_wp2_with fail
  refine (alive_any _).mono ?_; rintro e w1 ⟨rfl, hb1⟩
  go_wp2_with fail
  refine (hs.out _).mono ?_; rintro e w2 ⟨rfl, hb2⟩
  have hb := Hid.intro (hb1.trans (hb2.mono hb1.size))
  clear hb1 hb2
  obtain ⟨w3, cap, hcv, hcap, hB3, hb3⟩ := bytes_of_str w2 T
  have hb' := Hid.intro (hb.out.trans (hB3.mono hb.out.size))
  have hbb := Hid.intro hb3
  have hG : w.heap.size ≤ w2.heap.size := hb.out.size
  rw [lA] at hcv hcap
  clear hB3 hb3
  go_wp2_with (at_builtin; refine wpList_append_lies _ rfl _ _ 32 rfl w3.heap.size 5 i0 (.int .u8 0) 1 1 Try.underlying32 hi0 hz0' hz1' hz2' rfl (by decide) (.slice none 0 0) 0 [] rfl (World.ownsRow_nil _ _ _ _) ⟨w2.heap.size, 0, none⟩ (S.length + 4) cap (T.map bV) rfl (by rw [List.length_map, lA, Nat.mul_one]) (news_bb hbb.out) (one_bv T) (by omega) (by unfold maxLen; omega) (by omega) (Nat.le_refl _) w3.heap.size rfl ?_; intro g5 cap5 w5 hown5 hgrow5 hat5 hlt5; have hG3 := hb'.out.size; obtain ⟨hc5, hcl5, hfr5, hcv5, hx5⟩ := put_out c lA (by omega) hbb hb' hG3 hTx hown5 hgrow5 hlt5; have hc5' : ((S.length : Int)) ≤ (cap5 : Int) := (by omega); clear hown5 hgrow5 hat5)
  clear hcl5 hfr5 hcv5 hcv hcap hbb hb'
  generalize w5.setCell ⟨g5, k, none⟩ (.int .u8 (c.toNat : Int)) = w6 at *
  refine (o1.out _).mono ?_; rintro e w7 ⟨rfl, hb7⟩
  have hBB := hx5.out.1.below hb7
  have hBG := Hid.intro (hx5.out.2.1.below hb7)
  have hBW := Hid.intro (hx5.out.2.2.trans (hb7.mono hx5.out.2.2.size))
  have hcv7 := hBB.str (cap := cap5) (n := S.length) hp1 (by rw [List.length_set]; omega)
  clear hx5 hb7 hBB hp1 o1
  go_wp2_with fail
  refine (of1.out _).mono ?_; rintro e w8 ⟨rfl, rfl⟩
  go_wp2_with fail
  refine (of2.out _).mono ?_; rintro e w9 ⟨rfl, rfl⟩
  clear hcv7 of1 of2
  go_wp2_with fail
  go_quiet (fail)
  go_wp2
  go_ret
  exact ⟨rfl, hBW.out.trans ((below_drwN _ _).mono hBW.out.size)⟩

set_option maxHeartbeats 4000000 in
set_option maxRecDepth 100000 in
theorem ch_b_sw (S : List UInt8) (at_ : Int) (c x y : UInt8) (k : Nat) (w : World) (g0 : 0 < S.length) (g1 : S.length ≤ 3000) (hk : (at_.tmod S.length + S.length).tmod S.length = (k : Int)) (hx : S[k]? = some x) (hc : c ≠ x) (hy : S[k + 1]? = some y) (hxy : x ≠ y) :
    Calls Try.prog 4 #[.string (str S), .int .i64 at_, .int .u8 (c.toNat : Int)] w fun e w' => e = .returned (.bool true) ∧ Below w.heap.size w w' := by
  have i1 : ¬ (S.length : Int) = 0 := by omega
  have i2 : ¬ (3000 : Int) < (S.length : Int) := by omega
  have i3 : ¬ S = [] := fun h => by rw [h] at g0; exact absurd g0 (by decide)
  have i4 : ¬ S.length = 0 := by omega
  have i5 : ((S.length : Int) == 0) = false := by simpa using i3
  have hkn : k < S.length := (List.getElem?_eq_some_iff.1 hx).1
  have t1 := Int.lt_tmod_of_pos at_ (show (0 : Int) < (S.length : Int) by omega)
  have t2 := Int.tmod_lt_of_pos at_ (show (0 : Int) < (S.length : Int) by omega)
  have hs := Hid.intro (fun w => seal_any S w (by omega))
  have hix := str_at S k x hx
  have k0 : (0 : Int) ≤ (k : Int) := Int.natCast_nonneg _
  have k1 : (k : Int) < (S.length : Int) := by omega
  have lA := sld_length S
  unfold bV at hix
  have of2 := Hid.intro (fun w => of_any S w (by omega))
  have o1 := Hid.intro (fun w => open_no (S.set k c) (by4 (ofN S)) w (by rw [List.length_set]; omega) rfl (by4_ne (one_other S k x c hx hc)))
  have of1 := Hid.intro (fun w => of_any (S.set k c) w (by rw [List.length_set]; omega))
  have hp1 : ((sld S).set k c).take S.length = S.set k c := by rw [sld_set S k c hkn]; exact List.take_left' (by rw [List.length_set])
  rw [← sld_set S k c hkn] at o1
  have hne1 : ((ofN (S.set k c) : Int) == (ofN S : Int)) = false := beq_false_of_ne (fun e => one_other S k x c hx hc (by omega))
  have hcx : ((c.toNat : Int) != (x.toNat : Int)) = true := by
    have : ¬ (c.toNat : Int) = (x.toNat : Int) := fun e => hc (UInt8.toNat_inj.1 (by omega))
    simpa using this
  generalize hZ1 : ofN (S.set k c) = z1 at *
  have hk1n : k + 1 < S.length := (List.getElem?_eq_some_iff.1 hy).1
  have hk1 : (k : Int) + 1 < (S.length : Int) := by omega
  have hkw : IntKind.i64.wrap ((k : Int) + 1) = (k : Int) + 1 := by rw [IntKind.wrap_i64]; omega
  have hk10 : (0 : Int) ≤ (k : Int) + 1 := by omega
  have hiy0 := str_at S (k + 1) y hy
  have hiy : ∀ w, (Instr.index 9 (.string (str S)) (.int .i64 ((k : Int) + 1))).run Try.prog w = .ok (bV y) w := hiy0
  clear hiy0
  unfold bV at hiy
  have o2 := Hid.intro (fun w => open_no ((S.set k y).set (k + 1) x) (by4 (ofN S)) w (by rw [List.length_set, List.length_set]; omega) rfl (by4_ne (two_over S k x y hx hy hxy)))
  rw [← sld_set2 S k x y hk1n] at o2
  have hsw : ((x.toNat : Int) != (y.toNat : Int)) = true := by
    have : ¬ (x.toNat : Int) = (y.toNat : Int) := fun e => hxy (UInt8.toNat_inj.1 (by omega))
    simpa using this
  generalize hA : at_.tmod (S.length : Int) = q at *
  have wq : IntKind.i64.wrap (q + (S.length : Int)) = q + (S.length : Int) := by rw [IntKind.wrap_i64]; omega
  have w4 : IntKind.i64.wrap ((S.length : Int) + 4) = (S.length : Int) + 4 := by rw [IntKind.wrap_i64]; omega
  have hTx := Hid.intro (show (sld S)[k]? = some x by rw [sld, List.getElem?_append_left hkn]; exact hx)
  have hTy := Hid.intro (show (sld S)[k + 1]? = some y by rw [sld, List.getElem?_append_left hk1n]; exact hy)
  generalize hT : sld S = T at *
  generalize ofN S = z at *
  obtain ⟨i0, hi0, hz0', hz1', hz2'⟩ := info_parts Try.info5
  have hx_ := Hid.intro hx; clear hx; have hy_ := Hid.intro hy; clear hy
  go_enter Try.func4, Try.ntmps4
  go_wp2_with fail
  refine (alive_any _).mono ?_; rintro e w1 ⟨rfl, hb1⟩
  go_wp2_with fail
  refine (hs.out _).mono ?_; rintro e w2 ⟨rfl, hb2⟩
  have hb := Hid.intro (hb1.trans (hb2.mono hb1.size))
  clear hb1 hb2
  obtain ⟨w3, cap, hcv, hcap, hB3, hb3⟩ := bytes_of_str w2 T
  have hb' := Hid.intro (hb.out.trans (hB3.mono hb.out.size))
  have hbb := Hid.intro hb3
  have hG : w.heap.size ≤ w2.heap.size := hb.out.size
  rw [lA] at hcv hcap
  clear hB3 hb3
  go_wp2_with (at_builtin; refine wpList_append_lies _ rfl _ _ 32 rfl w3.heap.size 5 i0 (.int .u8 0) 1 1 Try.underlying32 hi0 hz0' hz1' hz2' rfl (by decide) (.slice none 0 0) 0 [] rfl (World.ownsRow_nil _ _ _ _) ⟨w2.heap.size, 0, none⟩ (S.length + 4) cap (T.map bV) rfl (by rw [List.length_map, lA, Nat.mul_one]) (news_bb hbb.out) (one_bv T) (by omega) (by unfold maxLen; omega) (by omega) (Nat.le_refl _) w3.heap.size rfl ?_; intro g5 cap5 w5 hown5 hgrow5 hat5 hlt5; have hG3 := hb'.out.size; obtain ⟨hc5, hcl5, hfr5, hcv5, hx5⟩ := put_out c lA (by omega) hbb hb' hG3 hTx hown5 hgrow5 hlt5; have hc5' : ((S.length : Int)) ≤ (cap5 : Int) := (by omega); clear hown5 hgrow5 hat5)
  clear hcl5 hfr5 hcv5 hcv hcap hbb hb'
  generalize w5.setCell ⟨g5, k, none⟩ (.int .u8 (c.toNat : Int)) = w6 at *
  refine (o1.out _).mono ?_; rintro e w7 ⟨rfl, hb7⟩
  have hBB := hx5.out.1.below hb7
  have hBG := Hid.intro (hx5.out.2.1.below hb7)
  have hBW := Hid.intro (hx5.out.2.2.trans (hb7.mono hx5.out.2.2.size))
  have hcv7 := hBB.str (cap := cap5) (n := S.length) hp1 (by rw [List.length_set]; omega)
  clear hx5 hb7 hBB hp1 o1
  go_wp2_with fail
  refine (of1.out _).mono ?_; rintro e w8 ⟨rfl, rfl⟩
  go_wp2_with fail
  refine (of2.out _).mono ?_; rintro e w9 ⟨rfl, rfl⟩
  clear hcv7 of1 of2
  go_wp2_with fail
  go_quiet (fail)
  have hBG2 := Hid.intro (hBG.out.below (below_drwN w9 nq))
  have hBW2 := Hid.intro (hBW.out.trans ((below_drwN w9 nq).mono hBW.out.size))
  clear hBG hBW
  generalize w9.drewN nq = wa at *
  go_wp2_with fail
  have e1 := hBG2.out.bytes k x hTx.out
  have e2 := hBG2.out.bytes (k + 1) y hTy.out
  have e3 := hBG2.out.fro k (by omega)
  have e4 := hBG2.out.fro (k + 1) (by omega)
  unfold bV at e1 e2
  clear hb hA
  generalize w2.heap.size = G at *
  go_region
  have hf := ((hBG2.out.set (i := k) y).set (i := k + 1) x).below below_drw
  have hg := Hid.intro (((hBW2.out.setCell (p := ⟨G, k, none⟩) hG (bV y)).setCell (p := ⟨G, k + 1, none⟩) hG (bV x)).drew)
  have hcvb := hf.str (cap := cap) (n := S.length + 4) (T := (T.set k y).set (k + 1) x) (List.take_of_length_le (by rw [List.length_set, List.length_set]; omega)) (by rw [List.length_set, List.length_set]; omega)
  unfold bV at hg hcvb
  clear hf hBG2 hBW2 e1 e2 e3 e4
  generalize ((wa.setCell ⟨G, k, none⟩ (.int .u8 (y.toNat : Int))).setCell ⟨G, k + 1, none⟩ (.int .u8 (x.toNat : Int))).drew = wb at *
  go_wp2_with fail
  refine (o2.out _).mono ?_; rintro e wc ⟨rfl, hbc⟩
  have hh := Hid.intro (hg.out.trans (hbc.mono hg.out.size))
  clear hbc hg hcvb
  go_wp2
  go_ret
  exact ⟨rfl, hh.out⟩

set_option maxHeartbeats 4000000 in
set_option maxRecDepth 100000 in
theorem ch_a_no (S : List UInt8) (at_ : Int) (x : UInt8) (k : Nat) (w : World) (g0 : 0 < S.length) (g1 : S.length ≤ 3000) (hk : (at_.tmod S.length + S.length).tmod S.length = (k : Int)) (hx : S[k]? = some x) (hl : ¬ k + 1 < S.length) :
    Calls Try.prog 4 #[.string (str S), .int .i64 at_, .int .u8 (x.toNat : Int)] w fun e w' => e = .returned (.bool true) ∧ Below w.heap.size w w' := by
  have i1 : ¬ (S.length : Int) = 0 := by omega
  have i2 : ¬ (3000 : Int) < (S.length : Int) := by omega
  have i3 : ¬ S = [] := fun h => by rw [h] at g0; exact absurd g0 (by decide)
  have i4 : ¬ S.length = 0 := by omega
  have i5 : ((S.length : Int) == 0) = false := by simpa using i3
  have hkn : k < S.length := (List.getElem?_eq_some_iff.1 hx).1
  have t1 := Int.lt_tmod_of_pos at_ (show (0 : Int) < (S.length : Int) by omega)
  have t2 := Int.tmod_lt_of_pos at_ (show (0 : Int) < (S.length : Int) by omega)
  have hs := Hid.intro (fun w => seal_any S w (by omega))
  have hix := str_at S k x hx
  have k0 : (0 : Int) ≤ (k : Int) := Int.natCast_nonneg _
  have k1 : (k : Int) < (S.length : Int) := by omega
  have lA := sld_length S
  unfold bV at hix
  have of2 := Hid.intro (fun w => of_any S w (by omega))
  have hcx : ((x.toNat : Int) != (x.toNat : Int)) = false := by simp
  have hk1d : decide ((k : Int) + 1 < (S.length : Int)) = false := decide_eq_false (by omega)
  have hk1 : ¬ (k : Int) + 1 < (S.length : Int) := by omega
  have hkw : IntKind.i64.wrap ((k : Int) + 1) = (k : Int) + 1 := by rw [IntKind.wrap_i64]; omega
  generalize hA : at_.tmod (S.length : Int) = q at *
  have wq : IntKind.i64.wrap (q + (S.length : Int)) = q + (S.length : Int) := by rw [IntKind.wrap_i64]; omega
  have w4 : IntKind.i64.wrap ((S.length : Int) + 4) = (S.length : Int) + 4 := by rw [IntKind.wrap_i64]; omega
  have hTx := Hid.intro (show (sld S)[k]? = some x by rw [sld, List.getElem?_append_left hkn]; exact hx)
  generalize hT : sld S = T at *
  generalize ofN S = z at *
  obtain ⟨i0, hi0, hz0', hz1', hz2'⟩ := info_parts Try.info5
  have hx_ := Hid.intro hx; clear hx
  go_enter Try.func4, Try.ntmps4
  go_wp2_with fail
  refine (alive_any _).mono ?_; rintro e w1 ⟨rfl, hb1⟩
  go_wp2_with fail
  refine (hs.out _).mono ?_; rintro e w2 ⟨rfl, hb2⟩
  have hb := Hid.intro (hb1.trans (hb2.mono hb1.size))
  clear hb1 hb2
  obtain ⟨w3, cap, hcv, hcap, hB3, hb3⟩ := bytes_of_str w2 T
  have hb' := Hid.intro (hb.out.trans (hB3.mono hb.out.size))
  have hbb := Hid.intro hb3
  have hG : w.heap.size ≤ w2.heap.size := hb.out.size
  rw [lA] at hcv hcap
  clear hB3 hb3
  have hBG := hbb
  have hBW := hb'
  clear hbb hb'
  go_wp2_with fail
  go_quiet (fail)
  go_wp2
  go_ret
  exact ⟨rfl, hBW.out.trans ((below_drwN _ _).mono hBW.out.size)⟩

set_option maxHeartbeats 4000000 in
set_option maxRecDepth 100000 in
theorem ch_a_eq (S : List UInt8) (at_ : Int) (x : UInt8) (k : Nat) (w : World) (g0 : 0 < S.length) (g1 : S.length ≤ 3000) (hk : (at_.tmod S.length + S.length).tmod S.length = (k : Int)) (hx : S[k]? = some x) (hy : S[k + 1]? = some x) :
    Calls Try.prog 4 #[.string (str S), .int .i64 at_, .int .u8 (x.toNat : Int)] w fun e w' => e = .returned (.bool true) ∧ Below w.heap.size w w' := by
  have i1 : ¬ (S.length : Int) = 0 := by omega
  have i2 : ¬ (3000 : Int) < (S.length : Int) := by omega
  have i3 : ¬ S = [] := fun h => by rw [h] at g0; exact absurd g0 (by decide)
  have i4 : ¬ S.length = 0 := by omega
  have i5 : ((S.length : Int) == 0) = false := by simpa using i3
  have hkn : k < S.length := (List.getElem?_eq_some_iff.1 hx).1
  have t1 := Int.lt_tmod_of_pos at_ (show (0 : Int) < (S.length : Int) by omega)
  have t2 := Int.tmod_lt_of_pos at_ (show (0 : Int) < (S.length : Int) by omega)
  have hs := Hid.intro (fun w => seal_any S w (by omega))
  have hix := str_at S k x hx
  have k0 : (0 : Int) ≤ (k : Int) := Int.natCast_nonneg _
  have k1 : (k : Int) < (S.length : Int) := by omega
  have lA := sld_length S
  unfold bV at hix
  have of2 := Hid.intro (fun w => of_any S w (by omega))
  have hcx : ((x.toNat : Int) != (x.toNat : Int)) = false := by simp
  have hk1n : k + 1 < S.length := (List.getElem?_eq_some_iff.1 hy).1
  have hk1 : (k : Int) + 1 < (S.length : Int) := by omega
  have hkw : IntKind.i64.wrap ((k : Int) + 1) = (k : Int) + 1 := by rw [IntKind.wrap_i64]; omega
  have hk10 : (0 : Int) ≤ (k : Int) + 1 := by omega
  have hiy0 := str_at S (k + 1) x hy
  have hiy : ∀ w, (Instr.index 9 (.string (str S)) (.int .i64 ((k : Int) + 1))).run Try.prog w = .ok (bV x) w := hiy0
  clear hiy0
  unfold bV at hiy
  have hsw : ((x.toNat : Int) != (x.toNat : Int)) = false := by simp
  generalize hA : at_.tmod (S.length : Int) = q at *
  have wq : IntKind.i64.wrap (q + (S.length : Int)) = q + (S.length : Int) := by rw [IntKind.wrap_i64]; omega
  have w4 : IntKind.i64.wrap ((S.length : Int) + 4) = (S.length : Int) + 4 := by rw [IntKind.wrap_i64]; omega
  have hTx := Hid.intro (show (sld S)[k]? = some x by rw [sld, List.getElem?_append_left hkn]; exact hx)
  generalize hT : sld S = T at *
  generalize ofN S = z at *
  obtain ⟨i0, hi0, hz0', hz1', hz2'⟩ := info_parts Try.info5
  have hx_ := Hid.intro hx; clear hx; have hy_ := Hid.intro hy; clear hy
  go_enter Try.func4, Try.ntmps4
  go_wp2_with fail
  refine (alive_any _).mono ?_; rintro e w1 ⟨rfl, hb1⟩
  go_wp2_with fail
  refine (hs.out _).mono ?_; rintro e w2 ⟨rfl, hb2⟩
  have hb := Hid.intro (hb1.trans (hb2.mono hb1.size))
  clear hb1 hb2
  obtain ⟨w3, cap, hcv, hcap, hB3, hb3⟩ := bytes_of_str w2 T
  have hb' := Hid.intro (hb.out.trans (hB3.mono hb.out.size))
  have hbb := Hid.intro hb3
  have hG : w.heap.size ≤ w2.heap.size := hb.out.size
  rw [lA] at hcv hcap
  clear hB3 hb3
  have hBG := hbb
  have hBW := hb'
  clear hbb hb'
  go_wp2_with fail
  go_quiet (fail)
  go_wp2
  go_ret
  exact ⟨rfl, hBW.out.trans ((below_drwN _ _).mono hBW.out.size)⟩

set_option maxHeartbeats 4000000 in
set_option maxRecDepth 100000 in
theorem ch_a_sw (S : List UInt8) (at_ : Int) (x y : UInt8) (k : Nat) (w : World) (g0 : 0 < S.length) (g1 : S.length ≤ 3000) (hk : (at_.tmod S.length + S.length).tmod S.length = (k : Int)) (hx : S[k]? = some x) (hy : S[k + 1]? = some y) (hxy : x ≠ y) :
    Calls Try.prog 4 #[.string (str S), .int .i64 at_, .int .u8 (x.toNat : Int)] w fun e w' => e = .returned (.bool true) ∧ Below w.heap.size w w' := by
  have i1 : ¬ (S.length : Int) = 0 := by omega
  have i2 : ¬ (3000 : Int) < (S.length : Int) := by omega
  have i3 : ¬ S = [] := fun h => by rw [h] at g0; exact absurd g0 (by decide)
  have i4 : ¬ S.length = 0 := by omega
  have i5 : ((S.length : Int) == 0) = false := by simpa using i3
  have hkn : k < S.length := (List.getElem?_eq_some_iff.1 hx).1
  have t1 := Int.lt_tmod_of_pos at_ (show (0 : Int) < (S.length : Int) by omega)
  have t2 := Int.tmod_lt_of_pos at_ (show (0 : Int) < (S.length : Int) by omega)
  have hs := Hid.intro (fun w => seal_any S w (by omega))
  have hix := str_at S k x hx
  have k0 : (0 : Int) ≤ (k : Int) := Int.natCast_nonneg _
  have k1 : (k : Int) < (S.length : Int) := by omega
  have lA := sld_length S
  unfold bV at hix
  have of2 := Hid.intro (fun w => of_any S w (by omega))
  have hcx : ((x.toNat : Int) != (x.toNat : Int)) = false := by simp
  have hk1n : k + 1 < S.length := (List.getElem?_eq_some_iff.1 hy).1
  have hk1 : (k : Int) + 1 < (S.length : Int) := by omega
  have hkw : IntKind.i64.wrap ((k : Int) + 1) = (k : Int) + 1 := by rw [IntKind.wrap_i64]; omega
  have hk10 : (0 : Int) ≤ (k : Int) + 1 := by omega
  have hiy0 := str_at S (k + 1) y hy
  have hiy : ∀ w, (Instr.index 9 (.string (str S)) (.int .i64 ((k : Int) + 1))).run Try.prog w = .ok (bV y) w := hiy0
  clear hiy0
  unfold bV at hiy
  have o2 := Hid.intro (fun w => open_no ((S.set k y).set (k + 1) x) (by4 (ofN S)) w (by rw [List.length_set, List.length_set]; omega) rfl (by4_ne (two_over S k x y hx hy hxy)))
  rw [← sld_set2 S k x y hk1n] at o2
  have hsw : ((x.toNat : Int) != (y.toNat : Int)) = true := by
    have : ¬ (x.toNat : Int) = (y.toNat : Int) := fun e => hxy (UInt8.toNat_inj.1 (by omega))
    simpa using this
  generalize hA : at_.tmod (S.length : Int) = q at *
  have wq : IntKind.i64.wrap (q + (S.length : Int)) = q + (S.length : Int) := by rw [IntKind.wrap_i64]; omega
  have w4 : IntKind.i64.wrap ((S.length : Int) + 4) = (S.length : Int) + 4 := by rw [IntKind.wrap_i64]; omega
  have hTx := Hid.intro (show (sld S)[k]? = some x by rw [sld, List.getElem?_append_left hkn]; exact hx)
  have hTy := Hid.intro (show (sld S)[k + 1]? = some y by rw [sld, List.getElem?_append_left hk1n]; exact hy)
  generalize hT : sld S = T at *
  generalize ofN S = z at *
  obtain ⟨i0, hi0, hz0', hz1', hz2'⟩ := info_parts Try.info5
  have hx_ := Hid.intro hx; clear hx; have hy_ := Hid.intro hy; clear hy
  go_enter Try.func4, Try.ntmps4
  go_wp2_with fail
  refine (alive_any _).mono ?_; rintro e w1 ⟨rfl, hb1⟩
  go_wp2_with fail
  refine (hs.out _).mono ?_; rintro e w2 ⟨rfl, hb2⟩
  have hb := Hid.intro (hb1.trans (hb2.mono hb1.size))
  clear hb1 hb2
  obtain ⟨w3, cap, hcv, hcap, hB3, hb3⟩ := bytes_of_str w2 T
  have hb' := Hid.intro (hb.out.trans (hB3.mono hb.out.size))
  have hbb := Hid.intro hb3
  have hG : w.heap.size ≤ w2.heap.size := hb.out.size
  rw [lA] at hcv hcap
  clear hB3 hb3
  have hBG := hbb
  have hBW := hb'
  clear hbb hb'
  go_wp2_with fail
  go_quiet (fail)
  have hBG2 := Hid.intro (hBG.out.below (below_drwN w3 nq))
  have hBW2 := Hid.intro (hBW.out.trans ((below_drwN w3 nq).mono hBW.out.size))
  clear hBG hBW hcv hcap
  generalize w3.drewN nq = wa at *
  go_wp2_with fail
  have e1 := hBG2.out.bytes k x hTx.out
  have e2 := hBG2.out.bytes (k + 1) y hTy.out
  have e3 := hBG2.out.fro k (by omega)
  have e4 := hBG2.out.fro (k + 1) (by omega)
  unfold bV at e1 e2
  clear hb hA
  generalize w2.heap.size = G at *
  go_region
  have hf := ((hBG2.out.set (i := k) y).set (i := k + 1) x).below below_drw
  have hg := Hid.intro (((hBW2.out.setCell (p := ⟨G, k, none⟩) hG (bV y)).setCell (p := ⟨G, k + 1, none⟩) hG (bV x)).drew)
  have hcvb := hf.str (cap := cap) (n := S.length + 4) (T := (T.set k y).set (k + 1) x) (List.take_of_length_le (by rw [List.length_set, List.length_set]; omega)) (by rw [List.length_set, List.length_set]; omega)
  unfold bV at hg hcvb
  clear hf hBG2 hBW2 e1 e2 e3 e4
  generalize ((wa.setCell ⟨G, k, none⟩ (.int .u8 (y.toNat : Int))).setCell ⟨G, k + 1, none⟩ (.int .u8 (x.toNat : Int))).drew = wb at *
  go_wp2_with fail
  refine (o2.out _).mono ?_; rintro e wc ⟨rfl, hbc⟩
  have hh := Hid.intro (hg.out.trans (hbc.mono hg.out.size))
  clear hbc hg hcvb
  go_wp2
  go_ret
  exact ⟨rfl, hh.out⟩


theorem changed_any (S : List UInt8) (at_ : Int) (c : UInt8) (w : World) :
    Calls Try.prog 4 #[.string (str S), .int .i64 at_, .int .u8 (c.toNat : Int)] w fun e w' => e = .returned (.bool true) ∧ Below w.heap.size w w' := by
  by_cases h1 : S.length = 0 ∨ 3000 < S.length
  · exact changed_out S at_ c.toNat w h1
  have g0 : 0 < S.length := by omega
  have g1 : S.length ≤ 3000 := by omega
  obtain ⟨k, hk, hkn⟩ := place_in S.length at_ g0
  obtain ⟨x, hx⟩ : ∃ x, S[k]? = some x := ⟨S[k], by simp [hkn]⟩
  by_cases hc : c = x
  · subst hc
    by_cases hl : k + 1 < S.length
    · obtain ⟨y, hy⟩ : ∃ y, S[k + 1]? = some y := ⟨S[k + 1], by simp [hl]⟩
      by_cases hxy : c = y
      · subst hxy; exact ch_a_eq S at_ c k w g0 g1 hk hx hy
      · exact ch_a_sw S at_ c y k w g0 g1 hk hx hy hxy
    · exact ch_a_no S at_ c k w g0 g1 hk hx hl
  · by_cases hl : k + 1 < S.length
    · obtain ⟨y, hy⟩ : ∃ y, S[k + 1]? = some y := ⟨S[k + 1], by simp [hl]⟩
      by_cases hxy : x = y
      · subst hxy; exact ch_b_eq S at_ c x k w g0 g1 hk hx hc hy
      · exact ch_b_sw S at_ c x y k w g0 g1 hk hx hc hy hxy
    · exact ch_b_no S at_ c x k w g0 g1 hk hx hc hl
end Go.Proofs.Ytgephcacmakjhaa
