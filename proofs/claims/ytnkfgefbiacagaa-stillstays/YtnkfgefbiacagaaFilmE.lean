/-
  The contract of film's Unlike; a *Film that may be nil.
-/
import Derived.Test.YtnkfgefbiacagaaFilmD
import Derived.Test.YtnkfgefbiacagaaSame
namespace Go.Proofs.Ytnkfgefbiacagaa
open Go.ChangeShapes Go.WideShapes Go.ChangeAt Go.RowKit
attribute [local go_sem ↓] Go.wp_at_zero Go.wp_at_succ
attribute [local go_sem] str_size str_extract str_append str_toList

def FV (w : World) (p : Value) (S : List UInt8) : Prop := (p = .pointer none ∧ S = []) ∨ ∃ b g B, p = .pointer (some ⟨b, 0, none⟩) ∧ FObj w b g S ∧ S.length = B * 8 ∧ 1 ≤ B ∧ B ≤ 64
theorem FV.below {w w' : World} {p : Value} {S : List UInt8} (h : FV w p S) (hb : Below w.heap.size w w') : FV w' p S := by
  rcases h with h | ⟨b, g, B, hp, hf, hr⟩
  · exact .inl h
  · exact .inr ⟨b, g, B, hp, hf.below hb, hr⟩
theorem FV.but {w w' : World} {p : Value} {S : List UInt8} {x : Nat} {ps : List Sp} (h : FV w p S) (hx : RObj w x ps) (hb : But x w w') : FV w' p S := by
  rcases h with h | ⟨b, g, B, hp, hf, hr⟩
  · exact .inl h
  · obtain ⟨v, hv, _⟩ := hx
    refine .inr ⟨b, g, B, hp, hf.but hb ?_ ?_, hr⟩
    · rintro rfl; obtain ⟨cap, h1, _⟩ := hf.box; rw [hv] at h1; cases h1
    · rintro rfl; obtain ⟨cur, fz, h1⟩ := hf.ty; rw [hv] at h1; cases h1
theorem fv_blocks {w : World} {p : Value} {S : List UInt8} (h : FV w p S) :
    Calls Try.prog 20 #[p] w fun e w' => e = .returned (.int .i64 ((S.length / 8 : Nat) : Int)) ∧ w' = w := by
  rcases h with ⟨rfl, rfl⟩ | ⟨b, g, B, rfl, hf, _⟩
  · exact fblocks_none w
  · exact fblocks_any hf
theorem fv_block {w : World} {p : Value} {S : List UInt8} (k : Nat) (h : FV w p S) :
    Calls Try.prog 14 #[p, .int .i64 (k : Int)] w fun e w' => ∃ er : Int, e = .returned (.tuple #[.string (str (blk S k)), .int .i64 er]) ∧ w' = w := by
  rcases h with ⟨rfl, rfl⟩ | ⟨b, g, B, rfl, hf, hl, h1, h2⟩
  · exact (block_none k w).mono fun e w' ⟨he, hw⟩ => ⟨1, by rw [he]; simp [blk], hw⟩
  · by_cases hk : k < B
    · exact (block_in k hf hl h2 hk).mono fun e w' ⟨he, hw⟩ => ⟨0, he, hw⟩
    · refine (block_out k hf hl h1 (by omega)).mono fun e w' ⟨he, hw⟩ => ⟨2, ?_, hw⟩
      rw [he, blk, List.drop_eq_nil_of_le (by omega)]; simp
theorem fv_le {w : World} {p : Value} {S : List UInt8} (h : FV w p S) : S.length / 8 ≤ 64 := by
  rcases h with ⟨rfl, rfl⟩ | ⟨b, g, B, rfl, hf, hl, h1, h2⟩
  · simp
  · omega
theorem blk_out {w : World} {p : Value} {S : List UInt8} (h : FV w p S) (k : Nat) (hk : S.length / 8 ≤ k) : blk S k = [] := by
  rcases h with ⟨rfl, rfl⟩ | ⟨b, g, B, rfl, hf, hl, h1, h2⟩
  · simp [blk]
  · rw [blk, List.drop_eq_nil_of_le (by omega)]; simp

theorem row_one (w : World) (f n : Int) : Row (w.alloc (.cells #[.int .i64 f, .int .i64 n] 41)) (.slice (some ⟨w.heap.size, 0, none⟩) 1 1) [(f, n)] := by
  have h := heap_alloc_new w (.cells #[.int .i64 f, .int .i64 n] 41)
  refine .inr ⟨w.heap.size, 0, 1, rfl, by simp, fun i p hp => ?_⟩
  cases i with
  | zero => simp at hp; subst hp; exact ⟨by unfold World.cell?; rw [h]; rfl, by unfold World.cell?; rw [h]; rfl⟩
  | succ i => simp at hp
theorem In_one (k : Nat) (hk : k < 64) (j : Int) : In [((k : Int), 1)] j ↔ j = k := by
  simp only [in_cons, in_nil, or_false, hasW, Wh]
  omega

theorem unlike_step {S T : List UInt8} {cur : List Sp} {k : Nat} (hk : k < 64) (hc : Canon cur) (hi : ∀ j : Int, In cur j ↔ 0 ≤ j ∧ j < k ∧ blk S j.toNat ≠ blk T j.toNat) (h : blk S k ≠ blk T k) :
    Canon (putR cur [((k : Int), 1)]) ∧ ∀ j : Int, In (putR cur [((k : Int), 1)]) j ↔ 0 ≤ j ∧ j < ((k + 1 : Nat) : Int) ∧ blk S j.toNat ≠ blk T j.toNat := by
  obtain ⟨h1, h2⟩ := put_spec [((k : Int), 1)] cur hc
  refine ⟨h1, fun j => ?_⟩
  rw [h2, hi, In_one k hk]
  constructor
  · rintro (⟨a, b, c⟩ | rfl)
    · exact ⟨a, by omega, c⟩
    · exact ⟨by omega, by omega, by simpa using h⟩
  · rintro ⟨a, b, c⟩
    by_cases e : j = k
    · exact .inr e
    · exact .inl ⟨a, by omega, c⟩
theorem unlike_skip {S T : List UInt8} {cur : List Sp} {k : Nat} (hi : ∀ j : Int, In cur j ↔ 0 ≤ j ∧ j < k ∧ blk S j.toNat ≠ blk T j.toNat) (h : blk S k = blk T k) :
    ∀ j : Int, In cur j ↔ 0 ≤ j ∧ j < ((k + 1 : Nat) : Int) ∧ blk S j.toNat ≠ blk T j.toNat := fun j => by
  rw [hi]
  constructor
  · rintro ⟨a, b, c⟩; exact ⟨a, by omega, c⟩
  · rintro ⟨a, b, c⟩
    refine ⟨a, ?_, c⟩
    by_cases e : j = k
    · subst e; exact absurd h (by simpa using c)
    · omega
set_option maxRecDepth 100000 in
theorem unlike_m2 {w : World} {p q : Value} {S T : List UInt8} (m1 m2 : Nat) (hm : m1 < m2) (l1 : m1 ≤ 64) (l2 : m2 ≤ 64) (hp' : Hid (FV w p S)) (hq' : Hid (FV w q T))
    (o1 : Hid (∀ k, m1 ≤ k → blk S k = [])) (o2 : Hid (∀ k, m2 ≤ k → blk T k = []))
    (hb1 : Hid (∀ {z : World}, FV z p S → Calls Try.prog 20 #[p] z fun e w' => e = .returned (.int .i64 (m1 : Int)) ∧ w' = z))
    (hb2 : Hid (∀ {z : World}, FV z q T → Calls Try.prog 20 #[q] z fun e w' => e = .returned (.int .i64 (m2 : Int)) ∧ w' = z)) :
    Calls Try.prog 11 #[p, q] w fun e w' => ∃ v ps, e = .returned v ∧ Canon ps ∧ (∀ j : Int, In ps j ↔ 0 ≤ j ∧ j < 64 ∧ blk S j.toNat ≠ blk T j.toNat) ∧ (∃ base, w.heap.size ≤ base ∧ w'.ownsRow base 41 2 v ps.length (spansV ps)) ∧ Below w.heap.size w w' := by
  go_enter Try.func11, Try.ntmps11
  go_wp2_with fail
  refine (of_any (l := []) (.inl ⟨⟨_, _, rfl⟩, rfl⟩) (fun _ h => by simp at h) (by simp)).mono ?_; rintro e w1 ⟨rfl, hR, hb⟩
  have hR' := Hid.intro hR
  have hb' := Hid.intro hb
  have hp1 := Hid.intro (hp'.out.below hb)
  have hq1 := Hid.intro (hq'.out.below hb)
  have hRl := Nat.le_refl w.heap.size
  clear hR hb
  generalize hWR : w.heap.size = R at hR'
  have hWR' := Hid.intro hWR
  clear hWR hRl
  go_wp2_with fail
  refine (hb1.out hp1.out).mono ?_; rintro e w2 ⟨rfl, rfl⟩
  go_wp2_with fail
  refine (hb2.out hq1.out).mono ?_; rintro e w3 ⟨rfl, rfl⟩
  go_wp2_with fail
  go_loopw [17] (fun iv wr => ∃ (k : Nat) (cur : List Sp), k ≤ m2 ∧ iv = .int .i64 k ∧ RObj wr R cur ∧ Canon cur ∧ (∀ j : Int, In cur j ↔ 0 ≤ j ∧ j < k ∧ blk S j.toNat ≠ blk T j.toNat) ∧ FV wr p S ∧ FV wr q T ∧ Below w.heap.size w wr) (fun iv _ => m2 - (intOf iv).toNat)
  case atStart => exact ⟨0, [], Nat.zero_le _, rfl, hR'.out, trivial, fun j => ⟨fun h => absurd h (in_nil j), fun h => by have := h.1; have := h.2.1; omega⟩, hp1.out, hq1.out, hb'.out⟩
  case round =>
    obtain ⟨k, cur, hk, rfl, hRw, hcc, hin, hpw, hqw, hBw⟩ := hrel
    have k0 : (0 : Int) ≤ (k : Int) := Int.natCast_nonneg _
    have hRw' := Hid.intro hRw
    have hcc' := Hid.intro hcc
    have hin' := Hid.intro hin
    have hpw' := Hid.intro hpw
    have hqw' := Hid.intro hqw
    have hBw' := Hid.intro hBw
    clear hRw hcc hin hpw hqw hBw hR' hb' hp1 hq1
    by_cases hl : k < m2
    · have i1 : (k : Int) < (m2 : Int) := by omega
      go_wp2_with fail
      refine (fv_block k hpw'.out).mono ?_; rintro e w4 ⟨er, rfl, rfl⟩
      go_wp2_with fail
      refine (fv_block k hqw'.out).mono ?_; rintro e w5 ⟨er2, rfl, rfl⟩
      by_cases hbk : blk S k = blk T k
      · have hbk' := Hid.intro hbk
        rw [hbk]
        go_wp2
        go_roundw
        case rel => exact ⟨k + 1, cur, by omega, by go_num, hRw'.out, hcc'.out, unlike_skip hin'.out hbk'.out, hpw'.out, hqw'.out, hBw'.out⟩
        case measure => simp [intOf]; omega
      · have hne : (blk S k == blk T k) = false := by simpa using hbk
        have hbk' := Hid.intro hbk
        clear hbk
        go_wp2_with fail
        have hRl := hRw'.out.lt
        refine (put_any (l := [((k : Int), 1)]) (hRw'.out.below ((Below.refl _ _).alloc (Nat.le_refl _) _)) hcc'.out (row_one _ (k : Int) 1) (fun x hx => by simp at hx; subst hx; simp only; omega) (by simp)).mono ?_
        rintro e w6 ⟨rfl, hR6, hB6⟩
        have hA : Below w5.heap.size w5 (w5.alloc (.cells #[.int .i64 (k : Int), .int .i64 1] 41)) := (Below.refl _ _).alloc (Nat.le_refl _) _
        have hRa := hRw'.out.below hA
        have hst := unlike_step (by omega) hcc'.out hin'.out hbk'.out
        have h6 : Below w.heap.size w w6 := (hBw'.out.trans (hA.mono hBw'.out.size)).trans (hB6.low (by have := hWR'.out; omega) (Nat.le_trans hBw'.out.size hA.size))
        have hp6 := Hid.intro ((hpw'.out.below hA).but hRa hB6)
        have hq6 := Hid.intro ((hqw'.out.below hA).but hRa hB6)
        clear hA hRa
        have hst' := Hid.intro hst
        have hR6' := Hid.intro hR6
        have h6' := Hid.intro h6
        clear hst hR6 hB6 h6
        go_wp2
        go_roundw
        case rel => exact ⟨k + 1, _, by omega, by go_num, hR6'.out, hst'.out.1, hst'.out.2, hp6.out, hq6.out, h6'.out⟩
        case measure => simp [intOf]; omega
    · have hkm : k = m2 := by omega
      subst hkm
      have hfin : Hid (∀ j : Int, In cur j ↔ 0 ≤ j ∧ j < 64 ∧ blk S j.toNat ≠ blk T j.toNat) := Hid.intro (fun j => by
        rw [hin'.out]
        constructor
        · rintro ⟨a, b, c⟩; exact ⟨a, by omega, c⟩
        · rintro ⟨a, b, c⟩
          refine ⟨a, ?_, c⟩
          by_cases e : j.toNat < k
          · omega
          · exact absurd ((o1.out j.toNat (by omega)).trans (o2.out j.toNat (by omega)).symm) c)
      go_wp2_with fail
      refine (all_any hRw'.out (Nat.le_trans (canon_64 hcc'.out) (by decide))).mono ?_; rintro e w4 ⟨v, rfl, hown, hb4⟩
      go_wp2
      go_ret
      exact ⟨_, cur, rfl, hcc'.out, hfin.out, ⟨_, hBw'.out.size, hown⟩, hBw'.out.trans (hb4.mono hBw'.out.size)⟩
set_option maxRecDepth 100000 in
theorem unlike_m1 {w : World} {p q : Value} {S T : List UInt8} (m1 m2 : Nat) (hm : m2 ≤ m1) (l1 : m1 ≤ 64) (_ : m2 ≤ 64) (hp' : Hid (FV w p S)) (hq' : Hid (FV w q T))
    (o1 : Hid (∀ k, m1 ≤ k → blk S k = [])) (o2 : Hid (∀ k, m2 ≤ k → blk T k = []))
    (hb1 : Hid (∀ {z : World}, FV z p S → Calls Try.prog 20 #[p] z fun e w' => e = .returned (.int .i64 (m1 : Int)) ∧ w' = z))
    (hb2 : Hid (∀ {z : World}, FV z q T → Calls Try.prog 20 #[q] z fun e w' => e = .returned (.int .i64 (m2 : Int)) ∧ w' = z)) :
    Calls Try.prog 11 #[p, q] w fun e w' => ∃ v ps, e = .returned v ∧ Canon ps ∧ (∀ j : Int, In ps j ↔ 0 ≤ j ∧ j < 64 ∧ blk S j.toNat ≠ blk T j.toNat) ∧ (∃ base, w.heap.size ≤ base ∧ w'.ownsRow base 41 2 v ps.length (spansV ps)) ∧ Below w.heap.size w w' := by
  go_enter Try.func11, Try.ntmps11
  go_wp2_with fail
  refine (of_any (l := []) (.inl ⟨⟨_, _, rfl⟩, rfl⟩) (fun _ h => by simp at h) (by simp)).mono ?_; rintro e w1 ⟨rfl, hR, hb⟩
  have hR' := Hid.intro hR
  have hb' := Hid.intro hb
  have hp1 := Hid.intro (hp'.out.below hb)
  have hq1 := Hid.intro (hq'.out.below hb)
  have hRl := Nat.le_refl w.heap.size
  clear hR hb
  generalize hWR : w.heap.size = R at hR'
  have hWR' := Hid.intro hWR
  clear hWR hRl
  go_wp2_with fail
  refine (hb1.out hp1.out).mono ?_; rintro e w2 ⟨rfl, rfl⟩
  go_wp2_with fail
  refine (hb2.out hq1.out).mono ?_; rintro e w3 ⟨rfl, rfl⟩
  go_wp2_with fail
  go_loopw [17] (fun iv wr => ∃ (k : Nat) (cur : List Sp), k ≤ m1 ∧ iv = .int .i64 k ∧ RObj wr R cur ∧ Canon cur ∧ (∀ j : Int, In cur j ↔ 0 ≤ j ∧ j < k ∧ blk S j.toNat ≠ blk T j.toNat) ∧ FV wr p S ∧ FV wr q T ∧ Below w.heap.size w wr) (fun iv _ => m1 - (intOf iv).toNat)
  case atStart => exact ⟨0, [], Nat.zero_le _, rfl, hR'.out, trivial, fun j => ⟨fun h => absurd h (in_nil j), fun h => by have := h.1; have := h.2.1; omega⟩, hp1.out, hq1.out, hb'.out⟩
  case round =>
    obtain ⟨k, cur, hk, rfl, hRw, hcc, hin, hpw, hqw, hBw⟩ := hrel
    have k0 : (0 : Int) ≤ (k : Int) := Int.natCast_nonneg _
    have hRw' := Hid.intro hRw
    have hcc' := Hid.intro hcc
    have hin' := Hid.intro hin
    have hpw' := Hid.intro hpw
    have hqw' := Hid.intro hqw
    have hBw' := Hid.intro hBw
    clear hRw hcc hin hpw hqw hBw hR' hb' hp1 hq1
    by_cases hl : k < m1
    · have i1 : (k : Int) < (m1 : Int) := by omega
      go_wp2_with fail
      refine (fv_block k hpw'.out).mono ?_; rintro e w4 ⟨er, rfl, rfl⟩
      go_wp2_with fail
      refine (fv_block k hqw'.out).mono ?_; rintro e w5 ⟨er2, rfl, rfl⟩
      by_cases hbk : blk S k = blk T k
      · have hbk' := Hid.intro hbk
        rw [hbk]
        go_wp2
        go_roundw
        case rel => exact ⟨k + 1, cur, by omega, by go_num, hRw'.out, hcc'.out, unlike_skip hin'.out hbk'.out, hpw'.out, hqw'.out, hBw'.out⟩
        case measure => simp [intOf]; omega
      · have hne : (blk S k == blk T k) = false := by simpa using hbk
        have hbk' := Hid.intro hbk
        clear hbk
        go_wp2_with fail
        have hRl := hRw'.out.lt
        refine (put_any (l := [((k : Int), 1)]) (hRw'.out.below ((Below.refl _ _).alloc (Nat.le_refl _) _)) hcc'.out (row_one _ (k : Int) 1) (fun x hx => by simp at hx; subst hx; simp only; omega) (by simp)).mono ?_
        rintro e w6 ⟨rfl, hR6, hB6⟩
        have hA : Below w5.heap.size w5 (w5.alloc (.cells #[.int .i64 (k : Int), .int .i64 1] 41)) := (Below.refl _ _).alloc (Nat.le_refl _) _
        have hRa := hRw'.out.below hA
        have hst := unlike_step (by omega) hcc'.out hin'.out hbk'.out
        have h6 : Below w.heap.size w w6 := (hBw'.out.trans (hA.mono hBw'.out.size)).trans (hB6.low (by have := hWR'.out; omega) (Nat.le_trans hBw'.out.size hA.size))
        have hp6 := Hid.intro ((hpw'.out.below hA).but hRa hB6)
        have hq6 := Hid.intro ((hqw'.out.below hA).but hRa hB6)
        clear hA hRa
        have hst' := Hid.intro hst
        have hR6' := Hid.intro hR6
        have h6' := Hid.intro h6
        clear hst hR6 hB6 h6
        go_wp2
        go_roundw
        case rel => exact ⟨k + 1, _, by omega, by go_num, hR6'.out, hst'.out.1, hst'.out.2, hp6.out, hq6.out, h6'.out⟩
        case measure => simp [intOf]; omega
    · have hkm : k = m1 := by omega
      subst hkm
      have hfin : Hid (∀ j : Int, In cur j ↔ 0 ≤ j ∧ j < 64 ∧ blk S j.toNat ≠ blk T j.toNat) := Hid.intro (fun j => by
        rw [hin'.out]
        constructor
        · rintro ⟨a, b, c⟩; exact ⟨a, by omega, c⟩
        · rintro ⟨a, b, c⟩
          refine ⟨a, ?_, c⟩
          by_cases e : j.toNat < k
          · omega
          · exact absurd ((o1.out j.toNat (by omega)).trans (o2.out j.toNat (by omega)).symm) c)
      go_wp2_with fail
      refine (all_any hRw'.out (Nat.le_trans (canon_64 hcc'.out) (by decide))).mono ?_; rintro e w4 ⟨v, rfl, hown, hb4⟩
      go_wp2
      go_ret
      exact ⟨_, cur, rfl, hcc'.out, hfin.out, ⟨_, hBw'.out.size, hown⟩, hBw'.out.trans (hb4.mono hBw'.out.size)⟩
theorem unlike_any {w : World} {p q : Value} {S T : List UInt8} (hp : FV w p S) (hq : FV w q T) :
    Calls Try.prog 11 #[p, q] w fun e w' => ∃ v ps, e = .returned v ∧ Canon ps ∧ (∀ j : Int, In ps j ↔ 0 ≤ j ∧ j < 64 ∧ blk S j.toNat ≠ blk T j.toNat) ∧ (∃ base, w.heap.size ≤ base ∧ w'.ownsRow base 41 2 v ps.length (spansV ps)) ∧ Below w.heap.size w w' := by
  by_cases h : S.length / 8 < T.length / 8
  · exact unlike_m2 _ _ h (fv_le hp) (fv_le hq) hp hq (fun k => blk_out hp k) (fun k => blk_out hq k) (fun h => fv_blocks h) (fun h => fv_blocks h)
  · exact unlike_m1 _ _ (by omega) (fv_le hp) (fv_le hq) hp hq (fun k => blk_out hp k) (fun k => blk_out hq k) (fun h => fv_blocks h) (fun h => fv_blocks h)
end Go.Proofs.Ytnkfgefbiacagaa
