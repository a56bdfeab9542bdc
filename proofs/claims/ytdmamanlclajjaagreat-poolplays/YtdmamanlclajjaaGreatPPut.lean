/-
  The contracts of the pool's New and Put.
-/
import Derived.Test.YtdmamanlclajjaaGreatPFind
namespace Go.Proofs.YtdmamanlclajjaaGreat
open Go.ChangeShapes Go.WideShapes Go.ChangeAt Go.RowKit

def mb (k : Int) : Nat := (min (max k 0) 60).toNat
theorem mb_le (k : Int) : mb k ≤ 60 := by unfold mb; omega

set_option maxRecDepth 100000 in
theorem pnew_any (k : Int) (w : World) (hk1 : -9223372036854775808 ≤ k) (hk2 : k ≤ 9223372036854775807) :
    Calls Tryz.prog 5 #[.int .i64 k] w fun e w' => ∃ p, e = .returned (.pointer (some ⟨p, 0, none⟩)) ∧ Pl w' (fun j => w.heap.size ≤ j) p (mb k) [] ∧ Below w.heap.size w w' := by
  have e1 : min (max k 0) 60 = (mb k : Int) := by unfold mb; omega
  have hm := mb_le k
  have hn := fun w => new_any (mb k : Int) w (by omega) (by omega)
  rw [← e1] at hn
  have hn' := Hid.intro hn
  have e1' := Hid.intro e1
  clear hn e1
  go_enter Tryz.func5, Tryz.ntmps5
  go_wp2_with fail
  refine (hn'.out _).mono ?_; rintro e w1 ⟨s, rfl, hs, hb⟩
  go_wp2
  go_ret
  have hz : ∀ g, (Value.slice none 0 0).ownBlock ≠ some g := fun g e => by cases e
  refine ⟨_, rfl, ⟨fun j => w.heap.size ≤ j ∧ j < w1.heap.size, s, .slice none 0 0, _, ⟨?_, hb.size, World.ownsRow_nil _ _ _ _, fun g e => absurd e (hz g), hs.fit.below ((Below.refl _ _).alloc (Nat.le_refl _) _), fun j hj => hj.1, fun e => Nat.lt_irrefl _ e.2, fun g e => absurd e (hz g), prints_nil _, ?_⟩⟩, hb.alloc hb.size _⟩
  · rw [← e1'.out]; exact heap_alloc_new w1 _
  · exact ⟨hm, Nat.zero_le _, trivial, (fun q hq => by cases hq), (fun q hq => by cases hq)⟩

def putL (most : Nat) (L : List Bl) (b : List UInt8) : List Bl × Int × Int :=
  if b.length ≠ 8 then (L, 0, 1) else if b = zer then (L, 0, 0) else if find L b ≠ 0 then (bump L (find L b) 1, find L b, 0)
  else if most ≤ L.length then (L, 0, 5) else (insAt L (gap L) ((gap L : Int) + 1, 1, b), (gap L : Int) + 1, 0)

theorem zer_yes : ((str zer).toList == [0, 0, 0, 0, 0, 0, 0, 0]) = true := by rw [str_toList]; rfl
theorem zer_no {b : List UInt8} (h : ¬ b = zer) : ((str b).toList == [0, 0, 0, 0, 0, 0, 0, 0]) = false := by rw [str_toList]; simpa [zer] using h
attribute [local go_sem] str_size

theorem put_len {w : World} {F Fs : Nat → Prop} {p s most : Nat} {v : Value} {L : List Bl} {bs : List (List It)} (h : PObj w F Fs p s v most L bs) (b : List UInt8) (h8 : b.length ≠ 8) :
    Calls Tryz.prog 7 #[.pointer (some ⟨p, 0, none⟩), .string (str b)] w fun e w' => e = .returned (.tuple #[.int .i64 0, .int .i64 1]) ∧ Below w.heap.size w w' := by
  have hn := Hid.intro (pnone_any h)
  have hbe : ((b.length : Int) != 8) = true := by simp; omega
  clear h
  go_enter Tryz.func7, Tryz.ntmps7
  go_wp2_with fail
  refine hn.out.mono ?_; rintro e w0 ⟨rfl, rfl⟩
  go_wp2
  go_ret2
  exact ⟨rfl, Below.refl _ _⟩
theorem put_zer {w : World} {F Fs : Nat → Prop} {p s most : Nat} {v : Value} {L : List Bl} {bs : List (List It)} (h : PObj w F Fs p s v most L bs) :
    Calls Tryz.prog 7 #[.pointer (some ⟨p, 0, none⟩), .string (str zer)] w fun e w' => e = .returned (.tuple #[.int .i64 0, .int .i64 0]) ∧ Below w.heap.size w w' := by
  have hn := Hid.intro (pnone_any h)
  have hze := zer_yes
  have hbe : ((zer.length : Int) != 8) = false := by simp [zer]
  clear h
  go_enter Tryz.func7, Tryz.ntmps7
  go_wp2_with fail
  refine hn.out.mono ?_; rintro e w0 ⟨rfl, rfl⟩
  go_wp2
  go_ret2
  exact ⟨rfl, Below.refl _ _⟩

set_option maxHeartbeats 1000000 in
set_option maxRecDepth 100000 in
theorem put_found {w : World} {F Fs : Nat → Prop} {p s most : Nat} {v : Value} {L : List Bl} {bs : List (List It)} (h : PObj w F Fs p s v most L bs) (hR : Few 1000000 L) (b : List UInt8) (h8 : b.length = 8) (hz : ¬ b = zer) (hf : find L b ≠ 0) :
    Calls Tryz.prog 7 #[.pointer (some ⟨p, 0, none⟩), .string (str b)] w fun e w' => e = .returned (.tuple #[.int .i64 (find L b), .int .i64 0]) ∧ Pl w' F p most (bump L (find L b) 1) ∧ Keep F w w' := by
  have hn := Hid.intro (pnone_any h)
  have hbe : ((b.length : Int) != 8) = false := by simp; omega
  have hze := zer_no hz
  have hfa := Hid.intro (pfind_any ⟨Fs, s, v, bs, h⟩ b (by omega))
  obtain ⟨q, hq, hq1, hq2⟩ := find_some L b hf
  have hsel : sel L (find L b) = some q := by rw [← hq1]; exact sel_of h.inv.ord hq
  have hh : ∀ w1, Below w.heap.size w w1 → Calls Tryz.prog 9 #[.pointer (some ⟨p, 0, none⟩), .int .i64 (find L b)] w1 fun e w' => e = .returned (.int .i64 0) ∧ Pl w' F p most (bump L (find L b) 1) ∧ Keep F w1 w' := fun w1 hb => by
    have := hold_any ⟨Fs, s, v, bs, h.below hb⟩ hR (find L b)
    rw [show holdL L (find L b) 1 = (bump L (find L b) 1, 0) by unfold holdL; rw [if_neg hf, hsel]] at this
    exact this
  have hh' := Hid.intro hh
  clear h hq hq1 hq2 hsel hh hR
  generalize bump L (find L b) 1 = M at *
  generalize find L b = i at *
  have hie : (i == 0) = false := by simpa using hf
  clear hf
  go_enter Tryz.func7, Tryz.ntmps7
  go_wp2_with fail
  refine hn.out.mono ?_; rintro e w0 ⟨rfl, rfl⟩
  go_wp2_with fail
  refine hfa.out.mono ?_; rintro e w1 ⟨rfl, hb1⟩
  go_wp2_with fail
  refine (hh'.out w1 hb1).mono ?_; rintro e w2 ⟨rfl, h2, k2⟩
  go_wp2
  go_ret2
  exact ⟨rfl, h2, (Keep.of hb1).trans (k2.mono fun k _ hk => .inl hk)⟩

set_option maxHeartbeats 1000000 in
set_option maxRecDepth 100000 in
theorem put_full {w : World} {F Fs : Nat → Prop} {p s most : Nat} {v : Value} {L : List Bl} {bs : List (List It)} (h : PObj w F Fs p s v most L bs) (b : List UInt8) (h8 : b.length = 8) (hz : ¬ b = zer) (hf : find L b = 0) (hl : most ≤ L.length) :
    Calls Tryz.prog 7 #[.pointer (some ⟨p, 0, none⟩), .string (str b)] w fun e w' => e = .returned (.tuple #[.int .i64 0, .int .i64 5]) ∧ Below w.heap.size w w' := by
  have hn := Hid.intro (pnone_any h)
  have hbe : ((b.length : Int) != 8) = false := by simp; omega
  have hze := zer_no hz
  have hfa := pfind_any ⟨Fs, s, v, bs, h⟩ b (by omega)
  rw [hf] at hfa
  have hfa' := Hid.intro hfa
  have hro : ∀ w1, Below w.heap.size w w1 → Calls Tryz.prog 22 #[.pointer (some ⟨p, 0, none⟩)] w1 fun e w' => e = .returned (.int .i64 0) ∧ Below w1.heap.size w1 w' := fun w1 hb => by
    have := proom_any ⟨Fs, s, v, bs, h.below hb⟩
    rw [show most - L.length = 0 by omega] at this
    exact this
  have hro' := Hid.intro hro
  clear h hf hl hfa hro
  go_enter Tryz.func7, Tryz.ntmps7
  go_wp2_with fail
  refine hn.out.mono ?_; rintro e w0 ⟨rfl, rfl⟩
  go_wp2_with fail
  refine hfa'.out.mono ?_; rintro e w1 ⟨rfl, hb1⟩
  go_wp2_with fail
  refine (hro'.out w1 hb1).mono ?_; rintro e w2 ⟨rfl, hb2⟩
  go_wp2
  go_ret2
  exact ⟨rfl, below_stp hb1 hb2⟩

set_option maxHeartbeats 1000000 in
set_option maxRecDepth 100000 in
theorem put_new2 {w : World} {F Fs : Nat → Prop} {p s most : Nat} {v : Value} {L : List Bl} {bs : List (List It)} (h : PObj w F Fs p s v most L bs) (b : List UInt8) (h8 : b.length = 8) (hz : ¬ b = zer) (hf : find L b = 0) (hl : L.length < most) :
    Calls Tryz.prog 7 #[.pointer (some ⟨p, 0, none⟩), .string (str b)] w fun e w' => e = .returned (.tuple #[.int .i64 ((gap L : Int) + 1), .int .i64 0]) ∧ Pl w' (Fr F w) p most (insAt L (gap L) ((gap L : Int) + 1, 1, b)) ∧ Keep F w w' := by
  have hn := Hid.intro (pnone_any h)
  have hbe : ((b.length : Int) != 8) = false := by simp; omega
  have hze := zer_no hz
  have hL := h.inv.len
  have h60 := h.inv.m60
  have hfn : ∀ q ∈ L, q.2.2 ≠ b := find_none L b (fun q hq => by have := h.inv.ids q hq; omega) hf
  have hinv := Hid.intro (ins_inv h.inv hl h8 hz hfn)
  have hfa := pfind_any ⟨Fs, s, v, bs, h⟩ b (by omega)
  rw [hf] at hfa
  have hfa' := Hid.intro hfa
  have hro' : Hid (∀ w1, Below w.heap.size w w1 → Calls Tryz.prog 22 #[.pointer (some ⟨p, 0, none⟩)] w1 fun e w' => e = .returned (.int .i64 ((most - L.length : Nat) : Int)) ∧ Below w1.heap.size w1 w') := fun w1 hb =>
    proom_any ⟨Fs, s, v, bs, h.below hb⟩
  have hga : Hid (∀ w1, Below w.heap.size w w1 → Calls Tryz.prog 28 #[.pointer (some ⟨p, 0, none⟩)] w1 fun e w' => e = .returned (.int .i64 (gap L : Nat)) ∧ Below w1.heap.size w1 w') := fun w1 hb =>
    gap_any ⟨Fs, s, v, bs, h.below hb⟩
  have hgl := gap_le L
  have hin : Hid (∀ w1, Below w.heap.size w w1 → Calls Tryz.prog 29 #[.pointer (some ⟨p, 0, none⟩), .int .i64 (gap L : Nat), .agg #[.int .i64 ((gap L : Int) + 1), .int .i64 1, .string (str b)]] w1 fun e w' =>
      e = .returned (.tuple #[]) ∧ Pl w' (Fr F w1) p most (insAt L (gap L) ((gap L : Int) + 1, 1, b)) ∧ Keep F w1 w') := fun w1 hb => by
    refine (pinsert_any (h.below hb).mem h.prints (by omega) (gap L) hgl ((gap L : Int) + 1, 1, b) (by simp only; omega) h8 (gap_new h.inv)).mono ?_
    rintro e w' ⟨rfl, Fs', v', bs', h1, h2, h3⟩
    exact ⟨rfl, ⟨Fs', s, v', bs', h1.obj h2 hinv.out⟩, h3⟩
  have hre : (((most - L.length : Nat) : Int) == 0) = false := by simp; omega
  clear h hf hfa hfn hinv
  generalize insAt L (gap L) ((gap L : Int) + 1, 1, b) = M at *
  generalize gap L = i at *
  generalize most - L.length = r at *
  have hw1 : IntKind.i64.wrap ((i : Int) + 1) = (i : Int) + 1 := by rw [IntKind.wrap_i64]; omega
  go_enter Tryz.func7, Tryz.ntmps7
  go_wp2_with fail
  refine hn.out.mono ?_; rintro e w0 ⟨rfl, rfl⟩
  go_wp2_with fail
  refine hfa'.out.mono ?_; rintro e w1 ⟨rfl, hb1⟩
  go_wp2_with fail
  refine (hro'.out w1 hb1).mono ?_; rintro e w2 ⟨rfl, hb2⟩
  have hB2 := below_stp hb1 hb2
  go_wp2_with fail
  refine (hga.out w2 hB2).mono ?_; rintro e w3 ⟨rfl, hb3⟩
  have hB3 := below_stp hB2 hb3
  go_wp2_with fail
  refine (hin.out w3 hB3).mono ?_; rintro e w4 ⟨rfl, h4, k4⟩
  have hs3 := hB3.size
  go_wp2
  go_ret2
  refine ⟨rfl, h4.mono fun k hk => ?_, (Keep.of hB3).trans (k4.mono fun k _ hk => .inl hk)⟩
  rcases hk with hk | hk
  · exact .inl hk
  · exact .inr (by omega)

/-- Put, whatever it is. -/
theorem pput_any {w : World} {F : Nat → Prop} {p most : Nat} {L : List Bl} (h : Pl w F p most L) (hR : Few 1000000 L) (b : List UInt8) :
    Calls Tryz.prog 7 #[.pointer (some ⟨p, 0, none⟩), .string (str b)] w fun e w' => e = .returned (.tuple #[.int .i64 (putL most L b).2.1, .int .i64 (putL most L b).2.2]) ∧ Pl w' (Fr F w) p most (putL most L b).1 ∧ Keep F w w' := by
  obtain ⟨Fs, s, v, bs, h⟩ := h
  by_cases h8 : b.length = 8
  · by_cases hz : b = zer
    · rw [show putL most L b = (L, 0, 0) by unfold putL; rw [if_neg (by omega), if_pos hz]]
      subst hz
      refine (put_zer h).mono ?_
      rintro e w' ⟨rfl, hb⟩
      exact ⟨rfl, Pl.mono ⟨Fs, s, v, bs, h.below hb⟩ fun k hk => .inl hk, Keep.of hb⟩
    · by_cases hf : find L b = 0
      · by_cases hl : most ≤ L.length
        · rw [show putL most L b = (L, 0, 5) by unfold putL; rw [if_neg (by omega), if_neg hz, if_neg (by simp [hf]), if_pos hl]]
          refine (put_full h b h8 hz hf hl).mono ?_
          rintro e w' ⟨rfl, hb⟩
          exact ⟨rfl, Pl.mono ⟨Fs, s, v, bs, h.below hb⟩ fun k hk => .inl hk, Keep.of hb⟩
        · rw [show putL most L b = (insAt L (gap L) ((gap L : Int) + 1, 1, b), (gap L : Int) + 1, 0) by unfold putL; rw [if_neg (by omega), if_neg hz, if_neg (by simp [hf]), if_neg hl]]
          exact put_new2 h b h8 hz hf (by omega)
      · rw [show putL most L b = (bump L (find L b) 1, find L b, 0) by unfold putL; rw [if_neg (by omega), if_neg hz, if_pos hf]]
        refine (put_found h hR b h8 hz hf).mono ?_
        rintro e w' ⟨rfl, h1, k1⟩
        exact ⟨rfl, h1.mono fun k hk => .inl hk, k1⟩
  · rw [show putL most L b = (L, 0, 1) by unfold putL; rw [if_pos h8]]
    refine (put_len h b h8).mono ?_
    rintro e w' ⟨rfl, hb⟩
    exact ⟨rfl, Pl.mono ⟨Fs, s, v, bs, h.below hb⟩ fun k hk => .inl hk, Keep.of hb⟩
theorem putL_few {most : Nat} {L : List Bl} {R : Int} (h : Few R L) (hR : 0 ≤ R) (b : List UInt8) : Few (R + 1) (putL most L b).1 := by
  have h1 : Few (R + 1) L := fun q hq => by have := h q hq; omega
  unfold putL
  split
  · exact h1
  · split
    · exact h1
    · split
      · exact bump_few h _ _ (by omega)
      · split
        · exact h1
        · exact ins_few h hR
theorem holdL_few {L : List Bl} {R : Int} (h : Few R L) (i n : Int) (hn : n ≤ 1) : Few (R + 1) (holdL L i n).1 := by
  have h1 : Few (R + 1) L := fun q hq => by have := h q hq; omega
  unfold holdL
  split
  · exact h1
  · split
    · exact bump_few h _ _ hn
    · exact h1
end Go.Proofs.YtdmamanlclajjaaGreat
