/-
  The contract of the shelf's Cut: what is there is taken out; what is not there is not.
-/
import Derived.Test.YtdmamanlclajjaaGreatPutB
namespace Go.Proofs.YtdmamanlclajjaaGreat
open Go.ChangeShapes Go.WideShapes Go.ChangeAt Go.RowKit

set_option maxHeartbeats 1000000 in
set_option maxRecDepth 100000 in
theorem cut_no {w : World} {F : Nat → Prop} {s : Nat} {bs : List (List It)} {l : List It} (h : Sh w F s bs) (x id : Int) (hf : Fits (x, id)) (hl : bs[bk bs x]? = some l) (h3 : l.length ≤ 1000) (hin : (x, id) ∉ l) :
    Calls Tryz.prog 69 #[.pointer (some ⟨s, 0, none⟩), .int .u32 x, .int .i64 id] w fun e w' => e = .returned (.bool false) ∧ Sh w' F s bs ∧ Below w.heap.size w w' := by
  obtain ⟨hFs, B, vs, h, hF⟩ := h
  have hlen := h.len
  obtain ⟨f0, f1, _, _⟩ := hf
  have hk : bk bs x < vs.length := by have := (List.getElem?_eq_some_iff.1 hl).1; omega
  have hbk := bucket_any h x f0 f1
  rw [← hlen] at hbk
  change Calls _ _ _ _ fun e w' => e = .returned (.pointer (some ⟨B, bk bs x, none⟩)) ∧ _ at hbk
  generalize bk bs x = k at *
  have h' := Hid.intro h
  have hbk' := Hid.intro hbk
  have hl' := Hid.intro hl
  clear h hbk hl
  go_enter Tryz.func69, Tryz.ntmps69
  go_wp2_with fail
  refine (none_no h'.out).mono ?_; rintro e w0 ⟨rfl, rfl⟩
  go_wp2_with fail
  refine hbk'.out.mono ?_; rintro e w1 ⟨rfl, hb1⟩
  have h1 := Hid.intro (h'.out.below hb1)
  obtain ⟨v, l', hv, hl2, hbu, hor, hfi, c0, z0⟩ := h1.out.bucket hk
  rw [hl'.out] at hl2; cases hl2
  have hp := place_any (x, id) hbu hor h3
  rw [found_no hin] at hp
  have hp' := Hid.intro hp
  clear hp hbu hor hfi hv
  go_wp2_with fail
  refine hp'.out.mono ?_; rintro e w2 ⟨rfl, hb2⟩
  go_wp2
  go_ret
  exact ⟨rfl, ⟨hFs, B, vs, h1.out.below hb2, hF⟩, below_stp hb1 hb2⟩

set_option maxHeartbeats 1000000 in
set_option maxRecDepth 100000 in
theorem cut_yes {w : World} {F : Nat → Prop} {s : Nat} {bs : List (List It)} {l : List It} (h : Sh w F s bs) (x id : Int) (hf : Fits (x, id)) (hl : bs[bk bs x]? = some l) (h3 : l.length ≤ 1000) (hin : (x, id) ∈ l) :
    Calls Tryz.prog 69 #[.pointer (some ⟨s, 0, none⟩), .int .u32 x, .int .i64 id] w fun e w' => e = .returned (.bool true) ∧ Sh w' (Fr F w) s (bs.set (bk bs x) (del l (x, id))) ∧ Keep F w w' := by
  obtain ⟨hFs, B, vs, h, hF⟩ := h
  have hlen := h.len
  obtain ⟨f0, f1, _, _⟩ := hf
  have hk : bk bs x < vs.length := by have := (List.getElem?_eq_some_iff.1 hl).1; omega
  have hbk := bucket_any h x f0 f1
  rw [← hlen] at hbk
  change Calls _ _ _ _ fun e w' => e = .returned (.pointer (some ⟨B, bk bs x, none⟩)) ∧ _ at hbk
  generalize bk bs x = k at *
  have h' := Hid.intro h
  have hbk' := Hid.intro hbk
  have hl' := Hid.intro hl
  clear h hbk hl
  go_enter Tryz.func69, Tryz.ntmps69
  go_wp2_with fail
  refine (none_no h'.out).mono ?_; rintro e w0 ⟨rfl, rfl⟩
  go_wp2_with fail
  refine hbk'.out.mono ?_; rintro e w1 ⟨rfl, hb1⟩
  have h1 := Hid.intro (h'.out.below hb1)
  obtain ⟨v, l', hv, hl2, hbu, hor, hfi, c0, z0⟩ := h1.out.bucket hk
  rw [hl'.out] at hl2; cases hl2
  have hp := place_any (x, id) hbu hor h3
  rw [found_yes hor hin] at hp
  have hp' := Hid.intro hp
  have hv' := Hid.intro hv
  have hor' := Hid.intro (And.intro hor hfi)
  have hpl := pos_lt hor hin
  clear hp hbu hor hfi hv
  go_wp2_with fail
  refine hp'.out.mono ?_; rintro e w2 ⟨rfl, hb2⟩
  have h2 := Hid.intro (h1.out.below hb2)
  have hB2 := Hid.intro (below_stp hb1 hb2)
  clear c0 z0
  obtain ⟨v2, l2, hv2, _, hbu2, _, _, c0, z0⟩ := h2.out.bucket hk
  rw [hv'.out] at hv2; cases hv2
  have hdel := delete_any (pos l (x, id)) (h2.out.buk k v l hv'.out hl'.out) h3 hpl
  rw [← del_eq] at hdel
  have hdel' := Hid.intro hdel
  clear hdel hbu2
  generalize pos l (x, id) = i at *
  have hw1 : IntKind.i64.wrap ((i : Int) + 1) = (i : Int) + 1 := by rw [IntKind.wrap_i64]; omega
  go_wp2_with fail
  refine hdel'.out.mono ?_; rintro e w5 ⟨v5, rfl, hp5⟩
  obtain ⟨c5, z5⟩ := h2.out.after hv'.out hl'.out hp5
  obtain ⟨a5, n5, q5, rfl⟩ := buk_slice hp5.1
  have hp5' := Hid.intro hp5
  clear hp5 c0 z0
  go_wp2
  go_ret
  obtain ⟨a1, a2, a3⟩ := h2.out.put hv'.out hl'.out hp5'.out ⟨del_ord l _ hor'.out.1, fun q hq => hor'.out.2 q (del_sub l _ q hq)⟩
  have hBB := hB2.out
  exact ⟨rfl, ⟨.inl hFs, B, _, a1, fun j hj => (a3 j hj).imp (hF j) (Nat.le_trans hBB.size)⟩, (Keep.of hBB).trans (a2.mono fun j _ hj => .inl (hF j hj))⟩
end Go.Proofs.YtdmamanlclajjaaGreat
