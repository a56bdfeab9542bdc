/-
  The contract of the shelf's Put where the number is not there: it is put in.
-/
import Derived.Test.YtdmamanlclajjaaGreatPut
namespace Go.Proofs.YtdmamanlclajjaaGreat
open Go.ChangeShapes Go.WideShapes Go.ChangeAt Go.RowKit

theorem fits_ins {l : List It} {p : It} (h : ∀ q ∈ l, Fits q) (hp : Fits p) : ∀ q ∈ ins l p, Fits q := fun q hq => by
  rcases (mem_ins l p q).1 hq with rfl | hq
  · exact hp
  · exact h q hq

set_option maxHeartbeats 1000000 in
set_option maxRecDepth 100000 in
theorem put_new {w : World} {F : Nat → Prop} {s : Nat} {bs : List (List It)} {l : List It} (h : Sh w F s bs) (x id : Int) (hf : Fits (x, id)) (hl : bs[bk bs x]? = some l) (h3 : l.length ≤ 1000) (hin : (x, id) ∉ l) :
    Calls Tryz.prog 67 #[.pointer (some ⟨s, 0, none⟩), .int .u32 x, .int .i64 id] w fun e w' => e = .returned (.bool true) ∧ Sh w' (Fr F w) s (bs.set (bk bs x) (ins l (x, id))) ∧ Keep F w w' := by
  obtain ⟨hFs, B, vs, h, hF⟩ := h
  have hlen := h.len
  have hf' := Hid.intro hf
  obtain ⟨f0, f1, _, _⟩ := hf
  have hk : bk bs x < vs.length := by have := (List.getElem?_eq_some_iff.1 hl).1; omega
  have hbk := bucket_any h x f0 f1
  rw [← hlen] at hbk
  change Calls _ _ _ _ fun e w' => e = .returned (.pointer (some ⟨B, bk bs x, none⟩)) ∧ _ at hbk
  generalize bk bs x = k at *
  have h' := Hid.intro h
  have hbk' := Hid.intro hbk
  have hl' := Hid.intro hl
  clear h hbk hl
  go_enter Tryz.func67, Tryz.ntmps67
  go_wp2_with fail
  refine (none_no h'.out).mono ?_; rintro e w0 ⟨rfl, rfl⟩
  go_wp2_with fail
  refine hbk'.out.mono ?_; rintro e w1 ⟨rfl, hb1⟩
  have h1 := Hid.intro (h'.out.below hb1)
  obtain ⟨v, l', hv, hl2, hbu, hor, hfi, c0, z0⟩ := h1.out.bucket hk
  rw [hl'.out] at hl2; cases hl2
  have hp := place_any (x, id) hbu hor h3
  rw [found_no hin] at hp
  have hp' := Hid.intro hp
  have hv' := Hid.intro hv
  have hor' := Hid.intro (And.intro hor hfi)
  clear hp hbu hor hfi hv
  go_wp2_with fail
  refine hp'.out.mono ?_; rintro e w2 ⟨rfl, hb2⟩
  have h2 := Hid.intro (h1.out.below hb2)
  have hB2 := Hid.intro (below_stp hb1 hb2)
  clear c0 z0
  obtain ⟨v2, l2, hv2, _, _, _, _, c0, z0⟩ := h2.out.bucket hk
  rw [hv'.out] at hv2; cases hv2
  have hB3 : Below w2.heap.size w2 (w2.alloc (.cells #[.int .u32 x, .int .i64 id] 104)) := (Below.refl _ _).alloc (Nat.le_refl _) _
  have h4 := Hid.intro (h2.out.below hB3)
  have hbu4 := h4.out.buk k v l hv'.out hl'.out
  have hins := insert_any (x, id) (pos l (x, id)) w2.heap.size hbu4 h4.out.hb h3 (pos_le _ _) (heap_alloc_new w2 _) (fun e => by
    obtain ⟨_, cur, hc⟩ := (h2.out.buk k v l hv'.out hl'.out).at e
    have := lt_of_block hc
    omega)
  rw [← ins_eq] at hins
  have hins' := Hid.intro hins
  have hB3' := Hid.intro hB3
  clear hins hbu4 hB3
  generalize pos l (x, id) = i at *
  go_wp2_with fail
  refine hins'.out.mono ?_; rintro e w5 ⟨v5, rfl, hp5⟩
  obtain ⟨c5, z5⟩ := h4.out.after hv'.out hl'.out hp5
  obtain ⟨a5, n5, q5, rfl⟩ := buk_slice hp5.1
  have hp5' := Hid.intro hp5
  clear hp5 c0 z0
  go_wp2
  go_ret
  obtain ⟨a1, a2, a3⟩ := h4.out.put hv'.out hl'.out hp5'.out ⟨ins_ord l _ hor'.out.1 hin, fits_ins hor'.out.2 hf'.out⟩
  have hBB := below_stp hB2.out hB3'.out
  exact ⟨rfl, ⟨.inl hFs, B, _, a1, fun j hj => (a3 j hj).imp (hF j) (Nat.le_trans hBB.size)⟩, (Keep.of hBB).trans (a2.mono fun j _ hj => .inl (hF j hj))⟩
end Go.Proofs.YtdmamanlclajjaaGreat
