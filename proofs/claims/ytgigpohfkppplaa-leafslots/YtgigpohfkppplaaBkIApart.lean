/-
  The contract of emulsionbook's Apart, of a Book that kept lists of one kind alone: true.
-/
import Derived.Test.YtgigpohfkppplaaBkIF
namespace Go.Proofs.Ytgigpohfkppplaa.BkI
open Go.ChangeShapes Go.WideShapes Go.ChangeAt Go.RowKit
attribute [local go_sem ↓] Go.wp_at_zero Go.wp_at_succ


set_option maxRecDepth 100000 in
set_option maxHeartbeats 1000000 in
theorem book_apart {w : World} {G : Nat → Prop} {K base : Nat} {es : List Ent} (hk : Kept w G K base es) (hn : es.length ≤ 250) (hl : Short es) (hbK : base ≤ K) :
    Calls Try.prog 25 #[.pointer (some ⟨K, 0, none⟩)] w fun e w' => e = .returned (.bool true) ∧ Below base w w' := by
  have hl1 : ∀ e ∈ es, e.2.length ≤ 1000000 := fun e he => by have := hl e he; omega
  obtain ⟨sv, wv, cs, hs, _⟩ := id hk
  have hp : Pad w K base es sv wv := ⟨hs.block, hs.sown, hs.lists⟩
  obtain ⟨cK, _⟩ := book_cell hs.block
  have hKl := lt_of_block hs.block
  have hk' := Hid.intro hk
  have hl1' := Hid.intro hl1
  have hl' := Hid.intro hl
  have hp' := Hid.intro hp
  have cK' := Hid.intro cK
  clear hk hl1 hl hs hp cK
  go_enter Try.func25, Try.ntmps25
  go_wp2_with fail
  refine (still_texts K w (by rw [cK'.out]; rfl)).mono ?_; rintro e x1 ⟨rfl, hx1⟩; obtain rfl : w = x1 := hx1.symm
  go_wp2_with fail
  refine (still_own hk'.out hn hl1'.out).mono ?_; rintro e w2 ⟨rfl, hb2⟩
  have hp2 := Hid.intro (hp'.out.below hb2)
  have hB2 : Below base w w2 := hb2.mono (by omega)
  have cK2 := Hid.intro (book_cell hp2.out.block).1
  clear hk' cK' hp' hb2
  go_wp2_with fail
  refine (still_spans K w2 (by rw [cK2.out]; rfl)).mono ?_; rintro e x2 ⟨rfl, hx2⟩; obtain rfl : w2 = x2 := hx2.symm
  go_wp2_with fail
  refine (still_extents K w2 (by rw [cK2.out]; rfl)).mono ?_; rintro e x3 ⟨rfl, hx3⟩; obtain rfl : w2 = x3 := hx3.symm
  go_wp2_with fail
  refine (still_shelves K w2 (by rw [cK2.out]; rfl)).mono ?_; rintro e x4 ⟨rfl, hx4⟩; obtain rfl : w2 = x4 := hx4.symm
  go_wp2_with fail
  refine (still_pairs K w2 (by rw [cK2.out]; rfl)).mono ?_; rintro e x5 ⟨rfl, hx5⟩; obtain rfl : w2 = x5 := hx5.symm
  go_wp2_with fail
  refine (still_points K w2 (by rw [cK2.out]; rfl)).mono ?_; rintro e x6 ⟨rfl, hx6⟩; obtain rfl : w2 = x6 := hx6.symm
  go_wp2_with fail
  refine (put_points K w2 (by rw [cK2.out]; rfl)).mono ?_; rintro e x7 ⟨rfl, hx7⟩; obtain rfl : w2 = x7 := hx7.symm
  go_wp2_with fail
  refine (put_texts K w2 (by rw [cK2.out]; rfl)).mono ?_; rintro e x8 ⟨rfl, hx8⟩; obtain rfl : w2 = x8 := hx8.symm
  go_wp2_with fail
  refine (put_own hp2.out hn hl'.out).mono ?_; rintro e w3 ⟨rfl, es', hp3, hlen3, hm3, hs3, hb3⟩
  have hp3' := Hid.intro hp3
  have hm3' : Hid (Marked es' es'.length) := Hid.intro (by rw [hlen3]; exact hm3)
  have hs3' := Hid.intro hs3
  have hn3 : es'.length ≤ 250 := by omega
  have hB3 := hB2.trans hb3
  have cK3 := Hid.intro (book_cell hp3.block).1
  clear hp3 hm3 hs3 hb3 hB2 cK2 hp2
  go_wp2_with fail
  refine (put_spans K w3 (by rw [cK3.out]; rfl)).mono ?_; rintro e x9 ⟨rfl, hx9⟩; obtain rfl : w3 = x9 := hx9.symm
  go_wp2_with fail
  refine (put_extents K w3 (by rw [cK3.out]; rfl)).mono ?_; rintro e x10 ⟨rfl, hx10⟩; obtain rfl : w3 = x10 := hx10.symm
  go_wp2_with fail
  refine (put_shelves K w3 (by rw [cK3.out]; rfl)).mono ?_; rintro e x11 ⟨rfl, hx11⟩; obtain rfl : w3 = x11 := hx11.symm
  go_wp2_with fail
  refine (put_pairs K w3 (by rw [cK3.out]; rfl)).mono ?_; rintro e x12 ⟨rfl, hx12⟩; obtain rfl : w3 = x12 := hx12.symm
  go_wp2_with fail
  refine (grow_texts K w3 (by rw [cK3.out]; rfl)).mono ?_; rintro e x13 ⟨rfl, hx13⟩; obtain rfl : w3 = x13 := hx13.symm
  go_wp2_with fail
  refine (grow_own hp3'.out hm3'.out hn3 hs3'.out hbK).mono ?_; rintro e w4 ⟨out, rfl, gvs, hG, hb4⟩
  have hG' := Hid.intro hG
  have hB4 := hB3.trans hb4
  have cK4 := Hid.intro (book_cell hG.block).1
  clear hp3' cK3 hb4 hB3 hG
  go_wp2_with fail
  refine (grow_spans K w4 (by rw [cK4.out]; rfl)).mono ?_; rintro e x14 ⟨rfl, hx14⟩; obtain rfl : w4 = x14 := hx14.symm
  go_wp2_with fail
  refine (grow_extents K w4 (by rw [cK4.out]; rfl)).mono ?_; rintro e x15 ⟨rfl, hx15⟩; obtain rfl : w4 = x15 := hx15.symm
  go_wp2_with fail
  refine (grow_shelves K w4 (by rw [cK4.out]; rfl)).mono ?_; rintro e x16 ⟨rfl, hx16⟩; obtain rfl : w4 = x16 := hx16.symm
  go_wp2_with fail
  refine (grow_pairs K w4 (by rw [cK4.out]; rfl)).mono ?_; rintro e x17 ⟨rfl, hx17⟩; obtain rfl : w4 = x17 := hx17.symm
  go_wp2_with fail
  refine (grow_points K w4 (by rw [cK4.out]; rfl)).mono ?_; rintro e x18 ⟨rfl, hx18⟩; obtain rfl : w4 = x18 := hx18.symm
  have k0 : w4.cell? ⟨K, 0, none⟩ = some (.slice none 0 0) := by rw [cK4.out]; rfl
  have k2 : w4.cell? ⟨K, 2, none⟩ = some sv := by rw [cK4.out]; rfl
  go_wp2_with fail
  refine (marked_texts w4).mono ?_; rintro e x19 ⟨rfl, hx19⟩; obtain rfl : w4 = x19 := hx19.symm
  go_wp2_with fail
  refine (marked_texts w4).mono ?_; rintro e x20 ⟨rfl, hx20⟩; obtain rfl : w4 = x20 := hx20.symm
  go_wp2_with fail
  refine (marked_any hG'.out.outown (fun j x hj => (hG'.out.grown j x hj).1) hn3).mono ?_; rintro e w5 ⟨rfl, hb5⟩
  have hz4 : K < w4.heap.size := lt_of_block hG'.out.block
  have k45 : w5.cell? ⟨K, 2, none⟩ = some sv := by rw [hb5.cell (p := ⟨K, 2, none⟩) hz4]; exact k2
  have hsv5 := own_stay (T := fun _ => True) hG'.out.sown (Stay.of hb5) trivial
  go_wp2_with fail
  refine (marked_any hsv5 (fun j x hj => ?_) hn3).mono ?_
  · rw [List.getElem?_map] at hj
    obtain ⟨e, he, rfl⟩ := Option.map_eq_some_iff.1 hj
    have hmk := hm3'.out j e he (List.getElem?_eq_some_iff.1 he).1
    refine ⟨e.2.length, by have := hs3'.out e (List.mem_of_getElem? he); omega, ?_⟩
    rw [← hmk]
    exact (hG'.out.rows j e he).below hb5
  rintro e w6 ⟨rfl, hb6⟩
  have hb46 := below_step hb5 hb6
  have hB6 : Below base w w6 := hB4.trans (hb46.mono (by omega))
  have cK6 : Hid (∀ o, w6.cell? ⟨K, o, none⟩ = (bookCells sv wv)[o]?) := Hid.intro (fun o => by rw [hb46.cell (p := ⟨K, o, none⟩) hz4]; exact cK4.out o)
  clear hb5 hb6 hb46 k45 hsv5 k0 k2 hB4 cK4
  have k4 : w6.cell? ⟨K, 4, none⟩ = some (.slice none 0 0) := by rw [cK6.out]; rfl
  have k6 : w6.cell? ⟨K, 6, none⟩ = some (.slice none 0 0) := by rw [cK6.out]; rfl
  have k8 : w6.cell? ⟨K, 8, none⟩ = some (.slice none 0 0) := by rw [cK6.out]; rfl
  have k10 : w6.cell? ⟨K, 10, none⟩ = some (.slice none 0 0) := by rw [cK6.out]; rfl
  have k12 : w6.cell? ⟨K, 12, none⟩ = some (.slice none 0 0) := by rw [cK6.out]; rfl
  go_wp2_with fail
  refine (marked_spans w6).mono ?_; rintro e x21 ⟨rfl, hx21⟩; obtain rfl : w6 = x21 := hx21.symm
  go_wp2_with fail
  refine (marked_spans w6).mono ?_; rintro e x22 ⟨rfl, hx22⟩; obtain rfl : w6 = x22 := hx22.symm
  go_wp2_with fail
  refine (marked_extents w6).mono ?_; rintro e x23 ⟨rfl, hx23⟩; obtain rfl : w6 = x23 := hx23.symm
  go_wp2_with fail
  refine (marked_extents w6).mono ?_; rintro e x24 ⟨rfl, hx24⟩; obtain rfl : w6 = x24 := hx24.symm
  go_wp2_with fail
  refine (marked_shelves w6).mono ?_; rintro e x25 ⟨rfl, hx25⟩; obtain rfl : w6 = x25 := hx25.symm
  go_wp2_with fail
  refine (marked_shelves w6).mono ?_; rintro e x26 ⟨rfl, hx26⟩; obtain rfl : w6 = x26 := hx26.symm
  go_wp2_with fail
  refine (marked_pairs w6).mono ?_; rintro e x27 ⟨rfl, hx27⟩; obtain rfl : w6 = x27 := hx27.symm
  go_wp2_with fail
  refine (marked_pairs w6).mono ?_; rintro e x28 ⟨rfl, hx28⟩; obtain rfl : w6 = x28 := hx28.symm
  go_wp2_with fail
  refine (marked_points w6).mono ?_; rintro e x29 ⟨rfl, hx29⟩; obtain rfl : w6 = x29 := hx29.symm
  go_wp2_with fail
  refine (marked_points w6).mono ?_; rintro e x30 ⟨rfl, hx30⟩; obtain rfl : w6 = x30 := hx30.symm
  go_wp2
  go_ret
  exact ⟨rfl, hB6⟩
end Go.Proofs.Ytgigpohfkppplaa.BkI
