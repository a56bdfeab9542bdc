/-
  Sets in memory: what is known of one that is laid anew.
-/
import Derived.Test.YtbebgogjpajghaaRefSet
namespace Go.Proofs.Ytbebgogjpajghaa
open Go.ChangeShapes Go.WideShapes Go.ChangeAt Go.RowKit

theorem bv_facts (ps : List Sp) : (bv (bitsOf ps)).length = 64 ∧ (Try.prog.info? 34).map (·.size) = some (bv (bitsOf ps)).length ∧ (bv (bitsOf ps)).toArray.all (·.oneCell') = true ∧ (Try.prog.info? 34).map (·.size) = some (bv (bitsOf ps)).toArray.size := by
  have hlen : (bv (bitsOf ps)).length = 64 := by rw [bv_length, bitsOf_length]
  have hinf : (Try.prog.info? 34).map (·.size) = some (bv (bitsOf ps)).length := by rw [hlen]; exact info30
  exact ⟨hlen, hinf, all_oneCell_toArray (by intro v hv; simp only [bv, List.mem_map] at hv; obtain ⟨b, _, rfl⟩ := hv; rfl), by simpa using hinf⟩

theorem gen_world {P : Program} {code : Code} {Q : Exit → Act → World → Prop} {a : Act} (W : World) (F : World → Prop) (h : F W) (k : ∀ w4, F w4 → Code.wp P code Q a w4) : Code.wp P code Q a W := k W h
theorem set_facts (w3 : World) (ps : List Sp) (C : Array Value) (hC : C.size = 64) :
    ((w3.alloc (.cells C 34)).setCells w3.heap.size 0 (bv (bitsOf ps))).rangeAt w3.heap.size 0 (bv (bitsOf ps)) ∧ ((w3.alloc (.cells C 34)).setCells w3.heap.size 0 (bv (bitsOf ps))).there w3.heap.size 0 64 ∧ w3.heap.size < ((w3.alloc (.cells C 34)).setCells w3.heap.size 0 (bv (bitsOf ps))).heap.size ∧ Below w3.heap.size w3 ((w3.alloc (.cells C 34)).setCells w3.heap.size 0 (bv (bitsOf ps))) := by
  have ht : (w3.alloc (.cells C 34)).there w3.heap.size 0 64 := there_new (by omega)
  have hb : Below w3.heap.size w3 (w3.alloc (.cells C 34)) := (Below.refl _ _).alloc (Nat.le_refl _) _
  have hr := World.rangeAt_setCells_same (w3.alloc (.cells C 34)) w3.heap.size 0 (bv (bitsOf ps)) (by rw [(bv_facts ps).1]; exact ht)
  refine ⟨hr, World.there_setCells ht _ _ _, ?_, below_setCells _ _ _ _ hb (Nat.le_refl _)⟩
  have := hr 0 (.bool (decide (In ps 0))) (by unfold bv; rw [List.getElem?_map, bitsOf_get _ 0 (by omega)]; rfl)
  exact World.block_lt_of_cell? _ _ this

end Go.Proofs.Ytbebgogjpajghaa
