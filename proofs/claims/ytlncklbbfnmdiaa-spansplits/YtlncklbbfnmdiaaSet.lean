/-
  The contract of emulsionlaw1.set: the set of a span's blocks, if it is whole; nothing that was there is written.
-/
import Derived.Test.YtlncklbbfnmdiaaPut
namespace Go.Proofs.Ytlncklbbfnmdiaa
open Go.ChangeShapes Go.WideShapes Go.ChangeAt Go.RowKit

def zeros : List Bool := List.replicate 64 false

theorem below_alc {w : World} {o : Obj} : Below w.heap.size w (w.alloc o) := (Below.refl _ _).alloc (Nat.le_refl _) _

theorem set_any (f n : Int) (w : World) :
    Calls Try.prog 9 #[.agg #[.int .i64 f, .int .i64 n]] w fun e w' => e = .returned (.agg (bv (putSpan true zeros (f, n))).toArray) ∧ Below w.heap.size w w' := by
  have hlen : (bv (putSpan true zeros (f, n))).length = 64 := by rw [bv_length, putSpan_length]; rfl
  have hinf : (Try.prog.info? 26).map (·.size) = some (bv (putSpan true zeros (f, n))).length := by rw [hlen]; exact info26
  have hone : (bv (putSpan true zeros (f, n))).toArray.all (·.oneCell') = true := all_oneCell_toArray (by intro v hv; simp only [bv, List.mem_map] at hv; obtain ⟨b, _, rfl⟩ := hv; rfl)
  have hinf2 : (Try.prog.info? 26).map (·.size) = some (bv (putSpan true zeros (f, n))).toArray.size := by simpa using hinf
  have HH : Hid ((bv (putSpan true zeros (f, n))).length = 64 ∧ (Try.prog.info? 26).map (·.size) = some (bv (putSpan true zeros (f, n))).length ∧ (bv (putSpan true zeros (f, n))).toArray.all (·.oneCell') = true ∧ (Try.prog.info? 26).map (·.size) = some (bv (putSpan true zeros (f, n))).toArray.size) := ⟨hlen, hinf, hone, hinf2⟩
  clear hlen hinf hone hinf2
  go_enter Try.func9, Try.ntmps9
  go_wp2_with fail
  refine (put_any zeros rfl (w.heap.size + 1 + 1) 0 1 1 [(f, n)] rfl (by decide) true _ (by simp) ?_).mono ?_
  · intro i p hp
    match i, hp with
    | 0, hp => simp at hp; subst hp; simp [go_sem]
  rintro e w1 ⟨rfl, hb⟩
  have hth : w1.there (w.heap.size + 1) 0 (bv (putSpan true zeros (f, n))).toArray.size := by
    rw [show (bv (putSpan true zeros (f, n))).toArray.size = 64 from by simpa using HH.out.1]
    refine there_below hb (by simp) (World.there_alloc ?_ _)
    have := there_new (w := w.alloc (.cells #[.int .i64 f, .int .i64 n] 23)) (C := (List.replicate 64 (Value.bool false)).toArray) (t := 26) (n := 64) (by simp)
    simpa using this
  have hB : Below w.heap.size w w1 := below_step (below_step (below_step below_alc below_alc) below_alc) hb
  clear hb
  go_wp2_with (refine wpList_store_mid rfl 26 _ _ rfl (w.heap.size + 1) 0 (bv (putSpan true zeros (f, n))).toArray rfl rfl hth HH.out.2.2.2 HH.out.2.2.1 ?_)
  refine bodyPost_ret (v := .agg (bv (putSpan true zeros (f, n))).toArray) (results_mid Try.results9 _ _ (w.heap.size + 1) (bv (putSpan true zeros (f, n))) _ rfl ?_ Try.underlying26 rfl HH.out.2.1) rfl ⟨rfl, ?_⟩
  · exact World.rangeAt_setCells_same _ _ _ _ (by simpa using hth)
  · exact below_setCells _ _ _ _ hB (by omega)
end Go.Proofs.Ytlncklbbfnmdiaa
