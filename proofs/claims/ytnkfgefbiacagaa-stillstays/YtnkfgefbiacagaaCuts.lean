/-
  The contracts of runs' Put and Of for whatever list, of without and of Cut.
-/
import Derived.Test.YtnkfgefbiacagaaPuts
namespace Go.Proofs.Ytnkfgefbiacagaa
open Go.ChangeShapes Go.WideShapes Go.ChangeAt Go.RowKit
attribute [local go_sem ↓] Go.wp_at_zero Go.wp_at_succ

theorem put_none (b : Nat) (ps : List Sp) (a : Option Addr) (c : Nat) (w : World) (hr : Hid (RObj w b ps)) (hp : Hid (Canon ps)) :
    Calls Try.prog 24 #[.pointer (some ⟨b, 0, none⟩), .slice a 0 c] w fun e w' => e = .returned (.int .i64 0) ∧ RObj w' b ps ∧ But b w w' := by
  obtain ⟨x1, x2⟩ := cnt_bound hp.out
  go_enter Try.func24, Try.ntmps24
  go_wp2_with fail
  refine (count_any hr.out hp.out).mono ?_; rintro e w1 ⟨rfl, hb1⟩
  go_wp2_with fail
  go_loopw [14] (fun iv wr => iv = .int .i64 0 ∧ Below w.heap.size w wr) (fun _ _ => 0)
  case atStart => exact ⟨rfl, hb1⟩
  case round =>
    obtain ⟨rfl, hB⟩ := hrel
    go_wp2_with fail
    refine (count_any (hr.out.below hB) hp.out).mono ?_; rintro e w2 ⟨rfl, hb2⟩
    go_wp2
    go_ret
    exact ⟨by simp, hr.out.below (below_step hB hb2), But.of (below_step hB hb2)⟩

theorem put_any {w : World} {b : Nat} {ps l : List Sp} {v : Value} (hr : RObj w b ps) (hp : Canon ps) (hl : Row w v l) (hf : Fits l) (hn : l.length ≤ 1000000) :
    Calls Try.prog 24 #[.pointer (some ⟨b, 0, none⟩), v] w fun e w' => e = .returned (.int .i64 (cnt (putR ps l) - cnt ps)) ∧ RObj w' b (putR ps l) ∧ But b w w' := by
  by_cases e : l = []
  · subst e
    obtain ⟨a, c, rfl⟩ := hl.nil
    have := put_none b ps a c w hr hp
    simpa [putR] using this
  · rcases hl with ⟨_, h0⟩ | ⟨g, o, cap, rfl, hg, hcs⟩
    · exact absurd h0 e
    exact put_some b ps l g o cap w hr hp hg hcs hf hn

theorem robj_new (w : World) : RObj (w.alloc (.cells #[.slice none 0 0] 70)) w.heap.size [] :=
  ⟨.slice none 0 0, by have := heap_alloc_new w (.cells #[.slice none 0 0] 70); simpa using this, .inl ⟨⟨_, _, rfl⟩, rfl⟩, T49.nil _ _ _⟩

theorem of_any {w : World} {l : List Sp} {v : Value} (hl : Row w v l) (hf : Fits l) (hn : l.length ≤ 1000000) :
    Calls Try.prog 23 #[v] w fun e w' => e = .returned (.pointer (some ⟨w.heap.size, 0, none⟩)) ∧ RObj w' w.heap.size (putR [] l) ∧ Below w.heap.size w w' := by
  have hl' : Hid (Row w v l) := hl
  have hf' : Hid (Fits l) := hf
  clear hl hf
  have hba : Below w.heap.size w (w.alloc (.cells #[.slice none 0 0] 70)) := (Below.refl _ _).alloc (Nat.le_refl _) _
  go_enter Try.func23, Try.ntmps23
  go_wp2_with fail
  refine (put_any (robj_new w) trivial (hl'.out.below hba) hf'.out hn).mono ?_; rintro e w1 ⟨rfl, hr, hb⟩
  go_wp2
  go_ret
  exact ⟨rfl, hr, ((But.of hba).trans hb).below (Nat.le_refl _)⟩

theorem own_slice {w : World} {base : Nat} {v : Value} {n : Nat} {xs : List Value} (h : w.ownsRow base 41 2 v n xs) : ∃ a c, v = .slice a n c := by
  rcases h.2 with ⟨rfl, rfl⟩ | ⟨g, cap, cur, hv, _⟩
  · exact ⟨_, _, rfl⟩
  · exact ⟨_, _, hv⟩

theorem own_room {w : World} {base : Nat} {v : Value} {n : Nat} {xs : List Value} (h : w.ownsRow base 41 2 v n xs) : (v = .slice none 0 0 ∧ n = 0) ∨ ∃ g c, v = .slice (some ⟨g, 0, none⟩) n c ∧ n ≤ c := by
  rcases h.2 with ⟨rfl, rfl⟩ | ⟨g, cap, cur, hv, _, _, hn, _⟩
  · exact .inl ⟨rfl, rfl⟩
  · exact .inr ⟨g, cap, hv, hn⟩
theorem Hid.intro {p : Prop} (h : p) : Hid p := h

theorem Row.sliced {w : World} {v : Value} {ps : List Sp} (h : Row w v ps) : ∃ a n c, v = .slice a n c := by
  obtain ⟨a, c, h⟩ := h.slice
  exact ⟨a, _, c, h⟩

theorem less_length (o s : Sp) : (lessS o s).length ≤ 2 := by
  unfold lessS; split <;> (try split) <;> (try split) <;> simp

end Go.Proofs.Ytnkfgefbiacagaa
