/-
  The contract of the law's Do, whatever is done.
-/
import Derived.Test.YtjjfdkgnagfbcaaRK
namespace Go.Proofs.Ytjjfdkgnagfbcaa
open Go.ChangeShapes Go.WideShapes Go.ChangeAt Go.RowKit
attribute [local go_sem ↓] Go.wp_at_zero Go.wp_at_succ
attribute [local go_sem] str_size str_extract str_append str_toList

set_option maxHeartbeats 4000000 in
set_option maxRecDepth 100000 in
theorem do_none {G : Nat → Prop} {w : World} {p gl gf r : Nat} {M : MS} {kv : Value} {l : List Bool} {kd : Int} (h : Two G w p gl gf r M M) (b1 : (kd == 1) = false) (b2 : (kd == 2) = false) (b3 : (kd == 3) = false) (b4 : (kd == 4) = false) (b5 : (kd == 5) = false) (b6 : (kd == 6) = false) (b7 : (kd == 7) = false) (n : Int) (hn0 : -9223372036854775808 ≤ n) (hn : n ≤ 9223372036854775807) (s : List UInt8) (hv : BoolsAt w kv l) (hg : BG G kv l) (hl : l.length ≤ 60) :
    Calls Try.prog 17 #[.pointer (some ⟨p, 0, none⟩), .pointer (some ⟨r, 0, none⟩), .agg #[.int .i64 kd, .int .i64 n, .string (str s), kv]] w fun e w' => e = .returned (.bool true) ∧ Two G w' p gl gf r (M) (M) ∧ Keep (fun k => ¬ G k) w w' := by
  have hok := Hid.intro h.1.ok
  have _hu := And.intro hn0 (And.intro hn hl)
  clear _hu
  have hw1 : Below w.heap.size w (w.alloc (.cells (oC kd n s kv).toArray 32)) := (Below.refl _ _).alloc (Nat.le_refl _) _
  have hT := Hid.intro (h.more hw1)
  have hQ := Hid.intro (show OB (w.alloc (.cells (oC kd n s kv).toArray 32)) w.heap.size kd n s kv from ⟨heap_alloc_new w _⟩)
  have hGq := Hid.intro (show Gn G w (w.alloc (.cells (oC kd n s kv).toArray 32)) w.heap.size from .inr ⟨Nat.le_refl _, by simp⟩)
  have hK := Hid.intro (Keep.of (F := fun k => ¬ G k) hw1)
  have hV := Hid.intro (hv.below hw1)
  have hVG := Hid.intro (show BG (Gn G w (w.alloc (.cells (oC kd n s kv).toArray 32))) kv l from fun h0 g hg' => .inl (hg h0 g hg'))
  have hGs := Hid.intro h.2.2.1
  have hGG := Hid.intro (show ∀ k, G k → Gn G w (w.alloc (.cells (oC kd n s kv).toArray 32)) k from fun _ h => .inl h)
  obtain ⟨c0, c1, c2, c3⟩ := hQ.out.cells
  have hqs := lt_of_block hQ.out.box
  clear hw1 hg hv h
  generalize Gn G w (w.alloc (.cells (oC kd n s kv).toArray 32)) = G1 at *
  have hKG := Hid.intro (fun (x y : World) (hk : Keep (fun k => ¬ G1 k) x y) => (hk.mono (G := fun k => ¬ G k) fun k _ hn hg => hn (hGG.out k hg)))
  go_enter Try.func17, Try.ntmps17
  go_wp2_with fail
  go_wp2
  go_ret
  exact ⟨rfl, hT.out.less hGG.out, hK.out⟩
theorem do_any {G : Nat → Prop} {w : World} {p gl gf r : Nat} {M : MS} {kv : Value} {l : List Bool} (h : Two G w p gl gf r M M) (kd n : Int) (hn0 : -9223372036854775808 ≤ n) (hn : n ≤ 9223372036854775807) (s : List UInt8) (hv : BoolsAt w kv l) (hg : BG G kv l) (hl : l.length ≤ 60) :
    Calls Try.prog 17 #[.pointer (some ⟨p, 0, none⟩), .pointer (some ⟨r, 0, none⟩), .agg #[.int .i64 kd, .int .i64 n, .string (str s), kv]] w fun e w' => e = .returned (.bool true) ∧ (∃ M', Two G w' p gl gf r M' M') ∧ Keep (fun k => ¬ G k) w w' := by
  by_cases h1 : kd = 1
  · subst h1; exact (do_lay h n hn0 hn s hv hg hl).mono fun _ _ ⟨a, b, c⟩ => ⟨a, ⟨_, b⟩, c⟩
  by_cases h2 : kd = 2
  · subst h2; exact (do_fix h n hn0 hn s hv hg hl).mono fun _ _ ⟨a, b, c⟩ => ⟨a, ⟨_, b⟩, c⟩
  by_cases h3 : kd = 3
  · subst h3; exact (do_fall h n hn0 hn s hv hg hl).mono fun _ _ ⟨a, b, c⟩ => ⟨a, ⟨_, b⟩, c⟩
  by_cases h4 : kd = 4
  · subst h4; exact (do_power h n hn0 hn s hv hg hl).mono fun _ _ ⟨a, b, c⟩ => ⟨a, ⟨_, b⟩, c⟩
  by_cases h5 : kd = 5
  · subst h5
    by_cases hl0 : l = []
    · exact (do_snag0 h n hn0 hn s hv hg hl hl0).mono fun _ _ ⟨a, b, c⟩ => ⟨a, ⟨_, b⟩, c⟩
    · exact (do_snag1 h n hn0 hn s hv hg hl hl0).mono fun _ _ ⟨a, b, c⟩ => ⟨a, ⟨_, b⟩, c⟩
  by_cases h6 : kd = 6
  · subst h6; exact (do_rot h n hn0 hn s hv hg hl).mono fun _ _ ⟨a, b, c⟩ => ⟨a, ⟨_, b⟩, c⟩
  by_cases h7 : kd = 7
  · subst h7; exact (do_raw h n hn0 hn s hv hg hl).mono fun _ _ ⟨a, b, c⟩ => ⟨a, ⟨_, b⟩, c⟩
  exact (do_none h (beq_false_of_ne h1) (beq_false_of_ne h2) (beq_false_of_ne h3) (beq_false_of_ne h4) (beq_false_of_ne h5) (beq_false_of_ne h6) (beq_false_of_ne h7) n hn0 hn s hv hg hl).mono fun _ _ ⟨a, b, c⟩ => ⟨a, ⟨_, b⟩, c⟩

/-! ### A disk that is nil -/
theorem lay_nil (k : Int) (S : List UInt8) (w : World) : Calls Try.prog 13 #[.pointer none, .int .i64 k, .string (str S)] w fun e w' => e = .returned (.int .i64 1) ∧ w' = w := by
  have hR := Hid.intro (ready_nil w)
  have hF := Hid.intro (fits_nil k S w)
  go_enter Try.func13, Try.ntmps13
  go_wp2_with fail
  refine hR.out.mono ?_; rintro e w1 ⟨rfl, rfl⟩
  go_wp2
  go_ret
  exact ⟨rfl, rfl⟩
theorem fix_nil (w : World) : Calls Try.prog 15 #[.pointer none] w fun e w' => e = .returned (.int .i64 1) ∧ w' = w := by
  have hR := Hid.intro (ready_nil w)
  go_enter Try.func15, Try.ntmps15
  go_wp2_with fail
  refine hR.out.mono ?_; rintro e w1 ⟨rfl, rfl⟩
  go_wp2
  go_ret
  exact ⟨rfl, rfl⟩
end Go.Proofs.Ytjjfdkgnagfbcaa
