/-
  A disk and the document's in one memory: what a call does to one leaves the other.
-/
import Derived.Test.YtjjfdkgnagfbcaaRH
namespace Go.Proofs.Ytjjfdkgnagfbcaa
open Go.ChangeShapes Go.WideShapes Go.ChangeAt Go.RowKit

/-- Both lie here, apart from one another and from what G names. -/
def Two (G : Nat → Prop) (w : World) (p gl gf r : Nat) (M N : MS) : Prop :=
  PO w p gl gf M ∧ (∀ k, G k → ¬ Fp p gl gf k) ∧ (∀ k, G k → k < w.heap.size) ∧ ∃ F, RO w F r N ∧ (∀ k, Fp p gl gf k → ¬ F k) ∧ (∀ k, G k → ¬ F k) ∧ (∀ k, F k → k < w.heap.size)
/-- What is new between two worlds, and G. -/
def Gn (G : Nat → Prop) (w w' : World) (k : Nat) : Prop := G k ∨ (w.heap.size ≤ k ∧ k < w'.heap.size)
theorem Two.less {G G' : Nat → Prop} {w : World} {p gl gf r : Nat} {M N : MS} (h : Two G w p gl gf r M N) (hg : ∀ k, G' k → G k) : Two G' w p gl gf r M N := by
  obtain ⟨h0, h1, h2, F, g0, g1, g2, g3⟩ := h
  exact ⟨h0, fun k hk => h1 k (hg k hk), fun k hk => h2 k (hg k hk), F, g0, g1, fun k hk => g2 k (hg k hk), g3⟩
theorem Two.more {G : Nat → Prop} {w w' : World} {p gl gf r : Nat} {M N : MS} (h : Two G w p gl gf r M N) (hb : Below w.heap.size w w') : Two (Gn G w w') w' p gl gf r M N := by
  obtain ⟨h0, h1, h2, F, g0, g1, g2, g3⟩ := h
  exact ⟨h0.below hb, fun k hk hp => by rcases hk with hk | hk; exact h1 k hk hp; have := h0.inside hp; omega, fun k hk => by rcases hk with hk | hk; exact Nat.lt_of_lt_of_le (h2 k hk) hb.size; exact hk.2,
    F, g0.below hb, g1, fun k hk hf => by rcases hk with hk | hk; exact g2 k hk hf; have := g3 k hf; omega, fun k hk => Nat.lt_of_lt_of_le (g3 k hk) hb.size⟩
theorem Two.below {G : Nat → Prop} {w w' : World} {p gl gf r : Nat} {M N : MS} (h : Two G w p gl gf r M N) (hb : Below w.heap.size w w') : Two G w' p gl gf r M N :=
  (h.more hb).less fun _ h => .inl h
/-- What is written in blocks of G leaves both. -/
theorem Two.write {G : Nat → Prop} {w w' : World} {p gl gf r : Nat} {M N : MS} (h : Two G w p gl gf r M N) (hk : Keep G w w') : Two G w' p gl gf r M N := by
  obtain ⟨h0, h1, h2, F, g0, g1, g2, g3⟩ := h
  exact ⟨h0.keep hk fun k hp hg => h1 k hg hp, h1, fun k hg => Nat.lt_of_lt_of_le (h2 k hg) hk.size, F, g0.keep hk fun k _ hf hg => g2 k hg hf, g1, g2, fun k hf => Nat.lt_of_lt_of_le (g3 k hf) hk.size⟩
theorem Two.pl {G : Nat → Prop} {w w' : World} {p gl gf r : Nat} {M N M' : MS} (h : Two G w p gl gf r M N) (hp : PO w' p gl gf M') (hk : Keep (Fp p gl gf) w w') : Two (Gn G w w') w' p gl gf r M' N ∧ Keep (fun k => ¬ G k) w w' := by
  obtain ⟨h0, h1, h2, F, g0, g1, g2, g3⟩ := h
  exact ⟨⟨hp, fun k hg hp => by rcases hg with hg | hg; exact h1 k hg hp; have := h0.inside hp; omega, fun k hg => by rcases hg with hg | hg; exact Nat.lt_of_lt_of_le (h2 k hg) hk.size; exact hg.2,
    F, g0.keep hk fun k _ hf hp => g1 k hp hf, g1, fun k hg hf => by rcases hg with hg | hg; exact g2 k hg hf; have := g3 k hf; omega, fun k hf => Nat.lt_of_lt_of_le (g3 k hf) hk.size⟩, hk.mono fun k _ hp hg => h1 k hg hp⟩
theorem Two.rf {G F : Nat → Prop} {w w' : World} {p gl gf r : Nat} {M N N' : MS} (h0 : PO w p gl gf M) (h1 : ∀ k, G k → ¬ Fp p gl gf k) (h2 : ∀ k, G k → k < w.heap.size) (_g0 : RO w F r N) (g1 : ∀ k, Fp p gl gf k → ¬ F k) (g2 : ∀ k, G k → ¬ F k) (_g3 : ∀ k, F k → k < w.heap.size)
    (hr : RO w' (Fr F w) r N') (hk : Keep F w w') : Two G w' p gl gf r M N' ∧ Keep (fun k => ¬ G k) w w' :=
  ⟨⟨h0.keep hk g1, h1, fun k hg => Nat.lt_of_lt_of_le (h2 k hg) hk.size, _, hr.fit, fun k hp hf => by rcases hf.1 with hf | hf; exact g1 k hp hf; have := h0.inside hp; omega,
    fun k hg hf => by rcases hf.1 with hf | hf; exact g2 k hg hf; have := h2 k hg; omega, fun k hf => hf.2⟩, hk.mono fun k _ hf hg => g2 k hg hf⟩
/-- A list that is handed in, in a block of G. -/
def BG (G : Nat → Prop) (v : Value) (l : List Bool) : Prop := l ≠ [] → ∀ g, v.ownBlock = some g → G g
theorem BoolsAt.kept {G : Nat → Prop} {w w' : World} {v : Value} {l : List Bool} (h : BoolsAt w v l) (hg : BG G v l) (hk : Keep (fun k => ¬ G k) w w') : BoolsAt w' v l := by
  rcases h with h | ⟨g, o, cap, hv, hgl, hc, hl⟩
  · exact .inl h
  · by_cases hl0 : l = []
    · subst hl0; exact .inl ⟨rfl, _, _, hv⟩
    · have hG : G g := hg hl0 g (by rw [hv]; rfl)
      exact .inr ⟨g, o, cap, hv, Nat.lt_of_lt_of_le hgl hk.size, hc, fun i b hi => by rw [World.cell?_of_block (w := w) (hk.block g hgl (fun hn => hn hG))]; exact hl i b hi⟩
theorem Keep.cell {F : Nat → Prop} {w w' : World} {g o : Nat} (hk : Keep F w w') (hg : g < w.heap.size) (hF : ¬ F g) : w'.cell? ⟨g, o, none⟩ = w.cell? ⟨g, o, none⟩ := World.cell?_of_block (hk.block g hg hF)
theorem t_lay {G : Nat → Prop} {w : World} {p gl gf r : Nat} {M N : MS} (h : Two G w p gl gf r M N) (k : Int) (S : List UInt8) :
    Calls Try.prog 13 #[.pointer (some ⟨p, 0, none⟩), .int .i64 k, .string (str S)] w fun e w' => e = .returned (.int .i64 (mLay M k S).1) ∧ Two G w' p gl gf r ((mLay M k S).2) N ∧ Keep (fun k => ¬ G k) w w' :=
  (lay_any h.1 k S).mono fun _ _ ⟨h1, h2, h3⟩ => ⟨h1, (h.pl h2 h3).1.less fun _ h => .inl h, (h.pl h2 h3).2⟩
theorem t_fix {G : Nat → Prop} {w : World} {p gl gf r : Nat} {M N : MS} (h : Two G w p gl gf r M N)  :
    Calls Try.prog 15 #[.pointer (some ⟨p, 0, none⟩)] w fun e w' => e = .returned (.int .i64 (mFix M).1) ∧ Two G w' p gl gf r ((mFix M).2) N ∧ Keep (fun k => ¬ G k) w w' :=
  (fix_any h.1).mono fun _ _ ⟨h1, h2, h3⟩ => ⟨h1, (h.pl h2 h3).1.less fun _ h => .inl h, (h.pl h2 h3).2⟩
theorem t_power {G : Nat → Prop} {w : World} {p gl gf r : Nat} {M N : MS} (h : Two G w p gl gf r M N)  :
    Calls Try.prog 22 #[.pointer (some ⟨p, 0, none⟩)] w fun e w' => e = .returned (.bool (!M.on)) ∧ Two G w' p gl gf r (mPower M) N ∧ Keep (fun k => ¬ G k) w w' :=
  (power_any h.1).mono fun _ _ ⟨h1, h2, h3⟩ => ⟨h1, (h.pl h2 h3).1.less fun _ h => .inl h, (h.pl h2 h3).2⟩
theorem t_rot {G : Nat → Prop} {w : World} {p gl gf r : Nat} {M N : MS} (h : Two G w p gl gf r M N) (k : Int) (S : List UInt8) :
    Calls Try.prog 23 #[.pointer (some ⟨p, 0, none⟩), .int .i64 k, .string (str S)] w fun e w' => e = .returned (.bool (fitB M k S)) ∧ Two G w' p gl gf r (mRot M k S) N ∧ Keep (fun k => ¬ G k) w w' :=
  (rot_any h.1 k S).mono fun _ _ ⟨h1, h2, h3⟩ => ⟨h1, (h.pl h2 h3).1.less fun _ h => .inl h, (h.pl h2 h3).2⟩
theorem t_snag {G : Nat → Prop} {w : World} {p gl gf r : Nat} {M N : MS} (h : Two G w p gl gf r M N) {v : Value} {l : List Bool} (n : Int) (hn : n ≤ 9223372036854775807) (hv : BoolsAt w v l) (hg : BG G v l) (hl : l.length ≤ 60) :
    Calls Try.prog 18 #[.pointer (some ⟨p, 0, none⟩), .int .i64 n, v] w fun e w' => e = .returned (.tuple #[]) ∧ Two G w' p gl gf r (mSnag M n l) N ∧ Keep (fun k => ¬ G k) w w' :=
  (snag_any h.1 n hn hv (fun h0 g hg' e => h.2.1 g (hg h0 g hg') (.inl e)) hl).mono fun _ _ ⟨h1, h2, h3⟩ => ⟨h1, (h.pl h2 h3).1.less fun _ h => .inl h, (h.pl h2 h3).2⟩
theorem t_off {G : Nat → Prop} {w : World} {p gl gf r : Nat} {M N : MS} {v : Value} {l : List Bool} (h : Two G w p gl gf r M N) (hv : BoolsAt w v l) (hl : l.length ≤ 60) :
    Calls Try.prog 16 #[.pointer (some ⟨p, 0, none⟩), v] w fun e w' => ∃ u, e = .returned u ∧ Two (Gn G w w') w' p gl gf r (mOff M l).2 N ∧ w'.ownsRow w.heap.size 3 1 u (mOff M l).1.length (intsV (mOff M l).1) ∧ Keep (fun k => ¬ G k) w w' :=
  (off_any h.1 hv hl).mono fun _ _ ⟨u, h1, h2, h3, h4⟩ => ⟨u, h1, (h.pl h2 h4).1, h3, (h.pl h2 h4).2⟩
theorem t_rlay {G : Nat → Prop} {w : World} {p gl gf r : Nat} {M N : MS} (h : Two G w p gl gf r M N) (hok : Ok N) (k : Int) (S : List UInt8) :
    Calls Try.prog 36 #[.pointer (some ⟨r, 0, none⟩), .int .i64 k, .string (str S)] w fun e w' => e = .returned (.int .i64 (mLay N k S).1) ∧ Two G w' p gl gf r M ((mLay N k S).2) ∧ Keep (fun k => ¬ G k) w w' := by
  obtain ⟨h0, h1, h2, F, g0, g1, g2, g3⟩ := h
  refine (rlay_any g0 hok k S).mono fun _ _ ⟨a1, a2, a3⟩ => ?_
  obtain ⟨b1, b2⟩ := Two.rf h0 h1 h2 g0 g1 g2 g3 (a2) a3
  exact ⟨a1, b1, b2⟩
theorem t_rfix {G : Nat → Prop} {w : World} {p gl gf r : Nat} {M N : MS} (h : Two G w p gl gf r M N) (hok : Ok N) :
    Calls Try.prog 37 #[.pointer (some ⟨r, 0, none⟩)] w fun e w' => e = .returned (.int .i64 (mFix N).1) ∧ Two G w' p gl gf r M ((mFix N).2) ∧ Keep (fun k => ¬ G k) w w' := by
  obtain ⟨h0, h1, h2, F, g0, g1, g2, g3⟩ := h
  refine (rfix_any g0 hok).mono fun _ _ ⟨a1, a2, a3⟩ => ?_
  obtain ⟨b1, b2⟩ := Two.rf h0 h1 h2 g0 g1 g2 g3 (a2) a3
  exact ⟨a1, b1, b2⟩
theorem t_rpower {G : Nat → Prop} {w : World} {p gl gf r : Nat} {M N : MS} (h : Two G w p gl gf r M N)  :
    Calls Try.prog 39 #[.pointer (some ⟨r, 0, none⟩)] w fun e w' => e = .returned (.bool (!N.on)) ∧ Two G w' p gl gf r M (mPower N) ∧ Keep (fun k => ¬ G k) w w' := by
  obtain ⟨h0, h1, h2, F, g0, g1, g2, g3⟩ := h
  refine (rpower_any g0).mono fun _ _ ⟨a1, a2, a3⟩ => ?_
  obtain ⟨b1, b2⟩ := Two.rf h0 h1 h2 g0 g1 g2 g3 (a2.wide fun _ h => .inl h) a3
  exact ⟨a1, b1, b2⟩
theorem t_rrot {G : Nat → Prop} {w : World} {p gl gf r : Nat} {M N : MS} (h : Two G w p gl gf r M N) (hok : Ok N) (k : Int) (S : List UInt8) :
    Calls Try.prog 41 #[.pointer (some ⟨r, 0, none⟩), .int .i64 k, .string (str S)] w fun e w' => e = .returned (.bool (fitB N k S)) ∧ Two G w' p gl gf r M (mRot N k S) ∧ Keep (fun k => ¬ G k) w w' := by
  obtain ⟨h0, h1, h2, F, g0, g1, g2, g3⟩ := h
  refine (rrot_any g0 hok k S).mono fun _ _ ⟨a1, a2, a3⟩ => ?_
  obtain ⟨b1, b2⟩ := Two.rf h0 h1 h2 g0 g1 g2 g3 (a2.wide fun _ h => .inl h) a3
  exact ⟨a1, b1, b2⟩
theorem t_rsnag {G : Nat → Prop} {w : World} {p gl gf r : Nat} {M N : MS} (h : Two G w p gl gf r M N) {v : Value} {l : List Bool} (n : Int) (hn0 : -9223372036854775808 ≤ n) (hn : n ≤ 9223372036854775807) (hv : BoolsAt w v l) (hl : l.length ≤ 60) :
    Calls Try.prog 40 #[.pointer (some ⟨r, 0, none⟩), .int .i64 n, v] w fun e w' => e = .returned (.tuple #[]) ∧ Two G w' p gl gf r M (mSnag N n l) ∧ Keep (fun k => ¬ G k) w w' := by
  obtain ⟨h0, h1, h2, F, g0, g1, g2, g3⟩ := h
  refine (rsnag_any g0 n hn0 hn hv hl).mono fun _ _ ⟨a1, a2, a3⟩ => ?_
  obtain ⟨b1, b2⟩ := Two.rf h0 h1 h2 g0 g1 g2 g3 (a2) a3
  exact ⟨a1, b1, b2⟩
theorem t_rfall {G : Nat → Prop} {w : World} {p gl gf r : Nat} {M N : MS} {v : Value} {l : List Bool} (h : Two G w p gl gf r M N) (hok : Ok N) (hv : BoolsAt w v l) (hg : BG G v l) (hl : l.length ≤ 60) :
    Calls Try.prog 38 #[.pointer (some ⟨r, 0, none⟩), v] w fun e w' => ∃ u, e = .returned u ∧ Two G w' p gl gf r M (mOff N l).2 ∧ w'.ownsRow w.heap.size 3 1 u (mOff N l).1.length (intsV (mOff N l).1) ∧ Keep (fun k => ¬ G k) w w' := by
  obtain ⟨h0, h1, h2, F, g0, g1, g2, g3⟩ := h
  refine (rfall_any g0 hok hv (fun hl0 g hgo => .inl (g2 g (hg hl0 g hgo))) hl).mono fun _ _ ⟨u, a1, a2, a3, a4⟩ => ?_
  obtain ⟨b1, b2⟩ := Two.rf h0 h1 h2 g0 g1 g2 g3 a2 a4
  exact ⟨u, a1, b1, a3, b2⟩
theorem t_is {G : Nat → Prop} {w : World} {p gl gf r : Nat} {M : MS} (h : Two G w p gl gf r M M) : Calls Try.prog 11 #[.pointer (some ⟨p, 0, none⟩), .pointer (some ⟨r, 0, none⟩)] w fun e w' => e = .returned (.bool true) ∧ Two G w' p gl gf r M M ∧ Keep (fun k => ¬ G k) w w' := by
  obtain ⟨F, g0, _⟩ := h.2.2.2
  exact (is_any h.1 g0).mono fun _ _ ⟨h1, h2⟩ => ⟨h1, h.below h2, Keep.of h2⟩
end Go.Proofs.Ytjjfdkgnagfbcaa
