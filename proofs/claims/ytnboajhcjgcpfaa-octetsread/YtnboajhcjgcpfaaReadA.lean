/-
  OctetsRead: what its walk carries; inputs that are too long.
-/
import Derived.Test.YtnboajhcjgcpfaaRIn
import Derived.Test.YtnboajhcjgcpfaaArgOct
import Derived.Test.YtnboajhcjgcpfaaOAlive
import Derived.Test.YtnboajhcjgcpfaaBkEApart
namespace Go.Proofs.Ytnboajhcjgcpfaa
open Go.ChangeShapes Go.WideShapes Go.ChangeAt Go.RowKit
attribute [local go_sem ↓] Go.wp_at_zero Go.wp_at_succ
attribute [local go_sem] str_size str_extract str_append str_toList

theorem kept_stay {w w' : World} {G : Nat → Prop} {K base : Nat} {es : List BkE.Ent} {T : TypeId → Prop} (h : BkE.Kept w G K base es) (hs : BkE.Stay T w w') (t0 : T 58) (t1 : T 30) (t2 : T 71) : BkE.Kept w' G K base es := by
  obtain ⟨sv, wv, cs, h, hf⟩ := h
  exact ⟨sv, wv, cs, ⟨hs.block _ _ _ _ h.block t0, BkE.own_stay h.sown hs t1, BkE.own_stay h.wown hs t1, h.sep, fun i e c he hc => ⟨(h.copies i e c he hc).1.stay (h.copies i e c he hc).2 hs t2, (h.copies i e c he hc).2.stay hs t2⟩, h.lists.stay hs t2⟩, hf⟩
/-- What the walk carries: what was read, the document's, and the Book. -/
structure RS (W wr : World) (p q K : Nat) (st : St) (es : List BkE.Ent) (k : Nat) : Prop where
  inp : InO wr p st
  ref : RInO wr q st
  book : BkE.Kept wr (fun _ => True) K W.heap.size es
  many : es.length ≤ k
  short : BkE.Short es
  below : Below W.heap.size W wr
theorem RS.same {W wr w' : World} {p q K k : Nat} {st : St} {es : List BkE.Ent} (h : RS W wr p q K st es k) (hb : Below wr.heap.size wr w') : RS W w' p q K st es k :=
  ⟨h.inp.below hb, h.ref.below hb, h.book.below hb, h.many, h.short, h.below.trans (hb.mono h.below.size)⟩
/-- One call of each. -/
theorem RS.both {W wr w5 w6 : World} {p q K k : Nat} {st st' : St} {es : List BkE.Ent} (h : RS W wr p q K st es k) (h1 : InO w5 p st') (s1 : BkE.Stay TI wr w5) (b1 : Below W.heap.size wr w5) (h2 : RInO w6 q st') (s2 : BkE.But q w5 w6) (b2 : Below W.heap.size w5 w6) : RS W w6 p q K st' es k := by
  obtain ⟨B, hB, _⟩ := h.ref
  have hq5 := s1.block _ _ _ _ hB (by unfold TI; decide)
  have s3 := BkE.Stay.but (T := TR) s2 hq5 notTR
  exact ⟨h1.stay s3 (by unfold TR; decide), h2, kept_stay (kept_stay h.book s1 (by unfold TI; decide) (by unfold TI; decide) (by unfold TI; decide)) s3 (by unfold TR; decide) (by unfold TR; decide) (by unfold TR; decide), h.many, h.short, (h.below.trans b1).trans b2⟩
theorem RS.next {W wr : World} {p q K k : Nat} {st : St} {es : List BkE.Ent} (h : RS W wr p q K st es k) : RS W wr p q K st es (k + 1) := ⟨h.inp, h.ref, h.book, Nat.le_succ_of_le h.many, h.short, h.below⟩
/-- A list that is made now is none of those that there were. -/
theorem kept_fresh {w w5 : World} {K base : Nat} {es : List BkE.Ent} {v : Value} {n : Nat} {xs : List Value} (h : BkE.Kept w (fun _ => True) K base es) (hv : w5.ownsRow w.heap.size 71 3 v n xs) : ∀ e ∈ es, ∀ b, e.1.ownBlock = some b → v.ownBlock ≠ some b := by
  intro e he b hb hv2
  obtain ⟨sv, wv, cs, hs, _⟩ := h
  obtain ⟨i, hi⟩ := List.mem_iff_getElem?.1 he
  obtain ⟨_, cur, hg⟩ := BkE.own_block (hs.lists.own i e hi) b hb
  have h1 := lt_of_block hg
  have h2 := (BkE.own_block hv b hv2).1
  omega

set_option maxRecDepth 100000 in
theorem read_early {W : World} {S : List UInt8} {v : Value} {os : List OpE} (h : OpsAt W v os) (hL : 600 < S.length ∨ 60 < os.length) : Calls Try.prog 4 #[.string (str S), v] W fun e w' => e = .returned (.bool true) ∧ Below W.heap.size W w' := by
  have hA := Hid.intro (alive_any W)
  obtain ⟨a, c, rfl⟩ := h.slice
  clear h
  by_cases h1 : 600 < S.length
  · have z : (600 : Int) < (S.length : Int) := by omega
    clear hL
    go_enter Try.func4, Try.ntmps4
    go_wp2_with fail
    refine hA.out.mono ?_; rintro e w1 ⟨rfl, c⟩
    go_wp2
    go_ret
    exact ⟨rfl, c⟩
  · have z : ¬ (600 : Int) < (S.length : Int) := by omega
    have z2 : (60 : Int) < (os.length : Int) := by omega
    clear hL
    go_enter Try.func4, Try.ntmps4
    go_wp2_with fail
    refine hA.out.mono ?_; rintro e w1 ⟨rfl, c⟩
    go_wp2
    go_ret
    exact ⟨rfl, c⟩
end Go.Proofs.Ytnboajhcjgcpfaa
