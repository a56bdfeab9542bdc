/-
  ShelfTakes's walk: what was put and taken out again is not there, all else is as it was: for every operations that are handed in, every fingerprint and every number.
-/
import Derived.Test.YtlcobpfighpobaaArgOps
namespace Go.Proofs.Ytlcobpfighpobaa
open Go.ChangeShapes Go.WideShapes Go.ChangeAt Go.RowKit

theorem bk_lt {w : World} {b s : Nat} {bs : List (List It)} (h : Sh w b s bs) (x : Int) : bk bs x < bs.length := by
  obtain ⟨B, vs, h⟩ := h
  have := h.n1
  have hl := h.len
  have := Int.emod_lt_of_pos x (b := (bs.length : Int)) (by omega)
  have := Int.emod_nonneg x (b := (bs.length : Int)) (by omega)
  unfold bk
  omega
theorem bk_set (bs : List (List It)) (k : Nat) (m : List It) (x : Int) : bk (bs.set k m) x = bk bs x := by simp [bk]
theorem sh_ord {w : World} {b s : Nat} {bs : List (List It)} (h : Sh w b s bs) {k : Nat} {l : List It} (hl : bs[k]? = some l) : Ord l := by
  obtain ⟨B, vs, h⟩ := h
  exact (h.ord l (List.mem_of_getElem? hl)).1
theorem set_bound {bs : List (List It)} {k m : Nat} {l : List It} (h : ∀ q ∈ bs, q.length ≤ m) (hl : l.length ≤ m) : ∀ q ∈ bs.set k l, q.length ≤ m := fun q hq => by
  rcases List.mem_or_eq_of_mem_set hq with hq | rfl
  · exact h q hq
  · exact hl

/-- Put, whether it is there or not. -/
theorem put_loop {w : World} {b s m : Nat} {bs : List (List It)} (h : Sh w b s bs) (x id : Int) (hf : Fits (x, id)) (hm : ∀ l ∈ bs, l.length ≤ m) (h3 : m ≤ 1000) :
    Calls Try.prog 6 #[.pointer (some ⟨s, 0, none⟩), .int .u32 x, .int .i64 id] w fun e w' => ∃ r bs', e = .returned (.bool r) ∧ Sh w' b s bs' ∧ (∀ l ∈ bs', l.length ≤ m + 1) ∧ Keep b w w' := by
  have hk := bk_lt h x
  have hl : bs[bk bs x]? = some bs[bk bs x] := List.getElem?_eq_getElem hk
  have hll := hm _ (List.mem_of_getElem? hl)
  by_cases hin : (x, id) ∈ bs[bk bs x]
  · refine (put_old h x id hf hl (by omega) hin).mono ?_
    rintro e w' ⟨rfl, h', hb⟩
    exact ⟨_, _, rfl, h', fun l hl => by have := hm l hl; omega, Keep.of hb⟩
  · refine (put_new h x id hf hl (by omega) hin).mono ?_
    rintro e w' ⟨rfl, h', hb⟩
    exact ⟨_, _, rfl, h', set_bound (fun q hq => by have := hm q hq; omega) (by rw [ins_length]; omega), hb⟩

theorem Ints.form {w : World} {b : Nat} {v : Value} {l : List Int} (h : Ints w b v l) : ∃ a c, v = .slice a l.length c := by
  rcases ints_cells h with ⟨rfl, rfl⟩ | ⟨g, cap, rfl, _⟩
  · exact ⟨_, _, rfl⟩
  · exact ⟨_, _, rfl⟩
theorem Ints.at {w : World} {b n c : Nat} {a : Option Addr} {l : List Int} (h : Ints w b (.slice a n c) l) {i : Nat} {m : Int} (hi : l[i]? = some m) : ∃ g, a = some ⟨g, 0, none⟩ ∧ w.cell? ⟨g, i, none⟩ = some (.int .i64 m) := by
  rcases ints_cells h with ⟨_, rfl⟩ | ⟨g, cap, hv, _, _, hc⟩
  · simp at hi
  · cases hv
    exact ⟨g, rfl, hc i m hi⟩
theorem take_more (l : List Int) (i : Nat) (m : Int) (h : l[i]? = some m) : l.take (i + 1) = l.take i ++ [m] := by
  rw [List.take_add_one, h]; rfl
theorem keep_below {b : Nat} {w w1 w2 : World} (h : Below b w w1) (hb : b ≤ w1.heap.size) (k : Keep b w1 w2) : Below b w w2 := h.trans (k.below hb)

/-- What was there, taken out. -/
theorem sum_del {bs : List (List It)} {k : Nat} {l : List It} {p : It} (hl : bs[k]? = some l) (ho : Ord l) (hp : p ∈ l) : ((sum (bs.set k (del l p)) : Nat) : Int) = (sum bs : Nat) - 1 := by
  have h1 := sum_set bs k l (del l p) hl
  have h2 := del_length l p (pos_lt ho hp)
  omega
theorem set_at {bs : List (List It)} {k : Nat} {l m : List It} (hl : bs[k]? = some l) : (bs.set k m)[k]? = some m := List.getElem?_set_self (List.getElem?_eq_some_iff.1 hl).1
end Go.Proofs.Ytlcobpfighpobaa
