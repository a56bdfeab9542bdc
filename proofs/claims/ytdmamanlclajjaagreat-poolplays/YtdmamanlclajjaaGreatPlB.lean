/-
  The law's calls, each with what it leaves of the state.
-/
import Derived.Test.YtdmamanlclajjaaGreatPlA
import Derived.Test.YtdmamanlclajjaaGreatArgOps
namespace Go.Proofs.YtdmamanlclajjaaGreat
open Go.ChangeShapes Go.WideShapes Go.ChangeAt Go.RowKit

section
variable {w0 wr : World} {F O : Nat → Prop} {K p most : Nat} {es : List Bk.Ent} {L M : List Bl} {v : Value} {ex : List Ex}

theorem Sx.inv (h : Sx w0 wr F O K p most es L M v ex) : Inv most L := h.pl.inv
theorem Sx.l60 (h : Sx w0 wr F O K p most es L M v ex) : L.length ≤ 60 := by have := h.inv.len; have := h.inv.m60; omega
theorem inv_refs (hI : Inv most L) (hR : Few 1000000 L) : ∀ q ∈ L, 0 < q.2.1 ∧ q.2.1 ≤ 1000000 := fun q hq => ⟨by have := (hI.ids q hq).2.2.1; omega, hR q hq⟩

theorem k_rput (h : Sx w0 wr F No K p most es L L v ex) (hR : Few 1000000 L) (T : List UInt8) :
    Calls Tryz.prog 6 #[.agg #[.int .i64 most, v], .string (str T)] wr fun e w' => ∃ a c, e = .returned (.tuple #[.agg #[.int .i64 most, .slice a (putL most L T).1.length c], .int .i64 (putL most L T).2.1, .int .i64 (putL most L T).2.2]) ∧ Sx w0 w' F No K p most es L (putL most L T).1 (.slice a (putL most L T).1.length c) ex := by
  refine (rPut_any h.rf h.inv hR T).mono ?_
  rintro e w' ⟨v', rfl, ho⟩
  obtain ⟨a, c, rfl⟩ := rw_slice ho.rf.row
  exact ⟨a, c, rfl, h.ref ho fun k e => e.elim⟩
theorem k_rhold (h : Sx w0 wr F No K p most es L L v ex) (hR : Few 1000000 L) (x n : Int) (hn : -1 ≤ n) (hn2 : n ≤ 1) :
    Calls Tryz.prog 8 #[.agg #[.int .i64 most, v], .int .i64 x, .int .i64 n] wr fun e w' => ∃ a c, e = .returned (.tuple #[.agg #[.int .i64 most, .slice a (holdL L x n).1.length c], .int .i64 (holdL L x n).2]) ∧ Sx w0 w' F No K p most es L (holdL L x n).1 (.slice a (holdL L x n).1.length c) ex := by
  refine (rHold_any (most : Int) h.rf x n (by have := h.l60; omega) (inv_refs h.inv hR) h.inv.ord hn hn2).mono ?_
  rintro e w' ⟨v', rfl, ho⟩
  obtain ⟨a, c, rfl⟩ := rw_slice ho.rf.row
  exact ⟨a, c, rfl, h.ref ho fun k e => e.elim⟩
theorem k_pput (h : Sx w0 wr F No K p most es L M v ex) (hR : Few 1000000 L) (T : List UInt8) :
    Calls Tryz.prog 7 #[.pointer (some ⟨p, 0, none⟩), .string (str T)] wr fun e w' => e = .returned (.tuple #[.int .i64 (putL most L T).2.1, .int .i64 (putL most L T).2.2]) ∧ ∃ F', Sx w0 w' F' No K p most es (putL most L T).1 M v ex := by
  refine (pput_any h.pl hR T).mono ?_
  rintro e w' ⟨rfl, h1, h2⟩
  exact ⟨rfl, h.pool h1 h2⟩
theorem k_phold (h : Sx w0 wr F No K p most es L M v ex) (hR : Few 1000000 L) (x : Int) :
    Calls Tryz.prog 9 #[.pointer (some ⟨p, 0, none⟩), .int .i64 x] wr fun e w' => e = .returned (.int .i64 (holdL L x 1).2) ∧ ∃ F', Sx w0 w' F' No K p most es (holdL L x 1).1 M v ex := by
  refine (hold_any h.pl hR x).mono ?_
  rintro e w' ⟨rfl, h1, h2⟩
  exact ⟨rfl, h.pool (h1.mono fun k e => .inl e) h2⟩
theorem k_pdrop (h : Sx w0 wr F No K p most es L M v ex) (hR : Few 1000000 L) (x : Int) :
    Calls Tryz.prog 10 #[.pointer (some ⟨p, 0, none⟩), .int .i64 x] wr fun e w' => e = .returned (.int .i64 (holdL L x (-1)).2) ∧ ∃ F', Sx w0 w' F' No K p most es (holdL L x (-1)).1 M v ex := by
  refine (drop_any h.pl hR x).mono ?_
  rintro e w' ⟨rfl, h1, h2⟩
  exact ⟨rfl, h.pool h1 h2⟩
/-- A copy takes its place; the elder one still is there. -/
theorem k_copy (h : Sx w0 wr F No K p most es L M v ex) :
    Calls Tryz.prog 11 #[.pointer (some ⟨p, 0, none⟩)] wr fun e w' => ∃ c, e = .returned (.pointer (some ⟨c, 0, none⟩)) ∧ ∃ F' O, Sx w0 w' F' O K c most es L M v ex ∧ Pl w' O p most L ∧ ∀ k, O k → w0.heap.size ≤ k := by
  refine (pcopy_any h.pl).mono ?_
  rintro e w' ⟨c, rfl, h1, h2⟩
  exact ⟨c, rfl, _, F, h.copy h1 h2, h.pl.below h2, fun k hf => (h.fit k hf).2.1⟩
theorem fr_low {O : Nat → Prop} {b : Nat} {w : World} (hO : ∀ k, O k → b ≤ k) (hb : b ≤ w.heap.size) : ∀ k, Fr O w k → b ≤ k := fun k e => e.elim (hO k) (fun e => by omega)
theorem k_oput {o most' : Nat} {N : List Bl} (h : Sx w0 wr F O K p most es L M v ex) (ho : Pl wr O o most' N) (hO : ∀ k, O k → w0.heap.size ≤ k) (hR : Few 1000000 N) (T : List UInt8) :
    Calls Tryz.prog 7 #[.pointer (some ⟨o, 0, none⟩), .string (str T)] wr fun e w' => ∃ x y, e = .returned (.tuple #[.int .i64 x, .int .i64 y]) ∧ ∃ O', Sx w0 w' F O' K p most es L M v ex ∧ Pl w' O' o most' (putL most' N T).1 ∧ ∀ k, O' k → w0.heap.size ≤ k := by
  refine (pput_any ho hR T).mono ?_
  rintro e w' ⟨rfl, h1, h2⟩
  exact ⟨_, _, rfl, _, h.other h2 hO, h1, fr_low hO h.bel.size⟩
theorem k_odrop {o most' : Nat} {N : List Bl} (h : Sx w0 wr F O K p most es L M v ex) (ho : Pl wr O o most' N) (hO : ∀ k, O k → w0.heap.size ≤ k) (hR : Few 1000000 N) (x : Int) :
    Calls Tryz.prog 10 #[.pointer (some ⟨o, 0, none⟩), .int .i64 x] wr fun e w' => ∃ y, e = .returned (.int .i64 y) ∧ ∃ O', Sx w0 w' F O' K p most es L M v ex ∧ Pl w' O' o most' (holdL N x (-1)).1 ∧ ∀ k, O' k → w0.heap.size ≤ k := by
  refine (drop_any ho hR x).mono ?_
  rintro e w' ⟨rfl, h1, h2⟩
  exact ⟨_, rfl, _, h.other h2 hO, h1, fr_low hO h.bel.size⟩
theorem k_ohold {o most' : Nat} {N : List Bl} (h : Sx w0 wr F O K p most es L M v ex) (ho : Pl wr O o most' N) (hO : ∀ k, O k → w0.heap.size ≤ k) (hR : Few 1000000 N) (x : Int) :
    Calls Tryz.prog 9 #[.pointer (some ⟨o, 0, none⟩), .int .i64 x] wr fun e w' => ∃ y, e = .returned (.int .i64 y) ∧ Sx w0 w' F No K p most es L M v ex := by
  refine (hold_any ho hR x).mono ?_
  rintro e w' ⟨rfl, _, h2⟩
  exact ⟨_, rfl, (h.other h2 hO).forget⟩
theorem k_all (h : Sx w0 wr F No K p most es L M v ex) :
    Calls Tryz.prog 12 #[.pointer (some ⟨p, 0, none⟩)] wr fun e w' => ∃ a c, e = .returned (.slice a L.length c) ∧ w'.ownsRow wr.heap.size 56 3 (.slice a L.length c) L.length (B.itemsV L) ∧ Below wr.heap.size wr w' := by
  refine (pall_any h.pl).mono ?_
  rintro e w' ⟨va, rfl, h1, h2⟩
  obtain ⟨a, c, rfl⟩ := Bk.own_form h1
  exact ⟨a, c, rfl, h1, h2⟩
theorem k_book {w1 : World} {va : Value} (h : Sx w0 wr F No K p most es L M v ex) (hb : Below wr.heap.size wr w1) (ho : w1.ownsRow wr.heap.size 56 3 va L.length (B.itemsV L)) (hn : es.length < 250) :
    Calls Tryz.prog 13 #[.pointer (some ⟨K, 0, none⟩), va] w1 fun e w' => e = .returned (.tuple #[]) ∧ Sx w0 w' F No K p most (es ++ [(va, L)]) L M v ex ∧ Rf w' va L := by
  obtain ⟨h1, h2, h3, h4, h5⟩ := h.fresh hb ho
  refine (Bk.book_more h1 h2 h3 h5 h4 hn (by have := h.l60; omega) h.kl).mono ?_
  rintro e w' ⟨rfl, k1, k2, k3⟩
  exact ⟨rfl, h.book hb k1 k2 k3, (Rf.of h5).typ k2⟩
theorem k_get (h : Sx w0 wr F No K p most es L M v ex) (x : Int) :
    Calls Tryz.prog 14 #[.pointer (some ⟨p, 0, none⟩), .int .i64 x] wr fun e w' => e = .returned (.tuple #[.string (str (getL L x).1), .int .i64 (getL L x).2]) ∧ Below wr.heap.size wr w' := get_any h.pl x
theorem k_rget (h : Sx w0 wr F No K p most es L L v ex) (x : Int) :
    Calls Tryz.prog 15 #[.agg #[.int .i64 most, v], .int .i64 x] wr fun e w' => e = .returned (.tuple #[.string (str (getL L x).1), .int .i64 (getL L x).2]) ∧ Below wr.heap.size wr w' := rGet_any (most : Int) h.rf.row x (by have := h.l60; omega)
end
end Go.Proofs.YtdmamanlclajjaaGreat
