/-
  The contracts of the shelf's isNone, bucket, Put and Cut.
-/
import Derived.Test.YtdmamanlclajjaaGreatObj
namespace Go.Proofs.YtdmamanlclajjaaGreat
open Go.ChangeShapes Go.WideShapes Go.ChangeAt Go.RowKit

theorem none_no {w : World} {b s B : Nat} {vs : List Value} {bs : List (List It)} (h : SObj w b s B vs bs) :
    Calls Tryz.prog 70 #[.pointer (some ⟨s, 0, none⟩)] w fun e w' => e = .returned (.bool false) ∧ w' = w := by
  have hc := h.head
  have hn1 := h.n1
  have hn2 := h.n2
  clear h
  generalize vs.length = n at *
  have hz : ((n : Int) == 0) = false := by simp; omega
  go_enter Tryz.func70, Tryz.ntmps70
  go_wp2
  go_ret
  exact ⟨rfl, rfl⟩

set_option maxRecDepth 100000 in
theorem bucket_any {w : World} {b s B : Nat} {vs : List Value} {bs : List (List It)} (h : SObj w b s B vs bs) (x : Int) (h0 : 0 ≤ x) (hx : x ≤ 4294967295) :
    Calls Tryz.prog 71 #[.pointer (some ⟨s, 0, none⟩), .int .u32 x] w fun e w' => e = .returned (.pointer (some ⟨B, (x % (vs.length : Int)).toNat, none⟩)) ∧ Below w.heap.size w w' := by
  have hc := h.head
  have hn1 := h.n1
  have hn2 := h.n2
  clear h
  generalize vs.length = n at *
  obtain ⟨k, hk⟩ : ∃ k : Nat, x % (n : Int) = (k : Int) := ⟨(x % (n : Int)).toNat, by have := Int.emod_nonneg x (b := (n : Int)) (by omega); omega⟩
  have hkn : k < n := by have := Int.emod_lt_of_pos x (b := (n : Int)) (by omega); omega
  rw [hk]
  have hB := fun w => bucket_yes x (n : Int) h0 hx (by omega) (by omega) w
  rw [hk] at hB
  have hB' := Hid.intro hB
  clear hB hk
  go_enter Tryz.func71, Tryz.ntmps71
  go_wp2_with fail
  go_region_held3 (fun w' => w'.cell? ⟨s, 0, none⟩ = some (.slice (some ⟨B, 0, none⟩) n n) ∧ Below w.heap.size w w')
    (first
      | exact ⟨hc, (Below.refl _ _).drew⟩)
    (first | (go_at_call 94; refine (hB'.out _).mono ?_; rintro e w1 ⟨rfl, rfl⟩))
  all_goals
    go_wp2
    go_ret
    exact ⟨rfl, (Below.refl _ _).drew⟩

theorem SObj.after {w w' : World} {b s B : Nat} {vs : List Value} {bs : List (List It)} (h : SObj w b s B vs bs) {k : Nat} {v v' : Value} {l l' : List It} (hv : vs[k]? = some v) (hl : bs[k]? = some l)
    (hp : Put1 w w' b v v' l') : w'.cell? ⟨B, k, none⟩ = some v ∧ w'.frozen? ⟨B, k, none⟩ = false := by
  have hnB : some B ≠ v.ownBlock := fun e => by
    obtain ⟨_, cur, hc⟩ := (h.buk k v l hv hl).at e.symm
    rw [h.row] at hc; cases hc
  have hrow : w'.heap[B]? = some (.cells vs.toArray 99 (0, 0)) := by rw [hp.2.1.block B (lt_of_block h.row) hnB]; exact h.row
  exact ⟨by simp [World.cell?, hrow, hv], by simp [World.frozen?, hrow]⟩

theorem buk_slice {w : World} {b : Nat} {v : Value} {l : List It} (h : Buk w b v l) : ∃ a n c, v = .slice a n c := by
  rcases buk_cases h with ⟨rfl, _⟩ | ⟨g, cap, rfl, _⟩
  · exact ⟨_, _, _, rfl⟩
  · exact ⟨_, _, _, rfl⟩

/-- A *Shelf, in blocks that F names. -/
def Sh (w : World) (F : Nat → Prop) (s : Nat) (bs : List (List It)) : Prop := F s ∧ ∃ B vs, SObj w 0 s B vs bs ∧ ∀ k, Own B vs k → F k
theorem Sh.below {w w' : World} {F : Nat → Prop} {s : Nat} {bs : List (List It)} (h : Sh w F s bs) (hk : Below w.heap.size w w') : Sh w' F s bs := by
  obtain ⟨f, B, vs, h, hF⟩ := h
  exact ⟨f, B, vs, h.below hk, hF⟩
theorem Sh.mono {w : World} {F G : Nat → Prop} {s : Nat} {bs : List (List It)} (h : Sh w F s bs) (hg : ∀ k, F k → G k) : Sh w G s bs := by
  obtain ⟨f, B, vs, h, hF⟩ := h
  exact ⟨hg _ f, B, vs, h, fun k hk => hg k (hF k hk)⟩
theorem SObj.own_lt {w : World} {b s B : Nat} {vs : List Value} {bs : List (List It)} (h : SObj w b s B vs bs) {k : Nat} (hk : Own B vs k) : k < w.heap.size := by
  rcases hk with rfl | ⟨v, hv, hk⟩
  · exact lt_of_block h.row
  · obtain ⟨i, hi⟩ := List.mem_iff_getElem?.1 hv
    have hil : i < bs.length := by rw [h.len]; exact (List.getElem?_eq_some_iff.1 hi).1
    obtain ⟨_, cur, hc⟩ := (h.buk i v _ hi (List.getElem?_eq_getElem hil)).at hk
    exact lt_of_block hc
theorem Sh.fit {w : World} {F : Nat → Prop} {s : Nat} {bs : List (List It)} (h : Sh w F s bs) : Sh w (fun k => F k ∧ k < w.heap.size) s bs := by
  obtain ⟨f, B, vs, h, hF⟩ := h
  exact ⟨⟨f, lt_of_block h.box⟩, B, vs, h, fun k hk => ⟨hF k hk, h.own_lt hk⟩⟩
/-- What is changed elsewhere leaves it. -/
theorem Sh.keep {w w' : World} {F G : Nat → Prop} {s : Nat} {bs : List (List It)} (h : Sh w F s bs) (hk : Keep G w w') (hd : ∀ k, F k → k < w.heap.size → ¬ G k) : Sh w' F s bs := by
  obtain ⟨f, B, vs, h, hF⟩ := h
  refine ⟨f, B, vs, ?_, hF⟩
  have hst : ∀ k, F k → k < w.heap.size → w'.heap[k]? = w.heap[k]? := fun k hf hl => hk.block k hl (hd k hf hl)
  exact {
    box := by rw [hst s f (lt_of_block h.box)]; exact h.box
    row := by rw [hst B (hF B (.inl rfl)) (lt_of_block h.row)]; exact h.row
    len := h.len
    n1 := h.n1
    n2 := h.n2
    low := h.low
    hb := Nat.zero_le _
    buk := fun k v l hv hl => (h.buk k v l hv hl).stay fun g hg => hst g (hF g (.inr ⟨v, List.mem_of_getElem? hv, hg⟩)) (h.own_lt (.inr ⟨v, List.mem_of_getElem? hv, hg⟩))
    apart := h.apart
    ord := h.ord }
/-- The bucket of x. -/
def bk (bs : List (List It)) (x : Int) : Nat := (x % (bs.length : Int)).toNat

theorem found_yes {l : List It} {p : It} (ho : Ord l) (h : p ∈ l) : decide (l[pos l p]? = some p) = true := by simp [pos_mem l p ho h]
theorem found_no {l : List It} {p : It} (h : p ∉ l) : decide (l[pos l p]? = some p) = false := by simpa using pos_none h

set_option maxHeartbeats 1000000 in
set_option maxRecDepth 100000 in
theorem put_old {w : World} {F : Nat → Prop} {s : Nat} {bs : List (List It)} {l : List It} (h : Sh w F s bs) (x id : Int) (hf : Fits (x, id)) (hl : bs[bk bs x]? = some l) (h3 : l.length ≤ 1000) (hin : (x, id) ∈ l) :
    Calls Tryz.prog 67 #[.pointer (some ⟨s, 0, none⟩), .int .u32 x, .int .i64 id] w fun e w' => e = .returned (.bool false) ∧ Sh w' F s bs ∧ Below w.heap.size w w' := by
  obtain ⟨hFs, B, vs, h, hF⟩ := h
  have hlen := h.len
  obtain ⟨f0, f1, _, _⟩ := hf
  have hk : bk bs x < vs.length := by have := (List.getElem?_eq_some_iff.1 hl).1; omega
  have hbk := bucket_any h x f0 f1
  rw [← hlen] at hbk
  change Calls _ _ _ _ fun e w' => e = .returned (.pointer (some ⟨B, bk bs x, none⟩)) ∧ _ at hbk
  generalize bk bs x = k at *
  have h' := Hid.intro h
  have hbk' := Hid.intro hbk
  have hl' := Hid.intro hl
  clear h hbk hl
  go_enter Tryz.func67, Tryz.ntmps67
  go_wp2_with fail
  refine (none_no h'.out).mono ?_; rintro e w0 ⟨rfl, rfl⟩
  go_wp2_with fail
  refine hbk'.out.mono ?_; rintro e w1 ⟨rfl, hb1⟩
  have h1 := Hid.intro (h'.out.below hb1)
  obtain ⟨v, l', hv, hl2, hbu, hor, hfi, c0, z0⟩ := h1.out.bucket hk
  rw [hl'.out] at hl2; cases hl2
  have hp := place_any (x, id) hbu hor h3
  rw [found_yes hor hin] at hp
  have hp' := Hid.intro hp
  clear hp hbu hor hfi hv
  go_wp2_with fail
  refine hp'.out.mono ?_; rintro e w2 ⟨rfl, hb2⟩
  go_wp2
  go_ret
  exact ⟨rfl, ⟨hFs, B, vs, h1.out.below hb2, hF⟩, below_stp hb1 hb2⟩
end Go.Proofs.YtdmamanlclajjaaGreat
