/-
  A *Pool in memory: its box, its blocks, its shelf of fingerprints; the contracts of isNone, place, Len, Room.
-/
import Derived.Test.YtdmamanlclajjaaGreatPMath
namespace Go.Proofs.YtdmamanlclajjaaGreat
open Go.ChangeShapes Go.WideShapes Go.ChangeAt Go.RowKit

def key (q : Bl) : It := (pr q.2.2, q.1)
/-- The shelf bs has just the fingerprints of the blocks L. -/
def Prints (bs : List (List It)) (L : List Bl) : Prop :=
  (∀ (k : Nat) l, bs[k]? = some l → ∀ p : It, p ∈ l ↔ bk bs p.1 = k ∧ p ∈ L.map key) ∧ sum bs = L.length

theorem sum_nil : ∀ n, sum (List.replicate n []) = 0
  | 0 => rfl
  | n + 1 => by rw [List.replicate_succ]; simp [sum, sum_nil n]
theorem sum_mem : ∀ (bs : List (List It)) (l : List It), l ∈ bs → l.length ≤ sum bs
  | [], l, h => by cases h
  | a :: r, l, h => by
    simp only [sum]
    rcases List.mem_cons.1 h with rfl | h
    · omega
    · have := sum_mem r l h; omega
theorem prints_nil (n : Nat) : Prints (List.replicate n []) [] :=
  ⟨fun k l hl p => by
    have := List.eq_of_mem_replicate (List.mem_of_getElem? hl)
    subst this
    simp, sum_nil n⟩
theorem Prints.congr {bs : List (List It)} {L M : List Bl} (h : Prints bs L) (hk : M.map key = L.map key) : Prints bs M :=
  ⟨fun k l hl p => by rw [hk]; exact h.1 k l hl p, by rw [h.2]; have := congrArg List.length hk; simpa using this.symm⟩
theorem bk_set (bs : List (List It)) (k : Nat) (m : List It) (x : Int) : bk (bs.set k m) x = bk bs x := by simp [bk]
theorem map_insAt (L : List Bl) (g : Nat) (q : Bl) (a : It) : a ∈ (insAt L g q).map key ↔ a = key q ∨ a ∈ L.map key := by
  simp only [List.mem_map]
  constructor
  · rintro ⟨r, hr, rfl⟩
    rcases mem_insAt.1 hr with rfl | hr
    · exact .inl rfl
    · exact .inr ⟨r, hr, rfl⟩
  · rintro (rfl | ⟨r, hr, rfl⟩)
    · exact ⟨q, mem_insAt.2 (.inl rfl), rfl⟩
    · exact ⟨r, mem_insAt.2 (.inr hr), rfl⟩
theorem Prints.ins {bs : List (List It)} {L : List Bl} (h : Prints bs L) {q : Bl} {g : Nat} {l : List It} (hg : g ≤ L.length) (hl : bs[bk bs (pr q.2.2)]? = some l) :
    Prints (bs.set (bk bs (pr q.2.2)) (ins l (key q))) (insAt L g q) := by
  refine ⟨fun k m hm p => ?_, ?_⟩
  · rw [bk_set, map_insAt]
    by_cases e : k = bk bs (pr q.2.2)
    · subst e
      rw [List.getElem?_set_self (List.getElem?_eq_some_iff.1 hl).1] at hm
      cases hm
      rw [mem_ins, h.1 _ l hl p]
      constructor
      · rintro (rfl | ⟨h1, h2⟩)
        · exact ⟨rfl, .inl rfl⟩
        · exact ⟨h1, .inr h2⟩
      · rintro ⟨h1, h2 | h2⟩
        · exact .inl h2
        · exact .inr ⟨h1, h2⟩
    · rw [List.getElem?_set_ne (Ne.symm e)] at hm
      rw [h.1 k m hm p]
      constructor
      · rintro ⟨h1, h2⟩; exact ⟨h1, .inr h2⟩
      · rintro ⟨h1, h2 | h2⟩
        · subst h2; exact absurd h1.symm e
        · exact ⟨h1, h2⟩
  · have := sum_set bs _ l (Go.Proofs.YtdmamanlclajjaaGreat.ins l (key q)) hl
    rw [ins_length] at this
    rw [insAt_len hg, ← h.2]
    omega
theorem mem_del {l : List It} {x a : It} (ho : Go.Proofs.YtdmamanlclajjaaGreat.Ord l) (hx : x ∈ l) : a ∈ del l x ↔ a ∈ l ∧ a ≠ x := by
  have h := mem_ins (del l x) x a
  rw [ins_del l x ho hx] at h
  constructor
  · intro k
    refine ⟨del_sub l x a k, ?_⟩
    rintro rfl
    exact not_mem_del l a ho hx k
  · rintro ⟨k, n⟩
    exact (h.1 k).resolve_left n
theorem mem_cutAt {L : List Bl} {i : Nat} {q : Bl} (ho : B.Ord L) (hq : L[i]? = some q) (a : Bl) : a ∈ L.take i ++ L.drop (i + 1) ↔ a ∈ L ∧ a ≠ q := by
  obtain ⟨hi, hqe⟩ := List.getElem?_eq_some_iff.1 hq
  have e : L = L.take i ++ q :: L.drop (i + 1) := by
    rw [← hqe, List.getElem_cons_drop, List.take_append_drop]
  constructor
  · intro h
    refine ⟨by rw [e]; rcases List.mem_append.1 h with h | h <;> simp [h], ?_⟩
    rintro rfl
    rcases List.mem_append.1 h with h | h
    · obtain ⟨j, hj⟩ := List.mem_iff_getElem?.1 h
      rw [List.getElem?_take] at hj
      split at hj
      · rename_i hlt
        have := B.ord_at L j i _ _ ho hlt hj hq
        omega
      · cases hj
    · obtain ⟨j, hj⟩ := List.mem_iff_getElem?.1 h
      rw [List.getElem?_drop] at hj
      have := B.ord_at L i (i + 1 + j) _ _ ho (by omega) hq hj
      omega
  · rintro ⟨h, n⟩
    rw [e] at h
    simp only [List.mem_append, List.mem_cons] at h ⊢
    rcases h with h | h | h
    · exact .inl h
    · exact absurd h n
    · exact .inr h
theorem Prints.del {bs : List (List It)} {L : List Bl} (h : Prints bs L) (ho : B.Ord L) {q : Bl} {i : Nat} {l : List It} (hq : L[i]? = some q) (hl : bs[bk bs (pr q.2.2)]? = some l) (hlo : Go.Proofs.YtdmamanlclajjaaGreat.Ord l) :
    key q ∈ l ∧ Prints (bs.set (bk bs (pr q.2.2)) (del l (key q))) (L.take i ++ L.drop (i + 1)) := by
  have hi := (List.getElem?_eq_some_iff.1 hq).1
  have hin : key q ∈ l := (h.1 _ l hl _).2 ⟨rfl, List.mem_map.2 ⟨q, List.mem_of_getElem? hq, rfl⟩⟩
  have hmap : ∀ p, p ∈ (L.take i ++ L.drop (i + 1)).map key ↔ p ∈ L.map key ∧ p ≠ key q := fun p => by
    simp only [List.mem_map]
    constructor
    · rintro ⟨a, ha, rfl⟩
      obtain ⟨h1, h2⟩ := (mem_cutAt ho hq a).1 ha
      refine ⟨⟨a, h1, rfl⟩, fun e => h2 (ord_inj L ho a h1 q (List.mem_of_getElem? hq) (congrArg Prod.snd e))⟩
    · rintro ⟨⟨a, ha, rfl⟩, n⟩
      exact ⟨a, (mem_cutAt ho hq a).2 ⟨ha, fun e => n (by rw [e])⟩, rfl⟩
  refine ⟨hin, fun k m hm p => ?_, ?_⟩
  · rw [bk_set, hmap]
    by_cases e : k = bk bs (pr q.2.2)
    · subst e
      rw [List.getElem?_set_self (List.getElem?_eq_some_iff.1 hl).1] at hm
      cases hm
      rw [mem_del hlo hin, h.1 _ l hl p, and_assoc]
    · rw [List.getElem?_set_ne (Ne.symm e)] at hm
      rw [h.1 k m hm p]
      constructor
      · rintro ⟨h1, h2⟩
        refine ⟨h1, h2, ?_⟩
        rintro rfl
        exact e h1.symm
      · rintro ⟨h1, h2, _⟩; exact ⟨h1, h2⟩
  · have h1 := sum_set bs _ l (Go.Proofs.YtdmamanlclajjaaGreat.del l (key q)) hl
    have h2 := del_length l (key q) (pos_lt hlo hin)
    have h3 := h.2
    simp only [List.length_append, List.length_take, List.length_drop]
    omega

structure PObj (w : World) (F Fs : Nat → Prop) (p s : Nat) (v : Value) (most : Nat) (L : List Bl) (bs : List (List It)) : Prop where
  box : w.heap[p]? = some (.cells #[.int .i64 (most : Int), v, .pointer (some ⟨s, 0, none⟩)] 64 (0, 0))
  fp : F p
  row : B.Buk w 0 v L
  fv : ∀ g, v.ownBlock = some g → F g
  sh : Sh w Fs s bs
  fs : ∀ k, Fs k → F k
  np : ¬ Fs p
  nv : ∀ g, v.ownBlock = some g → ¬ Fs g
  prints : Prints bs L
  inv : Inv most L
/-- A *Pool at block p, in blocks that F names. -/
def Pl (w : World) (F : Nat → Prop) (p most : Nat) (L : List Bl) : Prop := ∃ Fs s v bs, PObj w F Fs p s v most L bs

theorem B.Buk.stay {w w' : World} {b : Nat} {v : Value} {l : List Bl} (h : B.Buk w b v l) (hs : ∀ g, v.ownBlock = some g → w'.heap[g]? = w.heap[g]?) : B.Buk w' b v l := by
  refine ⟨h.1, ?_⟩
  rcases h.2 with h | ⟨g, cap, cur, hv, hb, hg, hr⟩
  · exact .inl h
  · refine .inr ⟨g, cap, cur, hv, hb, ?_, hr⟩
    rw [hs g (by rw [hv]; rfl)]; exact hg
theorem B.Buk.at {w : World} {b : Nat} {v : Value} {l : List Bl} (h : B.Buk w b v l) {g : Nat} (hg : v.ownBlock = some g) : b ≤ g ∧ ∃ cur, w.heap[g]? = some (.cells cur 56 (0, 0)) := by
  rcases h.2 with ⟨h, _⟩ | ⟨g', cap, cur, hv, hb, hgb, _⟩
  · rw [h] at hg; cases hg
  · rw [hv] at hg; cases hg; exact ⟨hb, cur, hgb⟩

theorem PObj.stay {w w' : World} {F Fs : Nat → Prop} {p s most : Nat} {v : Value} {L : List Bl} {bs : List (List It)} (h : PObj w F Fs p s v most L bs) (hk : Keep (fun k => ¬ F k) w w') : PObj w' F Fs p s v most L bs where
  box := by rw [hk.block p (lt_of_block h.box) (fun e => e h.fp)]; exact h.box
  fp := h.fp
  row := h.row.stay fun g hg => by
    obtain ⟨_, cur, hc⟩ := h.row.at hg
    exact hk.block g (lt_of_block hc) (fun e => e (h.fv g hg))
  fv := h.fv
  sh := h.sh.keep hk fun k hf _ e => e (h.fs k hf)
  fs := h.fs
  np := h.np
  nv := h.nv
  prints := h.prints
  inv := h.inv
theorem PObj.below {w w' : World} {F Fs : Nat → Prop} {p s most : Nat} {v : Value} {L : List Bl} {bs : List (List It)} (h : PObj w F Fs p s v most L bs) (hk : Below w.heap.size w w') : PObj w' F Fs p s v most L bs := h.stay (Keep.of hk)
theorem Pl.below {w w' : World} {F : Nat → Prop} {p most : Nat} {L : List Bl} (h : Pl w F p most L) (hk : Below w.heap.size w w') : Pl w' F p most L := by
  obtain ⟨Fs, s, v, bs, h⟩ := h
  exact ⟨Fs, s, v, bs, h.below hk⟩
theorem Pl.mono {w : World} {F G : Nat → Prop} {p most : Nat} {L : List Bl} (h : Pl w F p most L) (hg : ∀ k, F k → G k) : Pl w G p most L := by
  obtain ⟨Fs, s, v, bs, h⟩ := h
  exact ⟨Fs, s, v, bs, { h with fp := hg _ h.fp, fv := fun g e => hg g (h.fv g e), fs := fun k e => hg k (h.fs k e) }⟩
theorem Pl.fit {w : World} {F : Nat → Prop} {p most : Nat} {L : List Bl} (h : Pl w F p most L) : Pl w (fun k => F k ∧ k < w.heap.size) p most L := by
  obtain ⟨Fs, s, v, bs, h⟩ := h
  refine ⟨fun k => Fs k ∧ k < w.heap.size, s, v, bs, ⟨h.box, ⟨h.fp, lt_of_block h.box⟩, h.row, fun g e => ?_, h.sh.fit, fun k e => ⟨h.fs k e.1, e.2⟩, fun e => h.np e.1, fun g e e' => h.nv g e e'.1, h.prints, h.inv⟩⟩
  obtain ⟨_, cur, hc⟩ := h.row.at e
  exact ⟨h.fv g e, lt_of_block hc⟩
/-- What is changed elsewhere leaves it. -/
theorem Pl.keep {w w' : World} {F G : Nat → Prop} {p most : Nat} {L : List Bl} (h : Pl w F p most L) (hk : Keep G w w') (hd : ∀ k, k < w.heap.size → F k → ¬ G k) : Pl w' F p most L := by
  obtain ⟨Fs, s, v, bs, h⟩ := h
  exact ⟨Fs, s, v, bs, h.stay (hk.mono fun k hl hg hf => hd k hl hf hg)⟩
theorem Pl.inv {w : World} {F : Nat → Prop} {p most : Nat} {L : List Bl} (h : Pl w F p most L) : Inv most L := by
  obtain ⟨Fs, s, v, bs, h⟩ := h
  exact h.inv

theorem PObj.cells {w : World} {F Fs : Nat → Prop} {p s most : Nat} {v : Value} {L : List Bl} {bs : List (List It)} (h : PObj w F Fs p s v most L bs) :
    w.cell? ⟨p, 0, none⟩ = some (.int .i64 (most : Int)) ∧ w.cell? ⟨p, 1, none⟩ = some v ∧ w.cell? ⟨p, 2, none⟩ = some (.pointer (some ⟨s, 0, none⟩)) := by
  simp [World.cell?, h.box]

theorem pnone_any {w : World} {F Fs : Nat → Prop} {p s most : Nat} {v : Value} {L : List Bl} {bs : List (List It)} (h : PObj w F Fs p s v most L bs) :
    Calls Tryz.prog 27 #[.pointer (some ⟨p, 0, none⟩)] w fun e w' => e = .returned (.bool false) ∧ w' = w := by
  obtain ⟨c0, c1, c2⟩ := h.cells
  clear h
  go_enter Tryz.func27, Tryz.ntmps27
  go_wp2
  go_ret
  exact ⟨rfl, rfl⟩

theorem pplace_any {w : World} {F Fs : Nat → Prop} {p s most : Nat} {v : Value} {L : List Bl} {bs : List (List It)} (h : PObj w F Fs p s v most L bs) (x : Int) :
    Calls Tryz.prog 37 #[.pointer (some ⟨p, 0, none⟩), .int .i64 x] w fun e w' => e = .returned (.tuple #[.int .i64 (B.pos L x : Nat), .bool (B.has L x)]) ∧ Below w.heap.size w w' := by
  obtain ⟨c0, c1, c2⟩ := h.cells
  have hl : L.length ≤ 1000 := by have := h.inv.len; have := h.inv.m60; omega
  have ho := Hid.intro h.inv.ord
  rcases B.buk_cases h.row with ⟨rfl, rfl⟩ | ⟨g, cap, rfl, _, hg, hc⟩
  · clear h
    go_enter Tryz.func37, Tryz.ntmps37
    go_wp2_with fail
    refine (B.search_nil x _).mono ?_; rintro e w1 ⟨rfl, hb⟩
    go_wp2
    go_ret2
    exact ⟨rfl, hb⟩
  · have hs := Hid.intro (B.search_some L x g cap w hl hg (Hid.intro hc) ho)
    clear h hc ho
    go_enter Tryz.func37, Tryz.ntmps37
    go_wp2_with fail
    refine hs.out.mono ?_; rintro e w1 ⟨rfl, hb⟩
    go_wp2
    go_ret2
    exact ⟨rfl, hb⟩

theorem plen_any {w : World} {F : Nat → Prop} {p most : Nat} {L : List Bl} (h : Pl w F p most L) :
    Calls Tryz.prog 21 #[.pointer (some ⟨p, 0, none⟩)] w fun e w' => e = .returned (.int .i64 (L.length : Nat)) ∧ w' = w := by
  obtain ⟨Fs, s, v, bs, h⟩ := h
  obtain ⟨c0, c1, c2⟩ := h.cells
  obtain ⟨a, c, rfl⟩ : ∃ a c, v = .slice a L.length c := by
    rcases B.buk_cases h.row with ⟨rfl, rfl⟩ | ⟨g, cap, rfl, _⟩
    · exact ⟨_, _, rfl⟩
    · exact ⟨_, _, rfl⟩
  clear h
  go_enter Tryz.func21, Tryz.ntmps21
  go_wp2
  go_ret
  exact ⟨rfl, rfl⟩
theorem proom_any {w : World} {F : Nat → Prop} {p most : Nat} {L : List Bl} (h : Pl w F p most L) :
    Calls Tryz.prog 22 #[.pointer (some ⟨p, 0, none⟩)] w fun e w' => e = .returned (.int .i64 ((most - L.length : Nat) : Int)) ∧ Below w.heap.size w w' := by
  obtain ⟨Fs, s, v, bs, h⟩ := h
  obtain ⟨c0, c1, c2⟩ := h.cells
  have h1 := h.inv.len
  have h2 := h.inv.m60
  obtain ⟨a, c, rfl⟩ : ∃ a c, v = .slice a L.length c := by
    rcases B.buk_cases h.row with ⟨rfl, rfl⟩ | ⟨g, cap, rfl, _⟩
    · exact ⟨_, _, rfl⟩
    · exact ⟨_, _, rfl⟩
  have e : ((most - L.length : Nat) : Int) = (most : Int) - (L.length : Int) := by omega
  rw [e]
  clear h e
  generalize L.length = n at *
  go_enter Tryz.func22, Tryz.ntmps22
  go_wp2_with fail
  go_big_region
  all_goals
    go_wp2
    go_ret
    exact ⟨rfl, (Below.refl _ _).drew⟩
end Go.Proofs.YtdmamanlclajjaaGreat
