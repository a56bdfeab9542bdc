/-
  The contract of emulsionbook's Ints: one more list is kept.
-/
import Derived.Test.YtgigpohfkppplaaBkIA
namespace Go.Proofs.Ytgigpohfkppplaa.BkI
open Go.ChangeShapes Go.WideShapes Go.ChangeAt Go.RowKit
attribute [local go_sem ↓] Go.wp_at_zero Go.wp_at_succ


theorem own_form {w : World} {base : Nat} {e : TypeId} {size : Nat} {v : Value} {n : Nat} {xs : List Value} (h : w.ownsRow base e size v n xs) : ∃ a c, v = .slice a n c := by
  rcases h.2 with ⟨rfl, rfl⟩ | ⟨g, cap, cur, hv, _⟩
  · exact ⟨_, _, rfl⟩
  · exact ⟨_, _, hv⟩

theorem set_book {w : World} {K : Nat} {sv wv u : Value} (h : w.heap[K]? = some (.cells (bookCells sv wv) 47 (0, 0))) :
    (w.setCell ⟨K, 2, none⟩ u).heap[K]? = some (.cells (bookCells u wv) 47 (0, 0)) ∧ (w.setCell ⟨K, 3, none⟩ u).heap[K]? = some (.cells (bookCells sv u) 47 (0, 0)) := by
  constructor <;> simp [World.setCell, Array.getElem?_modify, h, bookCells]

/-- The first half: b.spans has one more. -/
structure Half (w : World) (K base : Nat) (es : List Ent) (v : Value) (sv wv : Value) (cs : List Value) (N : Nat) : Prop where
  block : w.heap[K]? = some (.cells (bookCells sv wv) 47 (0, 0))
  sown : w.ownsRow base 33 1 sv (es.length + 1) (es.map (·.1) ++ [v])
  wown : w.ownsRow base 33 1 wv es.length cs
  sep : ∀ (b : Nat), sv.ownBlock = some b → wv.ownBlock ≠ some b
  top : ∀ (b : Nat), sv.ownBlock = some b → b < N

theorem half_of {w w5 : World} {K base : Nat} {es : List Ent} {sv wv v : Value} {cs : List Value} {g cap : Nat} (h : Shelf w K base es sv wv cs)
    (hown : w5.ownsRow base 33 1 (.slice (some ⟨g, 0, none⟩) (es.length + 1) cap) (es.length + 1) (es.map (·.1) ++ [v])) (hgrow : (w.alloc (.cells #[v] 33)).grownBy w5 sv.ownBlock) (hat : sv.ownBlock = some g ∨ g = w.heap.size + 1) :
    Half (w5.setCell ⟨K, 2, none⟩ (.slice (some ⟨g, 0, none⟩) (es.length + 1) cap)) K base es v (.slice (some ⟨g, 0, none⟩) (es.length + 1) cap) wv cs (w5.setCell ⟨K, 2, none⟩ (.slice (some ⟨g, 0, none⟩) (es.length + 1) cap)).heap.size ∧
    Stay TN w (w5.setCell ⟨K, 2, none⟩ (.slice (some ⟨g, 0, none⟩) (es.length + 1) cap)) ∧ w5.heap[K]? = some (.cells (bookCells sv wv) 47 (0, 0)) := by
  have hK := lt_of_block h.block
  have hba : Below w.heap.size w (w.alloc (.cells #[v] 33)) := (Below.refl _ _).alloc (Nat.le_refl _) _
  have hsb := fun b hb => own_block h.sown b hb
  have hKne : some K ≠ sv.ownBlock := fun e => by obtain ⟨_, cur, hg⟩ := hsb K e.symm; rw [h.block] at hg; cases hg
  have hsz : (w.alloc (.cells #[v] 33)).heap.size = w.heap.size + 1 := by simp
  have hK5 : w5.heap[K]? = some (.cells (bookCells sv wv) 47 (0, 0)) := by
    rw [hgrow.block K (by omega) hKne, hba.block K hK]; exact h.block
  have hw5 : w5.ownsRow base 33 1 wv es.length cs := by
    have h1 := (own_stay (T := fun _ => True) h.wown (Stay.of hba) trivial)
    refine h1.kept hgrow ?_
    cases hw : wv.ownBlock with
    | none => exact .inl rfl
    | some b => exact .inr fun e => h.sep b e.symm hw
  have hK60 : (w5.setCell ⟨K, 2, none⟩ (.slice (some ⟨g, 0, none⟩) (es.length + 1) cap)).heap.size = w5.heap.size := by simp
  have hst : Stay (fun e => e ≠ 47) w5 (w5.setCell ⟨K, 2, none⟩ (.slice (some ⟨g, 0, none⟩) (es.length + 1) cap)) := (Stay.of (Below.refl _ _)).setCell 2 _ hK5 (by simp)
  refine ⟨⟨(set_book hK5).1, own_stay hown hst (by decide), own_stay hw5 hst (by decide), fun b hb => ?_, fun b hb => ?_⟩, ?_, hK5⟩
  · cases hb
    rcases hat with e | e
    · exact h.sep g e
    · intro hw
      obtain ⟨_, cur, hg⟩ := own_block h.wown g hw
      have := lt_of_block hg
      omega
  · rw [hK60]; exact (hown.lt b hb).2
  · refine ((Stay.of hba).trans (Stay.grown hgrow fun b hb => ?_)).trans (hst.mono fun e he => he.2)
    obtain ⟨_, cur, hg⟩ := hsb b hb
    exact ⟨cur, 33, (0, 0), by rw [hba.block b (lt_of_block hg)]; exact hg, notTN22⟩

theorem getElem?_snoc {α : Type} (l : List α) (x : α) (i : Nat) (e : α) (h : (l ++ [x])[i]? = some e) : l[i]? = some e ∨ (i = l.length ∧ e = x) := by
  rw [List.getElem?_append] at h
  split at h
  · exact .inl h
  · rename_i hlt
    have hi : i - l.length = 0 := by
      rcases Nat.eq_zero_or_pos (i - l.length) with h0 | h0
      · exact h0
      · rw [List.getElem?_eq_none (by simp; omega)] at h; cases h
    rw [hi] at h
    simp at h
    exact .inr ⟨by omega, h.symm⟩

/-- The lists with one more. -/
theorem own_more {w : World} {base : Nat} {es : List Ent} {v : Value} {l : List Sp} (h : Own w base es) (hv : w.ownsRow base 3 1 v l.length (itemsV l)) (hfresh : ∀ e ∈ es, ∀ b, e.1.ownBlock = some b → v.ownBlock ≠ some b) : Own w base (es ++ [(v, l)]) := by
  refine ⟨fun i e he => ?_, fun i j e f b he hf hb hc => ?_⟩
  · rcases getElem?_snoc es (v, l) i e he with h1 | ⟨_, rfl⟩
    · exact h.own i e h1
    · exact hv
  · rcases getElem?_snoc es (v, l) i e he with h1 | ⟨e1, rfl⟩ <;> rcases getElem?_snoc es (v, l) j f hf with h2 | ⟨e2, rfl⟩
    · exact h.apart i j e f b h1 h2 hb hc
    · exact absurd hc (hfresh e (List.mem_of_getElem? h1) b hb)
    · exact absurd hb (hfresh f (List.mem_of_getElem? h2) b hc)
    · omega

theorem second_of {w w6 w7 w9 : World} {K base : Nat} {es : List Ent} {sv0 sv wv0 wv v cv : Value} {l : List Sp} {cs cs0 : List Value} {g cap : Nat} {G : Nat → Prop} (h0 : Shelf w K base es sv0 wv0 cs) (hfoot : Foot G K es sv0 wv0 cs) (hGn : ∀ b, w.heap.size ≤ b → G b) (hGv : ∀ b, v.ownBlock = some b → G b) (hGs : ∀ b, sv.ownBlock = some b → G b) (hwv : ∀ b, wv.ownBlock = some b → G b) (hfresh : ∀ e ∈ es, ∀ b, e.1.ownBlock = some b → v.ownBlock ≠ some b)
    (hv : w.ownsRow base 3 1 v l.length (itemsV l)) (hSt : Stay TN w w6) (h : Half w6 K base es v sv wv cs w6.heap.size) (hcs : cs0 = cs) (hb7 : Below w6.heap.size w6 w7) (hcv : w7.ownsRow w6.heap.size 3 1 cv l.length (itemsV l))
    (hown : w9.ownsRow base 33 1 (.slice (some ⟨g, 0, none⟩) (es.length + 1) cap) (es.length + 1) (cs ++ [cv])) (hgrow : (w7.alloc (.cells #[cv] 33)).grownBy w9 wv.ownBlock) (hat : wv.ownBlock = some g ∨ g = w7.heap.size + 1) (hB : Below base w w6) (hbK : base ≤ K) :
    w9.heap[K]? = some (.cells (bookCells sv wv) 47 (0, 0)) ∧ Kept (w9.setCell ⟨K, 3, none⟩ (.slice (some ⟨g, 0, none⟩) (es.length + 1) cap)) G K base (es ++ [(v, l)]) ∧
    Stay TN w (w9.setCell ⟨K, 3, none⟩ (.slice (some ⟨g, 0, none⟩) (es.length + 1) cap)) ∧ Below base w (w9.setCell ⟨K, 3, none⟩ (.slice (some ⟨g, 0, none⟩) (es.length + 1) cap)) := by
  subst hcs
  have hK := lt_of_block h.block
  have hba : Below w7.heap.size w7 (w7.alloc (.cells #[cv] 33)) := (Below.refl _ _).alloc (Nat.le_refl _) _
  have hb8 := below_step hb7 hba
  have hwb := fun b hb => own_block h.wown b hb
  have hKne : some K ≠ wv.ownBlock := fun e => by obtain ⟨_, cur, hg⟩ := hwb K e.symm; rw [h.block] at hg; cases hg
  have hK9 : w9.heap[K]? = some (.cells (bookCells sv wv) 47 (0, 0)) := by
    rw [hgrow.block K (Nat.lt_of_lt_of_le hK hb8.size) hKne, hb8.block K hK]; exact h.block
  have hst : Stay (fun e => e ≠ 47) w9 (w9.setCell ⟨K, 3, none⟩ (.slice (some ⟨g, 0, none⟩) (es.length + 1) cap)) := (Stay.of (Below.refl _ _)).setCell 3 _ hK9 (by simp)
  have hSg : Stay TN (w7.alloc (.cells #[cv] 33)) w9 := Stay.grown hgrow fun b hb => by
    obtain ⟨_, cur, hg⟩ := hwb b hb
    exact ⟨cur, 33, (0, 0), by rw [hb8.block b (lt_of_block hg)]; exact hg, notTN22⟩
  have hS79 : Stay TN w7 (w9.setCell ⟨K, 3, none⟩ (.slice (some ⟨g, 0, none⟩) (es.length + 1) cap)) := ((Stay.of hba).trans hSg).trans (hst.mono fun e he => he.2)
  have hS69 : Stay TN w6 (w9.setCell ⟨K, 3, none⟩ (.slice (some ⟨g, 0, none⟩) (es.length + 1) cap)) := (Stay.of hb7).trans hS79
  have hS9 := hSt.trans hS69
  have hs9 : w9.ownsRow base 33 1 sv (es.length + 1) (es.map (·.1) ++ [v]) := by
    have h1 := (own_stay (T := fun _ => True) h.sown (Stay.of hb8) trivial)
    refine h1.kept hgrow ?_
    cases hw : sv.ownBlock with
    | none => exact .inl rfl
    | some b => exact .inr fun e => h.sep b hw e.symm
  refine ⟨hK9, ⟨sv, _, cs0 ++ [cv], ⟨(set_book hK9).2, by rw [List.length_append, List.map_append]; exact own_stay hs9 hst (by decide), by rw [List.length_append]; exact own_stay hown hst (by decide), fun b hb => ?_, fun i e c he hc => ?_, ?_⟩, ⟨hfoot.gK, hGs, fun b hb => ?_, fun x hx b hb => ?_, fun x hx b hb => ?_⟩⟩, hS9, ?_⟩
  · intro hw
    cases hw
    rcases hat with e | e
    · exact h.sep _ hb e
    · have h1 : g < w6.heap.size := h.top _ hb
      have := hb7.size
      omega
  · have hlen : cs0.length = es.length := by have := h.wown.1; simpa using this
    rcases getElem?_snoc es (v, l) i e he with h1 | ⟨e1, rfl⟩
    · rcases getElem?_snoc cs0 cv i c hc with h2 | ⟨e2, _⟩
      · have hcp := h0.copies i e c h1 h2
        exact ⟨hcp.1.stay hcp.2 hS9 TN49, hcp.2.stay hS9 TN49⟩
      · have := (List.getElem?_eq_some_iff.1 h1).1; omega
    · rcases getElem?_snoc cs0 cv i c hc with h2 | ⟨_, rfl⟩
      · have := (List.getElem?_eq_some_iff.1 h2).1; omega
      · have := own_stay hcv hS79 TN49
        exact ⟨own_row this, own_t49 this⟩
  · exact own_more (h0.lists.stay hS9 TN49) (own_stay hv hS9 TN49) hfresh
  · cases hb
    rcases hat with e | e
    · exact hwv _ e
    · exact hGn g (by have := hb7.size; have := hSt.size; omega)
  · rcases List.mem_append.1 hx with hx | hx
    · exact hfoot.ge x hx b hb
    · rw [List.mem_singleton.1 hx] at hb; exact hGv b hb
  · rcases List.mem_append.1 hx with hx | hx
    · exact hfoot.gc x hx b hb
    · rw [List.mem_singleton.1 hx] at hb
      have := (own_block hcv b hb).1
      exact hGn _ (by have := hSt.size; omega)
  · exact (((hB.trans (hb7.mono (Nat.le_trans hbK (Nat.le_of_lt hK)))).trans ((hba.mono (Nat.le_trans (Nat.le_trans hbK (Nat.le_of_lt hK)) hb7.size)))).grown hgrow (by have := hb8.size; omega) (fun j hj => (hwb j hj).1)).setCell hbK _

set_option maxRecDepth 100000 in
theorem book_more {w : World} {G : Nat → Prop} {K base : Nat} {es : List Ent} {v : Value} {l : List Sp} (hk : Kept w G K base es) (hGn : ∀ b, w.heap.size ≤ b → G b) (hGv : ∀ b, v.ownBlock = some b → G b) (hv : w.ownsRow base 3 1 v l.length (itemsV l))
    (hfresh : ∀ e ∈ es, ∀ b, e.1.ownBlock = some b → v.ownBlock ≠ some b) (hn : es.length < 250) (hl : l.length ≤ 1000000) (hbase : base ≤ K) :
    Calls Try.prog 23 #[.pointer (some ⟨K, 0, none⟩), v] w fun e w' => e = .returned (.tuple #[]) ∧ Kept w' G K base (es ++ [(v, l)]) ∧ Stay TN w w' ∧ Below base w w' := by
  obtain ⟨i0, hi0, hz0', hz1', hz2'⟩ := info_parts Try.infoL
  obtain ⟨sv, wv, cs, hs, hfoot⟩ := hk
  have hfo := Hid.intro hfoot
  have hGn' := Hid.intro hGn
  have hGv' := Hid.intro hGv
  clear hfoot hGn hGv
  obtain ⟨cK, fK⟩ := book_cell hs.block
  have c4 := cK 2
  have f4 := fK 2
  simp only [bookCells] at c4
  change w.cell? ⟨K, 2, none⟩ = some sv at c4
  obtain ⟨a1, c1, rfl⟩ := own_form hs.sown
  obtain ⟨a2, c2, rfl⟩ := own_form hs.wown
  obtain ⟨a3, c3, rfl⟩ := own_form hv
  have hKl := lt_of_block hs.block
  have hs' := Hid.intro hs
  have hv' := Hid.intro hv
  have hfr := Hid.intro hfresh
  have hsown := hs.sown
  have hn' : ((es.length : Nat) : Int) < 250 := by omega
  clear hs hv hfresh cK fK
  go_enter Try.func23, Try.ntmps23
  go_wp2_with (at_builtin; refine wpList_append_lies _ rfl _ _ 40 rfl base 33 i0 (.slice none 0 0) 1 24 Try.underlying40 hi0 hz0' hz1' hz2' rfl (by decide) _ _ _ rfl (hsown.alloc _) ⟨w.heap.size, 0, none⟩ 1 1 [.slice a3 l.length c3] rfl rfl (World.news_of_block (cs := #[.slice a3 l.length c3]) (t := 33) (fr := (0, 0)) (heap_alloc_new w _)) (by simp [Value.oneCell']) (by decide) (by unfold maxLen; omega) (by omega) (by simp; omega) (w.heap.size + 1) (by simp) ?_; intro g5 cap5 w5 hown5 hgrow5 hat5 hlt5; have hh := Hid.intro (half_of hs'.out hown5 hgrow5 hat5); have hGs := Hid.intro (show ∀ b, (Value.slice (some ⟨g5, 0, none⟩) (es.length + 1) cap5).ownBlock = some b → G b from fun b hb => by cases hb; exact hat5.elim (fun e => hfo.out.gs _ e) (fun e => hGn'.out g5 (by omega))); obtain ⟨k5, kf5⟩ := book_cell hh.out.2.2; have k54 := k5 2; have f54 := kf5 2; simp only [bookCells] at k54; change w5.cell? ⟨K, 2, none⟩ = some (.slice a1 es.length c1) at k54; clear k5 kf5)
  obtain ⟨hH, hSt, _⟩ := hh.out
  have hB6 : Below base w (w5.setCell ⟨K, 2, none⟩ (.slice (some ⟨g5, 0, none⟩) (es.length + 1) cap5)) :=
    (((Below.refl base w).alloc (by omega) _).grown hgrow5 (by simp; omega) (fun j hj => (hsown.lt j hj).1)).setCell hbase _
  have hv6 := Hid.intro (own_stay hv'.out hSt TN49)
  have hH' := Hid.intro hH
  have hSt' := Hid.intro hSt
  obtain ⟨k6, kf6⟩ := book_cell hH.block
  have q5 := k6 3
  have qf5 := kf6 3
  simp only [bookCells] at q5
  change (w5.setCell ⟨K, 2, none⟩ (.slice (some ⟨g5, 0, none⟩) (es.length + 1) cap5)).cell? ⟨K, 3, none⟩ = some (.slice a2 es.length c2) at q5
  have hK6 := lt_of_block hH.block
  clear k6 kf6 hH hSt hh hown5 hgrow5 hat5 hlt5 k54 f54 c4 f4 hsown
  generalize hsv5 : Value.slice (some ⟨g5, 0, none⟩) (es.length + 1) cap5 = sv5 at *
  generalize w5.setCell ⟨K, 2, none⟩ sv5 = w6 at *
  clear hsv5
  have hb67 : Below w6.heap.size w6 w6.drew := below_drw
  go_region_law (first
    | (refine step_append_lies _ (by rfl) _ _ 40 (by rfl) base 33 i0 (.slice none 0 0) 1 24 Try.underlying40 hi0 hz0' hz1' hz2' rfl (by decide) (.slice a2 es.length c2) es.length cs (by rfl) (hw7.alloc _) ⟨w7.heap.size, 0, none⟩ 1 1 [.slice a7 l.length c7] (by rfl) (by rfl) (World.news_of_block (cs := #[.slice a7 l.length c7]) (t := 33) (fr := (0, 0)) (heap_alloc_new w7 _)) (by simp [Value.oneCell']) (by decide) (by unfold maxLen; omega) (by omega) (by simp; omega) (w7.heap.size + 1) (by simp) ?_; intro g9 cap9 w9 hown9 hgrow9 hat9 hlt9; have hF := Hid.intro (second_of hs'.out hfo.out hGn'.out hGv'.out hGs.out hfo.out.gw hfr.out hv'.out hSt'.out hH'.out rfl (below_drew hb7) hcv hown9 hgrow9 hat9 hB6 hbase); obtain ⟨k9, kf9⟩ := book_cell hF.out.1; have q9 := k9 3; have qf9 := kf9 3; simp only [bookCells] at q9; change w9.cell? ⟨K, 3, none⟩ = some (.slice a2 es.length c2) at q9; clear k9 kf9)
    | (go_simp; refine (copy_rows (ps := l) ?_ hl).mono ?_; exact (own_row hv6.out).below hb67; rintro e w7 ⟨cv, rfl, hcv, hb7⟩; obtain ⟨a7, c7, rfl⟩ := own_form hcv; have q7 : w7.cell? ⟨K, 3, none⟩ = some (.slice a2 es.length c2) := (by rw [(below_drew hb7).cell (p := ⟨K, 3, none⟩) hK6]; exact q5); have qf7 : w7.frozen? ⟨K, 3, none⟩ = false := (by rw [(below_drew hb7).frozen (p := ⟨K, 3, none⟩) hK6]; exact qf5); have hw7 : w7.ownsRow base 33 1 (.slice a2 es.length c2) es.length cs := own_stay (T := fun _ => True) hH'.out.wown (Stay.of (below_drew hb7)) trivial; have hz7 : w6.heap.size ≤ w7.heap.size := (below_drew hb7).size; have hK7 : K < w7.heap.size := (by omega)))
  all_goals
    go_wp2
    go_end0
    exact ⟨rfl, hF.out.2.1, hF.out.2.2.1, hF.out.2.2.2⟩
end Go.Proofs.Ytgigpohfkppplaa.BkI
