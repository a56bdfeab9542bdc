/-
  The contract of emulsionbook's grow: each list grown by marks of its own; the lists themselves read as they did.
-/
import Derived.Test.YtgigpohfkppplaaBkIE
namespace Go.Proofs.Ytgigpohfkppplaa.BkI
open Go.ChangeShapes Go.WideShapes Go.ChangeAt Go.RowKit
attribute [local go_sem ↓] Go.wp_at_zero Go.wp_at_succ


structure Grows (wr : World) (K base : Nat) (es : List Ent) (sv wv : Value) (H0 : Nat) (out : Value) (gvs : List Value) (i : Nat) : Prop where
  block : wr.heap[K]? = some (.cells (bookCells sv wv) 47 (0, 0))
  sown : wr.ownsRow base 33 1 sv es.length (es.map (·.1))
  outown : wr.ownsRow H0 33 1 out i gvs
  rows : ∀ (j : Nat) (e : Ent), es[j]? = some e → Row wr e.1 e.2
  owns : ∀ (j : Nat) (e : Ent), es[j]? = some e → i ≤ j → wr.ownsRow base 3 1 e.1 e.2.length (itemsV e.2)
  grown : ∀ (j : Nat) (x : Value), gvs[j]? = some x → (∃ k, k ≤ 1000000 ∧ Row wr x (marks j 0 k)) ∧ ∀ b, x.ownBlock = some b → (∃ cur fz, wr.heap[b]? = some (Obj.cells cur 3 fz)) ∧ (H0 ≤ b ∨ ∃ e, es[j]? = some e ∧ e.1.ownBlock = some b)
  le : H0 ≤ wr.heap.size

/-- What is known of the lists from the start. -/
structure Olds (es : List Ent) (sv : Value) (H0 : Nat) : Prop where
  apart : ∀ (i j : Nat) (e f : Ent) (b : Nat), es[i]? = some e → es[j]? = some f → e.1.ownBlock = some b → f.1.ownBlock = some b → i = j
  old : ∀ (j : Nat) (e : Ent) (b : Nat), es[j]? = some e → e.1.ownBlock = some b → b < H0
  sold : ∀ (b : Nat), sv.ownBlock = some b → b < H0

theorem grows_step {wr wb wc : World} {K base H0 i g cap : Nat} {es : List Ent} {sv wv out gv : Value} {gvs : List Value} {v : Value} {l : List Sp} {n k : Nat} {xs : List Value} (hO : Olds es sv H0) (h : Grows wr K base es sv wv H0 out gvs i)
    (he : es[i]? = some (v, l)) (hsz : wr.heap.size ≤ wb.heap.size) (hfr : ∀ k, k < wr.heap.size → some k ≠ v.ownBlock → wb.heap[k]? = wr.heap[k]?) (hgv : wb.ownsRow base 3 1 gv n xs) (hgr : Row wb gv (marks i 0 k)) (hk : k ≤ 1000000) (hri : Row wb v l)
    (hblk : gv.ownBlock = v.ownBlock ∨ ∃ b, gv.ownBlock = some b ∧ wr.heap.size ≤ b) (hown : wc.ownsRow H0 33 1 (.slice (some ⟨g, 0, none⟩) (i + 1) cap) (i + 1) (gvs ++ [gv])) (hgrow : (wb.alloc (.cells #[gv] 33)).grownBy wc out.ownBlock) :
    Grows wc K base es sv wv H0 (.slice (some ⟨g, 0, none⟩) (i + 1) cap) (gvs ++ [gv]) (i + 1) := by
  have hba : Below wb.heap.size wb (wb.alloc (.cells #[gv] 33)) := (Below.refl _ _).alloc (Nat.le_refl _) _
  have hszb : wb.heap.size ≤ wc.heap.size := Nat.le_trans hba.size hgrow.size
  have hob := fun b hb => own_block h.outown b hb
  have hvown := h.owns i _ he (Nat.le_refl _)
  have hvb := fun b hb => own_block hvown b hb
  have hglen : gvs.length = i := by have := h.outown.1; simpa using this
  -- a block of wb that is not out's
  have B1 : ∀ b, b < wb.heap.size → some b ≠ out.ownBlock → wc.heap[b]? = wb.heap[b]? := fun b hb hne => by
    rw [hgrow.block b (Nat.lt_of_lt_of_le hb hba.size) hne, hba.block b hb]
  have B2 : ∀ b, b < wr.heap.size → some b ≠ out.ownBlock → some b ≠ v.ownBlock → wc.heap[b]? = wr.heap[b]? := fun b hb hne hnv => by
    rw [B1 b (Nat.lt_of_lt_of_le hb hsz) hne, hfr b hb hnv]
  have oldNe : ∀ b, b < H0 → some b ≠ out.ownBlock := fun b hb e => by have := (hob b e.symm).1; omega
  have notV : ∀ (b : Nat) (cur : Array Value) (t : TypeId) (fz : Nat × Nat), wr.heap[b]? = some (Obj.cells cur t fz) → t ≠ 3 → some b ≠ v.ownBlock := fun b cur t fz hb ht e => by
    obtain ⟨_, c2, h2⟩ := hvb b e.symm
    rw [h2] at hb; cases hb; exact ht rfl
  have notO : ∀ (b : Nat) (cur : Array Value) (t : TypeId) (fz : Nat × Nat), wr.heap[b]? = some (Obj.cells cur t fz) → t ≠ 33 → some b ≠ out.ownBlock := fun b cur t fz hb ht e => by
    obtain ⟨_, c2, h2⟩ := hob b e.symm
    rw [h2] at hb; cases hb; exact ht rfl
  refine ⟨?_, ?_, hown, fun j e hj => ?_, fun j e hj hij => ?_, fun j x hj => ?_, Nat.le_trans h.le (Nat.le_trans hsz hszb)⟩
  · rw [B2 K (lt_of_block h.block) (notO K _ _ _ h.block (by decide)) (notV K _ _ _ h.block (by decide))]; exact h.block
  · refine own_ofBlock h.sown fun b hb => ?_
    obtain ⟨_, cur, hg⟩ := own_block h.sown b hb
    exact B2 b (lt_of_block hg) (oldNe b (hO.sold b hb)) (notV b _ _ _ hg (by decide))
  · by_cases hji : j = i
    · subst hji
      rw [he] at hj
      cases hj
      refine hri.ofBlock (fun b hb => ?_) hszb
      have hbl : b < H0 := hO.old j _ b he hb
      exact B1 b (Nat.lt_of_lt_of_le hbl (Nat.le_trans h.le hsz)) (oldNe b hbl)
    · refine (h.rows j e hj).ofBlock (fun b hb => ?_) (Nat.le_trans hsz hszb)
      have hbl : b < H0 := hO.old j _ b hj hb
      exact B2 b (Nat.lt_of_lt_of_le hbl h.le) (oldNe b hbl) (fun e' => hji (hO.apart j i e _ b hj he hb e'.symm))
  · refine own_ofBlock (h.owns j e hj (by omega)) fun b hb => ?_
    have hbl : b < H0 := hO.old j _ b hj hb
    exact B2 b (Nat.lt_of_lt_of_le hbl h.le) (oldNe b hbl) (fun e' => by have := hO.apart j i e _ b hj he hb e'.symm; omega)
  · rcases getElem?_snoc gvs gv j x hj with h1 | ⟨e1, rfl⟩
    · obtain ⟨⟨k', hk', hr⟩, hbk⟩ := h.grown j x h1
      have hjl : j < gvs.length := (List.getElem?_eq_some_iff.1 h1).1
      have same : ∀ b, x.ownBlock = some b → wc.heap[b]? = wr.heap[b]? := fun b hb => by
        obtain ⟨⟨cur, fz, hg⟩, hor⟩ := hbk b hb
        refine B2 b (lt_of_block hg) (notO b _ _ _ hg (by decide)) (fun e' => ?_)
        rcases hor with h2 | ⟨f, hf, hfb⟩
        · have := hO.old i _ b he e'.symm; omega
        · have := hO.apart j i f _ b hf he hfb e'.symm; omega
      refine ⟨⟨k', hk', hr.ofBlock same (Nat.le_trans hsz hszb)⟩, fun b hb => ?_⟩
      obtain ⟨⟨cur, fz, hg⟩, hor⟩ := hbk b hb
      exact ⟨⟨cur, fz, by rw [same b hb]; exact hg⟩, hor⟩
    · rw [hglen] at e1
      subst e1
      have same : ∀ b, x.ownBlock = some b → wc.heap[b]? = wb.heap[b]? := fun b hb => by
        obtain ⟨_, cur, hg⟩ := own_block hgv b hb
        refine B1 b (lt_of_block hg) (fun e' => ?_)
        rcases hblk with h2 | ⟨b', h2, h3⟩
        · rw [hb] at h2
          have := hO.old j _ b he h2.symm
          exact oldNe b this e'
        · rw [hb] at h2; cases h2
          obtain ⟨_, c2, h4⟩ := hob b e'.symm
          have := lt_of_block h4
          omega
      refine ⟨⟨k, hk, hgr.ofBlock same hszb⟩, fun b hb => ?_⟩
      obtain ⟨_, cur, hg⟩ := own_block hgv b hb
      refine ⟨⟨cur, _, by rw [same b hb]; exact hg⟩, ?_⟩
      rcases hblk with h2 | ⟨b', h2, h3⟩
      · exact .inr ⟨_, he, by rw [← h2]; exact hb⟩
      · rw [hb] at h2; cases h2; exact .inl (Nat.le_trans h.le h3)

theorem marks_append (i : Int) (a m : Nat) : marks i 0 (a + m) = marks i 0 a ++ marks i (a : Int) m := by
  unfold marks
  rw [List.range_add, List.map_append, List.map_map]
  congr 1
  apply List.map_congr_left
  intro j _
  simp only [Function.comp]
  congr 1
  push_cast
  omega

structure Inner (wk wr : World) (base : Nat) (v u : Value) (i m0 n : Nat) : Prop where
  own : wk.ownsRow base 3 1 u (m0 + n) (itemsV (marks i 0 (m0 + n)))
  row : Row wk v (marks i 0 m0)
  frame : ∀ k, k < wr.heap.size → some k ≠ v.ownBlock → wk.heap[k]? = wr.heap[k]?
  blk : u.ownBlock = v.ownBlock ∨ ∃ b, u.ownBlock = some b ∧ wr.heap.size ≤ b
  size : wr.heap.size ≤ wk.heap.size

theorem Inner.start {wr : World} {base i m0 : Nat} {v : Value} (hv : wr.ownsRow base 3 1 v m0 (itemsV (marks i 0 m0))) : Inner wr wr base v v i m0 0 :=
  ⟨hv, own_row (by rw [marks_length]; exact hv), fun _ _ _ => rfl, .inl rfl, Nat.le_refl _⟩

theorem Inner.step {wk wr w2 w3 : World} {base i m0 n m g cap : Nat} {v u : Value} (hv : wr.ownsRow base 3 1 v m0 (itemsV (marks i 0 m0))) (h : Inner wk wr base v u i m0 n) (hb : Below wk.heap.size wk w2)
    (hown : w3.ownsRow base 3 1 (.slice (some ⟨g, 0, none⟩) (m0 + n + m) cap) (m0 + n + m) (itemsV (marks i 0 (m0 + n)) ++ itemsV (marks i ((m0 + n : Nat) : Int) m))) (hgrow : w2.grownBy w3 u.ownBlock) (hat : u.ownBlock = some g ∨ g = w2.heap.size)
    (hkeep : ∀ k, u.ownBlock = some k → ∀ j x, (itemsV (marks i 0 (m0 + n)))[j]? = some x → w3.cell? ⟨k, j, none⟩ = some x) :
    Inner w3 wr base v (.slice (some ⟨g, 0, none⟩) (m0 + n + m) cap) i m0 (n + m) := by
  have hsz : wk.heap.size ≤ w3.heap.size := Nat.le_trans hb.size hgrow.size
  refine ⟨?_, ?_, fun k hk hne => ?_, ?_, Nat.le_trans h.size hsz⟩
  · rw [← Nat.add_assoc, marks_append i (m0 + n) m, itemsV_append]; exact hown
  · rcases Nat.eq_zero_or_pos m0 with h0 | h0
    · obtain ⟨a, c, hva⟩ := own_form hv
      subst h0
      exact .inl ⟨⟨a, c, hva⟩, rfl⟩
    · obtain ⟨g0, c0, hva, _, hg0⟩ := hv.form h0
      have hvb : v.ownBlock = some g0 := by rw [hva]; rfl
      rcases h.blk with e | ⟨b, e, hbw⟩
      · rw [hvb] at e
        refine .inr ⟨g0, 0, c0, by rw [hva, marks_length], Nat.lt_of_lt_of_le hg0 (Nat.le_trans h.size hsz), fun x p hp => ?_⟩
        have hx : x < m0 := by have := (List.getElem?_eq_some_iff.1 hp).1; rw [marks_length] at this; exact this
        have hp' : (marks i 0 (m0 + n))[x]? = some p := by
          rw [marks_append, List.getElem?_append_left (by rw [marks_length]; exact hx)]; exact hp
        have q := itemsV_get _ x p hp'
        simp only [Nat.zero_add]
        exact hkeep g0 e _ _ q
      · refine h.row.ofBlock (fun b' hb' => ?_) hsz
        rw [hvb] at hb'; cases hb'
        rw [hgrow.block g0 (by have := h.size; have := hb.size; omega) (fun e' => by rw [e] at e'; cases e'; omega), hb.block g0 (by have := h.size; omega)]
  · have hne2 : some k ≠ u.ownBlock := fun e' => by
      rcases h.blk with e | ⟨b, e, hbw⟩
      · exact hne (by rw [← e]; exact e')
      · rw [e] at e'; cases e'; omega
    rw [hgrow.block k (by have := h.size; have := hb.size; omega) hne2, hb.block k (by have := h.size; omega)]
    exact h.frame k hk hne
  · rcases hat with e | e
    · rcases h.blk with e2 | ⟨b, e2, hbw⟩
      · exact .inl (by rw [← e2, e]; rfl)
      · rw [e] at e2; cases e2; exact .inr ⟨g, rfl, hbw⟩
    · exact .inr ⟨g, rfl, by have := h.size; have := hb.size; omega⟩

/-- out's row stands through a list's growth. -/
theorem inner_out {wr wk : World} {K base H0 i m0 n : Nat} {es : List Ent} {sv wv out v u : Value} {l : List Sp} {gvs : List Value} (hO : Olds es sv H0) (hG : Grows wr K base es sv wv H0 out gvs i) (he : es[i]? = some (v, l)) (h : Inner wk wr base v u i m0 n) : wk.ownsRow H0 33 1 out i gvs :=
  own_ofBlock hG.outown fun b hb => by
    obtain ⟨hb0, cur, hg⟩ := own_block hG.outown b hb
    exact h.frame b (lt_of_block hg) (fun e => by have := hO.old i _ b he e.symm; omega)

def Grew (w w' : World) (K base : Nat) (es : List Ent) (sv wv out : Value) : Prop := ∃ gvs, Grows w' K base es sv wv w.heap.size out gvs es.length ∧ Below base w w'

set_option maxRecDepth 100000 in
theorem grow_own {w : World} {K base : Nat} {es : List Ent} {sv wv : Value} (hk : Pad w K base es sv wv) (hm : Marked es es.length) (hn : es.length ≤ 250) (hl : Short es) (hbK : base ≤ K) :
    Calls Try.prog 49 #[.pointer (some ⟨K, 0, none⟩)] w fun e w' => ∃ out, e = .returned out ∧ Grew w w' K base es sv wv out := by
  obtain ⟨i0, hi0, hz0', hz1', hz2'⟩ := info_parts Try.infoE
  obtain ⟨ti2, hi2, hy0', hy1', hy2'⟩ := info_parts Try.infoL
  obtain ⟨a1, c1, rfl⟩ := own_form hk.sown
  have hKl := lt_of_block hk.block
  have hO : Hid (Olds es (.slice a1 es.length c1) w.heap.size) := Hid.intro ⟨hk.lists.apart, fun j e b hj hb => ((hk.lists.own j e hj).lt b hb).2, fun b hb => (hk.sown.lt b hb).2⟩
  have hk' := Hid.intro hk
  have hl' := Hid.intro hl
  have hm' := Hid.intro hm
  clear hk hl hm
  go_enter Try.func49, Try.ntmps49
  go_wp2_with fail
  go_loopw [3, 4] (fun out iv wr => ∃ (i : Nat) (gvs : List Value), i ≤ es.length ∧ iv = .int .i64 i ∧ Grows wr K base es (.slice a1 es.length c1) wv w.heap.size out gvs i ∧ Below base w wr) (fun _ iv _ => es.length - (intOf iv).toNat)
  case atStart => exact ⟨0, [], Nat.zero_le _, rfl, ⟨hk'.out.block, hk'.out.sown, World.ownsRow_nil _ _ _ _, fun j e hj => own_row (hk'.out.lists.own j e hj), fun j e hj _ => hk'.out.lists.own j e hj, fun j x hj => by simp at hj, Nat.le_refl _⟩, Below.refl _ _⟩
  case round =>
    obtain ⟨i, gvs, hi, rfl, hG, hB⟩ := hrel
    have i0' : (0 : Int) ≤ (i : Int) := Int.natCast_nonneg _
    obtain ⟨cK, _⟩ := book_cell hG.block
    have d4 := cK 2
    simp only [bookCells] at d4
    change wr.cell? ⟨K, 2, none⟩ = some (.slice a1 es.length c1) at d4
    have hG' := Hid.intro hG
    clear cK hG
    by_cases hlt : i < es.length
    · obtain ⟨gs, c1', he1, hgs, hcs⟩ := own_at hG'.out.sown (by omega)
      cases he1
      obtain ⟨⟨v, l⟩, he⟩ : ∃ e, es[i]? = some e := ⟨es[i]'hlt, by simp [hlt]⟩
      have hml : l = marks i 0 l.length := hm'.out i _ he hlt
      have hvo := hG'.out.owns i _ he (Nat.le_refl _)
      simp only at hvo
      obtain ⟨av, cv, hva⟩ := own_form hvo
      subst hva
      have e1 : wr.cell? ⟨gs, i, none⟩ = some (.slice av l.length cv) := by rw [hcs i hlt]; simp [he]
      have i1 : (i : Int) < (es.length : Int) := by omega
      have i2 : (i : Int) ≤ 1000 := by omega
      have hle : l.length ≤ 100000 := hl'.out _ (List.mem_of_getElem? he)
      have he' := Hid.intro he
      have hml' := Hid.intro hml
      have hvo' : Hid (wr.ownsRow base 3 1 (.slice av l.length cv) l.length (itemsV (marks i 0 l.length))) := Hid.intro (by rw [← hml]; exact hvo)
      have hbs : base ≤ wr.heap.size := by have := lt_of_block hG'.out.block; omega
      clear he hml hvo hcs
      generalize l.length = m0 at *
      go_wp2_with fail
      obtain ⟨W0, hW0⟩ : ∃ W0, Hid (wr = W0) := ⟨_, rfl⟩
      have hst : Hid (Inner wr W0 base (.slice av m0 cv) (.slice av m0 cv) i m0 0) := Hid.intro (by rw [← hW0.out]; exact Inner.start hvo'.out)
      have hG0 : Hid (Grows W0 K base es (.slice (some ⟨gs, 0, none⟩) es.length c1) wv w.heap.size u3 gvs i) := Hid.intro (by rw [← hW0.out]; exact hG'.out)
      have hvo0 : Hid (W0.ownsRow base 3 1 (.slice av m0 cv) m0 (itemsV (marks i 0 m0))) := Hid.intro (by rw [← hW0.out]; exact hvo'.out)
      clear hG' hvo' hW0 d4 e1
      go_loopw [5, 6] (fun u nv wk => ∃ n : Nat, n ≤ 12 ∧ nv = .int .i64 n ∧ Inner wk W0 base (.slice av m0 cv) u i m0 n ∧ Below base w wk ∧ base ≤ wk.heap.size) (fun _ nv _ => 12 - (intOf nv).toNat)
      case atStart => exact ⟨0, by omega, rfl, hst.out, hB, hbs⟩
      case round =>
        clear hst hB hbs
        obtain ⟨n, hn12, rfl, hI, hB, hbs⟩ := hrel
        have n0 : (0 : Int) ≤ (n : Int) := Int.natCast_nonneg _
        have q0 : (0 : Int) ≤ ((m0 + n : Nat) : Int) := Int.natCast_nonneg _
        have q1 : ((m0 + n : Nat) : Int) ≤ 1000000 := by omega
        obtain ⟨au, cu, hu⟩ := own_form hI.own
        subst hu
        have hI' := Hid.intro hI
        clear hI
        by_cases hlt12 : n < 12
        · have n1 : (n : Int) < 12 := by omega
          go_wp2_with fail
          refine (bmark_any (i : Int) ((m0 + n : Nat) : Int) 1 _ i0' i2 q0 q1 (by decide)).mono ?_; rintro e w2 ⟨mv, rfl, hmv, hb2⟩
          obtain ⟨gm, cm, rfl, hgmb, hgml⟩ := hmv.form (by decide)
          have hmv3 := Hid.intro hmv
          have hu2 := own_below hI'.out.own hb2
          have hbs2 : base ≤ w2.heap.size := Nat.le_trans hbs hb2.size
          clear hmv
          go_wp2_with (at_builtin; refine wpList_append_keeps _ rfl _ _ 33 rfl base 3 i0 (.int .i64 0) 1 8 Try.underlying33 hi0 hz0' hz1' hz2' rfl (by decide) _ (m0 + n) (itemsV (marks i 0 (m0 + n))) rfl hu2 ⟨gm, 0, none⟩ 1 cm (itemsV (marks i ((m0 + n : Nat) : Int) 1)) rfl (by rw [itemsV_length, marks_length]) (fun j x hx => hmv3.out.cells rfl j x hx) (itemsV_one _) (by decide) (by unfold maxLen; omega) (by omega) (by omega) ?_; intro g3 cap3 w3 hown3 hgrow3 hat3 hkeep3)
          go_roundw
          case rel =>
            refine ⟨n + 1, by omega, by go_num, Inner.step hvo0.out hI'.out hb2 hown3 hgrow3 hat3 hkeep3, (hB.trans (hb2.mono hbs)).grown hgrow3 hbs2 (fun j hj => (hu2.lt j hj).1), Nat.le_trans hbs2 hgrow3.size⟩
          case measure => simp [intOf]; omega
        · have n1 : ¬ (n : Int) < 12 := by omega
          have hn' : n = 12 := by omega
          subst hn'
          go_wp2_with fail
          refine (bmark_any (i : Int) ((m0 + 12 : Nat) : Int) 60 _ i0' i2 q0 q1 (by decide)).mono ?_; rintro e w2 ⟨mv, rfl, hmv, hb2⟩
          obtain ⟨gm, cm, rfl, hgmb, hgml⟩ := hmv.form (by decide)
          have hmv3 := Hid.intro hmv
          have hu2 := own_below hI'.out.own hb2
          have hbs2 : base ≤ w2.heap.size := Nat.le_trans hbs hb2.size
          clear hmv
          go_wp2_with (first
            | (at_builtin; refine wpList_append_keeps _ rfl _ _ 33 rfl base 3 i0 (.int .i64 0) 1 8 Try.underlying33 hi0 hz0' hz1' hz2' rfl (by decide) _ (m0 + 12) (itemsV (marks i 0 (m0 + 12))) rfl hu2 ⟨gm, 0, none⟩ 60 cm (itemsV (marks i ((m0 + 12 : Nat) : Int) 60)) rfl (by rw [itemsV_length, marks_length]) (fun j x hx => hmv3.out.cells rfl j x hx) (itemsV_one _) (by decide) (by unfold maxLen; omega) (by omega) (by omega) ?_; intro g3 cap3 w3 hown3 hgrow3 hat3 hkeep3; have hI3 := Hid.intro (Inner.step hvo0.out hI'.out hb2 hown3 hgrow3 hat3 hkeep3); have hob3 : w3.ownsRow w.heap.size 33 1 u3 i gvs := inner_out hO.out hG0.out he'.out hI3.out; have hB3 : Below base w w3 := (hB.trans (hb2.mono hbs)).grown hgrow3 hbs2 (fun j hj => (hu2.lt j hj).1); have hH3 : w.heap.size ≤ w3.heap.size := Nat.le_trans hG0.out.le hI3.out.size; clear hkeep3 hown3 hgrow3 hat3)
            | (at_builtin; refine wpList_append_lies _ rfl _ _ 40 rfl w.heap.size 33 ti2 (.slice none 0 0) 1 24 Try.underlying40 hi2 hy0' hy1' hy2' rfl (by decide) _ _ _ rfl (hob3.alloc _) ⟨w3.heap.size, 0, none⟩ 1 1 [.slice (some ⟨g3, 0, none⟩) (m0 + 12 + 60) cap3] rfl rfl (World.news_of_block (cs := #[.slice (some ⟨g3, 0, none⟩) (m0 + 12 + 60) cap3]) (t := 33) (fr := (0, 0)) (heap_alloc_new w3 _)) (by simp [Value.oneCell']) (by decide) (by unfold maxLen; omega) (by omega) (by simp; omega) (w3.heap.size + 1) (by simp) ?_; intro g5 cap5 w5 hown5 hgrow5 hat5 hlt5))
          refine ⟨⟨i + 1, gvs ++ [.slice (some ⟨g3, 0, none⟩) (m0 + 12 + 60) cap3], by omega, by go_num, ?_, ?_⟩, by simp [intOf]; omega⟩
          · exact grows_step hO.out hG0.out he'.out hI3.out.size hI3.out.frame hI3.out.own (own_row (ps := marks i 0 (m0 + (12 + 60))) (by rw [marks_length]; exact hI3.out.own)) (by omega) (by rw [hml'.out]; exact hI3.out.row) hI3.out.blk hown5 hgrow5
          · exact app_below hB3 (by omega) hgrow5 (fun j hj => by have := (hob3.lt j hj).1; omega)
    · have i1 : ¬ (i : Int) < (es.length : Int) := by omega
      have hii : i = es.length := by omega
      subst hii
      go_wp2
      go_ret
      exact ⟨_, rfl, gvs, hG'.out, hB⟩
end Go.Proofs.Ytgigpohfkppplaa.BkI
