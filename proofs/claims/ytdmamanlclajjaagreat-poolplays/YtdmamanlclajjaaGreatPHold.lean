/-
  The contracts of the pool's Hold and Drop.
-/
import Derived.Test.YtdmamanlclajjaaGreatPRem
namespace Go.Proofs.YtdmamanlclajjaaGreat
open Go.ChangeShapes Go.WideShapes Go.ChangeAt Go.RowKit

theorem B.itemsV_set : ∀ (L : List Bl) (i : Nat) (q : Bl) (r : Int), L[i]? = some q → B.itemsV (L.set i (q.1, r, q.2.2)) = (B.itemsV L).set (i * 3 + 1) (.int .i64 r)
  | [], i, q, r, h => by simp at h
  | a :: L, 0, q, r, h => by simp at h; subst h; rfl
  | a :: L, i + 1, q, r, h => by
    have ih := B.itemsV_set L i q r (by simpa using h)
    rw [show (i + 1) * 3 + 1 = i * 3 + 1 + 1 + 1 + 1 by omega]
    simp [B.itemsV, ih]
theorem PMem.refs {w : World} {F Fs : Nat → Prop} {p s most g n cap i : Nat} {L : List Bl} {bs : List (List It)} (h : PMem w F Fs p s (.slice (some ⟨g, 0, none⟩) n cap) most L bs) {q : Bl} (hq : L[i]? = some q) (r : Int) :
    PMem (w.setCell ⟨g, i * 3 + 1, none⟩ (.int .i64 r)) F Fs p s (.slice (some ⟨g, 0, none⟩) n cap) most (L.set i (q.1, r, q.2.2)) bs ∧ Keep F w (w.setCell ⟨g, i * 3 + 1, none⟩ (.int .i64 r)) := by
  have hi := (List.getElem?_eq_some_iff.1 hq).1
  have hgF := h.fv g rfl
  have hgS := h.nv g rfl
  have hgp := (h.lt (g := g) rfl).2
  obtain ⟨rfl, _, hlc, hcm, rr, hgb, hr⟩ := B.buk_block h.row
  have hoth : ∀ j, j ≠ g → (w.setCell ⟨g, i * 3 + 1, none⟩ (.int .i64 r)).heap[j]? = w.heap[j]? := fun j hj => Below.heap_setCell w ⟨g, i * 3 + 1, none⟩ _ j hj
  have hsize : (w.setCell ⟨g, i * 3 + 1, none⟩ (.int .i64 r)).heap.size = w.heap.size := by simp [World.setCell]
  have hself : (w.setCell ⟨g, i * 3 + 1, none⟩ (.int .i64 r)).heap[g]? = some (.cells (B.itemsV (L.set i (q.1, r, q.2.2)) ++ rr).toArray 56 (0, 0)) := by
    rw [B.itemsV_set L i q r hq]
    have hl := B.itemsV_length L
    have e : (B.itemsV L).set (i * 3 + 1) (.int .i64 r) ++ rr = (B.itemsV L ++ rr).set (i * 3 + 1) (.int .i64 r) := by rw [List.set_append_left _ _ (by omega)]
    rw [e]
    simp [World.setCell, Array.getElem?_modify, hgb, List.setIfInBounds_toArray]
  have hk : Keep (fun k => k = g) w (w.setCell ⟨g, i * 3 + 1, none⟩ (.int .i64 r)) := ⟨rfl, rfl, rfl, by rw [hsize]; exact Nat.le_refl _, fun k _ hk => hoth k hk⟩
  refine ⟨⟨?_, h.fp, ?_, h.fv, h.sh.keep hk fun k hf _ e => hgS (by rw [← e]; exact hf), h.fs, h.np, h.nv⟩, hk.mono fun k _ e => by rw [e]; exact hgF⟩
  · rw [hoth p (Ne.symm hgp)]; exact h.box
  · have := B.buk_make (w := w.setCell ⟨g, i * 3 + 1, none⟩ (.int .i64 r)) (b := 0) (g := g) (cap := cap) (l := L.set i (q.1, r, q.2.2)) (r := rr) (Nat.zero_le _) (by simpa using hlc) hcm hself (by simpa using hr)
    rw [List.length_set] at this
    exact this

theorem keys_set {L : List Bl} {i : Nat} {q : Bl} (hq : L[i]? = some q) (r : Int) : (L.set i (q.1, r, q.2.2)).map key = L.map key := by
  obtain ⟨hi, hqe⟩ := List.getElem?_eq_some_iff.1 hq
  apply List.ext_getElem?
  intro j
  rw [List.getElem?_map, List.getElem?_map]
  by_cases e : j = i
  · subst e
    rw [List.getElem?_set_self hi, hq]; rfl
  · rw [List.getElem?_set_ne (Ne.symm e)]

theorem ord_keys : ∀ {L M : List Bl}, B.Ord L → M.map key = L.map key → B.Ord M
  | _, [], _, _ => trivial
  | [], a :: M, _, h => by simp at h
  | b :: L, a :: M, ho, h => by
    simp only [List.map_cons, List.cons.injEq] at h
    refine ⟨fun c hc => ?_, ord_keys ho.2 h.2⟩
    have : key c ∈ L.map key := by rw [← h.2]; exact List.mem_map.2 ⟨c, hc, rfl⟩
    obtain ⟨d, hd, he⟩ := List.mem_map.1 this
    have h1 := ho.1 d hd
    have h2 : d.1 = c.1 := congrArg Prod.snd he
    have h3 : a.1 = b.1 := congrArg Prod.snd h.1
    omega

def holdL (L : List Bl) (i n : Int) : List Bl × Int := if i = 0 then (L, 0) else match sel L i with
  | some _ => (bump L i n, 0)
  | none => (L, 2)

set_option maxHeartbeats 1000000 in
set_option maxRecDepth 100000 in
theorem hold_any {w : World} {F : Nat → Prop} {p most : Nat} {L : List Bl} (h : Pl w F p most L) (hR : Few 1000000 L) (x : Int) :
    Calls Tryz.prog 9 #[.pointer (some ⟨p, 0, none⟩), .int .i64 x] w fun e w' => e = .returned (.int .i64 (holdL L x 1).2) ∧ Pl w' F p most (holdL L x 1).1 ∧ Keep F w w' := by
  obtain ⟨Fs, s, v, bs, h⟩ := h
  have hh := held_any h x
  cases hs : sel L x with
  | none =>
    have e1 : ∃ er, heldL L x = (-1, er) ∧ holdL L x 1 = (L, er) := by
      unfold heldL holdL
      split
      · exact ⟨_, rfl, rfl⟩
      · rw [hs]; exact ⟨_, rfl, rfl⟩
    obtain ⟨er, e1, e2⟩ := e1
    rw [e1] at hh
    rw [e2]
    have hh' := Hid.intro hh
    have h' := Hid.intro h
    clear h hs hh e1 e2
    go_enter Tryz.func9, Tryz.ntmps9
    go_wp2_with fail
    refine hh'.out.mono ?_; rintro e w1 ⟨rfl, hb⟩
    go_wp2
    go_ret
    exact ⟨rfl, ⟨Fs, s, v, bs, h'.out.below hb⟩, Keep.of hb⟩
  | some q =>
    have hx : x ≠ 0 := fun e => by rw [e, sel_zero h.inv] at hs; cases hs
    have e1 : heldL L x = (((B.pos L x : Nat) : Int), 0) := by unfold heldL; rw [if_neg hx, hs]
    have hq := pos_sel L x q h.inv.ord hs
    have hqm := (sel_mem L x q hs).1
    have hq1 := (h.inv.ids q hqm).2.2.1
    have hq2 := hR q hqm
    have e2 : holdL L x 1 = (L.set (B.pos L x) (q.1, q.2.1 + 1, q.2.2), 0) := by
      unfold holdL; rw [if_neg hx, hs]
      simp only
      rw [bump_set L x 1 q h.inv.ord hs (by omega)]
    have hinv := bump_inv h.inv x 1
    rw [bump_set L x 1 q h.inv.ord hs (by omega)] at hinv
    rw [e1] at hh
    rw [e2]
    have hh' := Hid.intro hh
    have h' := Hid.intro h
    have hq' := Hid.intro hq
    have hinv' := Hid.intro hinv
    clear h hs hh e1 e2 hq hqm hR hinv
    generalize B.pos L x = i at *
    go_enter Tryz.func9, Tryz.ntmps9
    go_wp2_with fail
    refine hh'.out.mono ?_; rintro e w1 ⟨rfl, hb⟩
    have h1 := Hid.intro (h'.out.below hb)
    obtain ⟨c0, c1, c2⟩ := h1.out.cells
    obtain ⟨g, cap, hv, hi, hL, d0, d1, d2⟩ := h1.out.at hq'.out
    subst hv
    have z1 : w1.frozen? ⟨g, i * 3 + 1, none⟩ = false := by
      obtain ⟨_, cur, hc⟩ := h1.out.row.at (g := g) rfl
      simp [World.frozen?, hc]
    obtain ⟨m1, k1⟩ := h1.out.mem.refs hq'.out (q.2.1 + 1)
    have m1' := Hid.intro m1
    have k1' := Hid.intro k1
    clear m1 k1
    have hw : IntKind.i64.wrap (q.2.1 + 1) = q.2.1 + 1 := by rw [IntKind.wrap_i64]; omega
    go_wp2
    go_ret
    exact ⟨rfl, ⟨Fs, s, _, bs, m1'.out.obj (h'.out.prints.congr (keys_set hq'.out _)) hinv'.out⟩, (Keep.of hb).trans (k1'.out.mono fun k _ hk => .inl hk)⟩

set_option maxHeartbeats 1000000 in
set_option maxRecDepth 100000 in
theorem drop_any {w : World} {F : Nat → Prop} {p most : Nat} {L : List Bl} (h : Pl w F p most L) (hR : Few 1000000 L) (x : Int) :
    Calls Tryz.prog 10 #[.pointer (some ⟨p, 0, none⟩), .int .i64 x] w fun e w' => e = .returned (.int .i64 (holdL L x (-1)).2) ∧ Pl w' (Fr F w) p most (holdL L x (-1)).1 ∧ Keep F w w' := by
  obtain ⟨Fs, s, v, bs, h⟩ := h
  have hh := held_any h x
  cases hs : sel L x with
  | none =>
    have e1 : ∃ er, heldL L x = (-1, er) ∧ holdL L x (-1) = (L, er) := by
      unfold heldL holdL
      split
      · exact ⟨_, rfl, rfl⟩
      · rw [hs]; exact ⟨_, rfl, rfl⟩
    obtain ⟨er, e1, e2⟩ := e1
    rw [e1] at hh
    rw [e2]
    have hh' := Hid.intro hh
    have h' := Hid.intro h
    clear h hs hh e1 e2
    go_enter Tryz.func10, Tryz.ntmps10
    go_wp2_with fail
    refine hh'.out.mono ?_; rintro e w1 ⟨rfl, hb⟩
    go_wp2
    go_ret
    exact ⟨rfl, Pl.mono ⟨Fs, s, v, bs, h'.out.below hb⟩ fun k hk => .inl hk, Keep.of hb⟩
  | some q =>
    have hx : x ≠ 0 := fun e => by rw [e, sel_zero h.inv] at hs; cases hs
    have e1 : heldL L x = (((B.pos L x : Nat) : Int), 0) := by unfold heldL; rw [if_neg hx, hs]
    have hq := pos_sel L x q h.inv.ord hs
    have hqm := (sel_mem L x q hs).1
    have hqi := h.inv.ids q hqm
    have hq1 := hqi.2.2.1
    have hq2 := hR q hqm
    have e2 : holdL L x (-1) = (bump L x (-1), 0) := by
      unfold holdL; rw [if_neg hx, hs]
    have hinv := bump_inv h.inv x (-1)
    rw [e1] at hh
    rw [e2]
    have hh' := Hid.intro hh
    have h' := Hid.intro h
    have hq' := Hid.intro hq
    have hw : IntKind.i64.wrap (q.2.1 - 1) = q.2.1 - 1 := by rw [IntKind.wrap_i64]; omega
    by_cases hlast : q.2.1 = 1
    · have e3 := bump_del L x (-1) q h.inv.ord hs (by omega)
      rw [e3] at hinv ⊢
      have hinv' := Hid.intro hinv
      have hqi' := Hid.intro hqi
      clear h hs hh e1 e2 hq hqm hR hinv e3 hqi
      generalize B.pos L x = i at *
      go_enter Tryz.func10, Tryz.ntmps10
      go_wp2_with fail
      refine hh'.out.mono ?_; rintro e w1 ⟨rfl, hb⟩
      have h1 := Hid.intro (h'.out.below hb)
      obtain ⟨c0, c1, c2⟩ := h1.out.cells
      obtain ⟨g, cap, hv, hi, hL, d0, d1, d2⟩ := h1.out.at hq'.out
      subst hv
      have z1 : w1.frozen? ⟨g, i * 3 + 1, none⟩ = false := by
        obtain ⟨_, cur, hc⟩ := h1.out.row.at (g := g) rfl
        simp [World.frozen?, hc]
      obtain ⟨m1, k1⟩ := h1.out.mem.refs hq'.out 0
      obtain ⟨f0, f1, f2, _⟩ := m1.cells
      have hset : (L.set i (q.1, 0, q.2.2))[i]? = some (q.1, 0, q.2.2) := List.getElem?_set_self hi
      have hrem := premove_any m1 (h'.out.prints.congr (keys_set hq'.out _)) (by simpa using hL) (ord_keys h'.out.inv.ord (keys_set hq'.out 0)) i _ hset ⟨hqi'.out.1, hqi'.out.2.1⟩ hqi'.out.2.2.2.1
      rw [List.take_set, List.drop_set_of_lt (by omega), List.set_eq_of_length_le (by rw [List.length_take]; exact Nat.min_le_left _ _)] at hrem
      have hrem' := Hid.intro hrem
      have k1' := Hid.intro k1
      have sz := m1.lt (g := g) rfl
      have hss : (w1.setCell ⟨g, i * 3 + 1, none⟩ (.int .i64 0)).heap.size = w1.heap.size := by simp [World.setCell]
      have hss' := Hid.intro hss
      clear m1 k1 hset hrem hss
      have hw0 : IntKind.i64.wrap (q.2.1 - 1) = 0 := by rw [hw]; omega
      clear hw
      go_wp2_with fail
      refine hrem'.out.mono ?_; rintro e w2 ⟨rfl, Fs', v', bs', h2, hp2, k2⟩
      go_wp2
      go_ret
      have s1 := hb.size
      have kk : Keep F w (w1.setCell ⟨g, i * 3 + 1, none⟩ (.int .i64 0)) := (Keep.of hb).trans (k1'.out.mono fun k _ hk => .inl hk)
      refine ⟨rfl, ⟨Fs', s, v', bs', (h2.mono fun k hk => ?_).obj hp2 hinv'.out⟩, kk.trans (k2.mono fun k _ hk => .inl hk)⟩
      rcases hk with hk | hk
      · exact .inl hk
      · exact .inr (by rw [hss'.out] at hk; omega)
    · have e3 := bump_set L x (-1) q h.inv.ord hs (by omega)
      rw [e3] at hinv ⊢
      have hinv' := Hid.intro hinv
      clear h hs hh e1 e2 hq hqm hR hinv e3 hqi
      generalize B.pos L x = i at *
      go_enter Tryz.func10, Tryz.ntmps10
      go_wp2_with fail
      refine hh'.out.mono ?_; rintro e w1 ⟨rfl, hb⟩
      have h1 := Hid.intro (h'.out.below hb)
      obtain ⟨c0, c1, c2⟩ := h1.out.cells
      obtain ⟨g, cap, hv, hi, hL, d0, d1, d2⟩ := h1.out.at hq'.out
      subst hv
      have z1 : w1.frozen? ⟨g, i * 3 + 1, none⟩ = false := by
        obtain ⟨_, cur, hc⟩ := h1.out.row.at (g := g) rfl
        simp [World.frozen?, hc]
      obtain ⟨m1, k1⟩ := h1.out.mem.refs hq'.out (q.2.1 - 1)
      obtain ⟨f0, f1, f2, _⟩ := m1.cells
      have m1' := Hid.intro m1
      have k1' := Hid.intro k1
      clear m1 k1
      have hne : ((q.2.1 - 1 : Int) == 0) = false := by simp; omega
      go_wp2
      go_ret
      exact ⟨rfl, Pl.mono ⟨Fs, s, _, bs, m1'.out.obj (h'.out.prints.congr (keys_set hq'.out _)) hinv'.out⟩ fun k hk => .inl hk, (Keep.of hb).trans (k1'.out.mono fun k _ hk => .inl hk)⟩
end Go.Proofs.YtdmamanlclajjaaGreat
