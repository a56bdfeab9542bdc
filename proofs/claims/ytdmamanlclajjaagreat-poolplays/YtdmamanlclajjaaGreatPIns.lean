/-
  What stays of a pool when its blocks or its shelf are changed; the contracts of the pool's insert and remove.
-/
import Derived.Test.YtdmamanlclajjaaGreatPGet
namespace Go.Proofs.YtdmamanlclajjaaGreat
open Go.ChangeShapes Go.WideShapes Go.ChangeAt Go.RowKit

/-- A pool's memory, whatever is in it. -/
structure PMem (w : World) (F Fs : Nat → Prop) (p s : Nat) (v : Value) (most : Nat) (L : List Bl) (bs : List (List It)) : Prop where
  box : w.heap[p]? = some (.cells #[.int .i64 (most : Int), v, .pointer (some ⟨s, 0, none⟩)] 64 (0, 0))
  fp : F p
  row : B.Buk w 0 v L
  fv : ∀ g, v.ownBlock = some g → F g
  sh : Sh w Fs s bs
  fs : ∀ k, Fs k → F k
  np : ¬ Fs p
  nv : ∀ g, v.ownBlock = some g → ¬ Fs g
theorem PObj.mem {w : World} {F Fs : Nat → Prop} {p s most : Nat} {v : Value} {L : List Bl} {bs : List (List It)} (h : PObj w F Fs p s v most L bs) : PMem w F Fs p s v most L bs :=
  ⟨h.box, h.fp, h.row, h.fv, h.sh, h.fs, h.np, h.nv⟩
theorem PMem.obj {w : World} {F Fs : Nat → Prop} {p s most : Nat} {v : Value} {L : List Bl} {bs : List (List It)} (h : PMem w F Fs p s v most L bs) (h1 : Prints bs L) (h2 : Inv most L) : PObj w F Fs p s v most L bs :=
  ⟨h.box, h.fp, h.row, h.fv, h.sh, h.fs, h.np, h.nv, h1, h2⟩
theorem PMem.stay {w w' : World} {F Fs : Nat → Prop} {p s most : Nat} {v : Value} {L : List Bl} {bs : List (List It)} (h : PMem w F Fs p s v most L bs) (hk : Keep (fun k => ¬ F k) w w') : PMem w' F Fs p s v most L bs where
  box := by rw [hk.block p (lt_of_block h.box) (fun e => e h.fp)]; exact h.box
  fp := h.fp
  row := h.row.stay fun g hg => by
    obtain ⟨_, cur, hc⟩ := h.row.at hg
    exact hk.block g (lt_of_block hc) (fun e => e (h.fv g hg))
  fv := h.fv
  sh := h.sh.keep hk fun k hf _ e => e (h.fs k hf)
  fs := h.fs
  np := h.np
  nv := h.nv
theorem PMem.below {w w' : World} {F Fs : Nat → Prop} {p s most : Nat} {v : Value} {L : List Bl} {bs : List (List It)} (h : PMem w F Fs p s v most L bs) (hk : Below w.heap.size w w') : PMem w' F Fs p s v most L bs := h.stay (Keep.of hk)
theorem PMem.cells {w : World} {F Fs : Nat → Prop} {p s most : Nat} {v : Value} {L : List Bl} {bs : List (List It)} (h : PMem w F Fs p s v most L bs) :
    w.cell? ⟨p, 0, none⟩ = some (.int .i64 (most : Int)) ∧ w.cell? ⟨p, 1, none⟩ = some v ∧ w.cell? ⟨p, 2, none⟩ = some (.pointer (some ⟨s, 0, none⟩)) ∧ w.frozen? ⟨p, 1, none⟩ = false := by
  simp [World.cell?, World.frozen?, h.box]
theorem PMem.lt {w : World} {F Fs : Nat → Prop} {p s most : Nat} {v : Value} {L : List Bl} {bs : List (List It)} (h : PMem w F Fs p s v most L bs) {g : Nat} (hg : v.ownBlock = some g) : g < w.heap.size ∧ g ≠ p := by
  obtain ⟨_, cur, hc⟩ := h.row.at hg
  refine ⟨lt_of_block hc, ?_⟩
  rintro rfl
  rw [h.box] at hc; cases hc

theorem PMem.mono {w : World} {F G Fs : Nat → Prop} {p s most : Nat} {v : Value} {L : List Bl} {bs : List (List It)} (h : PMem w F Fs p s v most L bs) (hg : ∀ k, F k → G k) : PMem w G Fs p s v most L bs :=
  ⟨h.box, hg _ h.fp, h.row, fun g e => hg g (h.fv g e), h.sh, fun k e => hg k (h.fs k e), h.np, h.nv⟩
theorem PMem.fit {w : World} {F Fs : Nat → Prop} {p s most : Nat} {v : Value} {L : List Bl} {bs : List (List It)} (h : PMem w F Fs p s v most L bs) : PMem w (fun k => F k ∧ k < w.heap.size) (fun k => Fs k ∧ k < w.heap.size) p s v most L bs := by
  refine ⟨h.box, ⟨h.fp, lt_of_block h.box⟩, h.row, fun g e => ?_, h.sh.fit, fun k e => ⟨h.fs k e.1, e.2⟩, fun e => h.np e.1, fun g e e' => h.nv g e e'.1⟩
  exact ⟨h.fv g e, (h.lt e).1⟩

/-- Behind a call that changes the blocks alone. -/
theorem PMem.after {w w1 : World} {F Fs : Nat → Prop} {p s most : Nat} {v v' : Value} {L L' : List Bl} {bs : List (List It)} (h : PMem w F Fs p s v most L bs) (hp : B.Put1 w w1 0 v v' L') :
    w1.heap[p]? = some (.cells #[.int .i64 (most : Int), v, .pointer (some ⟨s, 0, none⟩)] 64 (0, 0)) := by
  rw [hp.2.1.block p (lt_of_block h.box) (fun e => (h.lt e.symm).2 rfl)]; exact h.box
theorem PMem.put {w w1 : World} {F Fs : Nat → Prop} {p s most : Nat} {v v' : Value} {L L' : List Bl} {bs : List (List It)} (h : PMem w F Fs p s v most L bs) (hp : B.Put1 w w1 0 v v' L') :
    PMem (w1.setCell ⟨p, 1, none⟩ v') (Fr F w) (fun k => Fs k ∧ k < w.heap.size) p s v' most L' bs ∧ Keep F w (w1.setCell ⟨p, 1, none⟩ v') := by
  have ha := h.after hp
  obtain ⟨hb', hg, hn⟩ := hp
  have hsize : (w1.setCell ⟨p, 1, none⟩ v').heap.size = w1.heap.size := by simp [World.setCell]
  have hoth : ∀ j, j ≠ p → (w1.setCell ⟨p, 1, none⟩ v').heap[j]? = w1.heap[j]? := fun j hj => Below.heap_setCell w1 ⟨p, 1, none⟩ v' j hj
  have hkeep : Keep F w (w1.setCell ⟨p, 1, none⟩ v') := ⟨hg.os, hg.tape, hg.output, by rw [hsize]; exact hg.size, fun k hk hF => by
    rw [hoth k (fun e => hF (by rw [e]; exact h.fp))]
    exact hg.block k hk fun e => hF (h.fv k e.symm)⟩
  have hkeep2 : Keep (fun k => ¬ (Fs k ∧ k < w.heap.size)) w (w1.setCell ⟨p, 1, none⟩ v') := ⟨hg.os, hg.tape, hg.output, by rw [hsize]; exact hg.size, fun k hk hF => by
    have hF' := (Classical.not_not.1 hF).1
    rw [hoth k (fun e => h.np (by rw [← e]; exact hF'))]
    exact hg.block k hk fun e => h.nv k e.symm hF'⟩
  refine ⟨⟨?_, .inl h.fp, hb'.stay fun g hg' => hoth g ?_, fun g hg' => ?_, h.sh.fit.keep hkeep2 fun k hf _ e => e hf, fun k hk => .inl (h.fs k hk.1), fun e => h.np e.1, fun g hg' e => ?_⟩, hkeep⟩
  · simp [World.setCell, Array.getElem?_modify, ha]
  · obtain ⟨_, cur, hc⟩ := hb'.at hg'
    rintro rfl
    rw [ha] at hc; cases hc
  · rcases hn g hg' with h3 | h3
    · exact .inl (h.fv g h3)
    · exact .inr h3
  · rcases hn g hg' with h3 | h3
    · exact h.nv g h3 e.1
    · have := e.2; omega
/-- Behind a call that changes the shelf alone. -/
theorem PMem.shelf {w w' : World} {F Fs : Nat → Prop} {p s most : Nat} {v : Value} {L : List Bl} {bs bs' : List (List It)} (h : PMem w F Fs p s v most L bs) (hs : Sh w' (Fr Fs w) s bs') (hk : Keep Fs w w') :
    PMem w' (Fr F w) (Fr Fs w) p s v most L bs' ∧ Keep F w w' := by
  refine ⟨⟨?_, .inl h.fp, h.row.stay fun g hg => hk.block g (h.lt hg).1 (h.nv g hg), fun g hg => .inl (h.fv g hg), hs, fun k hk => hk.imp (h.fs k) id, ?_, fun g hg => ?_⟩, hk.mono fun k _ hk => h.fs k hk⟩
  · rw [hk.block p (lt_of_block h.box) h.np]; exact h.box
  · rintro (e | e)
    · exact h.np e
    · have := lt_of_block h.box; omega
  · rintro (e | e)
    · exact h.nv g hg e
    · have := (h.lt hg).1; omega

theorem sh_bucket {w : World} {F : Nat → Prop} {s : Nat} {bs : List (List It)} (h : Sh w F s bs) (x : Int) : ∃ l, bs[bk bs x]? = some l ∧ Ord l := by
  obtain ⟨_, B, vs, h, _⟩ := h
  have h1 := h.n1
  have hl := h.len
  have h2 := Int.emod_lt_of_pos x (b := (bs.length : Int)) (by omega)
  have h3 := Int.emod_nonneg x (b := (bs.length : Int)) (by omega)
  have hk : bk bs x < bs.length := by unfold bk; omega
  exact ⟨_, List.getElem?_eq_getElem hk, (h.ord _ (List.getElem_mem hk)).1⟩

/-- Put at the pool's shelf, where it is not there. -/
theorem shput_at {w : World} {F Fs : Nat → Prop} {p s most : Nat} {v : Value} {L : List Bl} {bs : List (List It)} {l : List It} (h : PMem w F Fs p s v most L bs) (x id : Int) (hf : Fits (x, id)) (hl : bs[bk bs x]? = some l) (h3 : l.length ≤ 1000) (hin : (x, id) ∉ l) (H : Nat) (hH : H < w.heap.size) (hn : ¬ Fs H) :
    Calls Tryz.prog 67 #[.pointer (some ⟨s, 0, none⟩), .int .u32 x, .int .i64 id] w fun e w' => e = .returned (.bool true) ∧ Hid (PMem w' (Fr F w) (Fr Fs w) p s v most L (bs.set (bk bs x) (ins l (x, id))) ∧ Keep F w w') ∧ w'.cell? ⟨p, 2, none⟩ = some (.pointer (some ⟨s, 0, none⟩)) ∧ w'.cell? ⟨H, 0, none⟩ = w.cell? ⟨H, 0, none⟩ ∧ w'.cell? ⟨H, 2, none⟩ = w.cell? ⟨H, 2, none⟩ := by
  refine (put_new h.sh x id hf hl h3 hin).mono ?_
  rintro e w' ⟨rfl, hs, hk⟩
  have hm := h.shelf hs hk
  have hb := hk.block H hH hn
  exact ⟨rfl, hm, hm.1.cells.2.2.1, by simp [World.cell?, hb], by simp [World.cell?, hb]⟩
/-- Cut at the pool's shelf, where it is there. -/
theorem shcut_at {w : World} {F Fs : Nat → Prop} {p s most : Nat} {v : Value} {L : List Bl} {bs : List (List It)} {l : List It} (h : PMem w F Fs p s v most L bs) (x id : Int) (hf : Fits (x, id)) (hl : bs[bk bs x]? = some l) (h3 : l.length ≤ 1000) (hin : (x, id) ∈ l) (H : Nat) (hH : H < w.heap.size) (hn : ¬ Fs H) :
    Calls Tryz.prog 69 #[.pointer (some ⟨s, 0, none⟩), .int .u32 x, .int .i64 id] w fun e w' => e = .returned (.bool true) ∧ Hid (PMem w' (Fr F w) (Fr Fs w) p s v most L (bs.set (bk bs x) (del l (x, id))) ∧ Keep F w w') ∧ w'.cell? ⟨p, 2, none⟩ = some (.pointer (some ⟨s, 0, none⟩)) ∧ w'.cell? ⟨H, 0, none⟩ = w.cell? ⟨H, 0, none⟩ ∧ w'.cell? ⟨H, 2, none⟩ = w.cell? ⟨H, 2, none⟩ := by
  refine (cut_yes h.sh x id hf hl h3 hin).mono ?_
  rintro e w' ⟨rfl, hs, hk⟩
  have hm := h.shelf hs hk
  have hb := hk.block H hH hn
  exact ⟨rfl, hm, hm.1.cells.2.2.1, by simp [World.cell?, hb], by simp [World.cell?, hb]⟩

theorem ins_at {w W : World} {F Fs : Nat → Prop} {p s most vb : Nat} {v : Value} {L : List Bl} {bs : List (List It)} (h : PMem w F Fs p s v most L bs) (hL : L.length ≤ 60) (i : Nat) (hi : i ≤ L.length) (q : Bl)
    (hB : Below w.heap.size w W) (hv : W.heap[vb]? = some (.cells #[.int .i64 q.1, .int .i64 q.2.1, .string (str q.2.2)] 56 (0, 0))) (hvb : w.heap.size ≤ vb) :
    Calls Tryz.prog 66 #[v, .int .i64 (i : Nat), .slice (some ⟨vb, 0, none⟩) 1 1] W fun e w' => ∃ a n c, e = .returned (.slice a n c) ∧ Hid (PMem (w'.setCell ⟨p, 1, none⟩ (.slice a n c)) (Fr F W) (fun k => Fs k ∧ k < W.heap.size) p s (.slice a n c) most (insAt L i q) bs ∧ Keep F W (w'.setCell ⟨p, 1, none⟩ (.slice a n c))) ∧ (w'.cell? ⟨p, 1, none⟩ = some v ∧ w'.frozen? ⟨p, 1, none⟩ = false) ∧ W.heap.size ≤ w'.heap.size := by
  have h1 := h.below hB
  refine (B.insert_any q i vb h1.row (Nat.zero_le _) (by omega) hi hv (fun e => by have := (h.lt e).1; omega)).mono ?_
  rintro e w' ⟨v', rfl, hp⟩
  have ha := h1.after hp
  obtain ⟨a, n, c, rfl⟩ : ∃ a n c, v' = .slice a n c := by
    rcases B.buk_cases hp.1 with ⟨rfl, _⟩ | ⟨g, cap, rfl, _⟩
    · exact ⟨_, _, _, rfl⟩
    · exact ⟨_, _, _, rfl⟩
  exact ⟨a, n, c, rfl, h1.put hp, by simp [World.cell?, World.frozen?, ha], hp.2.1.size⟩

set_option maxHeartbeats 1000000 in
set_option maxRecDepth 100000 in
theorem pinsert_fit {w : World} {F Fs : Nat → Prop} {p s most : Nat} {v : Value} {L : List Bl} {bs : List (List It)} (h : PMem w F Fs p s v most L bs) (hP : Prints bs L) (hL : L.length ≤ 60) (i : Nat) (hi : i ≤ L.length) (q : Bl)
    (hid : 1 ≤ q.1 ∧ q.1 ≤ 60) (hb : q.2.2.length = 8) (hno : ∀ r ∈ L, r.1 ≠ q.1) (hF : ∀ k, F k → k < w.heap.size) :
    Calls Tryz.prog 29 #[.pointer (some ⟨p, 0, none⟩), .int .i64 (i : Nat), .agg #[.int .i64 q.1, .int .i64 q.2.1, .string (str q.2.2)]] w fun e w' =>
      e = .returned (.tuple #[]) ∧ ∃ Fs' v' bs', PMem w' (Fr F w) Fs' p s v' most (insAt L i q) bs' ∧ Prints bs' (insAt L i q) ∧ Keep F w w' := by
  obtain ⟨x, y, z⟩ := q
  simp only at *
  have h' := Hid.intro h
  have hno' := Hid.intro hno
  have hF' := Hid.intro hF
  have hP' := Hid.intro hP
  obtain ⟨c0, c1, c2, z1⟩ := h.cells
  have hpl := lt_of_block h.box
  have hB2 : Below w.heap.size w ((w.alloc (.cells #[.int .i64 x, .int .i64 y, .string (str z)] 56)).alloc (.cells #[.int .i64 x, .int .i64 y, .string (str z)] 56)).drew := (((Below.refl _ w).alloc (Nat.le_refl _) _).alloc (by simp) _).drew
  have hv2 : ((w.alloc (.cells #[.int .i64 x, .int .i64 y, .string (str z)] 56)).alloc (.cells #[.int .i64 x, .int .i64 y, .string (str z)] 56)).drew.heap[w.heap.size + 1]? = some (.cells #[.int .i64 x, .int .i64 y, .string (str z)] 56 (0, 0)) := by
    have := heap_alloc_new (w.alloc (.cells #[.int .i64 x, .int .i64 y, .string (str z)] 56)) (.cells #[.int .i64 x, .int .i64 y, .string (str z)] 56)
    rw [show (w.alloc (.cells #[.int .i64 x, .int .i64 y, .string (str z)] 56)).heap.size = w.heap.size + 1 by simp] at this
    exact this
  have hins := Hid.intro (ins_at h hL i hi (x, y, z) hB2 hv2 (by omega))
  have hbx : ((w.alloc (.cells #[.int .i64 x, .int .i64 y, .string (str z)] 56)).alloc (.cells #[.int .i64 x, .int .i64 y, .string (str z)] 56)).drew.heap[w.heap.size]? = some (.cells #[.int .i64 x, .int .i64 y, .string (str z)] 56 (0, 0)) := by
    have := heap_alloc_new w (.cells #[.int .i64 x, .int .i64 y, .string (str z)] 56)
    have h2 := ((Below.refl (w.heap.size + 1) (w.alloc (.cells #[.int .i64 x, .int .i64 y, .string (str z)] 56))).alloc (by simp) (.cells #[.int .i64 x, .int .i64 y, .string (str z)] 56)).block w.heap.size (by omega)
    exact h2.trans this
  generalize hW : ((w.alloc (.cells #[.int .i64 x, .int .i64 y, .string (str z)] 56)).alloc (.cells #[.int .i64 x, .int .i64 y, .string (str z)] 56)).drew = W at hins hB2 hbx
  have hW' := Hid.intro hW
  have hbx' := Hid.intro hbx
  clear h hno hW hbx hv2 hF hP
  go_enter Tryz.func29, Tryz.ntmps29
  go_wp2_with fail
  go_region_with (first
    | (go_at_call 66; rw [hW'.out]; refine hins.out.mono ?_; rintro e w5 ⟨a5, n5, q5, rfl, h5, ⟨d5, z5⟩, hs5⟩))
  all_goals
    have hk5 := h5.out.2
    have hbx5 : (w5.setCell ⟨p, 1, none⟩ (.slice a5 n5 q5)).heap[w.heap.size]? = some (.cells #[.int .i64 x, .int .i64 y, .string (str z)] 56 (0, 0)) := by
      rw [hk5.block w.heap.size (lt_of_block hbx'.out) (fun e => by have := hF'.out _ e; omega)]; exact hbx'.out
    obtain ⟨e0, e1, e2, _⟩ := h5.out.1.cells
    have b0 : (w5.setCell ⟨p, 1, none⟩ (.slice a5 n5 q5)).cell? ⟨w.heap.size, 0, none⟩ = some (.int .i64 x) := by simp [World.cell?, hbx5]
    have b2 : (w5.setCell ⟨p, 1, none⟩ (.slice a5 n5 q5)).cell? ⟨w.heap.size, 2, none⟩ = some (.string (str z)) := by simp [World.cell?, hbx5]
    have hbx5' := Hid.intro hbx5
    have hk5' := Hid.intro hk5
    clear hbx5 hk5 e0 e1
    generalize hW5 : w5.setCell ⟨p, 1, none⟩ (.slice a5 n5 q5) = W5 at h5 e2 b0 b2 hbx5' hk5' ⊢
    clear hW5 d5 z5
    obtain ⟨l, hl, hor⟩ := sh_bucket h5.out.1.sh (pr z)
    have hl60 : l.length ≤ 60 := by
      have h1 := sum_mem bs l (List.mem_of_getElem? hl)
      rw [hP'.out.2] at h1
      omega
    have hnin : (pr z, x) ∉ l := fun e => by
      have := ((hP'.out.1 _ l hl _).1 e).2
      obtain ⟨r, hr, he⟩ := List.mem_map.1 this
      exact hno'.out r hr (congrArg Prod.snd he)
    have hput := Hid.intro (shput_at (h5.out.1.below (Below.refl _ W5).drew) (pr z) x (pr_fits z x (by omega) (by omega)) hl (by omega) hnin w.heap.size (lt_of_block hbx5'.out) (fun e => by have := hF'.out _ (h'.out.fs _ e.1); omega))
    have hpin := Hid.intro (hP'.out.ins (q := (x, y, z)) hi hl)
    have hz : z.length ≤ 1000000 := by omega
    clear hl hnin
    go_wp2_with fail
    go_region_held3 (fun w' => w'.cell? ⟨p, 2, none⟩ = some (.pointer (some ⟨s, 0, none⟩)) ∧ w'.cell? ⟨w.heap.size, 0, none⟩ = some (.int .i64 x) ∧ w'.cell? ⟨w.heap.size, 2, none⟩ = some (.string (str z)))
      (first
        | exact ⟨e2, b0, b2⟩
        | exact ⟨f6, g6.trans b0, i6.trans b2⟩)
      (first
        | (go_at_call 36; refine (of_any z _ hz).mono ?_; rintro e w6 ⟨rfl, rfl⟩)
        | (go_at_call 67; refine hput.out.mono ?_; rintro e w6 ⟨rfl, h6, f6, g6, i6⟩))
    all_goals
      go_wp2
      go_end0
      have s1 := hB2.size
      have s2 := hk5'.out.size
      have s3 : W5.drew.heap.size = W5.heap.size := rfl
      have k1 : Keep F w W5.drew := ((Keep.of hB2).trans (hk5'.out.mono fun k _ hk => .inl hk)).trans (Keep.of (Below.refl _ _).drew)
      refine ⟨rfl, _, _, _, h6.out.1.mono fun k hk => ?_, hpin.out, k1.trans (h6.out.2.mono fun k _ hk => ?_)⟩
      · rcases hk with (hk | hk) | hk
        · exact .inl hk
        · exact .inr (by omega)
        · exact .inr (by omega)
      · rcases hk with hk | hk
        · exact .inl hk
        · exact .inr (by omega)

theorem pinsert_any {w : World} {F Fs : Nat → Prop} {p s most : Nat} {v : Value} {L : List Bl} {bs : List (List It)} (h : PMem w F Fs p s v most L bs) (hP : Prints bs L) (hL : L.length ≤ 60) (i : Nat) (hi : i ≤ L.length) (q : Bl)
    (hid : 1 ≤ q.1 ∧ q.1 ≤ 60) (hb : q.2.2.length = 8) (hno : ∀ r ∈ L, r.1 ≠ q.1) :
    Calls Tryz.prog 29 #[.pointer (some ⟨p, 0, none⟩), .int .i64 (i : Nat), .agg #[.int .i64 q.1, .int .i64 q.2.1, .string (str q.2.2)]] w fun e w' =>
      e = .returned (.tuple #[]) ∧ ∃ Fs' v' bs', PMem w' (Fr F w) Fs' p s v' most (insAt L i q) bs' ∧ Prints bs' (insAt L i q) ∧ Keep F w w' := by
  refine (pinsert_fit h.fit hP hL i hi q hid hb hno fun k hk => hk.2).mono ?_
  rintro e w' ⟨rfl, Fs', v', bs', h1, h2, h3⟩
  exact ⟨rfl, Fs', v', bs', h1.mono fun k hk => hk.imp And.left id, h2, h3.mono fun k _ hk => hk.1⟩
end Go.Proofs.YtdmamanlclajjaaGreat
