/-
  The contract of the pool's remove: the block at a place is taken out, and its fingerprint.
-/
import Derived.Test.YtdmamanlclajjaaGreatPIns
namespace Go.Proofs.YtdmamanlclajjaaGreat
open Go.ChangeShapes Go.WideShapes Go.ChangeAt Go.RowKit

theorem del_at {w W : World} {F Fs : Nat → Prop} {p s most : Nat} {v : Value} {L : List Bl} {bs : List (List It)} (h : PMem w F Fs p s v most L bs) (hL : L.length ≤ 60) (i : Nat) (hi : i < L.length) (hB : Below w.heap.size w W) :
    Calls Tryz.prog 68 #[v, .int .i64 (i : Nat), .int .i64 ((i : Int) + 1)] W fun e w' => ∃ a n c, e = .returned (.slice a n c) ∧ Hid (PMem (w'.setCell ⟨p, 1, none⟩ (.slice a n c)) (Fr F W) (fun k => Fs k ∧ k < W.heap.size) p s (.slice a n c) most (L.take i ++ L.drop (i + 1)) bs ∧ Keep F W (w'.setCell ⟨p, 1, none⟩ (.slice a n c))) ∧ (w'.cell? ⟨p, 1, none⟩ = some v ∧ w'.frozen? ⟨p, 1, none⟩ = false) ∧ W.heap.size ≤ w'.heap.size := by
  have h1 := h.below hB
  refine (B.delete_any i h1.row (by omega) hi).mono ?_
  rintro e w' ⟨v', rfl, hp⟩
  have ha := h1.after hp
  obtain ⟨a, n, c, rfl⟩ : ∃ a n c, v' = .slice a n c := by
    rcases B.buk_cases hp.1 with ⟨rfl, _⟩ | ⟨g, cap, rfl, _⟩
    · exact ⟨_, _, _, rfl⟩
    · exact ⟨_, _, _, rfl⟩
  exact ⟨a, n, c, rfl, h1.put hp, by simp [World.cell?, World.frozen?, ha], hp.2.1.size⟩

set_option maxHeartbeats 1000000 in
set_option maxRecDepth 100000 in
theorem premove_fit {w : World} {F Fs : Nat → Prop} {p s most : Nat} {v : Value} {L : List Bl} {bs : List (List It)} (h : PMem w F Fs p s v most L bs) (hP : Prints bs L) (hL : L.length ≤ 60) (ho : B.Ord L) (i : Nat) (q : Bl) (hq : L[i]? = some q)
    (hid : 1 ≤ q.1 ∧ q.1 ≤ 60) (hb : q.2.2.length = 8) (hF : ∀ k, F k → k < w.heap.size) :
    Calls Tryz.prog 31 #[.pointer (some ⟨p, 0, none⟩), .int .i64 (i : Nat)] w fun e w' =>
      e = .returned (.tuple #[]) ∧ ∃ Fs' v' bs', PMem w' (Fr F w) Fs' p s v' most (L.take i ++ L.drop (i + 1)) bs' ∧ Prints bs' (L.take i ++ L.drop (i + 1)) ∧ Keep F w w' := by
  obtain ⟨x, y, z⟩ := q
  simp only at *
  have h' := Hid.intro h
  have hF' := Hid.intro hF
  have hP' := Hid.intro hP
  have hq' := Hid.intro hq
  have ho' := Hid.intro ho
  obtain ⟨c0, c1, c2, z1⟩ := h.cells
  have hpl := lt_of_block h.box
  have hi : i < L.length := (List.getElem?_eq_some_iff.1 hq).1
  rcases B.buk_cases h.row with ⟨_, rfl⟩ | ⟨g, cap, rfl, _, hg, hc⟩
  · simp at hq
  obtain ⟨d0, d1, d2⟩ := hc i _ hq
  simp only at d0 d1 d2
  clear h hF hP hq ho hc
  have hw1 : IntKind.i64.wrap ((i : Int) + 1) = (i : Int) + 1 := by rw [IntKind.wrap_i64]; omega
  go_enter Tryz.func31, Tryz.ntmps31
  go_wp2_with fail
  have hB2 : Below w.heap.size w (w.alloc (.cells #[.int .i64 x, .int .i64 y, .string (str z)] 56)) := (Below.refl _ w).alloc (Nat.le_refl _) _
  have hbx' := Hid.intro (heap_alloc_new w (.cells #[.int .i64 x, .int .i64 y, .string (str z)] 56))
  generalize w.alloc (.cells #[.int .i64 x, .int .i64 y, .string (str z)] 56) = W at hB2 hbx' ⊢
  refine (del_at h'.out hL i hi hB2).mono ?_; rintro e w5 ⟨a5, n5, q5, rfl, h5, ⟨d5, z5⟩, hs5⟩
  have hk5 := h5.out.2
  have hbx5 : (w5.setCell ⟨p, 1, none⟩ (.slice a5 n5 q5)).heap[w.heap.size]? = some (.cells #[.int .i64 x, .int .i64 y, .string (str z)] 56 (0, 0)) := by
    rw [hk5.block w.heap.size (lt_of_block hbx'.out) (fun e => by have := hF'.out _ e; omega)]; exact hbx'.out
  obtain ⟨e0, e1, e2, _⟩ := h5.out.1.cells
  have b0 : (w5.setCell ⟨p, 1, none⟩ (.slice a5 n5 q5)).cell? ⟨w.heap.size, 0, none⟩ = some (.int .i64 x) := by simp [World.cell?, hbx5]
  have b2 : (w5.setCell ⟨p, 1, none⟩ (.slice a5 n5 q5)).cell? ⟨w.heap.size, 2, none⟩ = some (.string (str z)) := by simp [World.cell?, hbx5]
  have hbx5' := Hid.intro hbx5
  have hk5' := Hid.intro hk5
  clear hbx5 hk5 e0 e1
  obtain ⟨W5, hW5⟩ : ∃ W5, W5 = w5.setCell ⟨p, 1, none⟩ (.slice a5 n5 q5) := ⟨_, rfl⟩
  have hW5' := Hid.intro hW5
  rw [← hW5] at h5 e2 b0 b2 hbx5' hk5'
  clear hW5
  obtain ⟨l, hl, hor⟩ := sh_bucket h5.out.1.sh (pr z)
  have hl60 : l.length ≤ 60 := by
    have h1 := sum_mem bs l (List.mem_of_getElem? hl)
    rw [hP'.out.2] at h1
    omega
  obtain ⟨hin, hpin⟩ := hP'.out.del ho'.out hq'.out hl hor
  have hput := Hid.intro (shcut_at (h5.out.1.below (Below.refl _ W5).drew) (pr z) x (pr_fits z x (by omega) (by omega)) hl (by omega) hin w.heap.size (lt_of_block hbx5'.out) (fun e => by have := hF'.out _ (h'.out.fs _ e.1); omega))
  have hpin' := Hid.intro hpin
  have hz : z.length ≤ 1000000 := by omega
  clear hl hin hpin
  go_wp2_with fail
  rw [← hW5'.out]
  go_region_held3 (fun w' => w'.cell? ⟨p, 2, none⟩ = some (.pointer (some ⟨s, 0, none⟩)) ∧ w'.cell? ⟨w.heap.size, 0, none⟩ = some (.int .i64 x) ∧ w'.cell? ⟨w.heap.size, 2, none⟩ = some (.string (str z)))
    (first
      | exact ⟨e2, b0, b2⟩
      | exact ⟨f6, g6.trans b0, i6.trans b2⟩)
    (first
      | (go_at_call 36; refine (of_any z _ hz).mono ?_; rintro e w6 ⟨rfl, rfl⟩)
      | (go_at_call 69; refine hput.out.mono ?_; rintro e w6 ⟨rfl, h6, f6, g6, i6⟩))
  all_goals
    go_wp2
    go_end0
    have s1 := hB2.size
    have s2 := hk5'.out.size
    have s3 : W5.drew.heap.size = W5.heap.size := rfl
    have k1 : Keep F w W5.drew := ((Keep.of hB2).trans (hk5'.out.mono fun k _ hk => .inl hk)).trans (Keep.of (Below.refl _ _).drew)
    refine ⟨rfl, _, _, _, h6.out.1.mono fun k hk => ?_, hpin'.out, k1.trans (h6.out.2.mono fun k _ hk => ?_)⟩
    · rcases hk with (hk | hk) | hk
      · exact .inl hk
      · exact .inr (by omega)
      · exact .inr (by omega)
    · rcases hk with hk | hk
      · exact .inl hk
      · exact .inr (by omega)

theorem premove_any {w : World} {F Fs : Nat → Prop} {p s most : Nat} {v : Value} {L : List Bl} {bs : List (List It)} (h : PMem w F Fs p s v most L bs) (hP : Prints bs L) (hL : L.length ≤ 60) (ho : B.Ord L) (i : Nat) (q : Bl) (hq : L[i]? = some q)
    (hid : 1 ≤ q.1 ∧ q.1 ≤ 60) (hb : q.2.2.length = 8) :
    Calls Tryz.prog 31 #[.pointer (some ⟨p, 0, none⟩), .int .i64 (i : Nat)] w fun e w' =>
      e = .returned (.tuple #[]) ∧ ∃ Fs' v' bs', PMem w' (Fr F w) Fs' p s v' most (L.take i ++ L.drop (i + 1)) bs' ∧ Prints bs' (L.take i ++ L.drop (i + 1)) ∧ Keep F w w' := by
  refine (premove_fit h.fit hP hL ho i q hq hid hb fun k hk => hk.2).mono ?_
  rintro e w' ⟨rfl, Fs', v', bs', h1, h2, h3⟩
  exact ⟨rfl, Fs', v', bs', h1.mono fun k hk => hk.imp And.left id, h2, h3.mono fun k _ hk => hk.1⟩
end Go.Proofs.YtdmamanlclajjaaGreat
