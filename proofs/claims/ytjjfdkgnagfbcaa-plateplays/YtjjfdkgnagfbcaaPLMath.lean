/-
  What PlateLasts needs of lists and maps: which pages a fall loses, and what they are behind it; a map[int]bool that the call makes.
-/
import Derived.Test.YtjjfdkgnagfbcaaPRots
import Derived.Maps.Own
import Derived.Maps.Views
import Derived.WalkArith
namespace Go.Proofs.Ytjjfdkgnagfbcaa
open Go.ChangeShapes Go.WideShapes Go.ChangeAt Go.RowKit

/-- It is lost: it is wet, and not kept at its place. -/
def Lost (K i : Nat) (r : List Nat) (k : Nat) : Prop := ∃ j, r[j]? = some k ∧ K.testBit (i + j) = false
theorem lost_nil (K i k : Nat) : ¬ Lost K i [] k := by rintro ⟨j, h, _⟩; simp at h
theorem lost_cons (K i a k : Nat) (r : List Nat) : Lost K i (a :: r) k ↔ (k = a ∧ K.testBit i = false) ∨ Lost K (i + 1) r k := by
  constructor
  · rintro ⟨j, h1, h2⟩
    cases j with
    | zero => simp at h1; exact .inl ⟨h1.symm, h2⟩
    | succ j => simp at h1; exact .inr ⟨j, h1, by rw [show i + 1 + j = i + (j + 1) by omega]; exact h2⟩
  · rintro (⟨rfl, h⟩ | ⟨j, h1, h2⟩)
    · exact ⟨0, rfl, h⟩
    · exact ⟨j + 1, by simpa using h1, by rw [show i + (j + 1) = i + 1 + j by omega]; exact h2⟩
theorem lost_mem {K i k : Nat} {r : List Nat} (h : Lost K i r k) : k ∈ r := by obtain ⟨j, h, _⟩ := h; exact List.mem_of_getElem? h
theorem fl_lost (K k : Nat) : ∀ (r : List Nat) (i : Nat) (s : T3), k ∈ (fl K i r s).lost ↔ k ∈ s.lost ∨ Lost K i r k
  | [], i, s => by simp [fl, lost_nil]
  | a :: r, i, s => by
    rw [fl, fl_lost K k r (i + 1), lost_cons]
    unfold stp
    split
    · rename_i h
      simp only [h]
      simp
    · rename_i h
      simp only [Bool.not_eq_true] at h
      simp only [List.mem_append, List.mem_singleton, h]
      simp [or_assoc]
theorem fl_same (K k : Nat) : ∀ (r : List Nat) (i : Nat) (s : T3), k ∉ r → (fl K i r s).L[k]? = s.L[k]? ∧ (fl K i r s).X[k]? = s.X[k]?
  | [], _, _, _ => ⟨rfl, rfl⟩
  | a :: r, i, s, h => by
    have h1 : a ≠ k := fun e => h (by simp [e])
    have h2 : k ∉ r := fun e => h (by simp [e])
    obtain ⟨q1, q2⟩ := fl_same K k r (i + 1) (stp K i a s) h2
    rw [fl, q1, q2]
    unfold stp
    split
    · exact ⟨rfl, by simp only; rw [List.getElem?_set_ne h1]⟩
    · exact ⟨by simp only; rw [List.getElem?_set_ne h1], rfl⟩
theorem fl_L (K k : Nat) : ∀ (r : List Nat) (i : Nat) (s : T3) (n : Nat), r.Nodup → FO n r s → (Lost K i r k → (fl K i r s).L[k]? = s.X[k]?) ∧ (¬ Lost K i r k → (fl K i r s).L[k]? = s.L[k]?)
  | [], i, s, n, _, _ => ⟨fun h => absurd h (lost_nil _ _ _), fun _ => rfl⟩
  | a :: r, i, s, n, hd, hF => by
    obtain ⟨ha, hr⟩ := List.nodup_cons.1 hd
    have han := hF.rest a (by simp)
    by_cases e : k = a
    · subst e
      have hs := (fl_same K k r (i + 1) (stp K i k s) ha).1
      rw [fl, hs, lost_cons]
      have hnl : ¬ Lost K (i + 1) r k := fun h => ha (lost_mem h)
      unfold stp
      cases hb : K.testBit i with
      | true => simp [hnl]
      | false =>
        simp only [Bool.false_eq_true, if_false, true_or, not_true, false_implies, and_true, true_implies]
        rw [List.getElem?_set_self (by rw [hF.lL]; exact han), pgAt_some (by rw [hF.lX]; exact han)]
    · obtain ⟨q1, q2⟩ := fl_L K k r (i + 1) (stp K i a s) n hr hF.step
      rw [fl, lost_cons]
      have hX : (stp K i a s).X[k]? = s.X[k]? := by
        unfold stp; split
        · simp only; rw [List.getElem?_set_ne (Ne.symm e)]
        · rfl
      have hL : (stp K i a s).L[k]? = s.L[k]? := by
        unfold stp; split
        · rfl
        · simp only; rw [List.getElem?_set_ne (Ne.symm e)]
      rw [hX] at q1
      rw [hL] at q2
      refine ⟨fun h => q1 (h.resolve_left fun h => e h.1), fun h => q2 fun h' => h (.inr h')⟩
theorem fl_len (K : Nat) : ∀ (r : List Nat) (i : Nat) (s : T3), (fl K i r s).lost.length ≤ s.lost.length + r.length
  | [], _, _ => Nat.le_refl _
  | a :: r, i, s => by
    have h := fl_len K r (i + 1) (stp K i a s)
    have h2 : (stp K i a s).lost.length ≤ s.lost.length + 1 := by
      unfold stp; split
      · simp
      · simp
    rw [fl, List.length_cons]
    omega
theorem lost_len (M : MS) (K : Nat) : (lostL M K).length ≤ M.L.length := by
  have h := fl_len K (keptL M.W M.L.length) 0 ⟨M.L, M.X, []⟩
  have h2 := keptL_length M.W M.L.length
  simp only [List.length_nil] at h
  show (fl _ _ _ _).lost.length ≤ _
  omega
theorem keptL_nodup (K n : Nat) : (keptL K n).Nodup := List.Nodup.sublist List.filter_sublist List.nodup_range
/-- What a fall makes of a disk. -/
theorem fall_spec {M : MS} (h : Ok M) (l : List Bool) : (∀ (i k : Nat), (keptL M.W M.L.length)[i]? = some k → (k ∈ lostL M (kw l) ↔ l.getD i false = false)) ∧ (∀ k, k ∈ lostL M (kw l) → k ∈ keptL M.W M.L.length) ∧
    (∀ k, k ∈ lostL M (kw l) → pgAt (mFall M (kw l)).L k = pgAt M.X k) ∧ (∀ k, k ∉ lostL M (kw l) → pgAt (mFall M (kw l)).L k = pgAt M.L k) := by
  have key : ∀ k, k ∈ lostL M (kw l) ↔ Lost (kw l) 0 (keptL M.W M.L.length) k := fun k => by
    show k ∈ (fl _ _ _ _).lost ↔ _
    rw [fl_lost]; simp
  have hd := keptL_nodup M.W M.L.length
  have hL := fun k => fl_L (kw l) k (keptL M.W M.L.length) 0 ⟨M.L, M.X, []⟩ M.L.length hd h.start
  refine ⟨fun i k hi => ?_, fun k hk => lost_mem ((key k).1 hk), fun k hk => ?_, fun k hk => ?_⟩
  · rw [key]
    constructor
    · rintro ⟨j, h1, h2⟩
      obtain ⟨hj, e1⟩ := List.getElem?_eq_some_iff.1 h1
      obtain ⟨hi', e2⟩ := List.getElem?_eq_some_iff.1 hi
      have hpw := List.pairwise_iff_getElem.1 hd
      have : i = j := by
        rcases Nat.lt_trichotomy i j with h | h | h
        · exact absurd (e2.trans e1.symm) (hpw i j hi' hj h)
        · exact h
        · exact absurd (e1.trans e2.symm) (hpw j i hj hi' h)
      subst this
      rw [Nat.zero_add, kw_bit] at h2; exact h2
    · intro h2
      exact ⟨i, hi, by rw [Nat.zero_add, kw_bit]; exact h2⟩
  · unfold pgAt; rw [show (mFall M (kw l)).L[k]? = M.X[k]? from (hL k).1 ((key k).1 hk)]
  · unfold pgAt; rw [show (mFall M (kw l)).L[k]? = M.L[k]? from (hL k).2 (fun h' => hk ((key k).2 h'))]

/-! ### A map[int]bool that the call makes -/
def Dm : List Nat → DataW Unit := fun l => l.foldl (fun D (k : Nat) => D.put (.int .i64 (k : Int)) (.lit (.bool true))) (.map [])
theorem Dm_snoc (l : List Nat) (k : Nat) : Dm (l ++ [k]) = (Dm l).put (.int .i64 (k : Int)) (.lit (.bool true)) := by simp [Dm, List.foldl_append]
theorem keyed3 : Maps.Keyed Try.prog 3 := Maps.int_keyed Try.underlying3
theorem key_nat (k : Nat) (hk : k < 64) : keyOf Try.prog 3 (.int .i64 (k : Int)) = some (.int .i64 (k : Int)) := Maps.keyOf_int_mk Try.underlying3 (WalkArith.wf_i64 (by omega))
theorem Dm_fold (j : Nat) : ∀ (l : List Nat) (D : DataW Unit), Maps.IsMap D → (j ∈ l ∨ ∀ z, D.atKey (.int .i64 (j : Int)) z = .lit (.bool true)) → ∀ z, (l.foldl (fun D (k : Nat) => D.put (.int .i64 (k : Int)) (.lit (.bool true))) D).atKey (.int .i64 (j : Int)) z = .lit (.bool true)
  | [], D, _, h, z => by
    rcases h with h | h
    · simp at h
    · exact h z
  | k :: l, D, hD, h, z => by
    rw [List.foldl_cons]
    refine Dm_fold j l _ (hD.put _ _) ?_ z
    by_cases e : j = k
    · subst e
      exact .inr fun z => Maps.atKey_put_same hD (by simp [WideAt.IsKeyLit]) _ _
    · rcases h with h | h
      · left; simpa [e] using h
      · right
        intro z
        rw [Maps.atKey_put_other (fun h => e (by simp at h; omega))]
        exact h z
theorem Dm_at (l : List Nat) (j : Nat) (hj : j ∈ l) (z : DataW Unit) : (Dm l).atKey (.int .i64 (j : Int)) z = .lit (.bool true) := Dm_fold j l _ Maps.isMap_empty (.inl hj) z
theorem Dm_fold_not (j : Nat) (z : DataW Unit) : ∀ (l : List Nat) (D : DataW Unit), j ∉ l → (l.foldl (fun D (k : Nat) => D.put (.int .i64 (k : Int)) (.lit (.bool true))) D).atKey (.int .i64 (j : Int)) z = D.atKey (.int .i64 (j : Int)) z
  | [], _, _ => rfl
  | k :: l, D, h => by
    have e : j ≠ k := fun e => h (by simp [e])
    rw [List.foldl_cons, Dm_fold_not j z l _ (fun h' => h (by simp [h'])), Maps.atKey_put_other (fun h => e (by simp at h; omega))]
theorem Dm_not (l : List Nat) (j : Nat) (hj : j ∉ l) (z : DataW Unit) : (Dm l).atKey (.int .i64 (j : Int)) z = z := by
  unfold Dm
  rw [Dm_fold_not j z l _ hj]
  first | rfl | simp [DataW.atKey]
abbrev OwnM (w : World) (mb n : Nat) (l : List Nat) : Prop := w.ownsMap Try.prog 3 (plainElem Try.prog 4) mb n (Dm l)
theorem Try.info4 : (Try.prog.info? 4).map (fun i => (i.zero, i.size, i.bytes)) = some (some (.bool false), 1, 1) := by kernel_rfl
theorem zero4 (w : World) : (zeroValue 4).run Try.prog w = .ok (.bool false) w := by
  obtain ⟨i, hi, hz0, hz1, hz2⟩ := info_parts Try.info4
  simp [zeroValue, typeInfo, hi, hz0]
theorem look_any {w : World} {mb n : Nat} {l : List Nat} (h : OwnM w mb n l) (j : Nat) (h64 : j < 64) : (Instr.lookup 49 (.map (some mb)) (.int .i64 (j : Int)) false).run Try.prog w = .ok (.bool (decide (j ∈ l))) w := by
  obtain ⟨v, ps, hr, hv⟩ := World.ownsMap.lookup h keyed3 Try.underlying49 (zero4 w) (plainElem_bool Try.underlying4 false) (key_nat j h64)
  have : v = .bool (decide (j ∈ l)) := by
    by_cases hj : j ∈ l
    · rw [Dm_at l j hj] at hv
      rw [decide_eq_true hj]
      unfold plainElem at hv
      rw [Try.underlying4] at hv
      cases v <;> simp at hv
      rw [hv.1]
    · rw [Dm_not l j hj] at hv
      rw [decide_eq_false hj]
      unfold plainElem at hv
      rw [Try.underlying4] at hv
      cases v <;> simp at hv
      rw [hv.1]
  rw [hr, this]
theorem put_run {w : World} {mb n : Nat} {l : List Nat} (h : OwnM w mb n l) (k : Nat) (h64 : k < 64) (hn : n ≤ 64) : ∃ w', (Instr.mapUpdate 49 (.map (some mb)) (.int .i64 (k : Int)) (.bool true)).run Try.prog w = .ok () w' ∧ OwnM w' mb (n + 1) (l ++ [k]) ∧ w.grownBy w' (some mb) := by
  obtain ⟨w', hr, ho, hg⟩ := World.ownsMap.update h keyed3 Try.underlying49 (by unfold maxLen; omega) (key_nat k h64) (plainElem_bool Try.underlying4 true)
  exact ⟨w', hr, by unfold OwnM; rw [Dm_snoc]; exact ho, hg⟩
theorem made_map (w : World) : OwnM (w.alloc (.map #[] 0)) w.heap.size 0 [] := World.ownsMap_made w Try.prog 3 _
theorem OwnM.keep {w w' : World} {mb n : Nat} {l : List Nat} (h : OwnM w mb n l) (e : w'.heap[mb]? = w.heap[mb]?) : OwnM w' mb n l := by
  obtain ⟨es, clock, h1, h2⟩ := h
  exact ⟨es, clock, e.trans h1, h2⟩
theorem OwnM.below {w w' : World} {mb n : Nat} {l : List Nat} (h : OwnM w mb n l) (hb : Below w.heap.size w w') : OwnM w' mb n l := h.keep (hb.block mb (World.ownsMap.lt h))
theorem ne_map {w : World} {mb n k : Nat} {l : List Nat} (h : OwnM w mb n l) {cur : Array Value} {t : TypeId} {fz : Nat × Nat} (hk : w.heap[k]? = some (.cells cur t fz)) : k ≠ mb := by
  rintro rfl
  obtain ⟨es, clock, h1, _⟩ := h
  rw [h1] at hk; cases hk

/-- What the law has in memory behind the fall. -/
structure LB (w0 w : World) (p gl gf bf bn : Nat) (M : MS) (L0 L2 : List (List UInt8)) (u vw : Value) (lost wet : List Nat) : Prop where
  po : PO w p gl gf M
  sf : SA w bf L0
  sn : SA w bn L2
  ou : w.ownsRow 0 3 1 u lost.length (intsV lost)
  ow : w.ownsRow 0 3 1 vw wet.length (intsV wet)
  be : Below w0.heap.size w0 w
theorem LB.stay {w0 w w' : World} {p gl gf bf bn : Nat} {M : MS} {L0 L2 : List (List UInt8)} {u vw : Value} {lost wet : List Nat} (h : LB w0 w p gl gf bf bn M L0 L2 u vw lost wet) (hb : Below w0.heap.size w w')
    (hs : ∀ (k : Nat) (cur : Array Value) (t : TypeId) (fz : Nat × Nat), w.heap[k]? = some (Obj.cells cur t fz) → w'.heap[k]? = w.heap[k]?) : LB w0 w' p gl gf bf bn M L0 L2 u vw lost wet := by
  have hown : ∀ {n : Nat} {v : Value} {xs : List Value}, w.ownsRow 0 3 1 v n xs → w'.ownsRow 0 3 1 v n xs := fun {n v xs} ho => by
    refine ⟨ho.1, ?_⟩
    rcases ho.2 with h2 | ⟨g, cap, cur, hv, hg, hh, r⟩
    · exact .inl h2
    · exact .inr ⟨g, cap, cur, hv, hg, by rw [hs g _ _ _ hh]; exact hh, r⟩
  refine ⟨h.po.stay fun k hk => ?_, h.sf.keep (hs _ _ _ _ h.sf), h.sn.keep (hs _ _ _ _ h.sn), hown h.ou, hown h.ow, h.be.trans hb⟩
  obtain ⟨vl, vf, g1, g2, g3⟩ := h.po.mem
  rcases hk with rfl | rfl | rfl
  · exact hs _ _ _ _ g1
  · obtain ⟨_, _, _, _, q⟩ := g2.blk; exact hs _ _ _ _ q
  · obtain ⟨_, _, _, _, q⟩ := g3.blk; exact hs _ _ _ _ q
theorem LB.below {w0 w w' : World} {p gl gf bf bn : Nat} {M : MS} {L0 L2 : List (List UInt8)} {u vw : Value} {lost wet : List Nat} (h : LB w0 w p gl gf bf bn M L0 L2 u vw lost wet) (hb : Below w.heap.size w w') : LB w0 w' p gl gf bf bn M L0 L2 u vw lost wet :=
  h.stay (hb.mono h.be.size) fun k _ _ _ hk => hb.block k (lt_of_block hk)
theorem LB.map {w0 w w' : World} {p gl gf bf bn mb n : Nat} {M : MS} {L0 L2 : List (List UInt8)} {u vw : Value} {lost wet l : List Nat} (h : LB w0 w p gl gf bf bn M L0 L2 u vw lost wet) (hm : OwnM w mb n l) (h0 : w0.heap.size ≤ mb) (hg : w.grownBy w' (some mb)) : LB w0 w' p gl gf bf bn M L0 L2 u vw lost wet :=
  h.stay ((Below.refl _ _).grown hg h.be.size (fun k hk => by cases hk; exact h0)) fun k _ _ _ hk => hg.block k (lt_of_block hk) (fun e => ne_map hm hk (by simpa using e))
end Go.Proofs.Ytjjfdkgnagfbcaa
