/-
  What StillStays needs of lists and maps.
-/
import Derived.Test.YtnkfgefbiacagaaTwiceWalk
import Derived.Test.YtnkfgefbiacagaaArgOps
import Derived.Maps.Own
import Derived.Maps.Views
import Derived.WalkArith
namespace Go.Proofs.Ytnkfgefbiacagaa
open Go.ChangeShapes Go.WideShapes Go.ChangeAt Go.RowKit

/-- Each block is kept as it was, or is as it was. -/
def Inv (B : Nat) (S0 : List UInt8) (K : Nat) (O : List (List UInt8)) (S : List UInt8) : Prop := ∀ j, j < B → (K.testBit j = true ∧ O[j]? = some (blk S0 j)) ∨ (K.testBit j = false ∧ blk S j = blk S0 j)
theorem Inv.new (B : Nat) (S0 : List UInt8) (O : List (List UInt8)) : Inv B S0 0 O S0 := fun _ _ => .inr ⟨by simp, rfl⟩
theorem Inv.step {B : Nat} {S0 S T : List UInt8} {at_ : Int} {K K' : Nat} {O O' : List (List UInt8)} (h : Inv B S0 K O S) (hB : B ≤ 64) (hR : KRel S (tchW S at_ T) 0 K K' O O') : Inv B S0 K' O' (wrS S at_ T) := by
  intro j hj
  rw [hR.bits j (by omega), hR.old j (by omega)]
  rcases h j hj with ⟨h1, h2⟩ | ⟨h1, h2⟩
  · left; simp [h1, h2]
  · cases ht : tchW S at_ T j with
    | true => left; simp [h1, h2]
    | false => right; exact ⟨by simp [h1], by rw [blk_wr j ht, h2]⟩
theorem Inv.shown {B : Nat} {S0 S : List UInt8} {K j : Nat} {O : List (List UInt8)} (h : Inv B S0 K O S) (hj : j < B) : shown K O S j = blk S0 j := by
  unfold Go.Proofs.Ytnkfgefbiacagaa.shown
  rcases h j hj with ⟨h1, h2⟩ | ⟨h1, h2⟩
  · simp [h1, h2]
  · simp [h1, h2]
theorem keptL_mem {K B j : Nat} : j ∈ keptL K B ↔ j < B ∧ K.testBit j = true := by simp [keptL]
theorem keptL_none {K B : Nat} (h : ∀ j, j < B → K.testBit j = false) : keptL K B = [] := by
  apply List.eq_nil_iff_forall_not_mem.2
  intro j hj
  rw [keptL_mem] at hj
  rw [h j hj.1] at hj
  simp at hj
theorem Inv.kept {B : Nat} {S0 S : List UInt8} {K j : Nat} {O : List (List UInt8)} (h : Inv B S0 K O S) (hl : S.length = B * 8) (hl0 : S0.length = B * 8) (hne : blk S0 j ≠ blk S j) : j ∈ keptL K B := by
  by_cases hj : j < B
  · rcases h j hj with ⟨h1, _⟩ | ⟨_, h2⟩
    · exact keptL_mem.2 ⟨hj, h1⟩
    · exact absurd h2.symm hne
  · refine absurd ?_ hne
    unfold blk
    rw [List.drop_eq_nil_of_le (by omega), List.drop_eq_nil_of_le (by omega)]

/-- The map of these blocks. -/
def Dm : List Nat → DataW Unit := fun l => l.foldl (fun D (k : Nat) => D.put (.int .i64 (k : Int)) (.lit (.bool true))) (.map [])
theorem Dm_snoc (l : List Nat) (k : Nat) : Dm (l ++ [k]) = (Dm l).put (.int .i64 (k : Int)) (.lit (.bool true)) := by simp [Dm, List.foldl_append]
theorem keyed3 : Maps.Keyed Try.prog 3 := Maps.int_keyed Try.underlying3
theorem key_nat (k : Nat) (hk : k < 64) : keyOf Try.prog 3 (.int .i64 (k : Int)) = some (.int .i64 (k : Int)) := Maps.keyOf_int_mk Try.underlying3 (WalkArith.wf_i64 (by omega))
theorem Dm_isMap (l : List Nat) : Maps.IsMap (Dm l) := by
  suffices h : ∀ (l : List Nat) (D : DataW Unit), Maps.IsMap D → Maps.IsMap (l.foldl (fun D (k : Nat) => D.put (.int .i64 (k : Int)) (.lit (.bool true))) D) from h l _ Maps.isMap_empty
  intro l
  induction l with
  | nil => exact fun D h => h
  | cons k l ih => exact fun D h => ih _ (h.put _ _)
theorem Dm_fold (j : Nat) : ∀ (l : List Nat) (D : DataW Unit), Maps.IsMap D → (j ∈ l ∨ ∀ z, D.atKey (.int .i64 (j : Int)) z = .lit (.bool true)) → ∀ z, (l.foldl (fun D (k : Nat) => D.put (.int .i64 (k : Int)) (.lit (.bool true))) D).atKey (.int .i64 (j : Int)) z = .lit (.bool true)
  | [], D, _, h, z => by
    rcases h with h | h
    · simp at h
    · exact h z
  | k :: l, D, hD, h, z => by
    rw [List.foldl_cons]
    refine Dm_fold j l _ (hD.put _ _) ?_ z
    by_cases e : j = k
    · subst e
      exact .inr fun z => Maps.atKey_put_same hD (by simp [WideAt.IsKeyLit]) _ _
    · rcases h with h | h
      · left; simpa [e] using h
      · right
        intro z
        rw [Maps.atKey_put_other (fun h => e (by simp at h; omega))]
        exact h z
theorem Dm_at (l : List Nat) (j : Nat) (hj : j ∈ l) (z : DataW Unit) : (Dm l).atKey (.int .i64 (j : Int)) z = .lit (.bool true) := Dm_fold j l _ Maps.isMap_empty (.inl hj) z
abbrev OwnM (w : World) (mb n : Nat) (l : List Nat) : Prop := w.ownsMap Try.prog 3 (plainElem Try.prog 4) mb n (Dm l)
theorem Try.info4 : (Try.prog.info? 4).map (fun i => (i.zero, i.size, i.bytes)) = some (some (.bool false), 1, 1) := by kernel_rfl
theorem zero4 (w : World) : (zeroValue 4).run Try.prog w = .ok (.bool false) w := by
  obtain ⟨i, hi, hz0, hz1, hz2⟩ := info_parts Try.info4
  simp [zeroValue, typeInfo, hi, hz0]
theorem look_true {w : World} {mb n : Nat} {l : List Nat} (h : OwnM w mb n l) (j : Nat) (hj : j ∈ l) (h64 : j < 64) : (Instr.lookup 37 (.map (some mb)) (.int .i64 (j : Int)) false).run Try.prog w = .ok (.bool true) w := by
  obtain ⟨v, ps, hr, hv⟩ := World.ownsMap.lookup h keyed3 Try.underlying37 (zero4 w) (plainElem_bool Try.underlying4 false) (key_nat j h64)
  rw [Dm_at l j hj] at hv
  have : v = .bool true := by
    unfold plainElem at hv
    rw [Try.underlying4] at hv
    cases v <;> simp at hv
    rw [hv.1]
  rw [hr, this]
theorem put_run {w : World} {mb n : Nat} {l : List Nat} (h : OwnM w mb n l) (k : Nat) (h64 : k < 64) (hn : n ≤ 64) : ∃ w', (Instr.mapUpdate 37 (.map (some mb)) (.int .i64 (k : Int)) (.bool true)).run Try.prog w = .ok () w' ∧ OwnM w' mb (n + 1) (l ++ [k]) ∧ w.grownBy w' (some mb) := by
  obtain ⟨w', hr, ho, hg⟩ := World.ownsMap.update h keyed3 Try.underlying37 (by unfold maxLen; omega) (key_nat k h64) (plainElem_bool Try.underlying4 true)
  exact ⟨w', hr, by unfold OwnM; rw [Dm_snoc]; exact ho, hg⟩
theorem made_run (w : World) : OwnM (w.alloc (.map #[] 0)) w.heap.size 0 [] := World.ownsMap_made w Try.prog 3 _
theorem OwnM.below {w w' : World} {mb n : Nat} {l : List Nat} (h : OwnM w mb n l) (hb : Below w.heap.size w w') : OwnM w' mb n l := by
  have hl := World.ownsMap.lt h
  obtain ⟨es, clock, h1, h2⟩ := h
  exact ⟨es, clock, (hb.block mb hl).trans h1, h2⟩
theorem ne_map {w : World} {mb n k : Nat} {l : List Nat} (h : OwnM w mb n l) {cur : Array Value} {t : TypeId} {fz : Nat × Nat} (hk : w.heap[k]? = some (.cells cur t fz)) : k ≠ mb := by
  rintro rfl
  obtain ⟨es, clock, h1, _⟩ := h
  rw [h1] at hk; cases hk
theorem SObj.map {w w' : World} {s f K G mb n : Nat} {O : List (List UInt8)} {l : List Nat} (h : SObj w s f K G O) (hm : OwnM w mb n l) (hg : w.grownBy w' (some mb)) : SObj w' s f K G O :=
  h.keep (hg.block s h.lt (fun e => ne_map hm h.box (by simpa using e)))
theorem FObj.map {w w' : World} {b g mb n : Nat} {S : List UInt8} {l : List Nat} (h : FObj w b g S) (hm : OwnM w mb n l) (hg : w.grownBy w' (some mb)) : FObj w' b g S := by
  obtain ⟨cap, h1, _⟩ := h.box
  obtain ⟨cur, fz, h2⟩ := h.ty
  exact h.keep (hg.block b h.lt.1 (fun e => ne_map hm h1 (by simpa using e))) (hg.block g h.lt.2.1 (fun e => ne_map hm h2 (by simpa using e)))
theorem own_map {w w' : World} {base : Nat} {e : TypeId} {size n : Nat} {v : Value} {xs : List Value} {mb m : Nat} {l : List Nat} (h : w.ownsRow base e size v n xs) (hm : OwnM w mb m l) (hg : w.grownBy w' (some mb)) : w'.ownsRow base e size v n xs := by
  refine h.kept hg ?_
  rcases h.2 with ⟨rfl, _⟩ | ⟨g, cap, cur, rfl, _, hb, _⟩
  · exact .inl rfl
  · right
    show some g ≠ some mb
    exact fun e => ne_map hm hb (by simpa using e)
theorem own_form {w : World} {base : Nat} {e : TypeId} {size n : Nat} {v : Value} {xs : List Value} (h : w.ownsRow base e size v n xs) : ∃ a c, v = .slice a n c := by
  rcases h.2 with ⟨rfl, rfl⟩ | ⟨g, cap, cur, rfl, _⟩
  · exact ⟨_, _, rfl⟩
  · exact ⟨_, _, rfl⟩
theorem own_at {w : World} {base n c : Nat} {e : TypeId} {size : Nat} {a : Option Addr} {xs : List Value} (h : w.ownsRow base e size (.slice a n c) n xs) (h0 : 0 < n) : ∃ g, a = some ⟨g, 0, none⟩ ∧ g < w.heap.size ∧ ∀ j, j < n * size → w.cell? ⟨g, j, none⟩ = xs[j]? := by
  obtain ⟨g, cap, hv, _, hlt⟩ := h.form h0
  cases hv
  exact ⟨g, rfl, hlt, fun j hj => h.cellAt j hj⟩
theorem own_low {w w' : World} {base : Nat} {e : TypeId} {size n : Nat} {v : Value} {xs : List Value} (h : w.ownsRow base e size v n xs) (hb : Below w.heap.size w w') : w'.ownsRow base e size v n xs :=
  h.kept (row := none) ⟨hb.os, hb.tape, hb.output, hb.size, fun k hk _ => hb.block k hk⟩ (by cases v.ownBlock <;> simp)
end Go.Proofs.Ytnkfgefbiacagaa
