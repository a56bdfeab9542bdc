/-
  The contracts of film's New and Write.
-/
import Derived.Test.YtnkfgefbiacagaaFilmA
namespace Go.Proofs.Ytnkfgefbiacagaa
open Go.ChangeShapes Go.WideShapes Go.ChangeAt Go.RowKit
attribute [local go_sem ↓] Go.wp_at_zero Go.wp_at_succ
attribute [local go_sem] str_size str_extract str_append str_toList

theorem Try.info5 : (Try.prog.info? 5).map (fun i => (i.zero, i.size, i.bytes)) = some (some (.int .u8 0), 1, 1) := by kernel_rfl
theorem zs_get (n j : Nat) (x : UInt8) (h : (List.replicate n (0 : UInt8))[j]? = some x) : j < n ∧ x = 0 := by
  have := List.getElem?_eq_some_iff.1 h
  obtain ⟨h1, h2⟩ := this
  simp at h1 h2
  exact ⟨h1, h2.symm⟩
theorem made_cell (w : World) (n j : Nat) (hj : j < n) : (w.alloc (.cells (madeCells (Value.int .u8 0).cells n) 5)).cell? ⟨w.heap.size, j, none⟩ = some (.int .u8 0) := by
  have h := heap_alloc_new w (.cells (madeCells (Value.int .u8 0).cells n) 5)
  unfold World.cell?
  rw [h]
  simp [madeCells, Value.cells, hj]
  rw [Nat.mod_one]
  rfl
theorem make_bytes (w : World) (n : Nat) (hn : n ≤ 1000) : ∃ w1, (Instr.makeSlice 49 (.int .i64 (n : Int)) (.int .i64 (n : Int))).run Try.prog w = .ok (.slice (some ⟨w.heap.size, 0, none⟩) n n) w1 ∧ w1 = w.alloc (.cells (madeCells (Value.int .u8 0).cells n) 5) := by
  obtain ⟨i0, hi, hz0, hz1, hz2⟩ := info_parts Try.info5
  have hr := run_make (P := Try.prog) w 49 5 i0 (.int .u8 0) Try.underlying49 hi hz0 .i64 .i64 (n : Int) (n : Int) (by omega) (by omega) (by rw [hz2]; omega) (by omega)
  simp only [Int.toNat_natCast, hz1, Nat.mul_one] at hr
  exact ⟨_, hr, rfl⟩

theorem film_new {w' : World} {b g n : Nat} (hb : w'.heap[b]? = some (.cells #[.slice (some ⟨g, 0, none⟩) n n] 52 (0, 0))) (hg : w'.heap[g]? = some (.cells (madeCells (Value.int .u8 0).cells n) 5 (0, 0))) : FObj w' b g (List.replicate n 0) := by
  refine ⟨⟨n, by simpa using hb, by simp⟩, ⟨_, _, hg⟩, fun j x hj => ?_, fun j hj => ?_⟩
  · obtain ⟨hj, rfl⟩ := zs_get n j x hj
    unfold World.cell?
    rw [hg]
    simp [madeCells, Value.cells, bV]
    exact ⟨j, by rw [Array.getElem?_eq_some_iff]; exact ⟨by simpa using (by assumption), by simp⟩, by rw [Nat.mod_one]; rfl⟩
  · unfold World.frozen?
    rw [hg]
    simp
theorem new_any (B : Nat) (w : World) (h1 : 1 ≤ B) (h2 : B ≤ 64) :
    Calls Try.prog 6 #[.int .i64 (B : Int)] w fun e w' => e = .returned (.tuple #[.pointer (some ⟨w.heap.size + 1, 0, none⟩), .int .i64 0]) ∧ FObj w' (w.heap.size + 1) w.heap.size (List.replicate (B * 8) 0) ∧ Below w.heap.size w w' := by
  obtain ⟨w1, hmk, hw1⟩ := make_bytes w (B * 8) (by omega)
  have hm : (Instr.makeSlice 49 (.int .i64 ((B : Int) * 8)) (.int .i64 ((B : Int) * 8))).run Try.prog w = .ok (.slice (some ⟨w.heap.size, 0, none⟩) (B * 8) (B * 8)) w1 := by simpa using hmk
  have hB : Hid (Below w.heap.size w w1) := Hid.intro (by rw [hw1]; exact (Below.refl _ _).alloc (Nat.le_refl _) _)
  have hz : w1.heap.size = w.heap.size + 1 := by rw [hw1]; simp
  have hg : Hid (w1.heap[w.heap.size]? = some (.cells (madeCells (Value.int .u8 0).cells (B * 8)) 5 (0, 0))) := Hid.intro (by rw [hw1]; exact heap_alloc_new w _)
  have q1 : ¬ (B : Int) < 1 := by omega
  have q2 : ¬ (64 : Int) < (B : Int) := by omega
  clear hmk hw1
  go_enter Try.func6, Try.ntmps6
  go_wp2
  refine bodyPost_ret (v := .tuple #[.pointer (some ⟨w.heap.size + 1, 0, none⟩), .int .i64 0]) (by simp [results, Try.results6, go_sem]) rfl ⟨rfl, ?_, hB.out.alloc (by omega) _⟩
  have hA := (Below.refl w1.heap.size w1).alloc (Nat.le_refl _) (.cells #[.slice (some ⟨w.heap.size, 0, none⟩) (B * 8) (B * 8)] 52)
  refine film_new ?_ ?_
  · have := heap_alloc_new w1 (.cells #[.slice (some ⟨w.heap.size, 0, none⟩) (B * 8) (B * 8)] 52)
    rw [hz] at this
    exact this
  · rw [hA.block w.heap.size (by omega)]; exact hg.out

theorem fblocks_B {w : World} {b g B : Nat} {S : List UInt8} (h : FObj w b g S) (hl : S.length = B * 8) :
    Calls Try.prog 20 #[.pointer (some ⟨b, 0, none⟩)] w fun e w' => e = .returned (.int .i64 (B : Int)) ∧ w' = w := by
  have := fblocks_any h
  rwa [show S.length / 8 = B by omega] at this

theorem holds_any {w : World} {b g B : Nat} {S : List UInt8} (at_ k : Int) (h : FObj w b g S) (hl : S.length = B * 8) (h1 : 1 ≤ B) (h2 : B ≤ 64) (ha : at_ ≤ 9223372036854775807) :
    Calls Try.prog 19 #[.pointer (some ⟨b, 0, none⟩), .int .i64 at_, .int .i64 k] w fun e w' => e = .returned (.bool (decide (0 ≤ at_ ∧ 0 ≤ k ∧ k ≤ S.length - at_))) ∧ w' = w := by
  obtain ⟨cap, hc, _⟩ := h.cell
  have hb := Hid.intro (fblocks_B h hl)
  have n1 : (S.length : Int) ≤ 512 := by omega
  have n0 : 8 ≤ (S.length : Int) := by omega
  clear hl h
  generalize S.length = n at *
  have b1 : (0 : Int) < (B : Int) := by omega
  by_cases c1 : 0 ≤ at_
  · by_cases c2 : 0 ≤ k
    · rw [show decide (0 ≤ at_ ∧ 0 ≤ k ∧ k ≤ (n : Int) - at_) = decide (k ≤ (n : Int) - at_) by simp [c1, c2]]
      go_enter Try.func19, Try.ntmps19
      go_wp2_with fail
      refine hb.out.mono ?_; rintro e w2 ⟨rfl, rfl⟩
      go_wp2
      go_ret
      exact ⟨rfl, rfl⟩
    · rw [decide_eq_false (fun h => c2 h.2.1)]
      go_enter Try.func19, Try.ntmps19
      go_wp2_with fail
      refine hb.out.mono ?_; rintro e w2 ⟨rfl, rfl⟩
      go_wp2
      go_ret
      exact ⟨rfl, rfl⟩
  · rw [decide_eq_false (fun h => c1 h.1)]
    go_enter Try.func19, Try.ntmps19
    go_wp2_with fail
    refine hb.out.mono ?_; rintro e w2 ⟨rfl, rfl⟩
    go_wp2
    go_ret
    exact ⟨rfl, rfl⟩

theorem write_bad {w : World} {b g B : Nat} {S : List UInt8} (at_ : Int) (T : List UInt8) (h : FObj w b g S) (hl : S.length = B * 8) (h1 : 1 ≤ B) (h2 : B ≤ 64) (ha : at_ ≤ 9223372036854775807) (hno : ¬ (0 ≤ at_ ∧ (T.length : Int) ≤ S.length - at_)) :
    Calls Try.prog 7 #[.pointer (some ⟨b, 0, none⟩), .int .i64 at_, .string (str T)] w fun e w' => e = .returned (.int .i64 1) ∧ w' = w := by
  have hb := Hid.intro (holds_any at_ T.length h hl h1 h2 ha)
  rw [decide_eq_false (fun h => hno ⟨h.1, h.2.2⟩)] at hb
  go_enter Try.func7, Try.ntmps7
  go_wp2_with fail
  refine hb.out.mono ?_; rintro e w2 ⟨rfl, rfl⟩
  go_wp2
  go_ret
  exact ⟨rfl, rfl⟩
theorem copy_str_none (w : World) (ad : Addr) (n c : Nat) : (Builtin.copy_ #[49, 9] 3 #[.slice (some ad) n c, .string (str [])]).run Try.prog w = .ok (goInt 0) w := by
  obtain ⟨i0, hi, hz0, hz1, hz2⟩ := info_parts Try.info5
  simp [Builtin.copy_, run_underlying Try.underlying49, Builtin.lenOf, Builtin.firstCells, sizeOf, typeInfo, hi, storeCells, str, ByteArray.size]
theorem copy_str {w : World} {g o n c : Nat} {T : List UInt8} (hn : T.length ≤ n) (hc : ∀ j, j < T.length → (w.cell? ⟨g, o + j, none⟩).isSome = true) (hf : ∀ j, j < T.length → w.frozen? ⟨g, o + j, none⟩ = false) :
    (Builtin.copy_ #[49, 9] 3 #[.slice (some ⟨g, o, none⟩) n c, .string (str T)]).run Try.prog w = .ok (goInt T.length) (w.setCells g o (T.map bV)) := by
  obtain ⟨i0, hi, hz0, hz1, hz2⟩ := info_parts Try.info5
  have hst := run_storeCells_cells (P := Try.prog) g o (T.map bV) 0 w (by simpa using hc) (by simpa using hf) (by simp [bV_one])
  have hm : Nat.min T.length n = T.length := Nat.min_eq_left hn
  have hx : List.take T.length (List.map (fun (b : UInt8) => Value.int IntKind.u8 (b.toNat : Int)) (str T).data.toList) = T.map bV := by
    rw [List.take_of_length_le (by simp [str])]; rfl
  simp only [Nat.add_zero] at hst
  simp [Builtin.copy_, run_underlying Try.underlying49, Builtin.lenOf, Builtin.firstCells, sizeOf, typeInfo, hi, str_size, hm, hx, hst]
set_option maxRecDepth 100000 in
theorem write_zero {w : World} {b g B : Nat} {S : List UInt8} (a : Nat) (h : FObj w b g S) (hl : S.length = B * 8) (h1 : 1 ≤ B) (h2 : B ≤ 64) (ha : a ≤ S.length) :
    Calls Try.prog 7 #[.pointer (some ⟨b, 0, none⟩), .int .i64 (a : Int), .string (str [])] w fun e w' => e = .returned (.int .i64 0) ∧ w' = w := by
  have hb := Hid.intro (holds_any (a : Int) 0 h hl h1 h2 (by omega))
  rw [decide_eq_true (by omega)] at hb
  obtain ⟨cap, hc, hcap⟩ := h.cell
  have hl' := Hid.intro hl
  have k1 := fun ad n c => copy_str_none w ad n c
  clear hl h
  generalize S.length = n at *
  go_enter Try.func7, Try.ntmps7
  go_wp2_with fail
  refine hb.out.mono ?_; rintro e w2 ⟨rfl, rfl⟩
  go_wp2
  all_goals
    go_ret
    exact ⟨rfl, rfl⟩
set_option maxRecDepth 100000 in
theorem write_some {w : World} {b g B : Nat} {S : List UInt8} (a : Nat) (T : List UInt8) (h : FObj w b g S) (hl : S.length = B * 8) (h1 : 1 ≤ B) (h2 : B ≤ 64) (ha : a + T.length ≤ S.length) (h0 : 0 < T.length) :
    Calls Try.prog 7 #[.pointer (some ⟨b, 0, none⟩), .int .i64 (a : Int), .string (str T)] w fun e w' => e = .returned (.int .i64 0) ∧ w' = w.setCells g a (T.map bV) := by
  have hb := Hid.intro (holds_any (a : Int) T.length h hl h1 h2 (by omega))
  rw [decide_eq_true (by omega)] at hb
  obtain ⟨cap, hc, hcap⟩ := h.cell
  have k1 := copy_str (w := w) (g := g) (o := a) (n := S.length - a) (c := cap - a) (T := T) (by omega) (fun j hj => by rw [h.bytes (a + j) _ (List.getElem?_eq_getElem (by omega))]; rfl) (fun j hj => h.fro (a + j) (by omega))
  have hl' := Hid.intro hl
  clear hl h
  have hne : ¬ cap = a := by omega
  generalize S.length = n at *
  go_enter Try.func7, Try.ntmps7
  go_wp2_with fail
  refine hb.out.mono ?_; rintro e w2 ⟨rfl, rfl⟩
  go_wp2
  go_ret
  exact ⟨rfl, rfl⟩

/-- The bytes behind a Write. -/
def wrS (S : List UInt8) (at_ : Int) (T : List UInt8) : List UInt8 := if 0 ≤ at_ ∧ (T.length : Int) ≤ S.length - at_ then S.take at_.toNat ++ T ++ S.drop (at_.toNat + T.length) else S
theorem wrS_length (S : List UInt8) (at_ : Int) (T : List UInt8) : (wrS S at_ T).length = S.length := by
  unfold wrS
  split
  · simp; omega
  · rfl
theorem but_setCells (w : World) (g : Nat) : ∀ (vs : List Value) (o : Nat) (z : World), But g w z → But g w (z.setCells g o vs)
  | [], _, _, h => h
  | v :: r, o, _, h => but_setCells w g r (o + 1) _ (h.setCell o v)
theorem ty_setCells (g : Nat) : ∀ (vs : List Value) (o : Nat) (w : World), (∃ cur fz, w.heap[g]? = some (.cells cur 5 fz)) → ∃ cur fz, (w.setCells g o vs).heap[g]? = some (.cells cur 5 fz)
  | [], _, _, h => h
  | v :: r, o, w, ⟨cur, fz, h⟩ => ty_setCells g r (o + 1) _ (by simp [World.setCell, Array.getElem?_modify, h])
theorem film_set {w : World} {b g : Nat} {S : List UInt8} (a : Nat) (T : List UInt8) (h : FObj w b g S) (ha : a + T.length ≤ S.length) : FObj (w.setCells g a (T.map bV)) b g (S.take a ++ T ++ S.drop (a + T.length)) := by
  have hbt := but_setCells w g (T.map bV) a w (But.of (Below.refl _ _))
  have hlen : (S.take a ++ T ++ S.drop (a + T.length)).length = S.length := by simp; omega
  obtain ⟨hb, hg, hne⟩ := h.lt
  refine ⟨?_, ty_setCells g _ a w h.ty, fun j x hj => ?_, fun j hj => ?_⟩
  · obtain ⟨cap, h1, h2⟩ := h.box
    exact ⟨cap, by rw [hbt.block b hb hne, hlen]; exact h1, by omega⟩
  · by_cases c1 : j < a
    · rw [World.cell?_setCells_out g _ a w ⟨g, j, none⟩ (fun _ _ => .inl c1)]
      refine h.bytes j x ?_
      rw [← hj, List.append_assoc, List.getElem?_append_left (by simp; omega), List.getElem?_take_of_lt c1]
    · by_cases c2 : j < a + T.length
      · have := World.cell?_setCells_in g (T.map bV) a w (fun i hi => by rw [h.bytes (a + i) _ (List.getElem?_eq_getElem (by simp at hi; omega))]; rfl) (j - a) (by simp; omega)
        rw [show a + (j - a) = j by omega] at this
        rw [this, ← (List.getElem?_eq_some_iff.1 hj).2]
        congr 1
        rw [List.getElem_map]
        congr 1
        rw [List.getElem_append_left (by simp; omega), List.getElem_append_right (by simp; omega)]
        congr 1
        simp; omega
      · rw [World.cell?_setCells_out g _ a w ⟨g, j, none⟩ (fun _ _ => .inr (by simp; omega))]
        refine h.bytes j x ?_
        rw [← hj, List.getElem?_append_right (by simp; omega), List.getElem?_drop]
        congr 1
        simp; omega
  · rw [World.frozen?_setCells]
    exact h.fro j (by omega)

theorem write_any {w : World} {b g B : Nat} {S : List UInt8} (at_ : Int) (T : List UInt8) (h : FObj w b g S) (hl : S.length = B * 8) (h1 : 1 ≤ B) (h2 : B ≤ 64) (ha : at_ ≤ 9223372036854775807) :
    Calls Try.prog 7 #[.pointer (some ⟨b, 0, none⟩), .int .i64 at_, .string (str T)] w fun e w' => e = .returned (.int .i64 (if 0 ≤ at_ ∧ (T.length : Int) ≤ S.length - at_ then 0 else 1)) ∧ FObj w' b g (wrS S at_ T) ∧ But g w w' := by
  by_cases hc : 0 ≤ at_ ∧ (T.length : Int) ≤ S.length - at_
  · have e1 : wrS S at_ T = S.take at_.toNat ++ T ++ S.drop (at_.toNat + T.length) := by unfold wrS; rw [if_pos hc]
    rw [if_pos hc]
    obtain ⟨a, rfl⟩ : ∃ a : Nat, at_ = a := ⟨at_.toNat, by omega⟩
    rw [e1, Int.toNat_natCast]
    by_cases h0 : T.length = 0
    · obtain rfl : T = [] := List.length_eq_zero_iff.1 h0
      refine (write_zero a h hl h1 h2 (by simp at hc; omega)).mono ?_
      rintro e w' ⟨rfl, rfl⟩
      exact ⟨rfl, by simpa using h, But.of (Below.refl _ _)⟩
    · refine (write_some a T h hl h1 h2 (by omega) (by omega)).mono ?_
      rintro e w' ⟨rfl, rfl⟩
      exact ⟨rfl, film_set a T h (by omega), but_setCells w g _ a w (But.of (Below.refl _ _))⟩
  · rw [if_neg hc]
    refine (write_bad at_ T h hl h1 h2 ha hc).mono ?_
    rintro e w' ⟨rfl, rfl⟩
    exact ⟨rfl, by unfold wrS; rw [if_neg hc]; exact h, But.of (Below.refl _ _)⟩
end Go.Proofs.Ytnkfgefbiacagaa
