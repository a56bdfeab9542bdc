/-
  The contracts of film's Read, Block, Zero, Copy; of emulsionref1's Zero and Zeros.
-/
import Derived.Test.YtnkfgefbiacagaaFilmB
namespace Go.Proofs.Ytnkfgefbiacagaa
open Go.ChangeShapes Go.WideShapes Go.ChangeAt Go.RowKit
attribute [local go_sem ↓] Go.wp_at_zero Go.wp_at_succ
attribute [local go_sem] str_size str_extract str_append str_toList

set_option maxRecDepth 100000 in
theorem read_ok {w : World} {b g B : Nat} {S : List UInt8} (a n : Nat) (h : FObj w b g S) (hl : S.length = B * 8) (h1 : 1 ≤ B) (h2 : B ≤ 64) (ha : a + n ≤ S.length) :
    Calls Try.prog 21 #[.pointer (some ⟨b, 0, none⟩), .int .i64 (a : Int), .int .i64 (n : Int)] w fun e w' => e = .returned (.tuple #[.string (str ((S.drop a).take n)), .int .i64 0]) ∧ w' = w := by
  have hb := Hid.intro (holds_any (a : Int) n h hl h1 h2 (by omega))
  rw [decide_eq_true (by omega)] at hb
  obtain ⟨cap, hc, hcap⟩ := h.cell
  have k1 := film_str (w := w) (g := g) (o := a) (n := n) (cap := cap - a) (S := (S.drop a).take n) (fun j x hj => h.bytes (a + j) x (by rw [List.getElem?_take] at hj; split at hj <;> simp_all)) (by simp; omega)
  have k2 := film_str (w := w) (g := g) (o := 0) (n := 0) (cap := 0) (S := []) (fun j x hj => by simp at hj) rfl
  have hl' := Hid.intro hl
  have h5 : S.length ≤ 512 := by omega
  clear hl h
  have e0 : cap = a → n = 0 := fun e => by omega
  by_cases c0 : cap = a
  · obtain rfl := e0 c0
    subst c0
    clear k1
    generalize S.length = m at *
    go_enter Try.func21, Try.ntmps21
    go_wp2_with fail
    refine hb.out.mono ?_; rintro e w2 ⟨rfl, rfl⟩
    go_wp2
    exact bodyPost_ret (v := .tuple #[.string (str ((S.drop cap).take 0)), .int .i64 0]) (by simp [results, Try.results21, go_sem]) rfl ⟨rfl, rfl⟩
  · clear e0 k2
    generalize S.length = m at *
    generalize (S.drop a).take n = T at *
    go_enter Try.func21, Try.ntmps21
    go_wp2_with fail
    refine hb.out.mono ?_; rintro e w2 ⟨rfl, rfl⟩
    go_wp2
    exact bodyPost_ret (v := .tuple #[.string (str T), .int .i64 0]) (by simp [results, Try.results21, go_sem]) rfl ⟨rfl, rfl⟩

/-- A block's bytes. -/
def blk (S : List UInt8) (k : Nat) : List UInt8 := (S.drop (k * 8)).take 8

set_option maxRecDepth 100000 in
theorem block_in {w : World} {b g B : Nat} {S : List UInt8} (k : Nat) (h : FObj w b g S) (hl : S.length = B * 8) (h2 : B ≤ 64) (hk : k < B) :
    Calls Try.prog 14 #[.pointer (some ⟨b, 0, none⟩), .int .i64 (k : Int)] w fun e w' => e = .returned (.tuple #[.string (str (blk S k)), .int .i64 0]) ∧ w' = w := by
  have hb := Hid.intro (fblocks_B h hl)
  have hr := read_ok (k * 8) 8 h hl (by omega) h2 (by omega)
  have hr' : Hid (Calls Try.prog 21 #[.pointer (some ⟨b, 0, none⟩), .int .i64 ((k : Int) * 8), .int .i64 8] w fun e w' => e = .returned (.tuple #[.string (str (blk S k)), .int .i64 0]) ∧ w' = w) := Hid.intro (by simpa [blk] using hr)
  have q1 : ¬ (B : Int) = 0 := by omega
  have q2 : ¬ (k : Int) < 0 := by omega
  have q3 : ¬ (B : Int) ≤ (k : Int) := by omega
  clear hr h hl
  go_enter Try.func14, Try.ntmps14
  go_wp2_with fail
  refine hb.out.mono ?_; rintro e w2 ⟨rfl, rfl⟩
  go_wp2_with fail
  refine hb.out.mono ?_; rintro e w3 ⟨rfl, rfl⟩
  go_wp2_with fail
  refine hr'.out.mono ?_; rintro e w4 ⟨rfl, rfl⟩
  go_wp2
  exact bodyPost_ret (v := .tuple #[.string (str (blk S k)), .int .i64 0]) (by simp [results, Try.results14, go_sem]) rfl ⟨rfl, rfl⟩
theorem block_out {w : World} {b g B : Nat} {S : List UInt8} (k : Nat) (h : FObj w b g S) (hl : S.length = B * 8) (h1 : 1 ≤ B) (hk : B ≤ k) :
    Calls Try.prog 14 #[.pointer (some ⟨b, 0, none⟩), .int .i64 (k : Int)] w fun e w' => e = .returned (.tuple #[.string (str []), .int .i64 2]) ∧ w' = w := by
  have hb := Hid.intro (fblocks_B h hl)
  have q1 : ¬ (B : Int) = 0 := by omega
  have q2 : ¬ (k : Int) < 0 := by omega
  have q3 : (B : Int) ≤ (k : Int) := by omega
  clear h hl
  go_enter Try.func14, Try.ntmps14
  go_wp2_with fail
  refine hb.out.mono ?_; rintro e w2 ⟨rfl, rfl⟩
  go_wp2_with fail
  refine hb.out.mono ?_; rintro e w3 ⟨rfl, rfl⟩
  go_wp2
  exact bodyPost_ret (v := .tuple #[.string (str []), .int .i64 2]) (by simp [results, Try.results14, go_sem]; rfl) rfl ⟨rfl, rfl⟩
theorem block_none (k : Int) (w : World) :
    Calls Try.prog 14 #[.pointer none, .int .i64 k] w fun e w' => e = .returned (.tuple #[.string (str []), .int .i64 1]) ∧ w' = w := by
  go_enter Try.func14, Try.ntmps14
  go_wp2_with fail
  refine (fblocks_none _).mono ?_; rintro e w2 ⟨rfl, rfl⟩
  go_wp2
  exact bodyPost_ret (v := .tuple #[.string (str []), .int .i64 1]) (by simp [results, Try.results14, go_sem]; rfl) rfl ⟨rfl, rfl⟩

theorem zeros_any (n : Nat) (w : World) (hn : n ≤ 1000) :
    Calls Try.prog 18 #[.int .i64 (n : Int)] w fun e w' => e = .returned (.string (str (List.replicate n 0))) ∧ Below w.heap.size w w' := by
  obtain ⟨w1, hmk, hw1⟩ := make_bytes w n hn
  have hB : Hid (Below w.heap.size w w1) := Hid.intro (by rw [hw1]; exact (Below.refl _ _).alloc (Nat.le_refl _) _)
  have k1 := film_str (w := w1) (g := w.heap.size) (o := 0) (n := n) (cap := n) (S := List.replicate n 0) (fun j x hj => by
    obtain ⟨hj1, rfl⟩ := zs_get n j x hj
    rw [hw1, Nat.zero_add]; exact made_cell w n j hj1) (by simp)
  clear hw1
  go_enter Try.func18, Try.ntmps18
  go_wp2
  go_ret
  exact ⟨rfl, hB.out⟩
end Go.Proofs.Ytnkfgefbiacagaa
