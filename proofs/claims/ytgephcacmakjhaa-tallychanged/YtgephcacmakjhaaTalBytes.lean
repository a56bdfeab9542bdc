/-
  The contracts of tally's bytesOf and of the document's Num: the four bytes of a number; nothing that was there is written.
-/
import Derived.Test.YtgephcacmakjhaaTalAdd
import Derived.Deep.AppendLies
import Derived.Maps.AppendAt
namespace Go.Proofs.Ytgephcacmakjhaa
open Go.ChangeShapes Go.WideShapes Go.ChangeAt Go.RowKit

def byt (W i : Nat) : Nat := W / 2 ^ (i * 8) % 256
def bytL (W n : Nat) : List Int := (List.range n).map fun i => ((byt W i : Nat) : Int)
theorem bytL_length (W n : Nat) : (bytL W n).length = n := by simp [bytL]
theorem bytL_getD (W n i : Nat) (h : i < n) : (bytL W n).getD i 0 = ((byt W i : Nat) : Int) := by
  simp [bytL, List.getD, h]
theorem nums_str (S : List UInt8) : strOfNums (S.map fun b => (b.toNat : Int)) = str S := by
  apply ByteArray.ext
  simp [strOfNums, str, Function.comp_def]
theorem bytL_by4 (t : Nat) : bytL t 4 = (by4 t).map fun b => (b.toNat : Int) := by
  have h : List.range 4 = [0, 1, 2, 3] := by decide
  unfold bytL by4 byt
  rw [h]
  simp
theorem str_by4 (t : Nat) : strOfNums (bytL t 4) = str (by4 t) := by rw [bytL_by4, nums_str]
theorem byt_lt (W i : Nat) : byt W i < 256 := Nat.mod_lt _ (by decide)
theorem byt_at (t i : Nat) : IntKind.u8.wrap ((t : Int) / 2 ^ (i * 8)) = ((byt t i : Nat) : Int) := by
  rw [show (t : Int) / 2 ^ (i * 8) = ((t / 2 ^ (i * 8) : Nat) : Int) by simp, wrap8]; rfl

/-- A block of bytes. -/
def BS (w : World) (G n : Nat) (xs : Nat → Int) : Prop := ∀ j, j < n → w.cell? ⟨G, j, none⟩ = some (.int .u8 (xs j)) ∧ w.frozen? ⟨G, j, none⟩ = false
theorem BS.set {w : World} {G n i : Nat} {xs : Nat → Int} (h : BS w G n xs) (v : Int) : BS (w.setCell ⟨G, i, none⟩ (.int .u8 v)) G n (fun j => if j = i then v else xs j) := fun j hj => by
  obtain ⟨a, b⟩ := h j hj
  by_cases e : j = i
  · subst e
    exact ⟨by simp [go_sem, a], by simp [go_sem, b]⟩
  · refine ⟨?_, by simp [go_sem, b]⟩
    refine (World.cell?_setCell_other w ⟨G, i, none⟩ ⟨G, j, none⟩ _ (by intro h; cases h; exact e rfl)).trans ?_
    simp [e, a]
theorem BS.congr {w : World} {G n : Nat} {xs ys : Nat → Int} (h : BS w G n xs) (e : ∀ j, j < n → xs j = ys j) : BS w G n ys := fun j hj => by rw [← e j hj]; exact h j hj
theorem BS.new (w : World) (n : Nat) : BS (w.alloc (.cells (madeCells (Value.int .u8 0).cells n) 5)) w.heap.size n (fun _ => 0) := fun j hj => by
  have h := heap_alloc_new w (.cells (madeCells (Value.int .u8 0).cells n) 5)
  constructor
  · unfold World.cell?
    rw [h]
    simp [madeCells, Value.cells, hj]
    rw [Nat.mod_one]
    rfl
  · unfold World.frozen?
    rw [h]
    simp
theorem Try.info5 : (Try.prog.info? 5).map (fun i => (i.zero, i.size, i.bytes)) = some (some (.int .u8 0), 1, 1) := by kernel_rfl
theorem make_bytes (w : World) (n : Nat) (hn : n ≤ 1000) : ∃ w1, (Instr.makeSlice 32 (.int .i64 (n : Int)) (.int .i64 (n : Int))).run Try.prog w = .ok (.slice (some ⟨w.heap.size, 0, none⟩) n n) w1 ∧ BS w1 w.heap.size n (fun _ => 0) ∧ Below w.heap.size w w1 ∧ w1.heap.size = w.heap.size + 1 := by
  obtain ⟨i0, hi, hz0, hz1, hz2⟩ := info_parts Try.info5
  have hr := run_make (P := Try.prog) w 32 5 i0 (.int .u8 0) Try.underlying32 hi hz0 .i64 .i64 (n : Int) (n : Int) (by omega) (by omega) (by rw [hz2]; omega) (by omega)
  simp only [Int.toNat_natCast, hz1, Nat.mul_one] at hr
  exact ⟨_, hr, BS.new w n, (Below.refl _ _).alloc (Nat.le_refl _) _, by simp⟩

set_option maxRecDepth 100000 in
theorem bytesOf_any (t : Nat) (w : World) :
    Calls Try.prog 15 #[.int .u32 (t : Int)] w fun e w' => e = .returned (.string (str (by4 t))) ∧ Below w.heap.size w w' := by
  obtain ⟨w1, hmk0, hbs, hbl, hsz⟩ := make_bytes w 4 (by omega)
  have hmk : (Instr.makeSlice 32 (.int .i64 4) (.int .i64 4)).run Try.prog w = .ok (.slice (some ⟨w.heap.size, 0, none⟩) 4 4) w1 := hmk0
  have hbs' := Hid.intro hbs
  have hbl' := Hid.intro hbl
  have hsz' := Hid.intro hsz
  clear hmk0 hbs hbl hsz
  go_enter Try.func15, Try.ntmps15
  go_wp2_with fail
  go_loopw [8] (fun iv wr => ∃ i : Nat, i ≤ 4 ∧ iv = .int .i64 i ∧ BS wr w.heap.size 4 (fun j => if j < i then ((byt t j : Nat) : Int) else 0) ∧ Below w.heap.size w wr ∧ w.heap.size < wr.heap.size) (fun iv _ => 4 - (intOf iv).toNat)
  case atStart => exact ⟨0, Nat.zero_le _, rfl, hbs'.out.congr (fun j hj => by simp), hbl'.out, by have := hsz'.out; omega⟩
  case round =>
    clear hmk
    obtain ⟨i, hi, rfl, hbi, hB1, hG⟩ := hrel
    have i0 : (0 : Int) ≤ (i : Int) := Int.natCast_nonneg _
    have hbi' := Hid.intro hbi
    have hB1' := Hid.intro hB1
    by_cases hl : i < 4
    · have i1 : (i : Int) < 4 := by omega
      obtain ⟨g1, g2⟩ := hbi i hl
      have hv := byt_at t i
      clear hbi hB1
      generalize w.heap.size = G at *
      go_wp2
      go_roundw
      case rel =>
        refine ⟨i + 1, by omega, by go_num, ?_, hB1'.out.setCell (Nat.le_refl _) _, by simpa using hG⟩
        refine (hbi'.out.set _).congr (fun j hj => ?_)
        by_cases e : j = i
        · subst e; rw [if_pos rfl, if_pos (by omega)]
        · rw [if_neg e]
          by_cases e2 : j < i
          · rw [if_pos e2, if_pos (by omega)]
          · rw [if_neg e2, if_neg (by omega)]
      case measure => simp [intOf]; omega
    · obtain rfl : i = 4 := by omega
      have hcv := run_convert_bytes_arg (P := Try.prog) wr 32 5 Try.underlying32 Try.underlying5 w.heap.size 0 4 4 (bytL t 4) (bytL_length t 4) (fun j hj => by rw [bytL_getD t 4 j hj, Nat.zero_add]; have := (hbi j hj).1; simpa [hj] using this) 9 Try.underlying9
      rw [str_by4] at hcv
      generalize hz : by4 t = Z at *
      have hz' := Hid.intro hz
      clear hz
      clear hbi hB1
      go_wp2
      go_ret
      exact ⟨by rw [hz'.out]; rfl, hB1'.out⟩

/-! ### The document's Num. -/
theorem own_form5 {w : World} {base : Nat} {e : TypeId} {size : Nat} {v : Value} {n : Nat} {xs : List Value} (h : w.ownsRow base e size v n xs) : ∃ a c, v = .slice a n c := by
  rcases h.2 with ⟨rfl, rfl⟩ | ⟨g, cap, cur, hv, _⟩
  · exact ⟨_, _, rfl⟩
  · exact ⟨_, _, hv⟩
def bytV (W j : Nat) : List Value := (bytL W j).map (Value.int .u8)
theorem bytV_succ (W j : Nat) : bytV W (j + 1) = bytV W j ++ [.int .u8 ((byt W j : Nat) : Int)] := by
  simp [bytV, bytL, List.range_succ]
theorem own_str {w : World} {base n : Nat} {v : Value} {W : Nat} (h : w.ownsRow base 5 1 v n (bytV W n)) : (convert 32 9 v).run Try.prog w = .ok (.string (strOfNums (bytL W n))) w := by
  rcases h.2 with ⟨rfl, rfl⟩ | ⟨g, cap, cur, rfl, hg⟩
  · exact run_convert_bytes_nil (P := Try.prog) w 32 5 Try.underlying32 Try.underlying5 _ _ 9 Try.underlying9
  · refine run_convert_bytes_arg (P := Try.prog) w 32 5 Try.underlying32 Try.underlying5 g 0 n cap (bytL W n) (bytL_length W n) (fun i hi => ?_) 9 Try.underlying9
    rw [Nat.zero_add, World.ownsRow.cellAt h i (by omega), bytL_getD W n i hi]
    simp [bytV, bytL, hi]

set_option maxRecDepth 100000 in
theorem num_any (t : Nat) (w : World) (ht : t < 4294967296) :
    Calls Try.prog 10 #[.int .i64 (t : Int), .int .i64 4] w fun e w' => e = .returned (.string (str (by4 t))) ∧ Below w.heap.size w w' := by
  obtain ⟨i0, hi0, hz0', hz1', hz2'⟩ := info_parts Try.info5
  go_enter Try.func10, Try.ntmps10
  go_wp2_with fail
  go_loopw [0, 5, 6] (fun tv bv kv wr => ∃ u k : Nat, u = t / 2 ^ (k * 8) ∧ k ≤ 4 ∧ tv = .int .i64 (u : Int) ∧ kv = .int .i64 (k : Int) ∧ wr.ownsRow w.heap.size 5 1 bv k (bytV t k) ∧ Below w.heap.size w wr) (fun _ _ kv _ => 4 - (intOf kv).toNat)
  case atStart => exact ⟨t, 0, by simp, Nat.zero_le _, rfl, rfl, World.ownsRow_nil _ _ _ _, Below.refl _ _⟩
  case round =>
    obtain ⟨u, k, hu, hk, rfl, rfl, hown, hB⟩ := hrel
    have k0 : (0 : Int) ≤ (k : Int) := Int.natCast_nonneg _
    obtain ⟨aa, cc, rfl⟩ := own_form5 hown
    have hown' := Hid.intro hown
    have hB' := Hid.intro hB
    clear hown
    by_cases hkb : k < 4
    · have k1 : (k : Int) < 4 := by omega
      have hul : u < 4294967296 := by rw [hu]; exact Nat.lt_of_le_of_lt (Nat.div_le_self _ _) ht
      have ha := and255 u hul
      have hby : u % 256 = byt t k := by rw [hu]; rfl
      have hlt := byt_lt t k
      rw [hby] at ha
      have hnx := Hid.intro (show u / 256 = t / 2 ^ ((k + 1) * 8) by rw [hu, Nat.div_div_eq_div_mul, ← show (2:Nat) ^ 8 = 256 from rfl, ← Nat.pow_add, show (k + 1) * 8 = k * 8 + 8 by omega])
      have hsz : w.heap.size ≤ wr.heap.size := hB.size
      have hbs := Hid.intro (bytV_succ t k)
      clear hu hby hB
      generalize byt t k = v at *
      go_wp2_with (at_builtin; refine wpList_append_lies _ rfl _ _ 32 rfl w.heap.size 5 i0 (.int .u8 0) 1 1 Try.underlying32 hi0 hz0' hz1' hz2' rfl (by decide) _ k (bytV t k) rfl (hown'.out.alloc _) ⟨wr.heap.size, 0, none⟩ 1 1 [.int .u8 (v : Int)] rfl rfl (World.news_of_block (cs := #[.int .u8 (v : Int)]) (t := 5) (fr := (0, 0)) (heap_alloc_new wr _)) (by simp [Value.oneCell']) (by decide) (by unfold maxLen; omega) (by omega) (by simp; omega) (wr.heap.size + 1) (by simp) ?_; intro g5 cap5 w5 hown5 hgrow5 hat5 hlt5)
      have hne : ∀ x, (Value.slice aa k cc).ownBlock = some x → w.heap.size ≤ x := fun x hx => (hown'.out.lt x hx).1
      have hB5 : Below w.heap.size w w5 := (hB'.out.alloc hB'.out.size _).grown hgrow5 (by simp; omega) (fun x hx => hne x hx)
      go_roundw
      case rel => exact ⟨u / 256, k + 1, hnx.out, by omega, by go_num, by go_num, by rw [hbs.out]; exact hown5, hB5⟩
      case measure => simp [intOf]; omega
    · obtain rfl : k = 4 := by omega
      have hcv := own_str hown'.out
      rw [str_by4] at hcv
      generalize hz : by4 t = Z at *
      have hz' := Hid.intro hz
      clear hz
      go_wp2
      go_ret
      exact ⟨by rw [hz'.out]; rfl, hB'.out⟩
end Go.Proofs.Ytgephcacmakjhaa
