/-
  What is common: blocks, arrays in memory, strings and bytes.
-/
import Derived.Test.YtgigpohfkppplaaChecked
import Derived.WalkKit
import Derived.ProofKit
import Derived.WalkSpells
import Derived.Below
import Derived.Deep.QuietTactic
import Derived.BigQuiet
import Derived.Maps.AppendAt
import Derived.Deep.AppendLies
import Derived.Deep.MidRow
import Derived.Deep.RegionLaw
import Derived.Outline
import Derived.Deep.RegionHeld3
import Derived.Deep.DrawnRows
import Derived.Laws.BitsAllLaws
import Derived.Laws.Bits64
import Derived.Laws.IdiomStrings
import Derived.Laws.IdiomCopy
import Derived.Laws.BytesArg
import Derived.Laws.DeepStrings4
import Derived.Lib.Strings
import Derived.Laws.CopyRow
import Derived.Laws.NewBlocks
import Derived.Laws.MakeOwn
import Derived.Lib.MinMax
namespace Go.Proofs.Ytgigpohfkppplaa
open Go.ChangeShapes Go.WideShapes Go.ChangeAt Go.RowKit
attribute [local go_sem ↓] Go.wp_at_zero Go.wp_at_succ

theorem bcell {W w1 : World} (hb : Below W.heap.size W w1) : (∀ b o, b < W.heap.size → w1.cell? ⟨b, o, none⟩ = W.cell? ⟨b, o, none⟩) ∧ (∀ b o, b < W.heap.size → w1.frozen? ⟨b, o, none⟩ = W.frozen? ⟨b, o, none⟩) :=
  ⟨fun b o h => hb.cell (p := ⟨b, o, none⟩) h, fun b o h => hb.frozen (p := ⟨b, o, none⟩) h⟩
theorem below_step {a b c : World} (h1 : Below a.heap.size a b) (h2 : Below b.heap.size b c) : Below a.heap.size a c := h1.trans (h2.mono h1.size)
theorem below_drew {a b : World} (h : Below a.drew.heap.size a.drew b) : Below a.heap.size a b := ((Below.refl _ a).drew).trans h
theorem Hid.intro {p : Prop} (h : p) : Hid p := h
theorem below_app0 {w w' : World} (hg : w.grownBy w' none) : Below w.heap.size w w' := (Below.refl _ _).grown hg (Nat.le_refl _) nofun
theorem below_drw {w : World} : Below w.heap.size w w.drew := (Below.refl _ _).drew
theorem lt_of_block {w : World} {b : Nat} {o : Obj} (h : w.heap[b]? = some o) : b < w.heap.size := by
  rcases Nat.lt_or_ge b w.heap.size with hl | hl
  · exact hl
  · rw [Array.getElem?_eq_none hl] at h; cases h
/-- A box of two cells that may be written. -/
def Box (w : World) (H : Nat) (x y : Value) : Prop := w.cell? ⟨H, 0, none⟩ = some x ∧ w.cell? ⟨H, 1, none⟩ = some y ∧ w.frozen? ⟨H, 0, none⟩ = false ∧ w.frozen? ⟨H, 1, none⟩ = false
theorem Box.below {w w' : World} {H B : Nat} {x y : Value} (h : Box w H x y) (hb : Below B w w') (hz : H < B) : Box w' H x y :=
  ⟨by rw [hb.cell (p := ⟨H, 0, none⟩) hz]; exact h.1, by rw [hb.cell (p := ⟨H, 1, none⟩) hz]; exact h.2.1, by rw [hb.frozen (p := ⟨H, 0, none⟩) hz]; exact h.2.2.1, by rw [hb.frozen (p := ⟨H, 1, none⟩) hz]; exact h.2.2.2⟩
theorem Box.new (w : World) (x y : Value) (t : TypeId) : Box (w.alloc (.cells #[x, y] t)) w.heap.size x y := by
  unfold Box; simp [go_sem]
theorem Box.lt {w : World} {H : Nat} {x y : Value} (h : Box w H x y) : H < w.heap.size := by
  rcases Nat.lt_or_ge H w.heap.size with hl | hl
  · exact hl
  · have := h.1; simp [World.cell?, Array.getElem?_eq_none hl] at this
theorem Box.grown {w w' : World} {H : Nat} {x y : Value} {row : Option Nat} (h : Box w H x y) (hg : w.grownBy w' row) (hr : some H ≠ row) : Box w' H x y := by
  refine ⟨by rw [hg.cell_far ⟨H, 0, none⟩ h.lt hr]; exact h.1, by rw [hg.cell_far ⟨H, 1, none⟩ h.lt hr]; exact h.2.1, ?_, ?_⟩
  · rw [World.frozen?_of_block (w := w) (a := ⟨H, 0, none⟩) (hg.block H h.lt hr)]; exact h.2.2.1
  · rw [World.frozen?_of_block (w := w) (a := ⟨H, 1, none⟩) (hg.block H h.lt hr)]; exact h.2.2.2
theorem Box.set {w : World} {H : Nat} {x y : Value} (h : Box w H x y) (u v : Value) : Box ((w.setCell ⟨H, 0, none⟩ u).setCell ⟨H, 1, none⟩ v) H u v := by
  obtain ⟨a, b, c, d⟩ := h
  unfold Box
  simp [go_sem, a, b, c, d]
theorem app_box {w2 w5 : World} {O : Nat} {x y : Value} {obj : Obj} {row : Option Nat} (h : Box w2 O x y) (hg : (w2.alloc obj).grownBy w5 row) (hne : some O ≠ row) : Box w5 O x y :=
  (h.below ((Below.refl w2.heap.size w2).alloc (Nat.le_refl _) obj) h.lt).grown hg hne
theorem app_below {W : Nat} {w w2 w5 : World} {obj : Obj} {row : Option Nat} (hB : Below W w w2) (hW : W ≤ w2.heap.size) (hg : (w2.alloc obj).grownBy w5 row) (hr : ∀ j, row = some j → W ≤ j) : Below W w w5 :=
  (hB.alloc hW _).grown hg (by simp; omega) hr
theorem cell_lt {W : World} {O o : Nat} {x : Value} (h : W.cell? ⟨O, o, none⟩ = some x) : O < W.heap.size := by
  rcases Nat.lt_or_ge O W.heap.size with h1 | h1
  · exact h1
  · simp [World.cell?, h1] at h
/-- A set's cells. -/
def bv (l : List Bool) : List Value := l.map Value.bool
theorem there_set {w : World} {b o n : Nat} (h : w.there b o n) (p : Addr) (v : Value) : (w.setCell p v).there b o n := by
  intro j hj
  obtain ⟨h1, h2⟩ := h j hj
  refine ⟨?_, by rw [World.frozen?_setCell]; exact h2⟩
  obtain ⟨u, hu⟩ := Option.isSome_iff_exists.1 h1
  by_cases e : p = ⟨b, o + j, none⟩
  · subst e; rw [World.cell?_setCell_same _ _ _ hu]; rfl
  · rw [World.cell?_setCell_other _ _ _ _ e, hu]; rfl
/-- Ranges and room behind whatever is only new. -/
theorem range_below {w w' : World} {b o B : Nat} {cs : List Value} (hb : Below B w w') (hz : b < B) (h : w.rangeAt b o cs) : w'.rangeAt b o cs := fun j v hv => by
  rw [hb.cell (p := ⟨b, o + j, none⟩) hz]; exact h j v hv
theorem there_below {w w' : World} {b o n B : Nat} (hb : Below B w w') (hz : b < B) (h : w.there b o n) : w'.there b o n := fun j hj => by
  rw [hb.cell (p := ⟨b, o + j, none⟩) hz, hb.frozen (p := ⟨b, o + j, none⟩) hz]; exact h j hj
theorem range_new {w : World} {C : Array Value} {t : TypeId} : (w.alloc (.cells C t)).rangeAt w.heap.size 0 C.toList := by
  have := World.rangeAt_of_block (heap_alloc_new w (.cells C t)) 0 C.size
  simpa using this
theorem there_new {w : World} {C : Array Value} {t : TypeId} {n : Nat} (hn : n ≤ C.size) : (w.alloc (.cells C t)).there w.heap.size 0 n := by
  intro j hj
  refine ⟨?_, ?_⟩
  · rw [Nat.zero_add, World.cell?_alloc_new]; simp; omega
  · simp [go_sem]
theorem below_setCells {B : Nat} {w : World} (b : Nat) : ∀ (vs : List Value) (o : Nat) (w' : World), Below B w w' → B ≤ b → Below B w (w'.setCells b o vs)
  | [], _, _, h, _ => h
  | v :: r, o, _, h, hb => below_setCells b r (o + 1) _ (h.setCell (p := ⟨b, o, none⟩) hb v) hb
theorem results_mid {fn : Func} {P : Program} {p : Tmp} {ty : TypeId} (h : fn.results = #[.cell p ty]) (tmps : Array Value) (w : World) (b : Nat) (cs : List Value) (d : TypeDesc) (ha : tmps.getD p undef = .pointer (some ⟨b, 0, none⟩)) (hc : w.rangeAt b 0 cs)
    (hu : P.underlying ty = some d) (hd : d.isRow = true) (hi : (P.info? ty).map (·.size) = some cs.length) : (results fn tmps).run P w = .ok (.agg cs.toArray) w := by
  simp only [results, h]
  have hl := run_loadVar_mid (P := P) w b 0 ty cs d hc hu hd hi
  have ha' : tmps[p]?.getD undef = .pointer (some ⟨b, 0, none⟩) := by simpa using ha
  simp [ha', asAddr, hl]
theorem wrap32 (n : Nat) : IntKind.u32.wrap (n : Int) = ((n % 4294967296 : Nat) : Int) := by
  rw [IntKind.wrap_u32']; omega
theorem wrap16 (n : Nat) : IntKind.u16.wrap (n : Int) = ((n % 65536 : Nat) : Int) := by
  rw [IntKind.wrap_u16]; omega
theorem wrap8 (n : Nat) : IntKind.u8.wrap (n : Int) = ((n % 256 : Nat) : Int) := by
  rw [IntKind.wrap_u8']; omega
theorem and255 (t : Nat) (h : t < 4294967296) : bits .and .i64 (t : Int) 255 = ((t % 256 : Nat) : Int) := by
  have h1 : (BitVec.ofInt 64 (t : Int)).toNat = t := by rw [BitVec.ofInt_natCast, BitVec.toNat_ofNat]; exact Nat.mod_eq_of_lt (by omega)
  have h2 : (BitVec.ofInt 64 255).toNat = 2 ^ 8 - 1 := rfl
  show IntKind.i64.wrap ((BitVec.ofInt 64 (t : Int) &&& BitVec.ofInt 64 255).toNat : Int) = _
  rw [BitVec.toNat_and, h1, h2, Nat.and_two_pow_sub_one_eq_mod, IntKind.wrap_i64]
  omega
theorem u8_of {m n : Nat} (hm : m < 256) (hn : n < 256) (e : UInt8.ofNat m = UInt8.ofNat n) : m = n := by
  have := congrArg UInt8.toNat e
  simpa [Nat.mod_eq_of_lt hm, Nat.mod_eq_of_lt hn] using this
/-- A string of these bytes. -/
def str (S : List UInt8) : ByteArray := ⟨S.toArray⟩
theorem str_size (S : List UInt8) : (str S).size = S.length := by simp [str, ByteArray.size]
theorem str_extract (S : List UInt8) (a b : Nat) : (str S).extract a b = str ((S.drop a).take (b - a)) := ByteArray.extract_mk S a b
theorem str_append (S T : List UInt8) : str S ++ str T = str (S ++ T) := by
  apply ByteArray.ext; simp [str]
theorem str_inj {S T : List UInt8} : str S = str T ↔ S = T := by
  constructor
  · intro h; have := congrArg (fun x => x.data.toList) h; simpa [str] using this
  · rintro rfl; rfl
theorem str_ex (s : ByteArray) : ∃ S, s = str S := ⟨s.data.toList, by apply ByteArray.ext; simp [str]⟩
theorem str_toList (S : List UInt8) : (str S).toList = S := by rw [Go.Lib.toList_data]; rfl
def bV (x : UInt8) : Value := .int .u8 (x.toNat : Int)
theorem bV_one (x : UInt8) : (bV x).oneCell' = true := rfl
theorem str_at (T : List UInt8) (i : Nat) (x : UInt8) (h : T[i]? = some x) (w : World) : (Instr.index 9 (.string (str T)) (.int .i64 (i : Int))).run Try.prog w = .ok (bV x) w := by
  obtain ⟨h1, h2⟩ := List.getElem?_eq_some_iff.1 h
  rw [run_index_string w 9 (str T) .i64 (i : Int) Try.underlying9, dif_pos (by rw [str_size]; omega)]
  subst h2
  rfl
theorem str_ne {S T : List UInt8} (h : ¬ S = T) : ((str S).toList == (str T).toList) = false := by
  rw [str_toList, str_toList]; exact beq_false_of_ne h
def byt (W i : Nat) : Nat := W / 2 ^ (i * 8) % 256
def bytL (W n : Nat) : List Int := (List.range n).map fun i => ((byt W i : Nat) : Int)
theorem bytL_length (W n : Nat) : (bytL W n).length = n := by simp [bytL]
theorem bytL_getD (W n i : Nat) (h : i < n) : (bytL W n).getD i 0 = ((byt W i : Nat) : Int) := by
  simp [bytL, List.getD, h]
theorem nums_str (S : List UInt8) : strOfNums (S.map fun b => (b.toNat : Int)) = str S := by
  apply ByteArray.ext
  simp [strOfNums, str, Function.comp_def]
theorem byt_lt (W i : Nat) : byt W i < 256 := Nat.mod_lt _ (by decide)
/-- A block of bytes. -/
def BS (w : World) (G n : Nat) (xs : Nat → Int) : Prop := ∀ j, j < n → w.cell? ⟨G, j, none⟩ = some (.int .u8 (xs j)) ∧ w.frozen? ⟨G, j, none⟩ = false
theorem BS.set {w : World} {G n i : Nat} {xs : Nat → Int} (h : BS w G n xs) (v : Int) : BS (w.setCell ⟨G, i, none⟩ (.int .u8 v)) G n (fun j => if j = i then v else xs j) := fun j hj => by
  obtain ⟨a, b⟩ := h j hj
  by_cases e : j = i
  · subst e
    exact ⟨by simp [go_sem, a], by simp [go_sem, b]⟩
  · refine ⟨?_, by simp [go_sem, b]⟩
    refine (World.cell?_setCell_other w ⟨G, i, none⟩ ⟨G, j, none⟩ _ (by intro h; cases h; exact e rfl)).trans ?_
    simp [e, a]
theorem BS.congr {w : World} {G n : Nat} {xs ys : Nat → Int} (h : BS w G n xs) (e : ∀ j, j < n → xs j = ys j) : BS w G n ys := fun j hj => by rw [← e j hj]; exact h j hj
theorem BS.new (w : World) (n : Nat) : BS (w.alloc (.cells (madeCells (Value.int .u8 0).cells n) 5)) w.heap.size n (fun _ => 0) := fun j hj => by
  have h := heap_alloc_new w (.cells (madeCells (Value.int .u8 0).cells n) 5)
  constructor
  · unfold World.cell?
    rw [h]
    simp [madeCells, Value.cells, hj]
    rw [Nat.mod_one]
    rfl
  · unfold World.frozen?
    rw [h]
    simp
theorem Try.info5 : (Try.prog.info? 5).map (fun i => (i.zero, i.size, i.bytes)) = some (some (.int .u8 0), 1, 1) := by kernel_rfl
theorem make_bytes (w : World) (n : Nat) (hn : n ≤ 1000) : ∃ w1, (Instr.makeSlice 54 (.int .i64 (n : Int)) (.int .i64 (n : Int))).run Try.prog w = .ok (.slice (some ⟨w.heap.size, 0, none⟩) n n) w1 ∧ BS w1 w.heap.size n (fun _ => 0) ∧ Below w.heap.size w w1 ∧ w1.heap.size = w.heap.size + 1 := by
  obtain ⟨i0, hi, hz0, hz1, hz2⟩ := info_parts Try.info5
  have hr := run_make (P := Try.prog) w 54 5 i0 (.int .u8 0) Try.underlying54 hi hz0 .i64 .i64 (n : Int) (n : Int) (by omega) (by omega) (by rw [hz2]; omega) (by omega)
  simp only [Int.toNat_natCast, hz1, Nat.mul_one] at hr
  exact ⟨_, hr, BS.new w n, (Below.refl _ _).alloc (Nat.le_refl _) _, by simp⟩
theorem own_form5 {w : World} {base : Nat} {e : TypeId} {size : Nat} {v : Value} {n : Nat} {xs : List Value} (h : w.ownsRow base e size v n xs) : ∃ a c, v = .slice a n c := by
  rcases h.2 with ⟨rfl, rfl⟩ | ⟨g, cap, cur, hv, _⟩
  · exact ⟨_, _, rfl⟩
  · exact ⟨_, _, hv⟩
def bytV (W j : Nat) : List Value := (bytL W j).map (Value.int .u8)
theorem bytV_succ (W j : Nat) : bytV W (j + 1) = bytV W j ++ [.int .u8 ((byt W j : Nat) : Int)] := by
  simp [bytV, bytL, List.range_succ]
theorem own_str {w : World} {base n : Nat} {v : Value} {W : Nat} (h : w.ownsRow base 5 1 v n (bytV W n)) : (convert 54 9 v).run Try.prog w = .ok (.string (strOfNums (bytL W n))) w := by
  rcases h.2 with ⟨rfl, rfl⟩ | ⟨g, cap, cur, rfl, hg⟩
  · exact run_convert_bytes_nil (P := Try.prog) w 54 5 Try.underlying54 Try.underlying5 _ _ 9 Try.underlying9
  · refine run_convert_bytes_arg (P := Try.prog) w 54 5 Try.underlying54 Try.underlying5 g 0 n cap (bytL W n) (bytL_length W n) (fun i hi => ?_) 9 Try.underlying9
    rw [Nat.zero_add, World.ownsRow.cellAt h i (by omega), bytL_getD W n i hi]
    simp [bytV, bytL, hi]
/-- A block of these bytes. -/
structure BB (w : World) (g : Nat) (S : List UInt8) : Prop where
  lt : g < w.heap.size
  bytes : ∀ j x, S[j]? = some x → w.cell? ⟨g, j, none⟩ = some (bV x)
  fro : ∀ j, j < S.length → w.frozen? ⟨g, j, none⟩ = false
theorem BB.keep {w w' : World} {g : Nat} {S : List UInt8} (h : BB w g S) (hl : g < w'.heap.size) (e : w'.heap[g]? = w.heap[g]?) : BB w' g S := by
  refine ⟨hl, fun j x hj => ?_, fun j hj => ?_⟩
  · rw [World.cell?_of_block (w := w) (a := ⟨g, j, none⟩) e]; exact h.bytes j x hj
  · have := h.fro j hj
    unfold World.frozen? at this ⊢
    simp only at this ⊢
    rw [e]; exact this
theorem BB.below {w w' : World} {g : Nat} {S : List UInt8} (h : BB w g S) (hb : Below w.heap.size w w') : BB w' g S :=
  h.keep (Nat.lt_of_lt_of_le h.lt hb.size) (hb.block g h.lt)
theorem BB.grown {w w' : World} {g : Nat} {S : List UInt8} {row : Option Nat} (h : BB w g S) (hg : w.grownBy w' row) (hn : some g ≠ row) : BB w' g S :=
  h.keep (Nat.lt_of_lt_of_le h.lt hg.size) (hg.block g h.lt hn)
theorem BB.own {w : World} {base g cap : Nat} {S : List UInt8} (h : w.ownsRow base 5 1 (.slice (some ⟨g, 0, none⟩) S.length cap) S.length (S.map bV)) (hl : g < w.heap.size) : BB w g S :=
  ⟨hl, fun j x hj => by rw [World.ownsRow.cellAt h j (by rw [Nat.mul_one]; exact (List.getElem?_eq_some_iff.1 hj).1), List.getElem?_map, hj]; rfl, fun j _ => World.ownsRow.frozenAt h j⟩
theorem BB.str {w : World} {g cap n : Nat} {S T : List UInt8} (h : BB w g S) (hT : S.take n = T) (hn : n ≤ S.length) :
    (convert 54 9 (.slice (some ⟨g, 0, none⟩) n cap)).run Try.prog w = .ok (.string (str T)) w := by
  subst hT
  rw [← nums_str]
  refine run_convert_bytes_arg (P := Try.prog) w 54 5 Try.underlying54 Try.underlying5 g 0 n cap _ (by simp [Nat.min_eq_left hn]) (fun j hj => ?_) 9 Try.underlying9
  have hj' : j < S.length := by omega
  rw [Nat.zero_add, h.bytes j _ (List.getElem?_eq_getElem hj')]
  simp [bV, List.getD, hj', hj]
end Go.Proofs.Ytgigpohfkppplaa
