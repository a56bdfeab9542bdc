/-
  A volume's bytes in memory; the contracts of film's small functions.
-/
import Derived.Test.YtnkfgefbiacagaaCuts
import Derived.Laws.IdiomCopy
import Derived.Laws.IdiomStrings
import Derived.Laws.BytesArg
import Derived.Laws.DeepStrings4
import Derived.Lib.Strings
namespace Go.Proofs.Ytnkfgefbiacagaa
open Go.ChangeShapes Go.WideShapes Go.ChangeAt Go.RowKit
attribute [local go_sem ↓] Go.wp_at_zero Go.wp_at_succ

/-- A string of these bytes. -/
def str (S : List UInt8) : ByteArray := ⟨S.toArray⟩
theorem str_size (S : List UInt8) : (str S).size = S.length := by simp [str, ByteArray.size]
theorem str_extract (S : List UInt8) (a b : Nat) : (str S).extract a b = str ((S.drop a).take (b - a)) := ByteArray.extract_mk S a b
theorem str_append (S T : List UInt8) : str S ++ str T = str (S ++ T) := by
  apply ByteArray.ext; simp [str]
theorem str_inj {S T : List UInt8} : str S = str T ↔ S = T := by
  constructor
  · intro h; have := congrArg (fun x => x.data.toList) h; simpa [str] using this
  · rintro rfl; rfl
theorem str_ex (s : ByteArray) : ∃ S, s = str S := ⟨s.data.toList, by apply ByteArray.ext; simp [str]⟩
theorem str_toList (S : List UInt8) : (str S).toList = S := by rw [Go.Lib.toList_data]; rfl
def bV (x : UInt8) : Value := .int .u8 (x.toNat : Int)
theorem bV_one (x : UInt8) : (bV x).oneCell' = true := rfl

/-- A *Film at block b, its bytes at block g. -/
structure FObj (w : World) (b g : Nat) (S : List UInt8) : Prop where
  box : ∃ cap, w.heap[b]? = some (.cells #[.slice (some ⟨g, 0, none⟩) S.length cap] 52 (0, 0)) ∧ S.length ≤ cap
  ty : ∃ cur fz, w.heap[g]? = some (.cells cur 5 fz)
  bytes : ∀ j x, S[j]? = some x → w.cell? ⟨g, j, none⟩ = some (bV x)
  fro : ∀ j, j < S.length → w.frozen? ⟨g, j, none⟩ = false

theorem FObj.keep {w w' : World} {b g : Nat} {S : List UInt8} (h : FObj w b g S) (e1 : w'.heap[b]? = w.heap[b]?) (e2 : w'.heap[g]? = w.heap[g]?) : FObj w' b g S := by
  obtain ⟨h1, h2, h3, h4⟩ := h
  refine ⟨by rw [e1]; exact h1, by rw [e2]; exact h2, fun j x hj => ?_, fun j hj => ?_⟩
  · rw [World.cell?_of_block (w := w) (a := ⟨g, j, none⟩) e2]; exact h3 j x hj
  · have := h4 j hj
    unfold World.frozen? at this ⊢
    simp only at this ⊢
    rw [e2]; exact this
theorem FObj.lt {w : World} {b g : Nat} {S : List UInt8} (h : FObj w b g S) : b < w.heap.size ∧ g < w.heap.size ∧ b ≠ g := by
  obtain ⟨cap, h1, _⟩ := h.box
  obtain ⟨cur, fz, h2⟩ := h.ty
  refine ⟨lt_of_block h1, lt_of_block h2, ?_⟩
  rintro rfl
  rw [h1] at h2; cases h2
theorem FObj.below {w w' : World} {b g : Nat} {S : List UInt8} (h : FObj w b g S) (hb : Below w.heap.size w w') : FObj w' b g S :=
  h.keep (hb.block b h.lt.1) (hb.block g h.lt.2.1)
theorem FObj.but {w w' : World} {b g x : Nat} {S : List UInt8} (h : FObj w b g S) (hb : But x w w') (h1 : b ≠ x) (h2 : g ≠ x) : FObj w' b g S :=
  h.keep (hb.block b h.lt.1 h1) (hb.block g h.lt.2.1 h2)
theorem But.low {x n : Nat} {w w' : World} (h : But x w w') (hn : n ≤ x) (hm : n ≤ w.heap.size) : Below n w w' := ⟨h.os, h.tape, h.output, h.size, fun k hk => h.block k (by omega) (by omega)⟩
theorem FObj.cell {w : World} {b g : Nat} {S : List UInt8} (h : FObj w b g S) : ∃ cap, w.cell? ⟨b, 0, none⟩ = some (.slice (some ⟨g, 0, none⟩) S.length cap) ∧ S.length ≤ cap := by
  obtain ⟨cap, h1, h2⟩ := h.box
  exact ⟨cap, by simp [World.cell?, h1], h2⟩

theorem fblocks_any {w : World} {b g : Nat} {S : List UInt8} (h : FObj w b g S) :
    Calls Try.prog 20 #[.pointer (some ⟨b, 0, none⟩)] w fun e w' => e = .returned (.int .i64 ((S.length / 8 : Nat) : Int)) ∧ w' = w := by
  obtain ⟨cap, hc, _⟩ := h.cell
  go_enter Try.func20, Try.ntmps20
  go_wp2
  go_ret
  exact ⟨rfl, rfl⟩
theorem fblocks_none (w : World) :
    Calls Try.prog 20 #[.pointer none] w fun e w' => e = .returned (.int .i64 0) ∧ w' = w := by
  go_enter Try.func20, Try.ntmps20
  go_wp2
  go_ret
  exact ⟨rfl, rfl⟩

theorem nums_str (S : List UInt8) : strOfNums (S.map fun b => (b.toNat : Int)) = str S := by
  apply ByteArray.ext
  simp [strOfNums, str, Function.comp_def]
theorem film_str {w : World} {g o n cap : Nat} {S : List UInt8} (hc : ∀ j x, S[j]? = some x → w.cell? ⟨g, o + j, none⟩ = some (bV x)) (hn : S.length = n) :
    (convert 49 9 (.slice (some ⟨g, o, none⟩) n cap)).run Try.prog w = .ok (.string (str S)) w := by
  rw [← nums_str]
  refine run_convert_bytes_arg (P := Try.prog) w 49 5 Try.underlying49 Try.underlying5 g o n cap _ (by simpa using hn) (fun j hj => ?_) 9 Try.underlying9
  have hj' : j < S.length := by omega
  rw [hc j _ (List.getElem?_eq_getElem hj')]
  simp [bV, List.getD, hj']

theorem fbytes_any {w : World} {b g : Nat} {S : List UInt8} (h : FObj w b g S) :
    Calls Try.prog 16 #[.pointer (some ⟨b, 0, none⟩)] w fun e w' => e = .returned (.string (str S)) ∧ w' = w := by
  obtain ⟨cap, hc, _⟩ := h.cell
  have hcv := film_str (w := w) (g := g) (o := 0) (n := S.length) (cap := cap) (S := S) (fun j x hj => by rw [Nat.zero_add]; exact h.bytes j x hj) rfl
  go_enter Try.func16, Try.ntmps16
  go_wp2
  go_ret
  exact ⟨rfl, rfl⟩
end Go.Proofs.Ytnkfgefbiacagaa
