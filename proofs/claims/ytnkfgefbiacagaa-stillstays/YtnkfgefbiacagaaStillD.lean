/-
  The contracts of film's Read where there are no such bytes, of still's Write and Kept.
-/
import Derived.Test.YtnkfgefbiacagaaStillC
namespace Go.Proofs.Ytnkfgefbiacagaa
open Go.ChangeShapes Go.WideShapes Go.ChangeAt Go.RowKit
attribute [local go_sem ↓] Go.wp_at_zero Go.wp_at_succ
attribute [local go_sem] str_size str_extract str_append str_toList

set_option maxRecDepth 100000 in
theorem read_bad {w : World} {b g B : Nat} {S : List UInt8} (at_ n : Int) (h : FObj w b g S) (hl : S.length = B * 8) (h1 : 1 ≤ B) (h2 : B ≤ 64) (ha : at_ ≤ 9223372036854775807) (hno : ¬ (0 ≤ at_ ∧ 0 ≤ n ∧ n ≤ S.length - at_)) :
    Calls Try.prog 21 #[.pointer (some ⟨b, 0, none⟩), .int .i64 at_, .int .i64 n] w fun e w' => e = .returned (.tuple #[.string (str []), .int .i64 1]) ∧ w' = w := by
  have hb := Hid.intro (holds_any at_ n h hl h1 h2 ha)
  rw [decide_eq_false hno] at hb
  clear h hl hno
  go_enter Try.func21, Try.ntmps21
  go_wp2_with fail
  refine hb.out.mono ?_; rintro e w2 ⟨rfl, rfl⟩
  go_wp2
  exact bodyPost_ret (v := .tuple #[.string (str []), .int .i64 1]) (by simp [results, Try.results21, go_sem]; rfl) rfl ⟨rfl, rfl⟩

/-- All is kept that there was, but two blocks. -/
structure But2 (x y : Nat) (w w' : World) : Prop where
  os : w'.os = w.os
  tape : w'.tape = w.tape
  output : w'.output = w.output
  size : w.heap.size ≤ w'.heap.size
  block : ∀ k, k < w.heap.size → k ≠ x → k ≠ y → w'.heap[k]? = w.heap[k]?
theorem But2.left {x y : Nat} {w w' : World} (h : But x w w') : But2 x y w w' := ⟨h.os, h.tape, h.output, h.size, fun k hk h1 _ => h.block k hk h1⟩
theorem But2.right {x y : Nat} {w w' : World} (h : But y w w') : But2 x y w w' := ⟨h.os, h.tape, h.output, h.size, fun k hk _ h1 => h.block k hk h1⟩
theorem But2.trans {x y : Nat} {a b c : World} (h : But2 x y a b) (k : But2 x y b c) : But2 x y a c :=
  ⟨k.os.trans h.os, k.tape.trans h.tape, k.output.trans h.output, Nat.le_trans h.size k.size, fun i hi hx hy => (k.block i (Nat.lt_of_lt_of_le hi h.size) hx hy).trans (h.block i hi hx hy)⟩
theorem But2.low {x y n : Nat} {w w' : World} (h : But2 x y w w') (hx : n ≤ x) (hy : n ≤ y) (hm : n ≤ w.heap.size) : Below n w w' := ⟨h.os, h.tape, h.output, h.size, fun k hk => h.block k (by omega) (by omega) (by omega)⟩
theorem FObj.but2 {w w' : World} {b g x y : Nat} {S : List UInt8} (h : FObj w b g S) (hb : But2 x y w w') (h1 : b ≠ x ∧ b ≠ y) (h2 : g ≠ x ∧ g ≠ y) : FObj w' b g S :=
  h.keep (hb.block b h.lt.1 h1.1 h1.2) (hb.block g h.lt.2.1 h2.1 h2.2)
theorem SObj.but2 {w w' : World} {s f K G x y : Nat} {O : List (List UInt8)} (h : SObj w s f K G O) (hb : But2 x y w w') (hx : s ≠ x ∧ s ≠ y) : SObj w' s f K G O := h.keep (hb.block s h.lt hx.1 hx.2)

/-- Which blocks a Write touches. -/
def tchW (S : List UInt8) (at_ : Int) (T : List UInt8) : Nat → Bool := fun j => decide (0 ≤ at_ ∧ (T.length : Int) ≤ S.length - at_) && tch at_.toNat T.length j

set_option maxRecDepth 100000 in
theorem swrite_bad {w : World} {s f g B K G : Nat} {O : List (List UInt8)} {S : List UInt8} (at_ : Int) (T : List UInt8) (h : SObj w s f K G O) (hF : FObj w f g S) (hl : S.length = B * 8) (h1 : 1 ≤ B) (h2 : B ≤ 64) (ha : at_ ≤ 9223372036854775807) (hno : ¬ (0 ≤ at_ ∧ (T.length : Int) ≤ S.length - at_)) :
    Calls Try.prog 10 #[.pointer (some ⟨s, 0, none⟩), .int .i64 at_, .string (str T)] w fun e w' => e = .returned (.int .i64 1) ∧ w' = w := by
  have hn := Hid.intro (now_any h)
  have hr := Hid.intro (read_bad at_ T.length hF hl h1 h2 ha (fun c => hno ⟨c.1, c.2.2⟩))
  clear h hF hl hno
  go_enter Try.func10, Try.ntmps10
  go_wp2_with fail
  refine hn.out.mono ?_; rintro e w2 ⟨rfl, rfl⟩
  go_wp2_with fail
  refine hr.out.mono ?_; rintro e w3 ⟨rfl, rfl⟩
  go_wp2
  go_ret
  exact ⟨rfl, rfl⟩
set_option maxRecDepth 100000 in
theorem swrite_ok {w : World} {s f g B K G : Nat} {O : List (List UInt8)} {S : List UInt8} (a : Nat) (T : List UInt8) (h : SObj w s f K G O) (hF : FObj w f g S) (hl : S.length = B * 8) (h1 : 1 ≤ B) (h2 : B ≤ 64) (ha : a + T.length ≤ S.length) :
    Calls Try.prog 10 #[.pointer (some ⟨s, 0, none⟩), .int .i64 (a : Int), .string (str T)] w fun e w' => e = .returned (.int .i64 0) ∧ (∃ K' O', SObj w' s f K' G O' ∧ KRel S (tch a T.length) G K K' O O') ∧ FObj w' f g (wrS S a T) ∧ But2 s g w w' := by
  have hn := Hid.intro (now_any h)
  have hr := Hid.intro (read_ok a T.length hF hl h1 h2 ha)
  have hk := Hid.intro (keep_any a T.length h hF hl h2 ha)
  have hap := Hid.intro (sf_apart h hF)
  have hF' := Hid.intro hF
  have hl' := Hid.intro hl
  have ha' := Hid.intro ha
  have a9 : (a : Int) ≤ 9223372036854775807 := by omega
  clear h hF hl ha
  go_enter Try.func10, Try.ntmps10
  go_wp2_with fail
  refine hn.out.mono ?_; rintro e w2 ⟨rfl, rfl⟩
  go_wp2_with fail
  refine hr.out.mono ?_; rintro e w3 ⟨rfl, rfl⟩
  go_wp2_with fail
  refine hk.out.mono ?_; rintro e w4 ⟨rfl, ⟨K', O', hS4, hR⟩, hb4⟩
  have hF4 := Hid.intro (hF'.out.but hb4 hap.out.1 hap.out.2)
  obtain ⟨c0, c1, c2, c3⟩ := hS4.cells
  have hS4' := Hid.intro hS4
  have hR' := Hid.intro hR
  have hb4' := Hid.intro hb4
  clear hS4 hR hb4 c3
  go_wp2_with fail
  refine (write_any (a : Int) T hF4.out hl'.out h1 h2 a9).mono ?_; rintro e w5 ⟨rfl, hF5, hb5⟩
  rw [if_pos (by have := ha'.out; omega)]
  go_wp2
  go_ret
  exact ⟨rfl, ⟨K', O', hS4'.out.but hb5 hap.out.2.symm, hR'.out⟩, hF5, (But2.left hb4'.out).trans (But2.right hb5)⟩
theorem swrite_any {w : World} {s f g B K G : Nat} {O : List (List UInt8)} {S : List UInt8} (at_ : Int) (T : List UInt8) (h : SObj w s f K G O) (hF : FObj w f g S) (hl : S.length = B * 8) (h1 : 1 ≤ B) (h2 : B ≤ 64) (ha : at_ ≤ 9223372036854775807) :
    Calls Try.prog 10 #[.pointer (some ⟨s, 0, none⟩), .int .i64 at_, .string (str T)] w fun e w' => (∃ er : Int, e = .returned (.int .i64 er)) ∧ (∃ K' O', SObj w' s f K' G O' ∧ KRel S (tchW S at_ T) G K K' O O') ∧ FObj w' f g (wrS S at_ T) ∧ But2 s g w w' := by
  by_cases hc : 0 ≤ at_ ∧ (T.length : Int) ≤ S.length - at_
  · obtain ⟨a, rfl⟩ : ∃ a : Nat, at_ = a := ⟨at_.toNat, by omega⟩
    have e : tchW S (a : Int) T = tch a T.length := by funext j; unfold tchW; rw [decide_eq_true hc]; simp
    rw [e]
    exact (swrite_ok a T h hF hl h1 h2 (by omega)).mono fun e w' ⟨he, hr⟩ => ⟨⟨_, he⟩, hr⟩
  · refine (swrite_bad at_ T h hF hl h1 h2 ha hc).mono fun e w' ⟨he, hw⟩ => ?_
    subst hw
    exact ⟨⟨_, he⟩, ⟨K, O, h, KRel.none _ _ _ _ _ (fun j => by unfold tchW; rw [decide_eq_false hc]; rfl)⟩, by unfold wrS; rw [if_neg hc]; exact hF, But2.left (But.of (Below.refl _ _))⟩

/-- The blocks that are kept. -/
def keptL (K n : Nat) : List Nat := (List.range n).filter K.testBit
def intsV (l : List Nat) : List Value := l.map fun (k : Nat) => .int .i64 (k : Int)
theorem keptL_succ (K n : Nat) : keptL K (n + 1) = keptL K n ++ (if K.testBit n then [n] else []) := by
  unfold keptL; rw [List.range_succ, List.filter_append]; simp [List.filter_cons]
theorem keptL_length (K n : Nat) : (keptL K n).length ≤ n := by
  have := List.length_filter_le K.testBit (List.range n)
  simpa [keptL] using this
theorem Try.info3 : (Try.prog.info? 3).map (fun i => (i.zero, i.size, i.bytes)) = some (some (.int .i64 0), 1, 8) := by kernel_rfl
set_option maxRecDepth 100000 in
theorem kept_any {w : World} {s f g B K G : Nat} {O : List (List UInt8)} {S : List UInt8} (h : SObj w s f K G O) (hF : FObj w f g S) (hl : S.length = B * 8) (h2 : B ≤ 64) :
    Calls Try.prog 12 #[.pointer (some ⟨s, 0, none⟩)] w fun e w' => ∃ v, e = .returned v ∧ w'.ownsRow w.heap.size 3 1 v (keptL K B).length (intsV (keptL K B)) ∧ Below w.heap.size w w' := by
  obtain ⟨i0, hi0, hz0', hz1', hz2'⟩ := info_parts Try.info3
  have hn := Hid.intro (now_any h)
  have hbl := Hid.intro (fblocks_B hF hl)
  have hS := Hid.intro h
  clear h hF hl
  go_enter Try.func12, Try.ntmps12
  go_wp2_with fail
  refine hn.out.mono ?_; rintro e w2 ⟨rfl, rfl⟩
  go_wp2_with fail
  refine hbl.out.mono ?_; rintro e w3 ⟨rfl, rfl⟩
  go_wp2_with fail
  go_loopw [3, 8] (fun v kv wr => ∃ k : Nat, k ≤ B ∧ kv = .int .i64 k ∧ wr.ownsRow w3.heap.size 3 1 v (keptL K k).length (intsV (keptL K k)) ∧ Below w3.heap.size w3 wr) (fun _ kv _ => B - (intOf kv).toNat)
  case atStart => exact ⟨0, Nat.zero_le _, rfl, World.ownsRow_nil _ _ _ _, Below.refl _ _⟩
  case round =>
    obtain ⟨k, hk, rfl, hown, hB⟩ := hrel
    have k0 : (0 : Int) ≤ (k : Int) := Int.natCast_nonneg _
    have hown' := Hid.intro hown
    have hB' := Hid.intro hB
    clear hown hB
    by_cases hlt : k < B
    · have i1 : (k : Int) < (B : Int) := by omega
      have hSw := Hid.intro (hS.out.below hB'.out)
      obtain ⟨c0, c1, c2, _⟩ := hSw.out.cells
      have hh := Hid.intro (has_any K k wr hS.out.hK (by omega))
      have hsz := hB'.out.size
      cases hb : K.testBit k with
      | true =>
        rw [hb] at hh
        have hs2 : Hid (keptL K (k + 1) = keptL K k ++ [k]) := Hid.intro (by rw [keptL_succ, hb]; rfl)
        have hlen := keptL_length K k
        clear hb
        go_wp2_with fail
        refine hh.out.mono ?_; rintro e w4 ⟨rfl, rfl⟩
        go_wp2_with (at_builtin; refine wpList_append_lies _ rfl _ _ 38 rfl w3.heap.size 3 i0 (.int .i64 0) 1 8 Try.underlying38 hi0 hz0' hz1' hz2' rfl (by decide) _ (keptL K k).length (intsV (keptL K k)) rfl (hown'.out.alloc _) ⟨w4.heap.size, 0, none⟩ 1 1 [.int .i64 (k : Int)] rfl rfl (World.news_of_block (cs := #[.int .i64 (k : Int)]) (t := 3) (fr := (0, 0)) (heap_alloc_new w4 _)) (by simp [Value.oneCell']) (by decide) (by unfold maxLen; omega) (by omega) (by simp; omega) (w4.heap.size + 1) (by simp) ?_; intro g5 cap5 w5 hown5 hgrow5 hat5 hlt5)
        go_roundw
        case rel =>
          refine ⟨k + 1, by omega, by go_num, by rw [hs2.out]; simpa [intsV] using hown5, ?_⟩
          exact (hB'.out.alloc hB'.out.size _).grown hgrow5 (by have := hB'.out.size; simp; omega) (fun j hj => (hown'.out.lt j hj).1)
        case measure => simp [intOf]; omega
      | false =>
        rw [hb] at hh
        have hs2 : Hid (keptL K (k + 1) = keptL K k) := Hid.intro (by rw [keptL_succ, hb]; simp)
        clear hb
        go_wp2_with fail
        refine hh.out.mono ?_; rintro e w4 ⟨rfl, rfl⟩
        go_wp2
        go_roundw
        case rel => exact ⟨k + 1, by omega, by go_num, by rw [hs2.out]; exact hown'.out, hB'.out⟩
        case measure => simp [intOf]; omega
    · have hkm : k = B := by omega
      subst hkm
      have i1 : ¬ (k : Int) < (k : Int) := by omega
      go_wp2
      go_ret
      exact ⟨_, rfl, hown'.out, hB'.out⟩
end Go.Proofs.Ytnkfgefbiacagaa
