/-
  The contract of the law's Do, of the kind that sets a snag.
-/
import Derived.Test.YtjjfdkgnagfbcaaRJ
namespace Go.Proofs.Ytjjfdkgnagfbcaa
open Go.ChangeShapes Go.WideShapes Go.ChangeAt Go.RowKit
attribute [local go_sem ↓] Go.wp_at_zero Go.wp_at_succ
attribute [local go_sem] str_size str_extract str_append str_toList

set_option maxHeartbeats 4000000 in
set_option maxRecDepth 100000 in
theorem do_snag1 {G : Nat → Prop} {w : World} {p gl gf r : Nat} {M : MS} {kv : Value} {l : List Bool} (h : Two G w p gl gf r M M) (n : Int) (hn0 : -9223372036854775808 ≤ n) (hn : n ≤ 9223372036854775807) (s : List UInt8) (hv : BoolsAt w kv l) (hg : BG G kv l) (hl : l.length ≤ 60) (hl0 : l ≠ []) :
    Calls Try.prog 17 #[.pointer (some ⟨p, 0, none⟩), .pointer (some ⟨r, 0, none⟩), .agg #[.int .i64 5, .int .i64 n, .string (str s), kv]] w fun e w' => e = .returned (.bool true) ∧ Two G w' p gl gf r (mSnag M n l) (mSnag M n l) ∧ Keep (fun k => ¬ G k) w w' := by
  have hok := Hid.intro h.1.ok
  have _hu := And.intro hn0 (And.intro hn hl)
  clear _hu
  have hw1 : Below w.heap.size w (w.alloc (.cells (oC 5 n s kv).toArray 32)) := (Below.refl _ _).alloc (Nat.le_refl _) _
  have hT := Hid.intro (h.more hw1)
  have hQ := Hid.intro (show OB (w.alloc (.cells (oC 5 n s kv).toArray 32)) w.heap.size 5 n s kv from ⟨heap_alloc_new w _⟩)
  have hGq := Hid.intro (show Gn G w (w.alloc (.cells (oC 5 n s kv).toArray 32)) w.heap.size from .inr ⟨Nat.le_refl _, by simp⟩)
  have hK := Hid.intro (Keep.of (F := fun k => ¬ G k) hw1)
  have hV := Hid.intro (hv.below hw1)
  have hVG := Hid.intro (show BG (Gn G w (w.alloc (.cells (oC 5 n s kv).toArray 32))) kv l from fun h0 g hg' => .inl (hg h0 g hg'))
  have hGs := Hid.intro h.2.2.1
  have hGG := Hid.intro (show ∀ k, G k → Gn G w (w.alloc (.cells (oC 5 n s kv).toArray 32)) k from fun _ h => .inl h)
  obtain ⟨c0, c1, c2, c3⟩ := hQ.out.cells
  have hqs := lt_of_block hQ.out.box
  clear hw1 hg hv h
  generalize Gn G w (w.alloc (.cells (oC 5 n s kv).toArray 32)) = G1 at *
  have hKG := Hid.intro (fun (x y : World) (hk : Keep (fun k => ¬ G1 k) x y) => (hk.mono (G := fun k => ¬ G k) fun k _ hn hg => hn (hGG.out k hg)))
  go_enter Try.func17, Try.ntmps17
  go_wp2_with fail
  obtain ⟨i0, hi0, hz0', hz1', hz2'⟩ := info_parts Try.info4b
  have hkvg : ∃ g o c, kv = .slice (some ⟨g, o, none⟩) l.length c := by
    rcases hV.out with ⟨rfl, _⟩ | ⟨g, o, cap, he, _⟩
    · exact absurd rfl hl0
    · exact ⟨g, o, cap, he⟩
  obtain ⟨gk, ok, ck, rfl⟩ := hkvg
  have hlp : 0 < l.length := List.length_pos_iff.2 hl0
  have l0 : (0 : Int) ≤ (l.length : Int) := Int.natCast_nonneg _
  have hnews := Hid.intro (bools_news hV.out hlp)
  have hsz1 := Hid.intro (show (w.alloc (.cells (oC 5 n s (.slice (some ⟨gk, ok, none⟩) l.length ck)).toArray 32)).heap.size = w.heap.size + 1 from by simp)
  have hszb := Hid.intro (show ((w.alloc (.cells (oC 5 n s (.slice (some ⟨gk, ok, none⟩) l.length ck)).toArray 32)).alloc (.cells #[.bool true] 4)).heap.size = w.heap.size + 2 from by simp)
  have hbb : Below (w.alloc (.cells (oC 5 n s (.slice (some ⟨gk, ok, none⟩) l.length ck)).toArray 32)).heap.size (w.alloc (.cells (oC 5 n s (.slice (some ⟨gk, ok, none⟩) l.length ck)).toArray 32)) ((w.alloc (.cells (oC 5 n s (.slice (some ⟨gk, ok, none⟩) l.length ck)).toArray 32)).alloc (.cells #[.bool true] 4)) := (Below.refl _ _).alloc (Nat.le_refl _) _
  have hnewsb := Hid.intro (bools_news (hV.out.below hbb) hlp)
  have c3b := Hid.intro ((hbb.cell (p := ⟨w.heap.size, 3, none⟩) hqs).trans c3)
  have hqsb := Hid.intro (show w.heap.size < ((w.alloc (.cells (oC 5 n s (.slice (some ⟨gk, ok, none⟩) l.length ck)).toArray 32)).alloc (.cells #[.bool true] 4)).heap.size from by rw [hszb.out]; omega)
  have hnb := Hid.intro (show ((w.alloc (.cells (oC 5 n s (.slice (some ⟨gk, ok, none⟩) l.length ck)).toArray 32)).alloc (.cells #[.bool true] 4)).cell? ⟨w.heap.size + 1, 0, none⟩ = some (.bool true) from by
    have h := heap_alloc_new (w.alloc (.cells (oC 5 n s (.slice (some ⟨gk, ok, none⟩) l.length ck)).toArray 32)) (.cells #[.bool true] 4)
    rw [hsz1.out] at h
    unfold World.cell?
    simp only [h]; rfl)
  have hdrb := Hid.intro (show Below (w.heap.size + 1) (w.alloc (.cells (oC 5 n s (.slice (some ⟨gk, ok, none⟩) l.length ck)).toArray 32)) ((w.alloc (.cells (oC 5 n s (.slice (some ⟨gk, ok, none⟩) l.length ck)).toArray 32)).alloc (.cells #[.bool true] 4)).drew from by have := hbb.drew; rwa [hsz1.out] at this)
  clear hbb
  have hdr := Hid.intro (show Below (w.heap.size + 1) (w.alloc (.cells (oC 5 n s (.slice (some ⟨gk, ok, none⟩) l.length ck)).toArray 32)) (w.alloc (.cells (oC 5 n s (.slice (some ⟨gk, ok, none⟩) l.length ck)).toArray 32)).drew from by have := below_drw (w := (w.alloc (.cells (oC 5 n s (.slice (some ⟨gk, ok, none⟩) l.length ck)).toArray 32))); rwa [hsz1.out] at this)
  go_region_held3 (fun w' => w'.cell? ⟨w.heap.size, 3, none⟩ = some (.slice (some ⟨gk, ok, none⟩) l.length ck))
    (first
      | exact c3
      | exact S6.out
      | exact S5.out
      | exact c3b.out
      | exact (((Below.refl w5.heap.size w5).alloc (Nat.le_refl _) _).cell (p := ⟨w.heap.size, 3, none⟩) Q5.out.1).trans S5.out)
    (first
      | (refine step_append_lies _ rfl _ _ 30 rfl 0 4 i0 (.bool false) 1 1 Try.underlying30 hi0 hz0' hz1' hz2' rfl (by decide) _ l.length (l.map Value.bool) rfl (O5.out.alloc _) ⟨w5.heap.size, 0, none⟩ 1 1 [.bool true] rfl rfl (World.news_of_block (cs := #[.bool true]) (t := 4) (fr := (0, 0)) (heap_alloc_new w5 _)) (by simp [Value.oneCell']) (by decide) (by unfold maxLen; omega) (by omega) (Nat.zero_le _) _ rfl ?_; intro g6 cap6 w6 hown6 hgrow6 hat6 hlt6; have O6 := Hid.intro hown6; have S6 := Hid.intro (show w6.cell? ⟨w.heap.size, 3, none⟩ = some (.slice (some ⟨gk, ok, none⟩) l.length ck) from (hgrow6.cell_far ⟨w.heap.size, 3, none⟩ (by have := Q5.out.1; simp; omega) (show (some w.heap.size : Option Nat) ≠ some g5 from fun h => Q5.out.2.1 (Option.some.inj h).symm)).trans ((((Below.refl w5.heap.size w5).alloc (Nat.le_refl _) _).cell (p := ⟨w.heap.size, 3, none⟩) Q5.out.1).trans S5.out)); have B6 := Hid.intro ((B5.out.alloc (by have := Q5.out.1; omega) (.cells #[.bool true] 4)).grown hgrow6 (by have := Q5.out.1; simp; omega) (fun k hk => by have h : some g5 = some k := hk; cases h; exact Q5.out.2.2)); have L6 := Hid.intro hlt6; have N6 := Hid.intro (show w.heap.size + 1 ≤ g6 from hat6.elim (fun h => by have h' : some g5 = some g6 := h; cases h'; exact Q5.out.2.2) (fun h => by have h2 := Q5.out.1; have h3 : g6 = w5.heap.size + 1 := h.trans (by simp); omega)); have C6 := Int.ofNat_le.2 (Nat.le_trans (Nat.le_succ _) (own_cap hown6)); clear hown6 hgrow6 hat6 hlt6)
      | (refine step_append_lies _ rfl _ _ 30 rfl 0 4 i0 (.bool false) 1 1 Try.underlying30 hi0 hz0' hz1' hz2' rfl (by decide) _ l.length (l.map Value.bool) rfl O5b.out ⟨w.heap.size + 1, 0, none⟩ 1 1 [.bool true] rfl rfl (one_news T5b.out) (by simp [Value.oneCell']) (by decide) (by unfold maxLen; omega) (by omega) (Nat.zero_le _) _ rfl ?_; intro g6 cap6 w6 hown6 hgrow6 hat6 hlt6; have O6 := Hid.intro hown6; have S6 := Hid.intro (show w6.cell? ⟨w.heap.size, 3, none⟩ = some (.slice (some ⟨gk, ok, none⟩) l.length ck) from (hgrow6.cell_far ⟨w.heap.size, 3, none⟩ Q5.out.1 (show (some w.heap.size : Option Nat) ≠ some g5 from fun h => Q5.out.2.1 (Option.some.inj h).symm)).trans S5.out); have B6 := Hid.intro (B5.out.grown hgrow6 Q5.out.1 (fun k hk => by have h : some g5 = some k := hk; cases h; exact Q5.out.2.2)); have L6 := Hid.intro hlt6; have N6 := Hid.intro (show w.heap.size + 1 ≤ g6 from hat6.elim (fun h => by have h' : some g5 = some g6 := h; cases h'; exact Q5.out.2.2) (fun h => by have h2 := Q5.out.1; have h3 : g6 = w5.heap.size := h; omega)); have C6 := Int.ofNat_le.2 (Nat.le_trans (Nat.le_succ _) (own_cap hown6)); clear hown6 hgrow6 hat6 hlt6)
      | (refine step_append_lies _ rfl _ _ 30 rfl 0 4 i0 (.bool false) 1 1 Try.underlying30 hi0 hz0' hz1' hz2' rfl (by decide) _ 0 [] rfl (World.ownsRow_nil _ _ _ _) ⟨gk, ok, none⟩ l.length ck (l.map Value.bool) rfl (by simp) hnews.out (bools_one l) hlp (by unfold maxLen; omega) (by omega) (Nat.zero_le _) _ rfl ?_; intro g5 cap5 w5 hown5 hgrow5 hat5 hlt5; simp only [Nat.zero_add, List.nil_append] at hown5 ⊢; have e5 := hat5.elim (fun h => nomatch (show (none : Option Nat) = some g5 from h)) id; have O5 := Hid.intro hown5; have B5 := Hid.intro (hdr.out.grown hgrow5 (Nat.le_of_eq hsz1.out.symm) (fun k hk => by cases hk)); have Q5 := Hid.intro (show w.heap.size < w5.heap.size ∧ g5 ≠ w.heap.size ∧ w.heap.size + 1 ≤ g5 from by have h5 : g5 = w.heap.size + 1 := e5.trans hsz1.out; have h6 := hlt5; omega); have S5 := Hid.intro (show w5.cell? ⟨w.heap.size, 3, none⟩ = some (.slice (some ⟨gk, ok, none⟩) l.length ck) from (hgrow5.cell_far ⟨w.heap.size, 3, none⟩ hqs (show (some w.heap.size : Option Nat) ≠ none from by simp)).trans c3); clear hown5 hgrow5 hat5 hlt5 e5)
      | (refine step_append_lies _ rfl _ _ 30 rfl 0 4 i0 (.bool false) 1 1 Try.underlying30 hi0 hz0' hz1' hz2' rfl (by decide) _ 0 [] rfl (World.ownsRow_nil _ _ _ _) ⟨gk, ok, none⟩ l.length ck (l.map Value.bool) rfl (by simp) hnewsb.out (bools_one l) hlp (by unfold maxLen; omega) (by omega) (Nat.zero_le _) _ rfl ?_; intro g5 cap5 w5 hown5 hgrow5 hat5 hlt5; simp only [Nat.zero_add, List.nil_append] at hown5 ⊢; have e5 := hat5.elim (fun h => nomatch (show (none : Option Nat) = some g5 from h)) id; have O5b := Hid.intro hown5; have B5 := Hid.intro (hdrb.out.grown hgrow5 (Nat.le_of_lt (Nat.lt_of_lt_of_le (Nat.lt_succ_self _) (Nat.le_of_eq hszb.out.symm))) (fun k hk => by cases hk)); have Q5 := Hid.intro (show w.heap.size < w5.heap.size ∧ g5 ≠ w.heap.size ∧ w.heap.size + 1 ≤ g5 from by have h5 : g5 = w.heap.size + 2 := e5.trans hszb.out; have h6 := hlt5; omega); have S5 := Hid.intro (show w5.cell? ⟨w.heap.size, 3, none⟩ = some (.slice (some ⟨gk, ok, none⟩) l.length ck) from (hgrow5.cell_far ⟨w.heap.size, 3, none⟩ hqsb.out (show (some w.heap.size : Option Nat) ≠ none from by simp)).trans c3b.out); have T5b := Hid.intro (show w5.cell? ⟨w.heap.size + 1, 0, none⟩ = some (.bool true) from (hgrow5.cell_far ⟨w.heap.size + 1, 0, none⟩ (Nat.lt_of_lt_of_le (Nat.lt_succ_self (w.heap.size + 1)) (Nat.le_of_eq hszb.out.symm)) (show (some (w.heap.size + 1) : Option Nat) ≠ none from by simp)).trans hnb.out); clear hown5 hgrow5 hat5 hlt5 e5))
  all_goals
    have B6' : Below (w.alloc (.cells (oC 5 n s (.slice (some ⟨gk, ok, none⟩) l.length ck)).toArray 32)).heap.size (w.alloc (.cells (oC 5 n s (.slice (some ⟨gk, ok, none⟩) l.length ck)).toArray 32)) w6 := B6.out.mono (Nat.le_of_eq hsz1.out)
    obtain ⟨G2, hZ, hg6, a6⟩ : ∃ G2 : Nat → Prop, (∀ k, G1 k → G2 k) ∧ G2 g6 ∧ Two G2 w6 p gl gf r M M := ⟨_, fun _ h => .inl h, .inr ⟨by rw [hsz1.out]; exact N6.out, L6.out⟩, hT.out.more B6'⟩
    have A6 := Hid.intro a6
    have hZ' := Hid.intro hZ
    have hg6' := Hid.intro hg6
    have K6 := Hid.intro (hK.out.then (Keep.of B6'))
    have F6 := Hid.intro (own_bools O6.out L6.out)
    have FB6 := Hid.intro (own_FB O6.out)
    have V6 := Hid.intro (hV.out.below B6')
    have Q6 := Hid.intro (hQ.out.below B6')
    have hGn := Hid.intro (show ¬ G g6 from fun h => by have := hGs.out g6 h; have := N6.out; omega)
    have hK2 := Hid.intro (fun (x y : World) (hk : Keep (fun k => ¬ G2 k) x y) => hKG.out x y (hk.mono fun k _ hn hg => hn (hZ k hg)))
    have hG2q := Hid.intro (hZ _ hGq.out)
    have hVG2 := Hid.intro (show BG G2 (.slice (some ⟨gk, ok, none⟩) l.length ck) l from fun h0 g hg => hZ g (hVG.out h0 g hg))
    have hll := Hid.intro (fun k (h : G k) => hZ k (hGG.out k h))
    obtain ⟨_, b1, _, _⟩ := Q6.out.cells
    clear a6 hZ hg6 B6' S6 S5 B5 Q5 c0 c1 c2 c3 c3b hnewsb hnews hqsb hnb hdrb hdr hszb
    go_wp2_with fail
    refine (t_snag A6.out n hn F6.out (fun _ g hg => by have h : some g6 = some g := hg; cases h; exact hg6'.out) hl).mono ?_; rintro e w7 ⟨rfl, a7, k7⟩
    have A7 := Hid.intro a7
    have K7 := Hid.intro (K6.out.then (hK2.out _ _ k7))
    have FB7 := Hid.intro (FB6.out.kept hg6'.out k7)
    have V7 := Hid.intro (V6.out.kept hVG2.out k7)
    have Q7 := Hid.intro (Q6.out.kept hG2q.out k7)
    obtain ⟨_, d1, _, d3⟩ := Q7.out.cells
    clear a7 k7 b1
    go_wp2_with fail
    refine (t_rsnag A7.out n hn0 hn V7.out hl).mono ?_; rintro e w8 ⟨rfl, a8, k8⟩
    have A8 := Hid.intro a8
    have K8 := Hid.intro (K7.out.then (hK2.out _ _ k8))
    have FB8 := Hid.intro (FB7.out.kept hg6'.out k8)
    clear a8 k8 d1 d3
    go_wp2_with fail
    go_loopw [8] (fun iv wr => ∃ i : Nat, i ≤ l.length ∧ iv = .int .i64 (i : Int) ∧ Two G2 wr p gl gf r (mSnag M n l) (mSnag M n l) ∧ FB wr g6 l.length ∧ Keep (fun k => ¬ G k) w wr) (fun iv _ => l.length - (intOf iv).toNat)
    case atStart => exact ⟨0, Nat.zero_le _, rfl, A8.out, FB8.out, K8.out⟩
    case round =>
      obtain ⟨i, hi, rfl, hA, hF, hKr⟩ := hrel
      have i0 : (0 : Int) ≤ (i : Int) := Int.natCast_nonneg _
      have hA' := Hid.intro hA
      have hF' := Hid.intro hF
      have hKr' := Hid.intro hKr
      clear hA hF hKr
      by_cases hlt : i < l.length
      · have i1 : (i : Int) < (l.length : Int) := by omega
        obtain ⟨b, hb⟩ := hF'.out.2 i hlt
        have hfz := hF'.out.fro i
        go_wp2
        go_roundw
        case rel => exact ⟨i + 1, by omega, by go_num, hA'.out.write (Keep.set hg6'.out), hF'.out.set i _, hKr'.out.then (Keep.set hGn.out)⟩
        case measure => simp [intOf]; omega
      · have him : i = l.length := by omega
        subst him
        have i1 : ¬ (l.length : Int) < (l.length : Int) := by omega
        go_wp2
        go_ret
        exact ⟨rfl, hA'.out.less hll.out, hKr'.out⟩
set_option maxHeartbeats 4000000 in
set_option maxRecDepth 100000 in
theorem do_snag0 {G : Nat → Prop} {w : World} {p gl gf r : Nat} {M : MS} {kv : Value} {l : List Bool} (h : Two G w p gl gf r M M) (n : Int) (hn0 : -9223372036854775808 ≤ n) (hn : n ≤ 9223372036854775807) (s : List UInt8) (hv : BoolsAt w kv l) (hg : BG G kv l) (hl : l.length ≤ 60) (hl0 : l = []) :
    Calls Try.prog 17 #[.pointer (some ⟨p, 0, none⟩), .pointer (some ⟨r, 0, none⟩), .agg #[.int .i64 5, .int .i64 n, .string (str s), kv]] w fun e w' => e = .returned (.bool true) ∧ Two G w' p gl gf r (mSnag M n l) (mSnag M n l) ∧ Keep (fun k => ¬ G k) w w' := by
  have hok := Hid.intro h.1.ok
  have _hu := And.intro hn0 (And.intro hn hl)
  clear _hu
  have hw1 : Below w.heap.size w (w.alloc (.cells (oC 5 n s kv).toArray 32)) := (Below.refl _ _).alloc (Nat.le_refl _) _
  have hT := Hid.intro (h.more hw1)
  have hQ := Hid.intro (show OB (w.alloc (.cells (oC 5 n s kv).toArray 32)) w.heap.size 5 n s kv from ⟨heap_alloc_new w _⟩)
  have hGq := Hid.intro (show Gn G w (w.alloc (.cells (oC 5 n s kv).toArray 32)) w.heap.size from .inr ⟨Nat.le_refl _, by simp⟩)
  have hK := Hid.intro (Keep.of (F := fun k => ¬ G k) hw1)
  have hV := Hid.intro (hv.below hw1)
  have hVG := Hid.intro (show BG (Gn G w (w.alloc (.cells (oC 5 n s kv).toArray 32))) kv l from fun h0 g hg' => .inl (hg h0 g hg'))
  have hGs := Hid.intro h.2.2.1
  have hGG := Hid.intro (show ∀ k, G k → Gn G w (w.alloc (.cells (oC 5 n s kv).toArray 32)) k from fun _ h => .inl h)
  obtain ⟨c0, c1, c2, c3⟩ := hQ.out.cells
  have hqs := lt_of_block hQ.out.box
  clear hw1 hg hv h
  generalize Gn G w (w.alloc (.cells (oC 5 n s kv).toArray 32)) = G1 at *
  have hKG := Hid.intro (fun (x y : World) (hk : Keep (fun k => ¬ G1 k) x y) => (hk.mono (G := fun k => ¬ G k) fun k _ hn hg => hn (hGG.out k hg)))
  go_enter Try.func17, Try.ntmps17
  go_wp2_with fail
  obtain ⟨i0, hi0, hz0', hz1', hz2'⟩ := info_parts Try.info4b
  subst hl0
  have hkvg : ∃ a c, kv = .slice a 0 c := hV.out.form
  obtain ⟨ak, ck, rfl⟩ := hkvg
  have hsz1 := Hid.intro (show (w.alloc (.cells (oC 5 n s (.slice ak 0 ck)).toArray 32)).heap.size = w.heap.size + 1 from by simp)
  have hszb := Hid.intro (show ((w.alloc (.cells (oC 5 n s (.slice ak 0 ck)).toArray 32)).alloc (.cells #[.bool true] 4)).heap.size = w.heap.size + 2 from by simp)
  have hbb : Below (w.alloc (.cells (oC 5 n s (.slice ak 0 ck)).toArray 32)).heap.size (w.alloc (.cells (oC 5 n s (.slice ak 0 ck)).toArray 32)) ((w.alloc (.cells (oC 5 n s (.slice ak 0 ck)).toArray 32)).alloc (.cells #[.bool true] 4)) := (Below.refl _ _).alloc (Nat.le_refl _) _
  have c3b := Hid.intro ((hbb.cell (p := ⟨w.heap.size, 3, none⟩) hqs).trans c3)
  have hqsb := Hid.intro (show w.heap.size < ((w.alloc (.cells (oC 5 n s (.slice ak 0 ck)).toArray 32)).alloc (.cells #[.bool true] 4)).heap.size from by rw [hszb.out]; omega)
  have hnb := Hid.intro (show ((w.alloc (.cells (oC 5 n s (.slice ak 0 ck)).toArray 32)).alloc (.cells #[.bool true] 4)).cell? ⟨w.heap.size + 1, 0, none⟩ = some (.bool true) from by
    have h := heap_alloc_new (w.alloc (.cells (oC 5 n s (.slice ak 0 ck)).toArray 32)) (.cells #[.bool true] 4)
    rw [hsz1.out] at h
    unfold World.cell?
    simp only [h]; rfl)
  have hdrb := Hid.intro (hbb.drew)
  clear hbb
  cases ak with
  | none =>
    go_region_held3 (fun w' => w'.cell? ⟨w.heap.size, 3, none⟩ = some (.slice none 0 ck))
      (first
        | exact c3
        | exact S6.out
        | exact c3b.out)
      (first
        | (refine step_append_lies _ rfl _ _ 30 rfl 0 4 i0 (.bool false) 1 1 Try.underlying30 hi0 hz0' hz1' hz2' rfl (by decide) _ 0 [] rfl (World.ownsRow_nil _ _ _ _) ⟨w.heap.size + 1, 0, none⟩ 1 1 [.bool true] rfl rfl (one_news hnb.out) (by simp [Value.oneCell']) (by decide) (by unfold maxLen; omega) (by omega) (Nat.zero_le _) _ rfl ?_; intro g6 cap6 w6 hown6 hgrow6 hat6 hlt6; simp only [Nat.zero_add, List.nil_append] at hown6 ⊢; have S6 := Hid.intro ((hgrow6.cell_far ⟨w.heap.size, 3, none⟩ hqsb.out (show (some w.heap.size : Option Nat) ≠ none from by simp)).trans c3b.out); have B6 := Hid.intro (hdrb.out.grown hgrow6 (Nat.le_trans (Nat.le_of_eq hsz1.out) (Nat.le_trans (Nat.le_succ _) (Nat.le_of_eq hszb.out.symm))) (fun k hk => nomatch (show (none : Option Nat) = some k from hk))); have C6 : (0 : Int) ≤ (cap6 : Int) := Int.natCast_nonneg _; clear hown6 hgrow6 hat6 hlt6))
    all_goals
      have A6 := Hid.intro (hT.out.below B6.out)
      have K6 := Hid.intro (hK.out.then (Keep.of B6.out))
      have V6 := Hid.intro (hV.out.below B6.out)
      have Q6 := Hid.intro (hQ.out.below B6.out)
      obtain ⟨_, b1, _, _⟩ := Q6.out.cells
      clear B6 S6 c0 c1 c2 c3 c3b hqsb hnb hdrb hszb
      go_wp2_with fail
      refine (t_snag A6.out n hn (.inl ⟨rfl, _, _, rfl⟩) (fun h0 => absurd rfl h0) hl).mono ?_; rintro e w7 ⟨rfl, a7, k7⟩
      have A7 := Hid.intro a7
      have K7 := Hid.intro (K6.out.then (hKG.out _ _ k7))
      have V7 := Hid.intro (V6.out.kept hVG.out k7)
      have Q7 := Hid.intro (Q6.out.kept hGq.out k7)
      obtain ⟨_, d1, _, d3⟩ := Q7.out.cells
      clear a7 k7 b1
      go_wp2_with fail
      refine (t_rsnag A7.out n hn0 hn V7.out hl).mono ?_; rintro e w8 ⟨rfl, a8, k8⟩
      have A8 := Hid.intro a8
      have K8 := Hid.intro (K7.out.then (hKG.out _ _ k8))
      clear a8 k8 d1 d3
      go_wp2_with fail
      go_loopw [8] (fun iv wr => iv = .int .i64 0 ∧ wr = w8) (fun _ _ => 0)
      case atStart => exact ⟨rfl, rfl⟩
      case round =>
        obtain ⟨rfl, rfl⟩ := hrel
        go_wp2
        go_ret
        exact ⟨rfl, A8.out.less hGG.out, K8.out⟩
  | some ad =>
    go_region_held3 (fun w' => w'.cell? ⟨w.heap.size, 3, none⟩ = some (.slice (some ad) 0 ck))
      (first
        | exact c3
        | exact S6.out
        | exact c3b.out)
      (first
        | (refine step_append_lies _ rfl _ _ 30 rfl 0 4 i0 (.bool false) 1 1 Try.underlying30 hi0 hz0' hz1' hz2' rfl (by decide) _ 0 [] rfl (World.ownsRow_nil _ _ _ _) ⟨w.heap.size + 1, 0, none⟩ 1 1 [.bool true] rfl rfl (one_news hnb.out) (by simp [Value.oneCell']) (by decide) (by unfold maxLen; omega) (by omega) (Nat.zero_le _) _ rfl ?_; intro g6 cap6 w6 hown6 hgrow6 hat6 hlt6; simp only [Nat.zero_add, List.nil_append] at hown6 ⊢; have S6 := Hid.intro ((hgrow6.cell_far ⟨w.heap.size, 3, none⟩ hqsb.out (show (some w.heap.size : Option Nat) ≠ none from by simp)).trans c3b.out); have B6 := Hid.intro (hdrb.out.grown hgrow6 (Nat.le_trans (Nat.le_of_eq hsz1.out) (Nat.le_trans (Nat.le_succ _) (Nat.le_of_eq hszb.out.symm))) (fun k hk => nomatch (show (none : Option Nat) = some k from hk))); have C6 : (0 : Int) ≤ (cap6 : Int) := Int.natCast_nonneg _; clear hown6 hgrow6 hat6 hlt6))
    all_goals
      have A6 := Hid.intro (hT.out.below B6.out)
      have K6 := Hid.intro (hK.out.then (Keep.of B6.out))
      have V6 := Hid.intro (hV.out.below B6.out)
      have Q6 := Hid.intro (hQ.out.below B6.out)
      obtain ⟨_, b1, _, _⟩ := Q6.out.cells
      clear B6 S6 c0 c1 c2 c3 c3b hqsb hnb hdrb hszb
      go_wp2_with fail
      refine (t_snag A6.out n hn (.inl ⟨rfl, _, _, rfl⟩) (fun h0 => absurd rfl h0) hl).mono ?_; rintro e w7 ⟨rfl, a7, k7⟩
      have A7 := Hid.intro a7
      have K7 := Hid.intro (K6.out.then (hKG.out _ _ k7))
      have V7 := Hid.intro (V6.out.kept hVG.out k7)
      have Q7 := Hid.intro (Q6.out.kept hGq.out k7)
      obtain ⟨_, d1, _, d3⟩ := Q7.out.cells
      clear a7 k7 b1
      go_wp2_with fail
      refine (t_rsnag A7.out n hn0 hn V7.out hl).mono ?_; rintro e w8 ⟨rfl, a8, k8⟩
      have A8 := Hid.intro a8
      have K8 := Hid.intro (K7.out.then (hKG.out _ _ k8))
      clear a8 k8 d1 d3
      go_wp2_with fail
      go_loopw [8] (fun iv wr => iv = .int .i64 0 ∧ wr = w8) (fun _ _ => 0)
      case atStart => exact ⟨rfl, rfl⟩
      case round =>
        obtain ⟨rfl, rfl⟩ := hrel
        go_wp2
        go_ret
        exact ⟨rfl, A8.out.less hGG.out, K8.out⟩
end Go.Proofs.Ytjjfdkgnagfbcaa
