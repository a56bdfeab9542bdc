/-
  A *Out in memory: its box and the bytes that it has; the contracts of refuse, put, Num, Text, Extents, Done.
-/
import Derived.Test.YtnboajhcjgcpfaaOLeaf
import Derived.Test.YtnboajhcjgcpfaaEValid
import Derived.Test.YtnboajhcjgcpfaaBkEB
import Derived.Lib.AppendStr
import Derived.Deep.QuietTactic
namespace Go.Proofs.Ytnboajhcjgcpfaa
open Go.ChangeShapes Go.WideShapes Go.ChangeAt Go.RowKit
attribute [local go_sem ↓] Go.wp_at_zero Go.wp_at_succ
attribute [local go_sem] str_size str_extract str_append str_toList

def er : St → Int
  | none => 1
  | some _ => 0
/-- A *Out at block p. -/
structure OO (w : World) (base p : Nat) (st : St) (v : Value) : Prop where
  block : w.heap[p]? = some (.cells #[v, .int .i64 (er st)] 29 (0, 0))
  own : w.ownsRow base 5 1 v (lft st).length ((lft st).map bV)
def OutO (w : World) (base p : Nat) (st : St) : Prop := ∃ v, OO w base p st v
/-- What a call of a *Out leaves. -/
def TO (e : TypeId) : Prop := e ≠ 5 ∧ e ≠ 29
theorem OutO.below {w w' : World} {base p : Nat} {st : St} (h : OutO w base p st) (hb : Below w.heap.size w w') : OutO w' base p st := by
  obtain ⟨v, h1, h2⟩ := h
  exact ⟨v, by rw [hb.block p (lt_of_block h1)]; exact h1, BkE.own_ofBlock h2 (fun b hb' => by obtain ⟨_, cur, hg⟩ := BkE.own_block h2 b hb'; exact hb.block b (lt_of_block hg))⟩
theorem OutO.stay {w w' : World} {base p : Nat} {st : St} {T : TypeId → Prop} (h : OutO w base p st) (hs : BkE.Stay T w w') (t5 : T 5) (t29 : T 29) : OutO w' base p st := by
  obtain ⟨v, h1, h2⟩ := h
  exact ⟨v, hs.block _ _ _ _ h1 t29, BkE.own_stay h2 hs t5⟩
theorem OutO.new (w : World) (base : Nat) : OutO (w.alloc (.cells #[.slice none 0 0, .int .i64 0] 29)) base w.heap.size (some []) :=
  ⟨.slice none 0 0, heap_alloc_new w (.cells #[.slice none 0 0, .int .i64 0] 29), World.ownsRow_nil _ _ _ _⟩
theorem box2 {w : World} {p : Nat} {x y : Value} {t : TypeId} (h : w.heap[p]? = some (.cells #[x, y] t (0, 0))) : w.cell? ⟨p, 0, none⟩ = some x ∧ w.cell? ⟨p, 1, none⟩ = some y ∧ w.frozen? ⟨p, 0, none⟩ = false ∧ w.frozen? ⟨p, 1, none⟩ = false := by
  refine ⟨?_, ?_, ?_, ?_⟩
  · simp [World.cell?, h]
  · simp [World.cell?, h]
  · simp [World.frozen?, h]
  · simp [World.frozen?, h]
theorem set2a {w : World} {p : Nat} {x y u : Value} {t : TypeId} (h : w.heap[p]? = some (.cells #[x, y] t (0, 0))) : (w.setCell ⟨p, 0, none⟩ u).heap[p]? = some (.cells #[u, y] t (0, 0)) := by
  simp [World.setCell, Array.getElem?_modify, h]
theorem set2b {w : World} {p : Nat} {x y u : Value} {t : TypeId} (h : w.heap[p]? = some (.cells #[x, y] t (0, 0))) : (w.setCell ⟨p, 1, none⟩ u).heap[p]? = some (.cells #[x, u] t (0, 0)) := by
  simp [World.setCell, Array.getElem?_modify, h]
theorem stay_set {w : World} {p o : Nat} {cx : Array Value} {u : Value} {t : TypeId} {fx : Nat × Nat} {T : TypeId → Prop} (h : w.heap[p]? = some (.cells cx t fx)) (ht : ¬ T t) : BkE.Stay T w (w.setCell ⟨p, o, none⟩ u) :=
  (BkE.Stay.of (Below.refl _ _)).setCell o u h ht
theorem notTO29 : ¬ TO 29 := fun h => h.2 rfl
theorem notTO5 : ¬ TO 5 := fun h => h.1 rfl

set_option maxRecDepth 100000 in
theorem refuse_any {w : World} {base p : Nat} {st : St} (h : OutO w base p st) (hp : base ≤ p) :
    Calls Try.prog 35 #[.pointer (some ⟨p, 0, none⟩)] w fun e w' => e = .returned (.int .i64 1) ∧ OutO w' base p none ∧ BkE.Stay TO w w' ∧ Below base w w' := by
  obtain ⟨v, h1, h2⟩ := h
  obtain ⟨c0, c1, f0, f1⟩ := box2 h1
  have e1 := set2a (u := .slice none 0 0) h1
  have e2 := Hid.intro (set2b (u := .int .i64 1) e1)
  have s2 := Hid.intro ((stay_set (T := TO) (o := 0) (u := .slice none 0 0) h1 notTO29).trans (stay_set (T := TO) (o := 1) (u := .int .i64 1) e1 notTO29))
  have b2 := Hid.intro (((Below.refl base w).setCell (p := ⟨p, 0, none⟩) hp (.slice none 0 0)).setCell (p := ⟨p, 1, none⟩) hp (.int .i64 1))
  have hl := lt_of_block h1
  clear h1 h2 e1
  go_enter Try.func35, Try.ntmps35
  go_wp2
  go_ret
  exact ⟨rfl, ⟨.slice none 0 0, e2.out, World.ownsRow_nil _ _ _ _⟩, s2.out, b2.out⟩
theorem refuse_nil (w : World) : Calls Try.prog 35 #[.pointer none] w fun e w' => e = .returned (.int .i64 1) ∧ w' = w := by
  go_enter Try.func35, Try.ntmps35
  go_wp2
  go_ret
  exact ⟨rfl, rfl⟩
theorem put_nil (v : Value) (w : World) : Calls Try.prog 36 #[.pointer none, v] w fun e w' => e = .returned (.int .i64 1) ∧ w' = w := by
  go_enter Try.func36, Try.ntmps36
  go_wp2
  go_ret
  exact ⟨rfl, rfl⟩

/-- One more part behind the bytes. -/
theorem put_out {w w5 : World} {base p g cap n : Nat} {S B : List UInt8} {v : Value} (h : OO w base p (some S) v) (hp : base ≤ p) (hbase : base ≤ w.heap.size) (hn : n = S.length + B.length)
    (hown : w5.ownsRow base 5 1 (.slice (some ⟨g, 0, none⟩) n cap) n (S.map bV ++ B.map bV)) (hgrow : w.grownBy w5 v.ownBlock) :
    w5.heap[p]? = some (.cells #[v, .int .i64 0] 29 (0, 0)) ∧
    OutO (w5.setCell ⟨p, 0, none⟩ (.slice (some ⟨g, 0, none⟩) n cap)) base p (some (S ++ B)) ∧ BkE.Stay TO w (w5.setCell ⟨p, 0, none⟩ (.slice (some ⟨g, 0, none⟩) n cap)) ∧ Below base w (w5.setCell ⟨p, 0, none⟩ (.slice (some ⟨g, 0, none⟩) n cap)) := by
  subst hn
  obtain ⟨h1, h2⟩ := h
  have hpl := lt_of_block h1
  have hpne : some p ≠ v.ownBlock := fun e => by obtain ⟨_, cur, hg⟩ := BkE.own_block h2 p e.symm; rw [h1] at hg; cases hg
  have h5 : w5.heap[p]? = some (.cells #[v, .int .i64 0] 29 (0, 0)) := by rw [hgrow.block p hpl hpne]; exact h1
  have hs : BkE.Stay TO w w5 := BkE.Stay.grown hgrow fun b hb => by
    obtain ⟨_, cur, hg⟩ := BkE.own_block h2 b hb
    exact ⟨cur, 5, (0, 0), hg, notTO5⟩
  have hst : BkE.Stay (fun e => e ≠ 29) w5 (w5.setCell ⟨p, 0, none⟩ (.slice (some ⟨g, 0, none⟩) (S.length + B.length) cap)) := stay_set h5 (by simp)
  refine ⟨h5, ⟨_, set2a h5, ?_⟩, hs.trans (hst.mono fun e he => he.2), ((Below.refl base w).grown hgrow hbase (fun j hj => (h2.lt j hj).1)).setCell hp _⟩
  have := BkE.own_stay hown hst (by decide)
  simpa [lft] using this
theorem bV_all (B : List UInt8) : ∀ u ∈ B.map bV, u.oneCell' = true := by
  intro u hu
  obtain ⟨x, _, rfl⟩ := List.mem_map.1 hu
  rfl
theorem bb_news {w : World} {g : Nat} {B : List UInt8} (h : BB w g B) : ∀ (j : Nat) u, (B.map bV)[j]? = some u → w.cell? ((⟨g, 0, none⟩ : Addr).add j) = some u := by
  intro j u hu
  rw [List.getElem?_map] at hu
  obtain ⟨x, hx, rfl⟩ := Option.map_eq_some_iff.1 hu
  rw [Addr.add_mid, Nat.zero_add]
  exact h.bytes j x hx

set_option maxRecDepth 100000 in
theorem put_any {w : World} {base p g cap : Nat} {st : St} {B : List UInt8} (h : OutO w base p st) (hp : base ≤ p) (hB : BB w g B) (h0 : 0 < B.length) (hl : (lft st).length ≤ 1000000) (hl2 : B.length ≤ 1000000) :
    Calls Try.prog 36 #[.pointer (some ⟨p, 0, none⟩), .slice (some ⟨g, 0, none⟩) B.length cap] w fun e w' => e = .returned (.int .i64 0) ∧ OutO w' base p (st.map (· ++ B)) ∧ BkE.Stay TO w w' ∧ Below base w w' := by
  obtain ⟨i0, hi0, hz0', hz1', hz2'⟩ := info_parts Try.info5
  obtain ⟨v, ho⟩ := h
  obtain ⟨c0, c1, f0, f1⟩ := box2 ho.block
  have hpl := lt_of_block ho.block
  have hbase : base ≤ w.heap.size := by omega
  cases st with
  | none =>
    have ho' := Hid.intro ho
    clear ho
    simp only [er] at c1
    go_enter Try.func36, Try.ntmps36
    go_wp2
    go_ret
    exact ⟨rfl, ⟨v, ho'.out⟩, BkE.Stay.of (Below.refl _ _), Below.refl _ _⟩
  | some S =>
    simp only [er] at c1
    simp only [lft, Option.getD_some] at hl
    obtain ⟨a1, c', rfl⟩ := own_form5 ho.own
    have hl' : (lft (some S)).length = S.length := rfl
    rw [hl'] at ho
    have hown : w.ownsRow base 5 1 (.slice a1 S.length c') S.length (S.map bV) := ho.own
    have ho' := Hid.intro ho
    have hB' := Hid.intro hB
    clear ho hB
    go_enter Try.func36, Try.ntmps36
    go_wp2_with (at_builtin; refine wpList_append_lies _ rfl _ _ 26 rfl base 5 i0 (.int .u8 0) 1 1 Try.underlying26 hi0 hz0' hz1' hz2' rfl (by decide) _ S.length (S.map bV) rfl hown ⟨g, 0, none⟩ B.length cap (B.map bV) rfl (by simp) (bb_news hB'.out) (bV_all B) h0 (by unfold maxLen; omega) (by omega) hbase w.heap.size rfl ?_; intro g5 cap5 w5 hown5 hgrow5 hat5 hlt5; have hh := Hid.intro (put_out ho'.out hp hbase rfl hown5 hgrow5); obtain ⟨k5, _, kf5, _⟩ := box2 hh.out.1; have hpl5 := lt_of_block hh.out.1; clear hown5 hgrow5 hat5 hlt5 c0 c1 f0 f1)
    go_ret
    exact ⟨rfl, hh.out.2.1, hh.out.2.2.1, hh.out.2.2.2⟩

theorem below_drwM (w : World) (n : Nat) : Below w.heap.size w (w.drewN n) := ⟨rfl, rfl, rfl, Nat.le_refl _, fun _ _ => rfl⟩
/-- What is written behind a number. -/
def wNum (st : St) (v n : Int) : St := if Fit v n then st.map (· ++ num v.toNat n.toNat) else none
def eNum (v n : Int) : Int := if Fit v n then 0 else 1

set_option maxRecDepth 100000 in
theorem num_no {w : World} {base p : Nat} {st : St} (h : OutO w base p st) (hp : base ≤ p) (v n : Int) (hv : v ≤ 9223372036854775807) (hf : ¬ Fit v n) :
    Calls Try.prog 10 #[.pointer (some ⟨p, 0, none⟩), .int .i64 v, .int .i64 n] w fun e w' => e = .returned (.int .i64 1) ∧ OutO w' base p none ∧ BkE.Stay TO w w' ∧ Below base w w' := by
  have hR := Hid.intro (refuse_any h hp)
  clear h
  have hc := Hid.intro (cnt_any n w)
  by_cases h1 : 1 ≤ n ∧ n ≤ 4
  · rw [decide_eq_true h1] at hc
    by_cases h2 : v < 0
    · go_enter Try.func10, Try.ntmps10
      go_wp2_with fail
      refine hc.out.mono ?_; rintro e w1 ⟨rfl, rfl⟩
      go_wp2_with fail
      refine hR.out.mono ?_; rintro e w1 ⟨rfl, h⟩
      go_wp2
      go_ret
      exact ⟨rfl, h⟩
    · have hsz := Hid.intro (size_any v w (by omega) hv)
      have h3 : n < szN v := by
        rcases Int.lt_or_le n (szN v) with g | g
        · exact g
        · exact absurd ((fit_iff v n).2 ⟨h1, by omega, g⟩) hf
      generalize szN v = z at *
      go_enter Try.func10, Try.ntmps10
      go_wp2_with fail
      refine hc.out.mono ?_; rintro e w1 ⟨rfl, rfl⟩
      go_wp2_with fail
      refine hsz.out.mono ?_; rintro e w1 ⟨rfl, rfl⟩
      go_wp2_with fail
      refine hR.out.mono ?_; rintro e w1 ⟨rfl, h⟩
      go_wp2
      go_ret
      exact ⟨rfl, h⟩
  · rw [decide_eq_false h1] at hc
    go_enter Try.func10, Try.ntmps10
    go_wp2_with fail
    refine hc.out.mono ?_; rintro e w1 ⟨rfl, rfl⟩
    go_wp2_with fail
    refine hR.out.mono ?_; rintro e w1 ⟨rfl, h⟩
    go_wp2
    go_ret
    exact ⟨rfl, h⟩

theorem bs_bb {w : World} {g n : Nat} {v : Nat} (h : BS w g n (fun j => if j < n then ((byt v j : Nat) : Int) else 0)) (hl : g < w.heap.size) : BB w g (num v n) := by
  refine ⟨hl, fun j x hj => ?_, fun j hj => (h j (by rw [num_length] at hj; exact hj)).2⟩
  have hjn : j < n := by have := (List.getElem?_eq_some_iff.1 hj).1; rwa [num_length] at this
  rw [num_get n v j hjn] at hj
  cases hj
  have := (h j hjn).1
  simp only [if_pos hjn] at this
  rw [this, bV, ofNat_byt]
theorem byt_shr (v k : Nat) : IntKind.u8.wrap ((v : Int) / 2 ^ (k * 8)) = ((byt v k : Nat) : Int) := by
  rw [show (v : Int) / 2 ^ (k * 8) = ((v / 2 ^ (k * 8) : Nat) : Int) by simp, wrap8]; rfl

set_option maxRecDepth 100000 in
theorem num_yes {w : World} {base p : Nat} {st : St} (h : OutO w base p st) (hp : base ≤ p) (hl : (lft st).length ≤ 1000000) (v n : Nat) (hn0 : 1 ≤ n) (hn4 : n ≤ 4) (hv : v ≤ 4294967295) (hf : szN (v : Int) ≤ (n : Int)) :
    Calls Try.prog 10 #[.pointer (some ⟨p, 0, none⟩), .int .i64 (v : Int), .int .i64 (n : Int)] w fun e w' => e = .returned (.int .i64 0) ∧ OutO w' base p (st.map (· ++ num v n)) ∧ BkE.Stay TO w w' ∧ Below base w w' := by
  have hbl : base ≤ w.heap.size := by obtain ⟨_, h1, _⟩ := h; have := lt_of_block h1; omega
  have v0 : (0 : Int) ≤ (v : Int) := Int.natCast_nonneg _
  have n0 : (0 : Int) ≤ (n : Int) := Int.natCast_nonneg _
  have n4 : (n : Int) ≤ 4 := by omega
  have hc := Hid.intro (cnt_any (n : Int) w)
  rw [decide_eq_true (by omega)] at hc
  have hsz := Hid.intro (size_any (v : Int) w v0 (by omega))
  generalize szN (v : Int) = z at *
  have h3 : ¬ (n : Int) < z := by omega
  have h' := Hid.intro h
  clear h
  obtain ⟨w1, hmk, hbs, hbl1, hsz1⟩ := make_bytes w n (by omega)
  have hbs' := Hid.intro hbs
  have hbl' := Hid.intro hbl1
  have hsz' := Hid.intro hsz1
  clear hbs hbl1 hsz1
  have hcast : ∀ k : Nat, IntKind.i64.wrap ((k : Int) * 8) = (k : Int) * 8 ∨ ¬ k < 4 := fun k => by
    by_cases hk : k < 4
    · exact .inl (IntWalk.i64_in _ (by omega))
    · exact .inr hk
  go_enter Try.func10, Try.ntmps10
  go_wp2_with fail
  refine hc.out.mono ?_; rintro e w2 ⟨rfl, rfl⟩
  go_wp2_with fail
  refine hsz.out.mono ?_; rintro e w2 ⟨rfl, rfl⟩
  go_wp2_with fail
  go_loopw [28] (fun iv wr => ∃ i : Nat, i ≤ n ∧ iv = .int .i64 i ∧ BS wr w2.heap.size n (fun j => if j < i then ((byt v j : Nat) : Int) else 0) ∧ Below w2.heap.size w2 wr ∧ w2.heap.size < wr.heap.size) (fun iv _ => n - (intOf iv).toNat)
  case atStart => exact ⟨0, Nat.zero_le _, rfl, hbs'.out.congr (fun j hj => by simp), hbl'.out, by have := hsz'.out; omega⟩
  case round =>
    clear hmk
    obtain ⟨i, hi, rfl, hbi, hB1, hG⟩ := hrel
    have i0 : (0 : Int) ≤ (i : Int) := Int.natCast_nonneg _
    have hbi' := Hid.intro hbi
    have hB1' := Hid.intro hB1
    by_cases hlt : i < n
    · have i1 : (i : Int) < (n : Int) := by omega
      obtain ⟨g1, g2⟩ := hbi i hlt
      have hv := byt_shr v i
      clear hbi hB1
      generalize w2.heap.size = G at *
      go_wp2
      go_roundw
      case rel =>
        refine ⟨i + 1, by omega, by go_num, ?_, hB1'.out.setCell (Nat.le_refl _) _, by simpa using hG⟩
        refine (hbi'.out.set _).congr (fun j hj => ?_)
        by_cases e : j = i
        · subst e; rw [if_pos rfl, if_pos (by omega)]
        · rw [if_neg e]
          by_cases e2 : j < i
          · rw [if_pos e2, if_pos (by omega)]
          · rw [if_neg e2, if_neg (by omega)]
      case measure => simp [intOf]; omega
    · obtain rfl : i = n := by omega
      have hbb := Hid.intro (bs_bb hbi hG)
      have hO := Hid.intro (h'.out.below hB1)
      clear hbi hB1
      go_wp2_with fail
      have hP := Hid.intro (put_any (cap := i) hO.out hp hbb.out (by rw [num_length]; omega) hl (by rw [num_length]; omega))
      rw [num_length] at hP
      refine hP.out.mono ?_; rintro e w3 ⟨rfl, a, b, c⟩
      go_wp2
      go_ret
      exact ⟨rfl, a, (BkE.Stay.of hB1'.out).trans b, (hB1'.out.mono hbl).trans c⟩
/-- Num. -/
theorem num_any {w : World} {base p : Nat} {st : St} (h : OutO w base p st) (hp : base ≤ p) (hl : (lft st).length ≤ 1000000) (v n : Int) (hv : v ≤ 9223372036854775807) :
    Calls Try.prog 10 #[.pointer (some ⟨p, 0, none⟩), .int .i64 v, .int .i64 n] w fun e w' => e = .returned (.int .i64 (eNum v n)) ∧ OutO w' base p (wNum st v n) ∧ BkE.Stay TO w w' ∧ Below base w w' := by
  unfold eNum wNum
  by_cases hf : Fit v n
  · obtain ⟨f1, f2, f3, f4, f5, f6⟩ := fit_lt hf
    rw [if_pos hf, if_pos hf]
    have hfi := ((fit_iff v n).1 hf).2.2
    have := num_yes h hp hl v.toNat n.toNat f3 f4 (by omega) (by rw [f5, f6]; exact hfi)
    rw [f5, f6] at this
    exact this
  · rw [if_neg hf, if_neg hf]
    exact num_no h hp v n hv hf

theorem own_fresh (w : World) (xs : List Value) (h : xs.length ≤ maxLen) : (w.alloc (.cells xs.toArray 5)).ownsRow w.heap.size 5 1 (.slice (some ⟨w.heap.size, 0, none⟩) xs.length xs.length) xs.length xs :=
  ⟨by simp, .inr ⟨w.heap.size, xs.length, xs.toArray, rfl, Nat.le_refl _, heap_alloc_new w _, Nat.le_refl _, h, by simp, by simp⟩⟩
theorem own_bb {w : World} {base n : Nat} {v : Value} {S : List UInt8} (h : w.ownsRow base 5 1 v n (S.map bV)) (hn : n = S.length) (h0 : 0 < S.length) : ∃ g cap, v = .slice (some ⟨g, 0, none⟩) S.length cap ∧ base ≤ g ∧ BB w g S := by
  subst hn
  obtain ⟨g, cap, rfl, hb, hg⟩ := h.form h0
  exact ⟨g, cap, rfl, hb, BB.own h hg⟩
theorem own_bytes {w : World} {base n : Nat} {v : Value} {S : List UInt8} (h : w.ownsRow base 5 1 v n (S.map bV)) (hn : n = S.length) : (convert 26 9 v).run Try.prog w = .ok (.string (str S)) w := by
  subst hn
  rw [← nums_str]
  rcases h.2 with ⟨rfl, h0⟩ | ⟨g, cap, cur, rfl, hg⟩
  · have : S = [] := List.length_eq_zero_iff.1 h0
    subst this
    exact run_convert_bytes_nil (P := Try.prog) w 26 5 Try.underlying26 Try.underlying5 _ _ 9 Try.underlying9
  · refine run_convert_bytes_arg (P := Try.prog) w 26 5 Try.underlying26 Try.underlying5 g 0 S.length cap _ (by simp) (fun i hi => ?_) 9 Try.underlying9
    rw [Nat.zero_add, World.ownsRow.cellAt h i (by omega)]
    simp [bV, List.getD, hi]

/-- What is written behind a text. -/
def txt (s : List UInt8) : List UInt8 := UInt8.ofNat s.length :: s
def wText (st : St) (s : List UInt8) : St := if s.length ≤ 255 then st.map (· ++ txt s) else none
def eText (s : List UInt8) : Int := if s.length ≤ 255 then 0 else 1
theorem txt_cells (s : List UInt8) : [Value.int .u8 ((UInt8.ofNat s.length).toNat : Int)] ++ Lib.strCells (str s) = (txt s).map bV := by
  simp [txt, Lib.strCells, str, bV]
set_option maxRecDepth 100000 in
theorem text_any {w : World} {base p : Nat} {st : St} (h : OutO w base p st) (hp : base ≤ p) (hl : (lft st).length ≤ 1000000) (s : List UInt8) :
    Calls Try.prog 13 #[.pointer (some ⟨p, 0, none⟩), .string (str s)] w fun e w' => e = .returned (.int .i64 (eText s)) ∧ OutO w' base p (wText st s) ∧ BkE.Stay TO w w' ∧ Below base w w' := by
  unfold eText wText
  by_cases h1 : s.length ≤ 255
  · rw [if_pos h1, if_pos h1]
    obtain ⟨i0, hi0, hz0', hz1', hz2'⟩ := info_parts Try.info5
    have hbl : base ≤ w.heap.size := by obtain ⟨_, h1, _⟩ := h; have := lt_of_block h1; omega
    have h' := Hid.intro h
    clear h
    have l0 : (0 : Int) ≤ (s.length : Int) := Int.natCast_nonneg _
    have l1 : ¬ (255 : Int) < (s.length : Int) := by omega
    have hw : IntKind.u8.wrap (s.length : Int) = ((UInt8.ofNat s.length).toNat : Int) := by
      rw [wrap8]; simp
    have hof := Hid.intro (own_fresh w [Value.int .u8 ((UInt8.ofNat s.length).toNat : Int)] (by unfold maxLen; simp))
    have hx := Hid.intro (txt_cells s)
    generalize ((UInt8.ofNat s.length).toNat : Int) = c at *
    go_enter Try.func13, Try.ntmps13
    go_wp2_with (at_builtin; refine Go.Lib.wpList_append_own_string _ rfl _ _ 26 9 rfl w.heap.size 5 i0 Try.underlying26 Try.underlying9 hi0 hz0' hz1' hz2' _ 1 [.int .u8 c] rfl hof.out (str s) rfl (by rw [str_size]; unfold maxLen; omega) (by rw [str_size]; omega) (by simp) ?_; intro v5 w5 hown5 hgrow5 hat5)
    have hB5 := Hid.intro (((Below.refl w.heap.size w).alloc (Nat.le_refl _) (.cells #[.int .u8 c] 5)).grown hgrow5 (by simp) (fun j hj => by cases hj; exact Nat.le_refl _))
    rw [hx.out, str_size] at hown5
    obtain ⟨g, cap, rfl, hg, hbb⟩ := own_bb hown5 (by simp [txt]; omega) (by simp [txt])
    have hbb' := Hid.intro hbb
    clear hown5 hgrow5 hat5 hbb hg
    refine (put_any (cap := cap) (h'.out.below hB5.out) hp hbb'.out (by simp [txt]) hl (by simp [txt]; omega)).mono ?_; rintro e w3 ⟨rfl, a, b, d⟩
    go_wp2
    go_ret
    exact ⟨rfl, a, (BkE.Stay.of hB5.out).trans b, (hB5.out.mono hbl).trans d⟩
  · rw [if_neg h1, if_neg h1]
    have hR := Hid.intro (refuse_any h hp)
    clear h
    have l1 : (255 : Int) < (s.length : Int) := by omega
    go_enter Try.func13, Try.ntmps13
    go_wp2_with fail
    refine hR.out.mono ?_; rintro e w1 ⟨rfl, h⟩
    go_wp2
    go_ret
    exact ⟨rfl, h⟩

set_option maxRecDepth 100000 in
theorem done_any {w : World} {base p : Nat} {st : St} (h : OutO w base p st) :
    Calls Try.prog 19 #[.pointer (some ⟨p, 0, none⟩)] w fun e w' => e = .returned (.tuple #[.string (str (lft st)), .int .i64 (er st)]) ∧ Below w.heap.size w w' := by
  obtain ⟨v, ho⟩ := h
  have hpl := lt_of_block ho.block
  have hAll : Hid (∀ w', Below w.heap.size w w' → w'.cell? ⟨p, 0, none⟩ = some v ∧ w'.cell? ⟨p, 1, none⟩ = some (.int .i64 (er st)) ∧ (convert 26 9 v).run Try.prog w' = .ok (.string (str (lft st))) w') := Hid.intro (fun w' hb => by
    have h1 := ho.block
    have h2 : w'.heap[p]? = _ := (hb.block p hpl).trans h1
    obtain ⟨c0, c1, _, _⟩ := box2 h2
    exact ⟨c0, c1, own_bytes (BkE.own_ofBlock ho.own (fun b hb' => by obtain ⟨_, cur, hg⟩ := BkE.own_block ho.own b hb'; exact hb.block b (lt_of_block hg))) rfl⟩)
  clear ho
  generalize hz : str (lft st) = Z at *
  have hz' := Hid.intro hz
  clear hz
  generalize er st = r at *
  go_enter Try.func19, Try.ntmps19
  go_wp2_with fail
  refine wp_region_held_drew (S := fun w' => Below w.heap.size w w') (by kernel_rfl) (below_drw) (fun hHeld => ?_)
  refine wpAnyH_take (i := 0) (v := .pointer (some ⟨p, 0, none⟩)) rfl (by kernel_rfl) (by kernel_rfl) (by kernel_rfl) (fun _ _ _ h => h) (Or.inl ⟨by rfl, fun w' hSw => by clear hSw; go_simp⟩) hHeld ?_
  change wpAnyH _ _ _ _ _ _ _ (Act.put _ (some 6) _) _
  simp only [Act.put, List.setIfInBounds_toArray, List.set_cons_zero, List.set_cons_succ]
  refine wpAnyH_take (i := 1) (v := .pointer (some ⟨p, 0, none⟩)) rfl (by kernel_rfl) (by kernel_rfl) (by kernel_rfl) (fun _ _ _ h => h) (Or.inl ⟨by rfl, fun w' hSw => by clear hSw; go_simp⟩) hHeld ?_
  change wpAnyH _ _ _ _ _ _ _ (Act.put _ (some 7) _) _
  simp only [Act.put, List.setIfInBounds_toArray, List.set_cons_zero, List.set_cons_succ]
  refine wpAnyH_take (i := 2) (v := .pointer (some ⟨p, 0, none⟩)) rfl (by kernel_rfl) (by kernel_rfl) (by kernel_rfl) (fun _ _ _ h => h) (Or.inl ⟨by rfl, fun w' hSw => by clear hSw; go_simp⟩) hHeld ?_
  change wpAnyH _ _ _ _ _ _ _ (Act.put _ (some 8) _) _
  simp only [Act.put, List.setIfInBounds_toArray, List.set_cons_zero, List.set_cons_succ]
  refine wpAnyH_take (i := 3) (v := v) rfl (by kernel_rfl) (by kernel_rfl) (by kernel_rfl) (fun _ _ _ h => h) (Or.inl ⟨by rfl, fun w' hSw => by have c0 := (hAll.out w' hSw).1; have c1 := (hAll.out w' hSw).2.1; clear hSw; go_simp⟩) hHeld ?_
  change wpAnyH _ _ _ _ _ _ _ (Act.put _ (some 9) _) _
  simp only [Act.put, List.setIfInBounds_toArray, List.set_cons_zero, List.set_cons_succ]
  refine wpAnyH_take (i := 4) (v := .string Z) rfl (by kernel_rfl) (by kernel_rfl) (by kernel_rfl) (fun _ _ _ h => h) (Or.inl ⟨by rfl, fun w' hSw => by have hcv := (hAll.out w' hSw).2.2; clear hSw; go_simp⟩) hHeld ?_
  change wpAnyH _ _ _ _ _ _ _ (Act.put _ (some 10) _) _
  simp only [Act.put, List.setIfInBounds_toArray, List.set_cons_zero, List.set_cons_succ]
  refine wpAnyH_take (i := 5) (v := .pointer (some ⟨p, 0, none⟩)) rfl (by kernel_rfl) (by kernel_rfl) (by kernel_rfl) (fun _ _ _ h => h) (Or.inl ⟨by rfl, fun w' hSw => by clear hSw; go_simp⟩) hHeld ?_
  change wpAnyH _ _ _ _ _ _ _ (Act.put _ (some 11) _) _
  simp only [Act.put, List.setIfInBounds_toArray, List.set_cons_zero, List.set_cons_succ]
  refine wpAnyH_take (i := 6) (v := .pointer (some ⟨p, 0, none⟩)) rfl (by kernel_rfl) (by kernel_rfl) (by kernel_rfl) (fun _ _ _ h => h) (Or.inl ⟨by rfl, fun w' hSw => by clear hSw; go_simp⟩) hHeld ?_
  change wpAnyH _ _ _ _ _ _ _ (Act.put _ (some 12) _) _
  simp only [Act.put, List.setIfInBounds_toArray, List.set_cons_zero, List.set_cons_succ]
  refine wpAnyH_take (i := 7) (v := .pointer (some ⟨p, 1, none⟩)) rfl (by kernel_rfl) (by kernel_rfl) (by kernel_rfl) (fun _ _ _ h => h) (Or.inl ⟨by rfl, fun w' hSw => by clear hSw; go_simp⟩) hHeld ?_
  change wpAnyH _ _ _ _ _ _ _ (Act.put _ (some 13) _) _
  simp only [Act.put, List.setIfInBounds_toArray, List.set_cons_zero, List.set_cons_succ]
  refine wpAnyH_take (i := 8) (v := .int .i64 r) rfl (by kernel_rfl) (by kernel_rfl) (by kernel_rfl) (fun _ _ _ h => h) (Or.inl ⟨by rfl, fun w' hSw => by have c0 := (hAll.out w' hSw).1; have c1 := (hAll.out w' hSw).2.1; clear hSw; go_simp⟩) hHeld ?_
  change wpAnyH _ _ _ _ _ _ _ (Act.put _ (some 14) _) _
  simp only [Act.put, List.setIfInBounds_toArray, List.set_cons_zero, List.set_cons_succ]
  refine wpAnyH_take (i := 9) (v := .string Z) rfl (by kernel_rfl) (by kernel_rfl) (by kernel_rfl) (fun _ _ _ h => h) (Or.inl ⟨by rfl, fun w' hSw => by clear hSw; go_simp⟩) hHeld ?_
  change wpAnyH _ _ _ _ _ _ _ (Act.put _ (some 2) _) _
  simp only [Act.put, List.setIfInBounds_toArray, List.set_cons_zero, List.set_cons_succ]
  refine wpAnyH_take (i := 10) (v := .int .i64 r) rfl (by kernel_rfl) (by kernel_rfl) (by kernel_rfl) (fun _ _ _ h => h) (Or.inl ⟨by rfl, fun w' hSw => by clear hSw; go_simp⟩) hHeld ?_
  change wpAnyH _ _ _ _ _ _ _ (Act.put _ (some 3) _) _
  simp only [Act.put, List.setIfInBounds_toArray, List.set_cons_zero, List.set_cons_succ]
  refine wpAnyH_done (by kernel_rfl) ?_ _
  go_wp2
  go_ret2
  exact ⟨rfl, hHeld⟩
theorem done_nil (w : World) : Calls Try.prog 19 #[.pointer none] w fun e w' => e = .returned (.tuple #[.string ByteArray.empty, .int .i64 1]) ∧ w' = w := by
  go_enter Try.func19, Try.ntmps19
  go_wp2
  go_ret2
  exact ⟨rfl, rfl⟩

/-- What is written behind a map. -/
def wExt (st : St) (l : List Ex) : St := if Ti l then st.map (· ++ lay l) else none
def eExt (l : List Ex) : Int := if Ti l then 0 else 1
theorem one3_cells {x : Ex} (h : Al x) : [Value.int .u8 x.1, .int .u8 x.2.1, .int .u8 x.2.2] = (one3 x).map bV := by
  obtain ⟨h1, h2, h3, h4, h5, h6⟩ := al_by h
  simp only [one3, List.map_cons, List.map_nil, bV]
  rw [ofNat_toNat_int h1 h2, ofNat_toNat_int h3 h4, ofNat_toNat_int h5 h6]
set_option maxRecDepth 100000 in
theorem exts_any {w : World} {base p : Nat} {st : St} {v : Value} {l : List Ex} (h : OutO w base p st) (hp : base ≤ p) (hl : (lft st).length ≤ 1000000) (hr : BkE.Row w v l) (hh : Hi l) (hll : l.length ≤ 1000000) :
    Calls Try.prog 15 #[.pointer (some ⟨p, 0, none⟩), v] w fun e w' => e = .returned (.int .i64 (eExt l)) ∧ OutO w' base p (wExt st l) ∧ BkE.Stay TO w w' ∧ Below base w w' := by
  unfold eExt wExt
  have hbl : base ≤ w.heap.size := by obtain ⟨_, h1, _⟩ := h; have := lt_of_block h1; omega
  have hV := Hid.intro (valid_all hr hh hll)
  obtain ⟨va, vc, rfl⟩ := hr.slice
  by_cases h1 : Ti l
  · rw [if_pos h1, if_pos h1]
    rw [decide_eq_true h1] at hV
    have h64 := ti_len h1
    obtain ⟨i0, hi0, hz0', hz1', hz2'⟩ := info_parts Try.info5
    have h' := Hid.intro h
    have hr' := Hid.intro hr
    have ht' := Hid.intro h1
    clear h hr h1 hh hll
    have hw : IntKind.u8.wrap (l.length : Int) = ((UInt8.ofNat l.length).toNat : Int) := by
      rw [wrap8]; simp
    go_enter Try.func15, Try.ntmps15
    go_wp2_with fail
    refine hV.out.mono ?_; rintro e w1 ⟨rfl, hb1⟩
    have hof := Hid.intro (own_fresh w1 [Value.int .u8 ((UInt8.ofNat l.length).toNat : Int)] (by unfold maxLen; simp))
    have hb2 := Hid.intro (show Below w1.heap.size w1 (w1.alloc (.cells #[.int .u8 ((UInt8.ofNat l.length).toNat : Int)] 5)) from (Below.refl _ _).alloc (Nat.le_refl _) _)
    have hb1' := Hid.intro hb1
    clear hb1
    go_wp2_with fail
    go_loopw [5, 19] (fun bv iv wr => ∃ i : Nat, i ≤ l.length ∧ iv = .int .i64 i ∧ wr.ownsRow w1.heap.size 5 1 bv (1 + 3 * i) ((UInt8.ofNat l.length :: body3 (l.take i)).map bV) ∧ Below w1.heap.size w1 wr) (fun _ iv _ => l.length - (intOf iv).toNat)
    case atStart => exact ⟨0, Nat.zero_le _, rfl, hof.out, hb2.out⟩
    case round =>
      obtain ⟨i, hi, rfl, hown, hB⟩ := hrel
      have j0 : (0 : Int) ≤ (i : Int) := Int.natCast_nonneg _
      obtain ⟨ba, bc, rfl⟩ := own_form5 hown
      have hown' := Hid.intro hown
      have hB' := Hid.intro hB
      by_cases hlt : i < l.length
      · obtain ⟨g, o, ⟨x, y, z⟩, rfl, hg, hp', d0, d1, d2⟩ := erow_at (hr'.out.below (hb1'.out.trans (hB.mono hb1'.out.size))) hlt
        have i1 : (i : Int) < (l.length : Int) := by omega
        simp only at d0 d1 d2
        have hal : Al (x, y, z) := (tp_al ht'.out _ (List.mem_of_getElem? hp')).1
        have h3 := Hid.intro (one3_cells hal)
        obtain ⟨y1, y2, y3, y4, y5, y6⟩ := al_by hal
        simp only at y1 y2 y3 y4 y5 y6
        have hnx := Hid.intro (show ((UInt8.ofNat l.length :: body3 (l.take i)).map bV) ++ (one3 (x, y, z)).map bV = (UInt8.ofNat l.length :: body3 (l.take (i + 1))).map bV by
          rw [body3_take hp']; simp)
        have hsz : w1.heap.size ≤ wr.heap.size := hB.size
        clear hown hB hp' hal
        have hl3 : (1 + 3 * i : Nat) + 3 = 1 + 3 * (i + 1) := by omega
        go_wp2_with (at_builtin; refine wpList_append_lies _ rfl _ _ 26 rfl w1.heap.size 5 i0 (.int .u8 0) 1 1 Try.underlying26 hi0 hz0' hz1' hz2' rfl (by decide) _ (1 + 3 * i) _ rfl ((hown'.out.alloc _).alloc _) ⟨wr.heap.size + 1, 0, none⟩ 3 3 [.int .u8 x, .int .u8 y, .int .u8 z] rfl rfl (by have := World.news_of_block (cs := #[.int .u8 x, .int .u8 y, .int .u8 z]) (t := 5) (fr := (0, 0)) (heap_alloc_new (wr.alloc (.cells #[.int .i64 x, .int .i64 y, .int .i64 z] 71)) _); simpa using this) (by simp [Value.oneCell']) (by decide) (by unfold maxLen; omega) (by omega) (by simp; omega) (wr.heap.size + 2) (by simp) ?_; intro g5 cap5 w5 hown5 hgrow5 hat5 hlt5)
        have hne := fun b hb => (hown'.out.lt b hb).1
        have hB5 := Hid.intro (((hB'.out.alloc hsz (.cells #[.int .i64 x, .int .i64 y, .int .i64 z] 71)).alloc (by simp; omega) (.cells #[.int .u8 x, .int .u8 y, .int .u8 z] 5)).grown hgrow5 (by simp; omega) hne)
        rw [h3.out, hnx.out, hl3] at hown5
        have hown5' := Hid.intro hown5
        clear hown5 hgrow5 hat5 hlt5 hne
        go_roundw
        case rel => exact ⟨i + 1, by omega, by go_num, hown5'.out, hB5.out⟩
        case measure => simp [intOf]; omega
      · have hii : i = l.length := by omega
        subst hii
        rw [List.take_length] at hown'
        obtain ⟨g, cap, he, hg, hbb⟩ := own_bb hown'.out (by simp [body3_length]; omega) (by simp)
        rw [he]
        have hbb' := Hid.intro hbb
        clear hown hB hbb hg he
        go_wp2_with fail
        refine (put_any (cap := cap) (h'.out.below (hb1'.out.trans (hB'.out.mono hb1'.out.size))) hp hbb'.out (by simp) hl (by simp [body3_length]; omega)).mono ?_; rintro e w3 ⟨rfl, a, b, d⟩
        go_wp2
        go_ret
        have hB3 := hb1'.out.trans (hB'.out.mono hb1'.out.size)
        exact ⟨rfl, a, (BkE.Stay.of hB3).trans b, (hB3.mono hbl).trans d⟩
  · rw [if_neg h1, if_neg h1]
    rw [decide_eq_false h1] at hV
    have hR := Hid.intro (fun w' (hb : Below w.heap.size w w') => refuse_any (h.below hb) hp)
    clear h
    go_enter Try.func15, Try.ntmps15
    go_wp2_with fail
    refine hV.out.mono ?_; rintro e w1 ⟨rfl, hb⟩
    have hb' := Hid.intro hb
    go_wp2_with fail
    refine (hR.out _ hb'.out).mono ?_; rintro e w2 ⟨rfl, a, b, c⟩
    go_wp2
    go_ret
    exact ⟨rfl, a, (BkE.Stay.of hb'.out).trans b, (hb'.out.mono hbl).trans c⟩
theorem exts_nil (w : World) : Calls Try.prog 15 #[.pointer none, .slice none 0 0] w fun e w' => e = .returned (.int .i64 1) ∧ Below w.heap.size w w' := by
  have hV := Hid.intro (valid_all (w := w) (v := .slice none 0 0) (l := []) (.inl ⟨⟨_, _, rfl⟩, rfl⟩) (fun x hx => by cases hx) (by simp))
  rw [show decide (Ti []) = true from rfl] at hV
  go_enter Try.func15, Try.ntmps15
  go_wp2_with fail
  refine hV.out.mono ?_; rintro e w1 ⟨rfl, hb⟩
  have hb' := Hid.intro hb
  have hw1 := Hid.intro (show Below w1.heap.size w1 (w1.alloc (.cells #[.int .u8 0] 5)) from (Below.refl _ _).alloc (Nat.le_refl _) _)
  go_wp2_with fail
  go_loopw [5, 19] (fun bv iv wr => iv = .int .i64 0 ∧ Below w1.heap.size w1 wr) (fun _ iv _ => 0)
  case atStart => exact ⟨rfl, hw1.out⟩
  case round =>
    obtain ⟨rfl, hB⟩ := hrel
    have hB' := Hid.intro hB
    clear hB
    go_wp2_with fail
    refine (put_nil _ _).mono ?_; rintro e w2 ⟨rfl, rfl⟩
    go_wp2
    go_ret
    exact ⟨rfl, below_step hb'.out hB'.out⟩
end Go.Proofs.Ytnboajhcjgcpfaa
