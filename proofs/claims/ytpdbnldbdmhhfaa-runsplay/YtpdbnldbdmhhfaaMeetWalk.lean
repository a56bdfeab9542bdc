/-
  RunsMeet's walk.
-/
import Derived.Test.YtpdbnldbdmhhfaaApart
import Derived.Test.YtpdbnldbdmhhfaaSetLaws
import Derived.Test.YtpdbnldbdmhhfaaNextWalk
import Derived.Test.YtpdbnldbdmhhfaaLessWalk
namespace Go.Proofs.Ytpdbnldbdmhhfaa
open Go.ChangeShapes Go.WideShapes Go.ChangeAt Go.RowKit
attribute [local go_sem ↓] Go.wp_at_zero Go.wp_at_succ

theorem meet_out (a b : Option Addr) (n m c d : Nat) (w : World) (h : (30 : Int) < (n : Int) ∨ ((n : Int) ≤ 30 ∧ (30 : Int) < (m : Int))) :
    Calls Try.prog 4 #[.slice a n c, .slice b m d] w fun e w' => e = .returned (.bool true) ∧ Below w.heap.size w w' := by
  rcases h with h | ⟨h0, h⟩
  · have hd : decide ((30 : Int) < (n : Int)) = true := decide_eq_true h
    go_enter Try.func4, Try.ntmps4
    go_wp2_with fail
    refine (alive_any _).mono ?_; rintro e w1 ⟨rfl, hb1⟩
    go_wp2
    go_ret
    exact ⟨rfl, hb1⟩
  · have hd0 : decide ((30 : Int) < (n : Int)) = false := decide_eq_false (by omega)
    have hd : decide ((30 : Int) < (m : Int)) = true := decide_eq_true h
    go_enter Try.func4, Try.ntmps4
    go_wp2_with fail
    refine (alive_any _).mono ?_; rintro e w1 ⟨rfl, hb1⟩
    go_wp2
    go_ret
    exact ⟨rfl, hb1⟩

theorem gen_list {P : Program} {ops : Array Oper} {Q : Exit → Act → World → Prop} {rest : List Oper} {a : Act} (W : World) (F : World → Prop) (h : F W) (k : ∀ w4, F w4 → wpList P ops Q rest a w4) : wpList P ops Q rest a W := k W h

theorem setCells_size (b : Nat) : ∀ (vs : List Value) (o : Nat) (w : World), (w.setCells b o vs).heap.size = w.heap.size
  | [], _, _ => rfl
  | v :: r, o, w => by
    show ((w.setCell ⟨b, o, none⟩ v).setCells b (o + 1) r).heap.size = _
    rw [setCells_size b r]; simp

theorem sf1 (w3 : World) (X : List Sp) (C D : Array Value) (hC : C.size = 64) (hD : D.size = 64) :
    ((((w3.alloc (.cells C 30)).alloc (.cells D 30)).setCells w3.heap.size 0 (bv (bitsOf X))).rangeAt w3.heap.size 0 (bv (bitsOf X)) ∧ (((w3.alloc (.cells C 30)).alloc (.cells D 30)).setCells w3.heap.size 0 (bv (bitsOf X))).there (w3.heap.size + 1) 0 64 ∧
      (((w3.alloc (.cells C 30)).alloc (.cells D 30)).setCells w3.heap.size 0 (bv (bitsOf X))).heap.size = w3.heap.size + 1 + 1 ∧ Below w3.heap.size w3 (((w3.alloc (.cells C 30)).alloc (.cells D 30)).setCells w3.heap.size 0 (bv (bitsOf X)))) ∧ ((w3.alloc (.cells C 30)).alloc (.cells D 30)).there w3.heap.size 0 64 := by
  have hb : Below w3.heap.size w3 ((w3.alloc (.cells C 30)).alloc (.cells D 30)) := ((Below.refl _ _).alloc (Nat.le_refl _) _).alloc (by simp) _
  have h1 : (w3.alloc (.cells C 30)).there w3.heap.size 0 64 := there_new (by omega)
  have h2 : ((w3.alloc (.cells C 30)).alloc (.cells D 30)).there w3.heap.size 0 64 := there_below ((Below.refl _ _).alloc (Nat.le_refl _) _) (by simp) h1
  have h3 : ((w3.alloc (.cells C 30)).alloc (.cells D 30)).there (w3.heap.size + 1) 0 64 := by
    have := there_new (w := w3.alloc (.cells C 30)) (C := D) (t := 30) (n := 64) (by omega)
    simpa using this
  refine ⟨⟨World.rangeAt_setCells_same _ _ _ _ (by rw [(bv_facts X).1]; exact h2), World.there_setCells h3 _ _ _, ?_, below_setCells _ _ _ _ hb (Nat.le_refl _)⟩, h2⟩
  rw [setCells_size]; simp

theorem sf2 (w4 : World) (X Y : List Sp) (B N : Nat) (h : w4.rangeAt B 0 (bv (bitsOf X))) (ht : w4.there (B + 1) 0 64) :
    (w4.setCells (B + 1) 0 (bv (bitsOf Y))).rangeAt B 0 (bv (bitsOf X)) ∧ (w4.setCells (B + 1) 0 (bv (bitsOf Y))).rangeAt (B + 1) 0 (bv (bitsOf Y)) ∧ (w4.setCells (B + 1) 0 (bv (bitsOf Y))).heap.size = w4.heap.size ∧ (N ≤ B → Below N w4 (w4.setCells (B + 1) 0 (bv (bitsOf Y)))) :=
  ⟨World.rangeAt_setCells_apart h _ _ _ (.inl (by omega)), World.rangeAt_setCells_same _ _ _ _ (by rw [(bv_facts Y).1]; exact ht), setCells_size _ _ _ _, fun hN => below_setCells _ _ _ _ (Below.refl _ _) (by omega)⟩

theorem bits_same {X Y : List Sp} (hX : Canon X) (hY : Canon Y) : decide (X = Y) = (bitsOf X == bitsOf Y) := by
  by_cases h : X = Y
  · subst h; simp
  · have hne : bitsOf X ≠ bitsOf Y := fun e => h (canon_ext hX hY fun k => by
      have out : ∀ {Z : List Sp} {k : Int}, In Z k → 0 ≤ k ∧ k < 64 := by
        rintro Z k ⟨p, _, hp⟩
        have := hp.1; have := hp.2; unfold Wh at *; omega
      by_cases hk : 0 ≤ k ∧ k < 64
      · have e1 := bitsOf_get X k.toNat (by omega)
        have e2 := bitsOf_get Y k.toNat (by omega)
        have ek : ((k.toNat : Nat) : Int) = k := by omega
        rw [e, e2, ek] at e1
        have := Option.some.inj e1
        exact decide_eq_decide.1 this.symm
      · exact ⟨fun h => absurd (out h) hk, fun h => absurd (out h) hk⟩)
    rw [decide_eq_false h]
    exact (beq_eq_false_iff_ne.2 hne).symm

theorem both_none {w : World} {r : Nat} (hr : RObj w r []) :
    Calls Try.prog 26 #[.pointer (some ⟨r, 0, none⟩), .pointer none] w fun e w' => e = .returned (.pointer (some ⟨w.heap.size, 0, none⟩)) ∧ Hid (RObj w' w.heap.size []) ∧ Below w.heap.size w w' := by
  have hrl := hr.lt
  obtain ⟨v0, hv0, _, hrow0⟩ := hr.cell
  obtain ⟨a0, c0, rfl⟩ := hrow0.nil
  have hv0' := Hid.intro hv0
  clear hr hrow0 hv0
  have hba : Below w.heap.size w (w.alloc (.cells #[.slice none 0 0] 60)) := (Below.refl _ _).alloc (Nat.le_refl _) _
  go_enter Try.func26, Try.ntmps26
  go_wp2_with fail
  refine (list_some r (.slice a0 0 c0) _ (by rw [hba.cell (p := ⟨r, 0, none⟩) hrl]; exact hv0'.out)).mono ?_; rintro e w1 ⟨rfl, hw1⟩; subst hw1
  go_wp2_with fail
  go_loop [17] (fun iv => iv = .int .i64 0) (fun _ => 0)
  case atStart => rfl
  case round =>
    subst hrel
    go_wp2
    go_ret
    exact ⟨rfl, robj_new w, hba⟩

theorem same_d {w : World} {b b' : Nat} {X Y : List Sp} (h : RObj w b X) (h' : RObj w b' Y) (hX : Canon X) (hY : Canon Y) :
    Calls Try.prog 17 #[.pointer (some ⟨b, 0, none⟩), .pointer (some ⟨b', 0, none⟩)] w fun e w' => e = .returned (.bool (bitsOf X == bitsOf Y)) ∧ Below w.heap.size w w' := by
  have := same_any h h' (by have := canon_64 hX; omega)
  rwa [bits_same hX hY] at this

theorem both_comm {X Y : List Sp} (hX : Canon X) (hY : Canon Y) : bothL Y X = bothL X Y := by
  have h1 := both_spec X Y hX hY
  have h2 := both_spec Y X hY hX
  refine canon_ext h2.1 h1.1 fun k => ?_
  rw [h2.2, h1.2, and_comm]

/-- What the loop has made of the bits, up to block k. -/
def Mid (X Y : List Sp) (k : Nat) (l : List Bool) : Prop := l.length = 64 ∧ ∀ j, j < 64 → l[j]? = some (if j < k then decide (In X (j : Int)) && decide (In Y (j : Int)) else decide (In X (j : Int)))
theorem mid_start (X Y : List Sp) : Mid X Y 0 (bitsOf X) := ⟨bitsOf_length X, fun j hj => by rw [bitsOf_get X j hj, if_neg (Nat.not_lt_zero _)]⟩
theorem mid_step {X Y : List Sp} {k : Nat} {l : List Bool} (h : Mid X Y k l) (v : Bool) (hv : v = (decide (In X (k : Int)) && decide (In Y (k : Int)))) : Mid X Y (k + 1) (l.set k v) := by
  refine ⟨by rw [List.length_set]; exact h.1, fun j hj => ?_⟩
  by_cases e : k = j
  · subst e
    rw [List.getElem?_set_self (by rw [h.1]; exact hj), if_pos (Nat.lt_succ_self _), hv]
  · rw [List.getElem?_set_ne e, h.2 j hj]
    by_cases h1 : j < k
    · rw [if_pos h1, if_pos (by omega)]
    · rw [if_neg h1, if_neg (by omega)]
theorem mid_end {X Y : List Sp} (hX : Canon X) (hY : Canon Y) {l : List Bool} (h : Mid X Y 64 l) : l = bitsOf (bothL X Y) := by
  refine bits_ext h.1 (bitsOf_length _) fun j hj => ?_
  rw [h.2 j hj, if_pos hj, bitsOf_get _ j hj]
  have := (both_spec X Y hX hY).2 (j : Int)
  rw [← Bool.decide_and]
  simp only [this]

theorem in_out {Z : List Sp} {k : Int} (h : In Z k) : 0 ≤ k ∧ k < 64 := by
  obtain ⟨p, _, hp⟩ := h
  have h1 := hp.1; have h2 := hp.2; unfold Wh at h1; omega

theorem count_zero {w : World} {b : Nat} (h : RObj w b []) :
    Calls Try.prog 23 #[.pointer (some ⟨b, 0, none⟩)] w fun e w' => e = .returned (.int .i64 0) ∧ Below w.heap.size w w' := count_any h trivial
theorem range_but {w w' : World} {x b o : Nat} {cs : List Value} (h : But x w w') (hne : b ≠ x) (hb : b < w.heap.size) (hr : w.rangeAt b o cs) : w'.rangeAt b o cs := fun j v hv => by
  rw [World.cell?_of_block (w := w) (a := ⟨b, o + j, none⟩) (h.block b hb hne)]; exact hr j v hv

set_option maxRecDepth 100000 in
set_option maxHeartbeats 4000000 in
theorem meet_walk (x l : List Sp) (n m c d : Nat) (a0 a1 : Option Addr) (w : World) (hn : x.length = n) (hm : l.length = m) (h30 : n ≤ 30) (h30' : m ≤ 30) (hx : Hid (Row w (.slice a0 n c) x)) (hl : Hid (Row w (.slice a1 m d) l)) (hfx : Hid (Fits x)) (hfl : Hid (Fits l)) :
    Calls Try.prog 4 #[.slice a0 n c, .slice a1 m d] w fun e w' => e = .returned (.bool true) ∧ Below w.heap.size w w' := by
  have j1 : (n : Int) ≤ 30 := by omega
  have j2 : (m : Int) ≤ 30 := by omega
  have j3 : decide ((30 : Int) < (n : Int)) = false := decide_eq_false (by omega)
  have j4 : decide ((30 : Int) < (m : Int)) = false := decide_eq_false (by omega)
  obtain ⟨X, hX⟩ : ∃ X, Hid (putR [] x = X) := ⟨_, rfl⟩
  obtain ⟨Y, hY⟩ : ∃ Y, Hid (putR [] l = Y) := ⟨_, rfl⟩
  have cX : Hid (Canon X) := Hid.intro (by rw [← hX.out]; exact of_canon x)
  have cY : Hid (Canon Y) := Hid.intro (by rw [← hY.out]; exact of_canon l)
  have HX := Hid.intro (bv_facts X)
  have HY := Hid.intro (bv_facts Y)
  have sX : Hid ((bv (bitsOf X)).toArray.size = 64) := Hid.intro (by simp [HX.out.1])
  have sY : Hid ((bv (bitsOf Y)).toArray.size = 64) := Hid.intro (by simp [HY.out.1])
  go_enter Try.func4, Try.ntmps4
  go_wp2_with fail
  refine (alive_any _).mono ?_; rintro e w1 ⟨rfl, hb1⟩
  go_wp2_with fail
  refine (refZero_row (hx.out.below hb1) (by omega)).mono ?_; rintro e w2 ⟨rfl, hb2⟩
  rw [hX.out]
  have hB2 := below_step hb1 hb2
  go_wp2_with fail
  refine (refZero_row (hl.out.below hB2) (by omega)).mono ?_; rintro e w3 ⟨rfl, hb3⟩
  rw [hY.out]
  have hB3 := below_step hB2 hb3
  clear hb1 hb2 hb3 hB2
  go_wp2_with (first
    | (refine wpList_store_mid rfl 30 _ _ rfl w3.heap.size 0 (bv (bitsOf X)).toArray rfl rfl (by rw [sX.out]; exact (sf1 w3 X _ _ rfl rfl).2) HX.out.2.2.2 HX.out.2.2.1 ?_; refine gen_list _ (fun w4 => w4.rangeAt w3.heap.size 0 (bv (bitsOf X)) ∧ w4.there (w3.heap.size + 1) 0 64 ∧ w4.heap.size = w3.heap.size + 1 + 1 ∧ Below w3.heap.size w3 w4) (sf1 w3 X _ _ rfl rfl).1 ?_; rintro w4 ⟨r4, t4, z4, b4⟩; have z4' := Hid.intro z4; clear z4)
    | (refine wpList_store_mid rfl 30 _ _ rfl (w3.heap.size + 1) 0 (bv (bitsOf Y)).toArray rfl rfl (by rw [sY.out]; exact t4) HY.out.2.2.2 HY.out.2.2.1 ?_; refine gen_list _ (fun w5 => w5.rangeAt w3.heap.size 0 (bv (bitsOf X)) ∧ w5.rangeAt (w3.heap.size + 1) 0 (bv (bitsOf Y)) ∧ w5.heap.size = w4.heap.size ∧ (w3.heap.size ≤ w3.heap.size → Below w3.heap.size w4 w5)) (sf2 w4 X Y w3.heap.size w3.heap.size r4 t4) ?_; rintro w5 ⟨r5, s5, z5, b5⟩; have z5' := Hid.intro z5; clear z5)
    | (refine wpList_load_mid rfl 30 _ rfl w3.heap.size 0 rfl (bv (bitsOf X)) _ r5 Try.underlying30 rfl HX.out.2.1 ?_)
    | (refine wpList_store_mid rfl 30 _ _ rfl w5.heap.size 0 (bv (bitsOf X)).toArray rfl rfl (there_new (by simp [HX.out.1])) HX.out.2.2.2 HX.out.2.2.1 ?_; refine gen_list _ (fun w6 => w6.rangeAt w5.heap.size 0 (bv (bitsOf X)) ∧ w6.there w5.heap.size 0 64 ∧ w5.heap.size < w6.heap.size ∧ Below w5.heap.size w5 w6) (set_facts w5 X _ rfl) ?_; rintro w6 ⟨r6, t6, z6, b6⟩))
  have rA := Hid.intro (range_below b6 (by rw [z5'.out, z4'.out]; omega) r5)
  have rB := Hid.intro (range_below b6 (by rw [z5'.out, z4'.out]; omega) s5)
  have rC := Hid.intro r6
  have tC := Hid.intro t6
  have hC : w5.heap.size = w3.heap.size + 1 + 1 := by rw [z5'.out, z4'.out]
  have hB6 : Below w.heap.size w w6 := (hB3.trans ((b4.trans (b5 (Nat.le_refl _))).mono hB3.size)).trans (b6.mono (by have := hB3.size; omega))
  have hAw : w.heap.size ≤ w3.heap.size := hB3.size
  have hC' := Hid.intro hC
  clear r4 t4 z4' b4 r5 s5 z5' b5 r6 t6 b6 hB3 hC
  generalize w3.heap.size = A at *
  generalize w5.heap.size = C at *
  go_loopw [8] (fun kv wr => ∃ (k : Nat) (lb : List Bool), k ≤ 64 ∧ kv = .int .i64 k ∧ wr.rangeAt A 0 (bv (bitsOf X)) ∧ wr.rangeAt (A + 1) 0 (bv (bitsOf Y)) ∧ wr.rangeAt C 0 (bv lb) ∧ wr.there C 0 64 ∧ Mid X Y k lb ∧ C < wr.heap.size ∧ Below w.heap.size w wr) (fun kv _ => 64 - (intOf kv).toNat)
  case atStart => exact ⟨0, bitsOf X, by omega, rfl, rA.out, rB.out, rC.out, tC.out, mid_start X Y, z6, hB6⟩
  case round =>
    clear rA rB rC tC hB6 z6
    obtain ⟨k, lb, hk, rfl, rA, rB, rC, tC, hmid, hzC, hB⟩ := hrel
    have k0 : (0 : Int) ≤ (k : Int) := Int.natCast_nonneg _
    by_cases hlt : k < 64
    · have k1 : (k : Int) < 64 := by omega
      have dA := bit_cell rA k hlt
      have dB := bit_cell rB k hlt
      have tk := tC k hlt
      rw [Nat.zero_add] at tk
      obtain ⟨u, hu⟩ := Option.isSome_iff_exists.1 tk.1
      have hf := tk.2
      have rA' := Hid.intro rA
      have rB' := Hid.intro rB
      have rC' := Hid.intro rC
      have tC' := Hid.intro tC
      have hmid' := Hid.intro hmid
      have hne1 : A ≠ C := by have := hC'.out; omega
      have hne2 : A + 1 ≠ C := by have := hC'.out; omega
      clear tk rA rB rC tC hmid
      have stp : Hid (∀ v : Bool, v = (decide (In X (k : Int)) && decide (In Y (k : Int))) → ∃ lb', (wr.setCell ⟨C, k, none⟩ (.bool v)).rangeAt A 0 (bv (bitsOf X)) ∧ (wr.setCell ⟨C, k, none⟩ (.bool v)).rangeAt (A + 1) 0 (bv (bitsOf Y)) ∧ (wr.setCell ⟨C, k, none⟩ (.bool v)).rangeAt C 0 (bv lb') ∧ (wr.setCell ⟨C, k, none⟩ (.bool v)).there C 0 64 ∧ Mid X Y (k + 1) lb') :=
        Hid.intro (fun v hv => ⟨lb.set k v, range_far hne1 rA'.out, range_far hne2 rB'.out, range_set v rC'.out (by rw [hmid'.out.1]; exact hlt), there_set tC'.out _ _, mid_step hmid'.out v hv⟩)
      by_cases hinX : In X (k : Int)
      · rw [decide_eq_true hinX] at dA
        by_cases hinY : In Y (k : Int)
        · rw [decide_eq_true hinY] at dB
          have hv : Hid (true = (decide (In X (k : Int)) && decide (In Y (k : Int)))) := Hid.intro (by simp [hinX, hinY])
          clear hinX hinY
          go_wp2
          go_roundw
          case rel =>
            obtain ⟨lb', q1, q2, q3, q4, q5⟩ := stp.out _ hv.out
            exact ⟨k + 1, lb', by omega, by go_num, q1, q2, q3, q4, q5, by simpa using hzC, hB.setCell (by show w.heap.size ≤ C; have := hC'.out; omega) _⟩
          case measure => simp [intOf]; omega
        · rw [decide_eq_false hinY] at dB
          have hv : Hid (false = (decide (In X (k : Int)) && decide (In Y (k : Int)))) := Hid.intro (by simp [hinY])
          clear hinX hinY
          go_wp2
          go_roundw
          case rel =>
            obtain ⟨lb', q1, q2, q3, q4, q5⟩ := stp.out _ hv.out
            exact ⟨k + 1, lb', by omega, by go_num, q1, q2, q3, q4, q5, by simpa using hzC, hB.setCell (by show w.heap.size ≤ C; have := hC'.out; omega) _⟩
          case measure => simp [intOf]; omega
      · rw [decide_eq_false hinX] at dA
        have hv : Hid (false = (decide (In X (k : Int)) && decide (In Y (k : Int)))) := Hid.intro (by simp [hinX])
        clear hinX
        go_wp2
        go_roundw
        case rel =>
          obtain ⟨lb', q1, q2, q3, q4, q5⟩ := stp.out _ hv.out
          exact ⟨k + 1, lb', by omega, by go_num, q1, q2, q3, q4, q5, by simpa using hzC, hB.setCell (by show w.heap.size ≤ C; have := hC'.out; omega) _⟩
        case measure => simp [intOf]; omega
    · have hk64 : k = 64 := by omega
      have k1 : ¬ (k : Int) < 64 := by omega
      subst hk64
      obtain ⟨Z, hZ⟩ : ∃ Z, Hid (bothL X Y = Z) := ⟨_, rfl⟩
      have cZ : Hid (Canon Z) := Hid.intro (by rw [← hZ.out]; exact (both_spec X Y cX.out cY.out).1)
      have hlb := mid_end cX.out cY.out hmid
      rw [hZ.out] at hlb
      subst hlb
      have HZ := Hid.intro (bv_facts Z)
      have rA' := Hid.intro rA
      have rB' := Hid.intro rB
      have rC' := Hid.intro rC
      have hzA : A < wr.heap.size := by have := hC'.out; omega
      have hzB : A + 1 < wr.heap.size := by have := hC'.out; omega
      clear rA rB rC tC hmid
      go_wp2_with fail
      refine (of_any (hx.out.below hB) hfx.out (by omega)).mono ?_; rintro e x1 ⟨rfl, hr1, hb1⟩
      rw [hX.out] at hr1
      have hr1' := Hid.intro hr1
      have z1 := hr1.lt
      have hB1 := below_step hB hb1
      clear hr1
      go_wp2_with fail
      refine (of_any (hl.out.below hB1) hfl.out (by omega)).mono ?_; rintro e x2 ⟨rfl, hs2, hb2⟩
      rw [hY.out] at hs2
      have hs2' := Hid.intro hs2
      have z2 := hs2.lt
      have hr2 := Hid.intro (hr1'.out.below hb2)
      have hB2 := below_step hB1 hb2
      have hb02 := below_step hb1 hb2
      clear hs2 hr1' hb1 hb2 hB1
      have hRw := hB.size
      have hx2 := Hid.intro (hx.out.below hB2)
      have rA2 := Hid.intro (range_below hb02 hzA rA'.out)
      have rB2 := Hid.intro (range_below hb02 hzB rB'.out)
      have rC2 := Hid.intro (range_below hb02 hzC rC'.out)
      clear rA' rB' rC' hb02 hB hx hl
      generalize wr.heap.size = R at *
      generalize x1.heap.size = S at *
      go_wp2_with fail
      refine (both_any hr2.out hs2'.out cX.out cY.out).mono ?_; rintro e x3 ⟨rfl, hu3, hb3⟩
      rw [hZ.out] at hu3
      have hu3' := Hid.intro hu3
      have z3 := hu3.lt
      have hr3 := Hid.intro (hr2.out.below hb3)
      have hs3 := Hid.intro (hs2'.out.below hb3)
      clear hu3
      go_wp2_with fail
      refine (both_any hs3.out hr3.out cY.out cX.out).mono ?_; rintro e x4 ⟨rfl, hv4, hb4⟩
      rw [both_comm cX.out cY.out, hZ.out] at hv4
      have hv4' := Hid.intro hv4
      have z4 := hv4.lt
      have hb24 := below_step hb3 hb4
      have hr4 := Hid.intro (hr2.out.below hb24)
      have hs4 := Hid.intro (hs2'.out.below hb24)
      have hu4 := Hid.intro (hu3'.out.below hb4)
      have hx4 := Hid.intro (hx2.out.below hb24)
      have hzx : R < x2.heap.size := hr2.out.lt
      have rA4 := Hid.intro (range_below hb24 (by omega) rA2.out)
      have rB4 := Hid.intro (range_below hb24 (by omega) rB2.out)
      have rC4 := Hid.intro (range_below hb24 (by omega) rC2.out)
      have hB4 := below_step hB2 hb24
      clear hv4 hb3 hb4 hb24 hr2 hs2' hr3 hs3 hu3' hx2 rA2 rB2 rC2 hB2
      generalize x2.heap.size = U at *
      generalize x3.heap.size = V at *
      go_wp2_with fail
      have i1 := HX.out.2.1
      have i2 := HY.out.2.1
      have l1 := HX.out.1
      have l2 := HY.out.1
      have o1 : ∀ v ∈ bv (bitsOf X), v.oneCell' = true := by intro v hv; simp only [bv, List.mem_map] at hv; obtain ⟨b, _, rfl⟩ := hv; rfl
      have o2 : ∀ v ∈ bv (bitsOf Y), v.oneCell' = true := by intro v hv; simp only [bv, List.mem_map] at hv; obtain ⟨b, _, rfl⟩ := hv; rfl
      have hu30 := Try.underlying30
      have heq := sets_eq (bitsOf X) (bitsOf Y) (bitsOf_length X) (bitsOf_length Y)
      have lZ : Hid (Z.length ≤ 1000000) := Hid.intro (by have := canon_64 cZ.out; omega)
      have x4A : A < x4.heap.size := by omega
      have x4B : A + 1 < x4.heap.size := by omega
      clear i1 i2 l1 l2 o1 o2 hu30
      refine wp_region_held_drew (S := fun w' => w'.rangeAt A 0 (bv (bitsOf X)) ∧ w'.rangeAt (A + 1) 0 (bv (bitsOf Y))) (by kernel_rfl) ⟨rA4.out, rB4.out⟩ (fun hHeld => ?_)
      refine wpAnyH_take (i := 0) (v := .pointer (some ⟨U, 0, none⟩)) rfl (by kernel_rfl) (by kernel_rfl) (by kernel_rfl) (fun _ _ _ h => h) (Or.inl ⟨by rfl, fun w' hSw => by clear hSw; go_simp⟩) hHeld ?_
      change wpAnyH _ _ _ _ _ _ _ (Act.put _ (some 66) _) _
      simp only [Act.put, List.setIfInBounds_toArray, List.set_cons_zero, List.set_cons_succ]
      refine wpAnyH_take (i := 1) (v := .bool false) rfl (by kernel_rfl) (by kernel_rfl) (by kernel_rfl) (fun _ _ _ h => h) (Or.inl ⟨by rfl, fun w' hSw => by clear hSw; go_simp⟩) hHeld ?_
      change wpAnyH _ _ _ _ _ _ _ (Act.put _ (some 67) _) _
      simp only [Act.put, List.setIfInBounds_toArray, List.set_cons_zero, List.set_cons_succ]
      refine wpAnyH_take (i := 2) (v := .bool false) rfl (by kernel_rfl) (by kernel_rfl) (by kernel_rfl) (fun _ _ _ h => h) (Or.inl ⟨by rfl, fun w' hSw => by clear hSw; go_simp⟩) hHeld ?_
      change wpAnyH _ _ _ _ _ _ _ (Act.put _ (some 68) _) _
      simp only [Act.put, List.setIfInBounds_toArray, List.set_cons_zero, List.set_cons_succ]
      refine wpAnyH_take (i := 3) (v := .pointer (some ⟨V, 0, none⟩)) rfl (by kernel_rfl) (by kernel_rfl) (by kernel_rfl) (fun _ _ _ h => h) (Or.inl ⟨by rfl, fun w' hSw => by clear hSw; go_simp⟩) hHeld ?_
      change wpAnyH _ _ _ _ _ _ _ (Act.put _ (some 69) _) _
      simp only [Act.put, List.setIfInBounds_toArray, List.set_cons_zero, List.set_cons_succ]
      refine wpAnyH_take (i := 4) (v := .bool false) rfl (by kernel_rfl) (by kernel_rfl) (by kernel_rfl) (fun _ _ _ h => h) (Or.inl ⟨by rfl, fun w' hSw => by clear hSw; go_simp⟩) hHeld ?_
      change wpAnyH _ _ _ _ _ _ _ (Act.put _ (some 70) _) _
      simp only [Act.put, List.setIfInBounds_toArray, List.set_cons_zero, List.set_cons_succ]
      refine wpAnyH_take (i := 5) (v := .bool false) rfl (by kernel_rfl) (by kernel_rfl) (by kernel_rfl) (fun _ _ _ h => h) (Or.inl ⟨by rfl, fun w' hSw => by clear hSw; go_simp⟩) hHeld ?_
      change wpAnyH _ _ _ _ _ _ _ (Act.put _ (some 71) _) _
      simp only [Act.put, List.setIfInBounds_toArray, List.set_cons_zero, List.set_cons_succ]
      refine wpAnyH_take (i := 6) (v := .bool false) rfl (by kernel_rfl) (by kernel_rfl) (by kernel_rfl) (fun _ _ _ h => h) (Or.inl ⟨by rfl, fun w' hSw => by clear hSw; go_simp⟩) hHeld ?_
      change wpAnyH _ _ _ _ _ _ _ (Act.put _ (some 72) _) _
      simp only [Act.put, List.setIfInBounds_toArray, List.set_cons_zero, List.set_cons_succ]
      refine wpAnyH_take (i := 7) (v := .pointer (some ⟨U, 0, none⟩)) rfl (by kernel_rfl) (by kernel_rfl) (by kernel_rfl) (fun _ _ _ h => h) (Or.inl ⟨by rfl, fun w' hSw => by clear hSw; go_simp⟩) hHeld ?_
      change wpAnyH _ _ _ _ _ _ _ (Act.put _ (some 73) _) _
      simp only [Act.put, List.setIfInBounds_toArray, List.set_cons_zero, List.set_cons_succ]
      refine wpAnyH_take (i := 8) (v := .pointer (some ⟨V, 0, none⟩)) rfl (by kernel_rfl) (by kernel_rfl) (by kernel_rfl) (fun _ _ _ h => h) (Or.inl ⟨by rfl, fun w' hSw => by clear hSw; go_simp⟩) hHeld ?_
      change wpAnyH _ _ _ _ _ _ _ (Act.put _ (some 74) _) _
      simp only [Act.put, List.setIfInBounds_toArray, List.set_cons_zero, List.set_cons_succ]
      refine wpAnyH_ready (rs := [9]) (by kernel_rfl) (by simp) ?_
      refine AllReadyH.cons rfl (fun K hK => ?_) AllReadyH.nil
      go_simp
      refine (same_t (hu4.out.below below_drw) (hv4'.out.below below_drw) lZ.out).mono ?_; rintro e y1 ⟨rfl, g1⟩
      replace g1 := below_drew g1
      refine hK.out _ _ ⟨range_below g1 x4A rA4.out, range_below g1 x4B rB4.out⟩ (fun hHeld => ?_); clear hK K
      refine wpAnyH_take (i := 10) (v := .bool false) rfl (by kernel_rfl) (by kernel_rfl) (by kernel_rfl) (fun _ _ _ h => h) (Or.inl ⟨by rfl, fun w' hSw => by clear hSw; go_simp⟩) hHeld ?_
      change wpAnyH _ _ _ _ _ _ _ (Act.put _ (some 76) _) _
      simp only [Act.put, List.setIfInBounds_toArray, List.set_cons_zero, List.set_cons_succ]
      refine wpAnyH_take (i := 11) (v := .bool false) rfl (by kernel_rfl) (by kernel_rfl) (by kernel_rfl) (fun _ _ _ h => h) (Or.inl ⟨by rfl, fun w' hSw => by clear hSw; go_simp⟩) hHeld ?_
      change wpAnyH _ _ _ _ _ _ _ (Act.put _ (some 77) _) _
      simp only [Act.put, List.setIfInBounds_toArray, List.set_cons_zero, List.set_cons_succ]
      refine wpAnyH_take (i := 12) (v := .bool false) rfl (by kernel_rfl) (by kernel_rfl) (by kernel_rfl) (fun _ _ _ h => h) (Or.inl ⟨by rfl, fun w' hSw => by clear hSw; go_simp⟩) hHeld ?_
      change wpAnyH _ _ _ _ _ _ _ (Act.put _ (some 78) _) _
      simp only [Act.put, List.setIfInBounds_toArray, List.set_cons_zero, List.set_cons_succ]
      refine wpAnyH_take (i := 13) (v := .pointer (some ⟨R, 0, none⟩)) rfl (by kernel_rfl) (by kernel_rfl) (by kernel_rfl) (fun _ _ _ h => h) (Or.inl ⟨by rfl, fun w' hSw => by clear hSw; go_simp⟩) hHeld ?_
      change wpAnyH _ _ _ _ _ _ _ (Act.put _ (some 79) _) _
      simp only [Act.put, List.setIfInBounds_toArray, List.set_cons_zero, List.set_cons_succ]
      refine wpAnyH_take (i := 14) (v := .pointer (some ⟨S, 0, none⟩)) rfl (by kernel_rfl) (by kernel_rfl) (by kernel_rfl) (fun _ _ _ h => h) (Or.inl ⟨by rfl, fun w' hSw => by clear hSw; go_simp⟩) hHeld ?_
      change wpAnyH _ _ _ _ _ _ _ (Act.put _ (some 80) _) _
      simp only [Act.put, List.setIfInBounds_toArray, List.set_cons_zero, List.set_cons_succ]
      refine wpAnyH_take (i := 16) (v := .agg (bv (bitsOf X)).toArray) rfl (by kernel_rfl) (by kernel_rfl) (by kernel_rfl) (fun _ _ _ h => h) (yieldsIf_load_mid (by rfl) 30 _ rfl (A) 0 rfl (bv (bitsOf X)) _ (fun w h => h.1) Try.underlying30 rfl HX.out.2.1) hHeld ?_
      change wpAnyH _ _ _ _ _ _ _ (Act.put _ (some 82) _) _
      simp only [Act.put, List.setIfInBounds_toArray, List.set_cons_zero, List.set_cons_succ]
      refine wpAnyH_take (i := 17) (v := .agg (bv (bitsOf Y)).toArray) rfl (by kernel_rfl) (by kernel_rfl) (by kernel_rfl) (fun _ _ _ h => h) (yieldsIf_load_mid (by rfl) 30 _ rfl (A + 1) 0 rfl (bv (bitsOf Y)) _ (fun w h => h.2) Try.underlying30 rfl HY.out.2.1) hHeld ?_
      change wpAnyH _ _ _ _ _ _ _ (Act.put _ (some 83) _) _
      simp only [Act.put, List.setIfInBounds_toArray, List.set_cons_zero, List.set_cons_succ]
      refine wpAnyH_take (i := 18) (v := .bool (bitsOf X == bitsOf Y)) rfl (by kernel_rfl) (by kernel_rfl) (by kernel_rfl) (fun _ _ _ h => h) (Or.inl ⟨by rfl, fun w' hSw => by clear hSw; go_simp⟩) hHeld ?_
      change wpAnyH _ _ _ _ _ _ _ (Act.put _ (some 84) _) _
      simp only [Act.put, List.setIfInBounds_toArray, List.set_cons_zero, List.set_cons_succ]
      refine wpAnyH_ready (rs := [15]) (by kernel_rfl) (by simp) ?_
      refine AllReadyH.cons rfl (fun K hK => ?_) AllReadyH.nil
      go_simp
      refine (same_d (hr4.out.below g1) (hs4.out.below g1) cX.out cY.out).mono ?_; rintro e y2 ⟨rfl, g2⟩
      have g12 := below_step g1 g2
      refine hK.out _ _ ⟨range_below g12 x4A rA4.out, range_below g12 x4B rB4.out⟩ (fun hHeld => ?_); clear hK K
      refine wpAnyH_take (i := 19) (v := .bool false) rfl (by kernel_rfl) (by kernel_rfl) (by kernel_rfl) (fun _ _ _ h => h) (Or.inl ⟨by rfl, fun w' hSw => by clear hSw; go_simp⟩) hHeld ?_
      change wpAnyH _ _ _ _ _ _ _ (Act.put _ (some 85) _) _
      simp only [Act.put, List.setIfInBounds_toArray, List.set_cons_zero, List.set_cons_succ]
      refine wpAnyH_take (i := 20) (v := .bool false) rfl (by kernel_rfl) (by kernel_rfl) (by kernel_rfl) (fun _ _ _ h => h) (Or.inl ⟨by rfl, fun w' hSw => by clear hSw; go_simp⟩) hHeld ?_
      change wpAnyH _ _ _ _ _ _ _ (Act.put _ (some 86) _) _
      simp only [Act.put, List.setIfInBounds_toArray, List.set_cons_zero, List.set_cons_succ]
      refine wpAnyH_done (by kernel_rfl) ?_ _
      clear heq hHeld
      go_wp2_with fail
      have hr5 := Hid.intro (hr4.out.below g12)
      have hu5 := Hid.intro (hu4.out.below g12)
      have hv5 := Hid.intro (hv4'.out.below g12)
      have hx5 := Hid.intro (hx4.out.below g12)
      have rC5 := Hid.intro (range_below g12 (by omega) rC4.out)
      have hB5 := below_step hB4 g12
      have zK := g12.size
      clear hr4 hs4 hu4 hv4' hx4 rA4 rB4 rC4 hB4 g1 g2 g12
      have hKn := Hid.intro (kept_new y2 y2.heap.size)
      have hbb : Below y2.heap.size y2 (y2.alloc (.cells (bookCells (.slice none 0 0) (.slice none 0 0)) 41)) := (Below.refl _ _).alloc (Nat.le_refl _) _
      have zb : y2.heap.size < (y2.alloc (.cells (bookCells (.slice none 0 0) (.slice none 0 0)) 41)).heap.size := by simp
      refine (all_any (hu5.out.below hbb) lZ.out).mono ?_; rintro e y3 ⟨v1, rfl, ho1, hb3⟩
      have hk3 := Hid.intro (hKn.out.below hb3)
      have hb23 := hbb.trans (hb3.mono (Nat.le_of_lt zb))
      have ho1' := Hid.intro (own_mono ho1 (Nat.le_of_lt zb))
      have hv1b := Hid.intro (fun b hb => (ho1.lt b hb).2)
      have z3' := hb3.size
      clear hKn hbb hb3 ho1
      have zK3 : y2.heap.size ≤ y3.heap.size := by omega
      generalize hK : y2.heap.size = K at *
      have hK' := Hid.intro hK
      clear hK zb z3'
      go_wp2_with fail
      refine (book_spans hk3.out ho1'.out (fun e he => by simp at he) (by decide) lZ.out (Nat.le_refl _)).mono ?_; rintro e y4 ⟨rfl, hk4, hst4, hb4⟩
      have hk4' := Hid.intro hk4
      have hb24 := hb23.trans hb4
      have z4' := hb4.size
      have up : Hid (∀ {y : World} {b : Nat} {ps : List Sp}, RObj y2 b ps → Below K y2 y → RObj y b ps) := Hid.intro (fun h hb => h.below (by rw [hK'.out]; exact hb))
      clear hk3 hk4 hst4 hb4 hb23
      go_wp2_with fail
      refine (all_any (up.out hv5.out hb24) lZ.out).mono ?_; rintro e y5 ⟨v2, rfl, ho2, hb5⟩
      have hk5 := Hid.intro (hk4'.out.below hb5)
      have hb25 := hb24.trans (hb5.mono (by omega))
      have ho2' := Hid.intro (own_mono ho2 (show K ≤ y4.heap.size by omega))
      have hfr : Hid (∀ e ∈ ([] ++ [(v1, Z)] : List Ent), ∀ b, e.1.ownBlock = some b → v2.ownBlock ≠ some b) := Hid.intro (by
        intro e he b hb hc
        simp at he
        subst he
        have h1 := hv1b.out b hb
        have h2 := (ho2.lt b hc).1
        omega)
      have z5' := hb5.size
      clear hk4' ho2 hb5 hb24
      go_wp2_with fail
      refine (book_spans hk5.out ho2'.out hfr.out (by simp) lZ.out (Nat.le_refl _)).mono ?_; rintro e y6 ⟨rfl, hk6, hst6, hb6⟩
      have hk6' := Hid.intro hk6
      have hb26 := hb25.trans hb6
      have z6' := hb6.size
      have rC6 := range_below hb26 (by omega) rC5.out
      have hr16 : Hid (Row y6 v1 Z) := Hid.intro (by
        obtain ⟨sv, wv, cs, hs⟩ := hk6
        exact own_row (hs.lists.own 0 (v1, Z) rfl))
      clear hk5 hk6 hst6 hb6 hb25 hfr ho2'
      go_wp2_with (first
        | (refine wpList_load_mid rfl 30 _ rfl C 0 rfl (bv (bitsOf Z)) _ rC6 Try.underlying30 rfl HZ.out.2.1 ?_))
      refine (refSpans_any Z _ cZ).mono ?_; rintro e y7 ⟨v3, rfl, ho3, hb7⟩
      have hw7 := Hid.intro (own_row ho3)
      have hr17 := Hid.intro (hr16.out.below hb7)
      clear ho3
      go_wp2_with fail
      refine (same_rows hr17.out hw7.out lZ.out).mono ?_; rintro e y8 ⟨rfl, hb8⟩
      have hb68 := below_step hb7 hb8
      have hb28 := hb26.trans (hb68.mono (by omega))
      have hk8 := Hid.intro (hk6'.out.below hb68)
      obtain ⟨cz0, cz1⟩ := cnt_bound cZ.out
      have nn0 : (0 : Int) ≤ (n : Int) := Int.natCast_nonneg _
      have cz2 : ¬ cnt Z + (n : Int) < (n : Int) := by omega
      have z8' := hb68.size
      clear hr16 hr17 hw7 hb7 hb8 hb68 hb26 rC6 hk6'
      go_wp2_with fail
      refine (count_any (up.out hu5.out hb28) cZ.out).mono ?_; rintro e y9 ⟨rfl, hb9⟩
      have hb29 := hb28.trans (hb9.mono (by omega))
      have hk9 := Hid.intro (hk8.out.below hb9)
      have hr9 := Hid.intro (up.out hr5.out hb29)
      have hx9 := Hid.intro (hx5.out.below (by rw [hK'.out]; exact hb29))
      have z9' := hb9.size
      clear hk8 hb9 hb28
      go_wp2_with fail
      have hr9x : Hid (RObj y9 R (putR [] x)) := Hid.intro (by rw [hX.out]; exact hr9.out)
      refine (order_cut hr9x.out hx9.out hfx.out (by omega)).mono ?_; rintro e y10 ⟨rfl, hr10, hb10⟩
      have hu10 := Hid.intro ((up.out hu5.out hb29).but hr9.out hb10 (by omega))
      have hk10 := Hid.intro (hk9.out.but hr9.out hb10)
      have rC10 := Hid.intro (range_but hb10 (by omega) (show C < y9.heap.size by omega) (range_below hb29 (by omega) rC5.out))
      have hB10 : Below w.heap.size w y10 := (hB5.trans (hb29.mono (by have := hB5.size; rw [hK'.out] at this; exact this))).trans (hb10.belowAt hRw (by omega))
      have z10' := hb10.size
      clear hr9 hr9x hx9 hk9 hb10 hb29
      go_wp2_with fail
      refine (both_none hr10.out).mono ?_; rintro e y11 ⟨rfl, hn11, hb11⟩
      have hr11 := Hid.intro (hr10.out.below hb11)
      have hu11 := Hid.intro (hu10.out.below hb11)
      have hk11 := Hid.intro (hk10.out.below hb11)
      have rC11 := Hid.intro (range_below hb11 (by omega) rC10.out)
      have hB11 := below_step hB10 hb11
      have z11' := hb11.size
      clear hr10 hu10 hk10 rC10 hB10 hb11 hr5 hu5 hv5 hx5 rC5 hB5 up
      generalize y10.heap.size = N at *
      have zC11 : C < y11.heap.size := by omega
      have hcz := Hid.intro (And.intro cz0 cz1)
      have hes : Hid (Short ([] ++ [(v1, Z)] ++ [(v2, Z)])) := Hid.intro (by
        intro e he
        have := canon_64 cZ.out
        simp at he
        rcases he with rfl | rfl
        · show Z.length ≤ 100000; omega
        · show Z.length ≤ 100000; omega)
      go_wp2_with fail
      refine wp_region_held_drew (S := fun w' => w'.rangeAt C 0 (bv (bitsOf Z))) (by kernel_rfl) rC11.out (fun hHeld => ?_)
      refine wpAnyH_take (i := 0) (v := .pointer (some ⟨R, 0, none⟩)) rfl (by kernel_rfl) (by kernel_rfl) (by kernel_rfl) (fun _ _ _ h => h) (Or.inl ⟨by rfl, fun w' hSw => by clear hSw; go_simp⟩) hHeld ?_
      change wpAnyH _ _ _ _ _ _ _ (Act.put _ (some 118) _) _
      simp only [Act.put, List.setIfInBounds_toArray, List.set_cons_zero, List.set_cons_succ]
      refine wpAnyH_ready (rs := [1]) (by kernel_rfl) (by simp) ?_
      refine AllReadyH.cons rfl (fun K hK => ?_) AllReadyH.nil
      go_simp
      refine (count_zero (hr11.out.below below_drw)).mono ?_; rintro e q1 ⟨rfl, g1⟩
      replace g1 := below_drew g1
      refine hK.out _ _ (range_below g1 zC11 rC11.out) (fun hHeld => ?_); clear hK K
      refine wpAnyH_take (i := 2) (v := .bool true) rfl (by kernel_rfl) (by kernel_rfl) (by kernel_rfl) (fun _ _ _ h => h) (Or.inl ⟨by rfl, fun w' hSw => by clear hSw; go_simp⟩) hHeld ?_
      change wpAnyH _ _ _ _ _ _ _ (Act.put _ (some 120) _) _
      simp only [Act.put, List.setIfInBounds_toArray, List.set_cons_zero, List.set_cons_succ]
      refine wpAnyH_take (i := 3) (v := .bool true) rfl (by kernel_rfl) (by kernel_rfl) (by kernel_rfl) (fun _ _ _ h => h) (Or.inl ⟨by rfl, fun w' hSw => by clear hSw; go_simp⟩) hHeld ?_
      change wpAnyH _ _ _ _ _ _ _ (Act.put _ (some 121) _) _
      simp only [Act.put, List.setIfInBounds_toArray, List.set_cons_zero, List.set_cons_succ]
      refine wpAnyH_take (i := 4) (v := .pointer (some ⟨U, 0, none⟩)) rfl (by kernel_rfl) (by kernel_rfl) (by kernel_rfl) (fun _ _ _ h => h) (Or.inl ⟨by rfl, fun w' hSw => by clear hSw; go_simp⟩) hHeld ?_
      change wpAnyH _ _ _ _ _ _ _ (Act.put _ (some 122) _) _
      simp only [Act.put, List.setIfInBounds_toArray, List.set_cons_zero, List.set_cons_succ]
      refine wpAnyH_take (i := 6) (v := .agg (bv (bitsOf Z)).toArray) rfl (by kernel_rfl) (by kernel_rfl) (by kernel_rfl) (fun _ _ _ h => h) (yieldsIf_load_mid (by rfl) 30 _ rfl (C) 0 rfl (bv (bitsOf Z)) _ (fun w h => h) Try.underlying30 rfl HZ.out.2.1) hHeld ?_
      change wpAnyH _ _ _ _ _ _ _ (Act.put _ (some 124) _) _
      simp only [Act.put, List.setIfInBounds_toArray, List.set_cons_zero, List.set_cons_succ]
      refine wpAnyH_ready (rs := [5]) (by kernel_rfl) (by simp) ?_
      refine AllReadyH.cons rfl (fun K hK => ?_) AllReadyH.nil
      go_simp
      refine (count_any (hu11.out.below g1) cZ.out).mono ?_; rintro e q2 ⟨rfl, g2⟩
      have g2' := below_step g1 g2
      refine hK.out _ _ (range_below g2' zC11 rC11.out) (fun hHeld => ?_); clear hK K
      refine wpAnyH_ready (rs := [7]) (by kernel_rfl) (by simp) ?_
      refine AllReadyH.cons rfl (fun K hK => ?_) AllReadyH.nil
      go_simp
      refine (refCount_any Z _ cZ).mono ?_; rintro e q3 ⟨rfl, g3'⟩
      have g3 := below_step g2' g3'
      refine hK.out _ _ (range_below g3 zC11 rC11.out) (fun hHeld => ?_); clear hK K
      refine wpAnyH_take (i := 8) (v := .bool true) rfl (by kernel_rfl) (by kernel_rfl) (by kernel_rfl) (fun _ _ _ h => h) (Or.inl ⟨by rfl, fun w' hSw => by clear hSw; go_simp⟩) hHeld ?_
      change wpAnyH _ _ _ _ _ _ _ (Act.put _ (some 126) _) _
      simp only [Act.put, List.setIfInBounds_toArray, List.set_cons_zero, List.set_cons_succ]
      refine wpAnyH_take (i := 9) (v := .bool true) rfl (by kernel_rfl) (by kernel_rfl) (by kernel_rfl) (fun _ _ _ h => h) (Or.inl ⟨by rfl, fun w' hSw => by clear hSw; go_simp⟩) hHeld ?_
      change wpAnyH _ _ _ _ _ _ _ (Act.put _ (some 127) _) _
      simp only [Act.put, List.setIfInBounds_toArray, List.set_cons_zero, List.set_cons_succ]
      refine wpAnyH_take (i := 10) (v := .bool true) rfl (by kernel_rfl) (by kernel_rfl) (by kernel_rfl) (fun _ _ _ h => h) (Or.inl ⟨by rfl, fun w' hSw => by clear hSw; go_simp⟩) hHeld ?_
      change wpAnyH _ _ _ _ _ _ _ (Act.put _ (some 128) _) _
      simp only [Act.put, List.setIfInBounds_toArray, List.set_cons_zero, List.set_cons_succ]
      refine wpAnyH_take (i := 11) (v := .pointer (some ⟨N, 0, none⟩)) rfl (by kernel_rfl) (by kernel_rfl) (by kernel_rfl) (fun _ _ _ h => h) (Or.inl ⟨by rfl, fun w' hSw => by clear hSw; go_simp⟩) hHeld ?_
      change wpAnyH _ _ _ _ _ _ _ (Act.put _ (some 129) _) _
      simp only [Act.put, List.setIfInBounds_toArray, List.set_cons_zero, List.set_cons_succ]
      refine wpAnyH_take (i := 12) (v := .bool true) rfl (by kernel_rfl) (by kernel_rfl) (by kernel_rfl) (fun _ _ _ h => h) (Or.inl ⟨by rfl, fun w' hSw => by clear hSw; go_simp⟩) hHeld ?_
      change wpAnyH _ _ _ _ _ _ _ (Act.put _ (some 130) _) _
      simp only [Act.put, List.setIfInBounds_toArray, List.set_cons_zero, List.set_cons_succ]
      refine wpAnyH_take (i := 13) (v := .bool true) rfl (by kernel_rfl) (by kernel_rfl) (by kernel_rfl) (fun _ _ _ h => h) (Or.inl ⟨by rfl, fun w' hSw => by clear hSw; go_simp⟩) hHeld ?_
      change wpAnyH _ _ _ _ _ _ _ (Act.put _ (some 131) _) _
      simp only [Act.put, List.setIfInBounds_toArray, List.set_cons_zero, List.set_cons_succ]
      refine wpAnyH_take (i := 14) (v := .bool true) rfl (by kernel_rfl) (by kernel_rfl) (by kernel_rfl) (fun _ _ _ h => h) (Or.inl ⟨by rfl, fun w' hSw => by clear hSw; go_simp⟩) hHeld ?_
      change wpAnyH _ _ _ _ _ _ _ (Act.put _ (some 132) _) _
      simp only [Act.put, List.setIfInBounds_toArray, List.set_cons_zero, List.set_cons_succ]
      refine wpAnyH_take (i := 15) (v := .pointer (some ⟨N, 0, none⟩)) rfl (by kernel_rfl) (by kernel_rfl) (by kernel_rfl) (fun _ _ _ h => h) (Or.inl ⟨by rfl, fun w' hSw => by clear hSw; go_simp⟩) hHeld ?_
      change wpAnyH _ _ _ _ _ _ _ (Act.put _ (some 133) _) _
      simp only [Act.put, List.setIfInBounds_toArray, List.set_cons_zero, List.set_cons_succ]
      refine wpAnyH_ready (rs := [16]) (by kernel_rfl) (by simp) ?_
      refine AllReadyH.cons rfl (fun K hK => ?_) AllReadyH.nil
      go_simp
      refine (count_zero (hn11.out.below g3)).mono ?_; rintro e q4 ⟨rfl, g4⟩
      have g4' := below_step g3 g4
      refine hK.out _ _ (range_below g4' zC11 rC11.out) (fun hHeld => ?_); clear hK K
      refine wpAnyH_take (i := 17) (v := .bool true) rfl (by kernel_rfl) (by kernel_rfl) (by kernel_rfl) (fun _ _ _ h => h) (Or.inl ⟨by rfl, fun w' hSw => by clear hSw; go_simp⟩) hHeld ?_
      change wpAnyH _ _ _ _ _ _ _ (Act.put _ (some 135) _) _
      simp only [Act.put, List.setIfInBounds_toArray, List.set_cons_zero, List.set_cons_succ]
      refine wpAnyH_take (i := 18) (v := .bool true) rfl (by kernel_rfl) (by kernel_rfl) (by kernel_rfl) (fun _ _ _ h => h) (Or.inl ⟨by rfl, fun w' hSw => by clear hSw; go_simp⟩) hHeld ?_
      change wpAnyH _ _ _ _ _ _ _ (Act.put _ (some 136) _) _
      simp only [Act.put, List.setIfInBounds_toArray, List.set_cons_zero, List.set_cons_succ]
      refine wpAnyH_take (i := 19) (v := .bool true) rfl (by kernel_rfl) (by kernel_rfl) (by kernel_rfl) (fun _ _ _ h => h) (Or.inl ⟨by rfl, fun w' hSw => by clear hSw; go_simp⟩) hHeld ?_
      change wpAnyH _ _ _ _ _ _ _ (Act.put _ (some 137) _) _
      simp only [Act.put, List.setIfInBounds_toArray, List.set_cons_zero, List.set_cons_succ]
      refine wpAnyH_take (i := 20) (v := .pointer (some ⟨K, 0, none⟩)) rfl (by kernel_rfl) (by kernel_rfl) (by kernel_rfl) (fun _ _ _ h => h) (Or.inl ⟨by rfl, fun w' hSw => by clear hSw; go_simp⟩) hHeld ?_
      change wpAnyH _ _ _ _ _ _ _ (Act.put _ (some 138) _) _
      simp only [Act.put, List.setIfInBounds_toArray, List.set_cons_zero, List.set_cons_succ]
      refine wpAnyH_ready (rs := [21]) (by kernel_rfl) (by simp) ?_
      refine AllReadyH.cons rfl (fun K hK => ?_) AllReadyH.nil
      go_simp
      refine (book_apart (hk11.out.below g4') (by simp) hes.out (Nat.le_refl _)).mono ?_; rintro e q5 ⟨rfl, g5⟩
      have g4s := g4'.size
      refine hK.out _ _ (range_below g5 (by omega) (range_below g4' zC11 rC11.out)) (fun hHeld => ?_); clear hK K
      refine wpAnyH_take (i := 22) (v := .bool true) rfl (by kernel_rfl) (by kernel_rfl) (by kernel_rfl) (fun _ _ _ h => h) (Or.inl ⟨by rfl, fun w' hSw => by clear hSw; go_simp⟩) hHeld ?_
      change wpAnyH _ _ _ _ _ _ _ (Act.put _ (some 140) _) _
      simp only [Act.put, List.setIfInBounds_toArray, List.set_cons_zero, List.set_cons_succ]
      refine wpAnyH_take (i := 23) (v := .bool true) rfl (by kernel_rfl) (by kernel_rfl) (by kernel_rfl) (fun _ _ _ h => h) (Or.inl ⟨by rfl, fun w' hSw => by clear hSw; go_simp⟩) hHeld ?_
      change wpAnyH _ _ _ _ _ _ _ (Act.put _ (some 4) _) _
      simp only [Act.put, List.setIfInBounds_toArray, List.set_cons_zero, List.set_cons_succ]
      refine wpAnyH_done (by kernel_rfl) ?_ _
      go_wp2
      go_ret
      exact ⟨rfl, (below_step hB11 g4').trans (g5.mono (by omega))⟩
end Go.Proofs.Ytpdbnldbdmhhfaa
