/-
  RunsNext's walk.
-/
import Derived.Test.YtpdbnldbdmhhfaaNext
import Derived.Test.YtpdbnldbdmhhfaaRefSet
import Derived.Test.YtpdbnldbdmhhfaaAlive
namespace Go.Proofs.Ytpdbnldbdmhhfaa
open Go.ChangeShapes Go.WideShapes Go.ChangeAt Go.RowKit
attribute [local go_sem ↓] Go.wp_at_zero Go.wp_at_succ

theorem next_none_spec {ps : List Sp} {x : Int} (h : nextR ps x = none) : ∀ k, x ≤ k → ¬ In ps k := by
  induction ps with
  | nil => exact fun k _ => in_nil k
  | cons p l ih =>
    unfold nextR at h
    by_cases hlt : x < p.1 + p.2
    · rw [if_pos hlt] at h; cases h
    · rw [if_neg hlt] at h
      intro k hk hin
      rcases (in_cons _ _ _).1 hin with hp | hl
      · have := hp.2.2; omega
      · exact ih h k hk hl

theorem next_some_spec {ps : List Sp} {x f n : Int} (hc : Canon ps) (h : nextR ps x = some (f, n)) : x ≤ f ∧ 1 ≤ n ∧ 0 ≤ f ∧ f + n ≤ 64 ∧ ∀ k, x ≤ k → k < f + n → (In ps k ↔ f ≤ k) := by
  induction ps with
  | nil => cases h
  | cons p l ih =>
    obtain ⟨hw, hpl, hcl⟩ := hc
    unfold nextR at h
    by_cases hlt : x < p.1 + p.2
    · rw [if_pos hlt] at h
      have hnot : ∀ k, k < p.1 + p.2 → ¬ In l k := fun k hk ⟨q, hq, hx⟩ => by have := hpl q hq; have := hx.2.1; omega
      have hw' := hw
      unfold Wh at hw'
      by_cases hxp : x < p.1
      · rw [if_pos hxp] at h
        cases h
        refine ⟨by omega, by omega, by omega, by omega, fun k hk hk2 => ?_⟩
        rw [in_cons]
        have hk3 : k < p.1 + p.2 := by omega
        simp only [hnot k hk3, or_false, hasW, hw, true_and, hk3, and_true]
      · rw [if_neg hxp] at h
        cases h
        refine ⟨by omega, by omega, by omega, by omega, fun k hk hk2 => ?_⟩
        rw [in_cons]
        have hk3 : k < p.1 + p.2 := by omega
        have hk4 : p.1 ≤ k := by omega
        simp only [hnot k hk3, or_false, hasW, hw, hk3, and_true, hk, hk4]
    · rw [if_neg hlt] at h
      obtain ⟨a1, a2, a3, a4, a5⟩ := ih hcl h
      refine ⟨a1, a2, a3, a4, fun k hk hk2 => ?_⟩
      rw [in_cons, a5 k hk hk2]
      have : ¬ hasW p k := fun h => by have := h.2.2; omega
      simp only [this, false_or]

theorem upTo_flat (ps : List Sp) (x m : Nat) (h : ∀ k : Nat, x ≤ k → k < x + m → ¬ In ps (k : Int)) : upTo ps (x + m) = upTo ps x := by
  induction m with
  | zero => rfl
  | succ m ih =>
    rw [← Nat.add_assoc, upTo_succ, ih (fun k h1 h2 => h k h1 (by omega)), if_neg (h (x + m) (by omega) (by omega))]
    rfl
theorem upTo_full (ps : List Sp) (x m : Nat) (h : ∀ k : Nat, x ≤ k → k < x + m → In ps (k : Int)) : upTo ps (x + m) = upTo ps x + m := by
  induction m with
  | zero => rfl
  | succ m ih =>
    rw [← Nat.add_assoc, upTo_succ, ih (fun k h1 h2 => h k h1 (by omega)), if_pos (h (x + m) (by omega) (by omega))]
    rfl
theorem upTo_next {ps : List Sp} {x f n : Nat} (hxf : x ≤ f) (h : ∀ k : Int, (x : Int) ≤ k → k < (f : Int) + n → (In ps k ↔ (f : Int) ≤ k)) : upTo ps (f + n) = upTo ps x + n := by
  rw [upTo_full ps f n (fun k h1 h2 => (h k (by omega) (by omega)).2 (by omega))]
  have : f = x + (f - x) := by omega
  rw [this, upTo_flat ps x (f - x) (fun k h1 h2 hin => by have := (h k (by omega) (by omega)).1 hin; omega)]
theorem upTo_end {ps : List Sp} {x : Nat} (hc : Canon ps) (hx : x ≤ 64) (h : ∀ k : Int, (x : Int) ≤ k → ¬ In ps k) : ((upTo ps x : Nat) : Int) = cnt ps := by
  rw [← upTo_64 hc]
  have : 64 = x + (64 - x) := by omega
  rw [this, upTo_flat ps x (64 - x) (fun k h1 h2 => h k (by omega))]

theorem next_t {w : World} {b : Nat} {ps : List Sp} (h : RObj w b ps) (hc : Canon ps) (x f n : Int) (hn : nextR ps x = some (f, n)) :
    Calls Try.prog 21 #[.pointer (some ⟨b, 0, none⟩), .int .i64 x] w fun e w' => e = .returned (.tuple #[.agg #[.int .i64 f, .int .i64 n], .bool true]) ∧ Below w.heap.size w w' := by
  have := next_any h hc x
  rwa [hn] at this
theorem next_f {w : World} {b : Nat} {ps : List Sp} (h : RObj w b ps) (hc : Canon ps) (x : Int) (hn : nextR ps x = none) :
    Calls Try.prog 21 #[.pointer (some ⟨b, 0, none⟩), .int .i64 x] w fun e w' => e = .returned (.tuple #[.agg #[.int .i64 0, .int .i64 0], .bool false]) ∧ Below w.heap.size w w' := by
  have := next_any h hc x
  rwa [hn] at this

theorem bv_facts (ps : List Sp) : (bv (bitsOf ps)).length = 64 ∧ (Try.prog.info? 30).map (·.size) = some (bv (bitsOf ps)).length ∧ (bv (bitsOf ps)).toArray.all (·.oneCell') = true ∧ (Try.prog.info? 30).map (·.size) = some (bv (bitsOf ps)).toArray.size := by
  have hlen : (bv (bitsOf ps)).length = 64 := by rw [bv_length, bitsOf_length]
  have hinf : (Try.prog.info? 30).map (·.size) = some (bv (bitsOf ps)).length := by rw [hlen]; exact info30
  exact ⟨hlen, hinf, all_oneCell_toArray (by intro v hv; simp only [bv, List.mem_map] at hv; obtain ⟨b, _, rfl⟩ := hv; rfl), by simpa using hinf⟩

theorem gen_world {P : Program} {code : Code} {Q : Exit → Act → World → Prop} {a : Act} (W : World) (F : World → Prop) (h : F W) (k : ∀ w4, F w4 → Code.wp P code Q a w4) : Code.wp P code Q a W := k W h
theorem set_facts (w3 : World) (ps : List Sp) (C : Array Value) (hC : C.size = 64) :
    ((w3.alloc (.cells C 30)).setCells w3.heap.size 0 (bv (bitsOf ps))).rangeAt w3.heap.size 0 (bv (bitsOf ps)) ∧ ((w3.alloc (.cells C 30)).setCells w3.heap.size 0 (bv (bitsOf ps))).there w3.heap.size 0 64 ∧ w3.heap.size < ((w3.alloc (.cells C 30)).setCells w3.heap.size 0 (bv (bitsOf ps))).heap.size ∧ Below w3.heap.size w3 ((w3.alloc (.cells C 30)).setCells w3.heap.size 0 (bv (bitsOf ps))) := by
  have ht : (w3.alloc (.cells C 30)).there w3.heap.size 0 64 := there_new (by omega)
  have hb : Below w3.heap.size w3 (w3.alloc (.cells C 30)) := (Below.refl _ _).alloc (Nat.le_refl _) _
  have hr := World.rangeAt_setCells_same (w3.alloc (.cells C 30)) w3.heap.size 0 (bv (bitsOf ps)) (by rw [(bv_facts ps).1]; exact ht)
  refine ⟨hr, World.there_setCells ht _ _ _, ?_, below_setCells _ _ _ _ hb (Nat.le_refl _)⟩
  have := hr 0 (.bool (decide (In ps 0))) (by unfold bv; rw [List.getElem?_map, bitsOf_get _ 0 (by omega)]; rfl)
  exact World.block_lt_of_cell? _ _ this

/-- Too many spans: alive's answer. -/
theorem next_out (a : Option Addr) (n c : Nat) (w : World) (h : (40 : Int) < (n : Int)) :
    Calls Try.prog 6 #[.slice a n c] w fun e w' => e = .returned (.bool true) ∧ Below w.heap.size w w' := by
  have hd : decide ((40 : Int) < (n : Int)) = true := decide_eq_true h
  go_enter Try.func6, Try.ntmps6
  go_wp2_with fail
  refine (alive_any _).mono ?_; rintro e w1 ⟨rfl, hb1⟩
  go_wp2
  go_ret
  exact ⟨rfl, hb1⟩

set_option maxRecDepth 100000 in
theorem next_walk (l : List Sp) (n c : Nat) (a0 : Option Addr) (w : World) (hn : l.length = n) (h40 : n ≤ 40) (hx : Hid (Row w (.slice a0 n c) l)) (hf : Hid (Fits l)) :
    Calls Try.prog 6 #[.slice a0 n c] w fun e w' => e = .returned (.bool true) ∧ Below w.heap.size w w' := by
  have j1 : (n : Int) ≤ 40 := by omega
  have j3 : decide ((40 : Int) < (n : Int)) = false := decide_eq_false (by omega)
  obtain ⟨ps, hps⟩ : ∃ ps, Hid (putR [] l = ps) := ⟨_, rfl⟩
  have hcan : Hid (Canon ps) := Hid.intro (by rw [← hps.out]; exact (put_spec l [] trivial).1)
  have HF := Hid.intro (bv_facts ps)
  go_enter Try.func6, Try.ntmps6
  go_wp2_with fail
  refine (alive_any _).mono ?_; rintro e w1 ⟨rfl, hb1⟩
  go_wp2_with fail
  refine (of_any (hx.out.below hb1) hf.out (by omega)).mono ?_; rintro e w2 ⟨rfl, hr2, hb2⟩
  rw [hps.out] at hr2
  have hr2' := Hid.intro hr2
  have hB2 := below_step hb1 hb2
  clear hr2
  go_wp2_with fail
  refine (refZero_row (hx.out.below hB2) (by omega)).mono ?_; rintro e w3 ⟨rfl, hb3⟩
  rw [hps.out]
  have hr3 : Hid (RObj w3 w1.heap.size ps) := hr2'.out.below hb3
  have hB3 := below_step hB2 hb3
  have hz3 := hb1.size
  clear hb1 hb2 hb3 hr2' hB2
  generalize w1.heap.size = R at *
  have hth : Hid ((w3.alloc (.cells (List.replicate 64 (Value.bool false)).toArray 30)).there w3.heap.size 0 (bv (bitsOf ps)).toArray.size) := Hid.intro (there_new (by simp [HF.out.1]))
  go_wp2_with (first
    | (refine wpList_store_mid rfl 30 _ _ rfl w3.heap.size 0 (bv (bitsOf ps)).toArray rfl rfl hth.out HF.out.2.2.2 HF.out.2.2.1 ?_))
  refine gen_world _ (fun w4 => w4.rangeAt w3.heap.size 0 (bv (bitsOf ps)) ∧ w4.there w3.heap.size 0 64 ∧ w3.heap.size < w4.heap.size ∧ Below w3.heap.size w3 w4) (set_facts w3 ps _ rfl) ?_
  rintro w4 ⟨hrX, _, hzX, hb4⟩
  have hr4 : Hid (RObj w4 R ps) := hr3.out.below hb4
  have hB4 := below_step hB3 hb4
  have hRX : R < w3.heap.size := hr3.out.lt
  have hwX : w.heap.size ≤ w3.heap.size := hB3.size
  have hrX' := Hid.intro hrX
  clear hb4 hr3 hB3 hth hrX
  generalize w3.heap.size = X at *
  go_loopw [5, 6, 7] (fun fv nv iv wr => ∃ (x i : Nat), x ≤ 64 ∧ i ≤ x ∧ fv = .int .i64 x ∧ nv = .int .i64 (upTo ps x : Nat) ∧ iv = .int .i64 i ∧ RObj wr R ps ∧ wr.rangeAt X 0 (bv (bitsOf ps)) ∧ X < wr.heap.size ∧ Below w.heap.size w wr) (fun fv _ _ _ => 64 - (intOf fv).toNat)
  case atStart => exact ⟨0, 0, by omega, by omega, rfl, rfl, rfl, hr4.out, hrX'.out, hzX, hB4⟩
  case round =>
    clear hr4 hrX' hB4 hzX
    obtain ⟨x, i, hx64, hix, rfl, rfl, rfl, hr, hrX, hzX, hB⟩ := hrel
    have x0 : (0 : Int) ≤ (x : Int) := Int.natCast_nonneg _
    have i0 : (0 : Int) ≤ (i : Int) := Int.natCast_nonneg _
    have i1 : (i : Int) ≤ 64 := by omega
    have n0 : (0 : Int) ≤ ((upTo ps x : Nat) : Int) := Int.natCast_nonneg _
    have n1 : ((upTo ps x : Nat) : Int) ≤ 64 := by have := upTo_le ps x; omega
    have hr' := Hid.intro hr
    have hrX' := Hid.intro hrX
    clear hr hrX
    cases hnx : nextR ps (x : Int) with
    | none =>
      have hnx' := Hid.intro hnx
      have hcnt : Hid (((upTo ps x : Nat) : Int) = cnt ps) := Hid.intro (upTo_end hcan.out hx64 (next_none_spec hnx))
      clear hnx
      go_wp2_with fail
      refine (next_f hr'.out hcan.out _ hnx'.out).mono ?_; rintro e w5 ⟨rfl, hb5⟩
      rw [hcnt.out]
      have hba : Below w5.heap.size w5 (w5.alloc (.cells #[.int .i64 0, .int .i64 0] 49)) := (Below.refl _ _).alloc (Nat.le_refl _) _
      have hb6 := below_step hb5 hba
      have hrX6 := range_below hb6 hzX hrX'.out
      have hr6 := Hid.intro (hr'.out.below hb6)
      have hB6 := below_step hB hb6
      clear hb5 hb6 hba
      go_wp2_with (first
        | (refine wpList_load_mid rfl 30 _ rfl X 0 rfl (bv (bitsOf ps)) _ hrX6 Try.underlying30 rfl HF.out.2.1 ?_))
      refine (refCount_any ps _ hcan).mono ?_; rintro e w7 ⟨rfl, hb7⟩
      go_wp2_with fail
      refine (count_any (hr6.out.below hb7) hcan.out).mono ?_; rintro e w8 ⟨rfl, hb8⟩
      go_wp2
      go_ret
      exact ⟨rfl, below_step (below_step hB6 hb7) hb8⟩
    | some q =>
      obtain ⟨f, m⟩ := q
      have hnx' := Hid.intro hnx
      obtain ⟨s1, s2, s3, s4, s5⟩ := next_some_spec hcan.out hnx
      obtain ⟨fN, rfl⟩ : ∃ fN : Nat, f = fN := ⟨f.toNat, by omega⟩
      obtain ⟨mN, rfl⟩ : ∃ mN : Nat, m = mN := ⟨m.toNat, by omega⟩
      have hup : Hid (upTo ps (fN + mN) = upTo ps x + mN) := Hid.intro (upTo_next (by omega) s5)
      have hs5 := Hid.intro s5
      have q1 : decide (fN < x) = false := decide_eq_false (by omega)
      have q2 : decide ((mN : Int) < 1) = false := decide_eq_false (by omega)
      clear hnx s5
      go_wp2_with fail
      refine (next_t hr'.out hcan.out _ _ _ hnx'.out).mono ?_; rintro e w5 ⟨rfl, hb5⟩
      have hba : Below w5.heap.size w5 (w5.alloc (.cells #[.int .i64 fN, .int .i64 mN] 49)) := (Below.refl _ _).alloc (Nat.le_refl _) _
      have hb6 := below_step hb5 hba
      have hrX6 := Hid.intro (range_below hb6 hzX hrX'.out)
      have hr6 := Hid.intro (hr'.out.below hb6)
      have hB6 := below_step hB hb6
      have hzX6 := Nat.lt_of_lt_of_le hzX hb6.size
      have hbx := Box.new w5 (.int .i64 fN) (.int .i64 mN) 49
      clear hb5 hb6 hba hr' hrX' hB hzX
      obtain ⟨b0, b1, b2, b3⟩ := hbx
      go_wp2_with fail
      generalize w5.alloc (.cells #[.int .i64 fN, .int .i64 mN] 49) = w6 at *
      generalize w5.heap.size = S at *
      have hbx' : Hid (Box w6 S (.int .i64 fN) (.int .i64 mN)) := ⟨b0, b1, b2, b3⟩
      clear b0 b1 b2 b3
      go_loopw [10] (fun kv wk => ∃ k : Nat, x ≤ k ∧ k ≤ fN + mN ∧ kv = .int .i64 k ∧ Below w6.heap.size w6 wk) (fun kv _ => 64 - (intOf kv).toNat)
      case atStart => exact ⟨x, by omega, by omega, rfl, Below.refl _ _⟩
      case round =>
        obtain ⟨k, hk0, hk1, rfl, hbk⟩ := hrel
        have k0 : (0 : Int) ≤ (k : Int) := Int.natCast_nonneg _
        obtain ⟨b0, b1, b2, b3⟩ := hbx'.out.below hbk hbx'.out.lt
        by_cases hlt : k < fN + mN
        · have k1 : (k : Int) < (fN : Int) + mN := by omega
          have k2 : (k : Int) < 64 := by omega
          have hd := bit_cell (range_below hbk hzX6 hrX6.out) k (by omega)
          have hiff := hs5.out k (by omega) k1
          by_cases hfk : fN ≤ k
          · have hfk' : (fN : Int) ≤ (k : Int) := by omega
            rw [decide_eq_true (hiff.2 hfk')] at hd
            have hdd : decide ((fN : Int) ≤ (k : Int)) = true := decide_eq_true hfk'
            clear hiff
            go_wp2_with fail
            go_quiet (fail)
            go_wp2
            go_roundw
            case rel => exact ⟨k + 1, by omega, by omega, by go_num, hbk.trans ⟨rfl, rfl, rfl, Nat.le_refl _, fun _ _ => rfl⟩⟩
            case measure => simp [intOf]; omega
          · have hfk' : ¬ (fN : Int) ≤ (k : Int) := by omega
            rw [decide_eq_false (fun h => hfk' (hiff.1 h))] at hd
            have hdd : decide ((fN : Int) ≤ (k : Int)) = false := decide_eq_false hfk'
            clear hiff
            go_wp2_with fail
            go_quiet (fail)
            go_wp2
            go_roundw
            case rel => exact ⟨k + 1, by omega, by omega, by go_num, hbk.trans ⟨rfl, rfl, rfl, Nat.le_refl _, fun _ _ => rfl⟩⟩
            case measure => simp [intOf]; omega
        · have k1 : ¬ (k : Int) < (fN : Int) + mN := by omega
          have n2 : ((upTo ps x : Nat) : Int) + mN ≤ 64 := by have := upTo_le ps (fN + mN); rw [hup.out] at this; omega
          go_wp2
          go_roundw
          case rel => exact ⟨fN + mN, i + 1, by omega, by omega, by go_num, by rw [hup.out]; push_cast; rfl, by go_num, hr6.out.below hbk, range_below hbk hzX6 hrX6.out, Nat.lt_of_lt_of_le hzX6 hbk.size, below_step hB6 hbk⟩
          case measure => simp [intOf]; omega
end Go.Proofs.Ytpdbnldbdmhhfaa
