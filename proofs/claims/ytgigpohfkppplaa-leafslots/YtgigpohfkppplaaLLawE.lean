/-
  The walk of LeafSlots.
-/
import Derived.Test.YtgigpohfkppplaaLLent
import Derived.Test.YtgigpohfkppplaaLLawB
namespace Go.Proofs.Ytgigpohfkppplaa
open Go.ChangeShapes Go.WideShapes Go.ChangeAt Go.RowKit
attribute [local go_sem] str_size str_extract str_append str_toList

theorem us_slot {g : Nat} {ps : List Int} (h : Sl (g : Int) ps) : usG (slL g ps) = (g : Int) ∧ usP (slL g ps) = ps ∧ usE (slL g ps) = 0 := by
  have hI := iss_slot h
  rw [Int.toNat_natCast] at hI
  have h1 := h.1
  refine ⟨?_, ?_, ?_⟩
  · rw [usG, if_pos hI, sg_slot (by omega)]
  · rw [usP, if_pos hI, ps_slot _ h.2]
  · unfold usE; rw [if_neg (by have := hI.1; omega), if_pos hI]
theorem usP_short (P : List UInt8) : (usP P).length ≤ 11 := by
  unfold usP
  split
  · rename_i h
    exact h.2.2.1.2.1
  · exact Nat.zero_le _
theorem fresh_of {w7 w11 : World} {b6 b10 n m : Nat} {vl vn : Value} {xs ys : List Value} {l : List Int} (h : w7.ownsRow b6 3 1 vl n xs) (k : w11.ownsRow b10 3 1 vn m ys) (hs : w7.heap.size ≤ b10) :
    ∀ e ∈ ([] ++ [(vl, l)] : List BkI.Ent), ∀ b, e.1.ownBlock = some b → vn.ownBlock ≠ some b := by
  intro e he b hb hc
  obtain rfl : e = (vl, l) := by simpa using he
  have h1 := (h.lt b hb).2
  have h2 := (k.lt b hc).1
  omega
set_option maxRecDepth 100000 in
theorem lslots_l {v : Value} {ps : List Int} (gen : Int) (P : List UInt8) (w : World) (hr : BkI.Row w v ps) (h : 40 < ps.length) :
    Calls Try.prog 4 #[.int .i64 gen, v, .string (str P)] w fun e w' => e = .returned (.bool true) ∧ Below w.heap.size w w' := by
  obtain ⟨a, c, rfl⟩ := hr.slice
  have hA := Hid.intro alive_any
  have d1 : decide ((40 : Int) < (ps.length : Int)) = true := decide_eq_true (by omega)
  clear hr
  go_enter Try.func4, Try.ntmps4
  go_wp2_with fail
  refine (hA.out _).mono ?_; rintro e w1 ⟨rfl, hb1⟩
  have hb1' := Hid.intro hb1
  clear hb1
  go_wp2
  go_ret
  exact ⟨rfl, hb1'.out⟩
set_option maxRecDepth 100000 in
theorem lslots_p {v : Value} {ps : List Int} (gen : Int) (P : List UInt8) (w : World) (hr : BkI.Row w v ps) (h : ps.length ≤ 40) (h2 : 100 < P.length) :
    Calls Try.prog 4 #[.int .i64 gen, v, .string (str P)] w fun e w' => e = .returned (.bool true) ∧ Below w.heap.size w w' := by
  obtain ⟨a, c, rfl⟩ := hr.slice
  have hA := Hid.intro alive_any
  have d1 : decide ((40 : Int) < (ps.length : Int)) = false := decide_eq_false (by omega)
  have d2 : decide ((100 : Int) < (P.length : Int)) = true := decide_eq_true (by omega)
  clear hr
  go_enter Try.func4, Try.ntmps4
  go_wp2_with fail
  refine (hA.out _).mono ?_; rintro e w1 ⟨rfl, hb1⟩
  have hb1' := Hid.intro hb1
  clear hb1
  go_wp2
  go_ret
  exact ⟨rfl, hb1'.out⟩
set_option maxRecDepth 100000 in
set_option maxHeartbeats 16000000 in
theorem lslots_yes_yes {v : Value} {ps : List Int} (gen : Int) (P : List UInt8) (w : World) (hr : BkI.Row w v ps) (h : ps.length ≤ 40) (_ : P.length ≤ 100) (hg : 1 ≤ gen ∧ gen ≤ 1000000000) (hN : Nm ps) (hI : Iss P) :
    Calls Try.prog 4 #[.int .i64 gen, v, .string (str P)] w fun e w' => e = .returned (.bool true) ∧ Below w.heap.size w w' := by
  have hr' := Hid.intro hr
  obtain ⟨a, c, rfl⟩ := hr.slice
  have hA := Hid.intro alive_any
  have d1 : decide ((40 : Int) < (ps.length : Int)) = false := decide_eq_false (by omega)
  have d2 : decide ((100 : Int) < (P.length : Int)) = false := decide_eq_false (by have := hI.1; omega)
  have hU := Hid.intro (fun w => unslot_any P w)
  have hR := Hid.intro (fun w => runslot_any P w)
  have hus := usP_short P
  have u1 : usE P = 0 := by unfold usE; rw [if_neg (by have := hI.1; omega), if_pos hI]
  have hG0 : (0 : Int) < usG P := by rw [usG, if_pos hI]; have := hI.2.2.1.1.1; omega
  rw [u1] at hU
  have hlp : (P.length : Int) = 32 := by have := hI.1; omega
  clear u1 hI
  generalize usG P = G at *
  generalize usP P = UP at *
  obtain ⟨g, rfl⟩ : ∃ g : Nat, gen = (g : Int) := ⟨gen.toNat, by omega⟩
  have hSl : Sl (g : Int) ps := ⟨hg, hN⟩
  have hSd : decide (Sl (g : Int) ps) = true := decide_eq_true hSl
  have hS0 : slS (g : Int) ps = slL g ps ∧ slE (g : Int) ps = 0 := by have := slS_yes hSl; rwa [Int.toNat_natCast] at this
  have hU2 := Hid.intro (fun w => unslot_any (slL g ps) w)
  obtain ⟨s1, s2, s3⟩ := us_slot hSl
  rw [s1, s2, s3] at hU2
  have hC := Hid.intro (fun (W : World) (u : Value) (hh : BkI.Row W u ps) => slot_any (g : Int) hh)
  have hD := Hid.intro (fun (W : World) (u : Value) (hh : BkI.Row W u ps) => rslot_any (g : Int) hh)
  rw [hS0.1, hS0.2] at hC
  rw [hS0.1, hSd] at hD
  clear s1 s2 s3 hS0 hSd hSl hN hg
  generalize slL g ps = Z at *
  clear hr
  go_enter Try.func4, Try.ntmps4
  go_wp2_with fail
  refine (hA.out _).mono ?_; rintro e w1 ⟨rfl, hb1⟩
  have B1 := Hid.intro hb1
  clear hb1 hA
  go_wp2_with fail
  refine (lent_any (hr'.out.below B1.out) (by omega)).mono ?_; rintro e w2 ⟨g0, cap0, rfl, hL, hb2⟩
  have L2 := Hid.intro hL
  have B2 := Hid.intro (B1.out.trans (hb2.mono B1.out.size))
  clear hb2 hL
  go_wp2_with fail
  refine (hC.out _ _ L2.out.row).mono ?_; rintro e w3 ⟨rfl, hb3⟩
  have L3 := Hid.intro (L2.out.below hb3)
  have B3 := Hid.intro (B2.out.trans (hb3.mono B2.out.size))
  clear hb3
  go_wp2_with fail
  refine (hD.out _ _ (hr'.out.below B3.out)).mono ?_; rintro e w4 ⟨rfl, hb4⟩
  have L4 := Hid.intro (L3.out.below hb4)
  have B4 := Hid.intro (B3.out.trans (hb4.mono B3.out.size))
  clear hb4
  go_wp2_with fail
  refine (stays_any L4.out (hr'.out.below B4.out) (by omega)).mono ?_; rintro e w5 ⟨rfl, hb5⟩
  have B5 := Hid.intro (B4.out.trans (hb5.mono B4.out.size))
  clear hb5
  have hk6 := Hid.intro (BkI.kept_new w5 (fun _ => True) w.heap.size trivial)
  have B6 := Hid.intro (B5.out.trans (((Below.refl w5.heap.size w5).alloc (Nat.le_refl _) (.cells (BkI.bookCells (.slice none 0 0) (.slice none 0 0)) 47)).mono B5.out.size))
  have hKb := Hid.intro B5.out.size
  simp only [BkI.bookCells] at hk6 B6
  go_wp2_with fail
  generalize w5.alloc (.cells #[.slice none 0 0, .slice none 0 0, .slice none 0 0, .slice none 0 0, .slice none 0 0, .slice none 0 0, .slice none 0 0, .slice none 0 0, .slice none 0 0, .slice none 0 0, .slice none 0 0, .slice none 0 0, .slice none 0 0, .slice none 0 0] 47) = w6 at *
  generalize w5.heap.size = K at *
  refine (hU.out _).mono ?_; rintro e w7 ⟨vl, rfl, hv, hb7⟩
  have V7 := Hid.intro hv
  have K7 := Hid.intro (hk6.out.below hb7)
  have B7 := Hid.intro (B6.out.trans (hb7.mono B6.out.size))
  have S67 := Hid.intro B6.out.size
  clear hv hb7
  go_wp2_with fail
  refine (hR.out _).mono ?_; rintro e w8 ⟨vy, rfl, hy, hb8⟩
  have Y8 := Hid.intro hy
  have V8 := Hid.intro (BkI.own_below V7.out hb8)
  have K8 := Hid.intro (K7.out.below hb8)
  have B8 := Hid.intro (B7.out.trans (hb8.mono B7.out.size))
  have S78 := Hid.intro hb8.size
  clear hy hb8
  go_wp2_with fail
  refine (BkI.book_more (G := fun _ => True) K8.out (fun _ _ => trivial) (fun _ _ => trivial) (BkI.own_mono V8.out S67.out) (fun e he => by cases he) (by decide) (by omega) hKb.out).mono ?_; rintro e w9 ⟨rfl, c1, c2, c3⟩
  have K9 := Hid.intro c1
  have B9 := Hid.intro (B8.out.trans c3)
  have V9 := Hid.intro (BkI.own_row (BkI.own_stay V8.out c2 BkI.TN49))
  have Y9 := Hid.intro (BkI.own_row (BkI.own_stay Y8.out c2 BkI.TN49))
  have S89 := Hid.intro c2.size
  clear c1 c2 c3
  go_wp2_with fail
  refine (BkI.same_rows V9.out Y9.out (by omega)).mono ?_; rintro e wa ⟨rfl, hba⟩
  have Ka := Hid.intro (K9.out.below hba)
  have Ba := Hid.intro (B9.out.trans (hba.mono B9.out.size))
  have S9a := Hid.intro hba.size
  clear hba
  go_wp2_with fail
  refine (hU2.out _).mono ?_; rintro e wb ⟨vn, rfl, hn, hbb⟩
  have Nb := Hid.intro hn
  have Kb := Hid.intro (Ka.out.below hbb)
  have Bb := Hid.intro (Ba.out.trans (hbb.mono Ba.out.size))
  have F := Hid.intro (fresh_of (l := UP) V7.out hn (Nat.le_trans S78.out (Nat.le_trans S89.out S9a.out)))
  have Sa := Hid.intro Ba.out.size
  clear hn hbb
  go_wp2_with fail
  refine (BkI.book_more (G := fun _ => True) Kb.out (fun _ _ => trivial) (fun _ _ => trivial) (BkI.own_mono Nb.out Sa.out) F.out (by simp) (by omega) hKb.out).mono ?_; rintro e wc ⟨rfl, c1, c2, c3⟩
  have Kc := Hid.intro c1
  have Bc := Hid.intro (Bb.out.trans c3)
  have Nc := Hid.intro (BkI.own_row (BkI.own_stay Nb.out c2 BkI.TN49))
  clear c1 c2 c3
  go_wp2_with fail
  refine (BkI.same_rows Nc.out (hr'.out.below Bc.out) (by omega)).mono ?_; rintro e wd ⟨rfl, hbd⟩
  have Kd := Hid.intro (Kc.out.below hbd)
  have Bd := Hid.intro (Bc.out.trans (hbd.mono Bc.out.size))
  clear hbd
  have hsh : BkI.Short (([] ++ [(vl, UP)]) ++ [(vn, ps)]) := fun e he => by
    have h9 : e = (vl, UP) ∨ e = (vn, ps) := by simpa using he
    rcases h9 with rfl | rfl
    · show UP.length ≤ 100000
      omega
    · show ps.length ≤ 100000
      omega
  have hsh' := Hid.intro hsh
  clear hsh
  go_wp2_with fail
  refine (BkI.book_apart Kd.out (by simp) hsh'.out hKb.out).mono ?_; rintro e we ⟨rfl, hbe⟩
  have Be := Hid.intro (Bd.out.trans hbe)
  clear hbe
  go_wp2
  go_ret
  exact ⟨rfl, Be.out⟩
set_option maxRecDepth 100000 in
set_option maxHeartbeats 16000000 in
theorem lslots_yes_no {v : Value} {ps : List Int} (gen : Int) (P : List UInt8) (w : World) (hr : BkI.Row w v ps) (h : ps.length ≤ 40) (_ : P.length ≤ 100) (hg : 1 ≤ gen ∧ gen ≤ 1000000000) (hN : Nm ps) (hl : P.length = 32) (hI : ¬ Iss P) :
    Calls Try.prog 4 #[.int .i64 gen, v, .string (str P)] w fun e w' => e = .returned (.bool true) ∧ Below w.heap.size w w' := by
  have hr' := Hid.intro hr
  obtain ⟨a, c, rfl⟩ := hr.slice
  have hA := Hid.intro alive_any
  have d1 : decide ((40 : Int) < (ps.length : Int)) = false := decide_eq_false (by omega)
  have d2 : decide ((100 : Int) < (P.length : Int)) = false := decide_eq_false (by omega)
  have hU := Hid.intro (fun w => unslot_any P w)
  have hR := Hid.intro (fun w => runslot_any P w)
  have hus := usP_short P
  obtain ⟨u1, _, u3⟩ := us_no hl hI
  rw [u1, u3] at hU
  rw [u1] at hR
  have hlp : (P.length : Int) = 32 := by omega
  clear u1 u3 hl hI
  generalize usP P = UP at *
  obtain ⟨g, rfl⟩ : ∃ g : Nat, gen = (g : Int) := ⟨gen.toNat, by omega⟩
  have hSl : Sl (g : Int) ps := ⟨hg, hN⟩
  have hSd : decide (Sl (g : Int) ps) = true := decide_eq_true hSl
  have hS0 : slS (g : Int) ps = slL g ps ∧ slE (g : Int) ps = 0 := by have := slS_yes hSl; rwa [Int.toNat_natCast] at this
  have hU2 := Hid.intro (fun w => unslot_any (slL g ps) w)
  obtain ⟨s1, s2, s3⟩ := us_slot hSl
  rw [s1, s2, s3] at hU2
  have hC := Hid.intro (fun (W : World) (u : Value) (hh : BkI.Row W u ps) => slot_any (g : Int) hh)
  have hD := Hid.intro (fun (W : World) (u : Value) (hh : BkI.Row W u ps) => rslot_any (g : Int) hh)
  rw [hS0.1, hS0.2] at hC
  rw [hS0.1, hSd] at hD
  clear s1 s2 s3 hS0 hSd hSl hN hg
  generalize slL g ps = Z at *
  clear hr
  go_enter Try.func4, Try.ntmps4
  go_wp2_with fail
  refine (hA.out _).mono ?_; rintro e w1 ⟨rfl, hb1⟩
  have B1 := Hid.intro hb1
  clear hb1 hA
  go_wp2_with fail
  refine (lent_any (hr'.out.below B1.out) (by omega)).mono ?_; rintro e w2 ⟨g0, cap0, rfl, hL, hb2⟩
  have L2 := Hid.intro hL
  have B2 := Hid.intro (B1.out.trans (hb2.mono B1.out.size))
  clear hb2 hL
  go_wp2_with fail
  refine (hC.out _ _ L2.out.row).mono ?_; rintro e w3 ⟨rfl, hb3⟩
  have L3 := Hid.intro (L2.out.below hb3)
  have B3 := Hid.intro (B2.out.trans (hb3.mono B2.out.size))
  clear hb3
  go_wp2_with fail
  refine (hD.out _ _ (hr'.out.below B3.out)).mono ?_; rintro e w4 ⟨rfl, hb4⟩
  have L4 := Hid.intro (L3.out.below hb4)
  have B4 := Hid.intro (B3.out.trans (hb4.mono B3.out.size))
  clear hb4
  go_wp2_with fail
  refine (stays_any L4.out (hr'.out.below B4.out) (by omega)).mono ?_; rintro e w5 ⟨rfl, hb5⟩
  have B5 := Hid.intro (B4.out.trans (hb5.mono B4.out.size))
  clear hb5
  have hk6 := Hid.intro (BkI.kept_new w5 (fun _ => True) w.heap.size trivial)
  have B6 := Hid.intro (B5.out.trans (((Below.refl w5.heap.size w5).alloc (Nat.le_refl _) (.cells (BkI.bookCells (.slice none 0 0) (.slice none 0 0)) 47)).mono B5.out.size))
  have hKb := Hid.intro B5.out.size
  simp only [BkI.bookCells] at hk6 B6
  go_wp2_with fail
  generalize w5.alloc (.cells #[.slice none 0 0, .slice none 0 0, .slice none 0 0, .slice none 0 0, .slice none 0 0, .slice none 0 0, .slice none 0 0, .slice none 0 0, .slice none 0 0, .slice none 0 0, .slice none 0 0, .slice none 0 0, .slice none 0 0, .slice none 0 0] 47) = w6 at *
  generalize w5.heap.size = K at *
  refine (hU.out _).mono ?_; rintro e w7 ⟨vl, rfl, hv, hb7⟩
  have V7 := Hid.intro hv
  have K7 := Hid.intro (hk6.out.below hb7)
  have B7 := Hid.intro (B6.out.trans (hb7.mono B6.out.size))
  have S67 := Hid.intro B6.out.size
  clear hv hb7
  go_wp2_with fail
  refine (hR.out _).mono ?_; rintro e w8 ⟨vy, rfl, hy, hb8⟩
  have Y8 := Hid.intro hy
  have V8 := Hid.intro (BkI.own_below V7.out hb8)
  have K8 := Hid.intro (K7.out.below hb8)
  have B8 := Hid.intro (B7.out.trans (hb8.mono B7.out.size))
  have S78 := Hid.intro hb8.size
  clear hy hb8
  go_wp2_with fail
  refine (BkI.book_more (G := fun _ => True) K8.out (fun _ _ => trivial) (fun _ _ => trivial) (BkI.own_mono V8.out S67.out) (fun e he => by cases he) (by decide) (by omega) hKb.out).mono ?_; rintro e w9 ⟨rfl, c1, c2, c3⟩
  have K9 := Hid.intro c1
  have B9 := Hid.intro (B8.out.trans c3)
  have V9 := Hid.intro (BkI.own_row (BkI.own_stay V8.out c2 BkI.TN49))
  have Y9 := Hid.intro (BkI.own_row (BkI.own_stay Y8.out c2 BkI.TN49))
  have S89 := Hid.intro c2.size
  clear c1 c2 c3
  go_wp2_with fail
  refine (BkI.same_rows V9.out Y9.out (by omega)).mono ?_; rintro e wa ⟨rfl, hba⟩
  have Ka := Hid.intro (K9.out.below hba)
  have Ba := Hid.intro (B9.out.trans (hba.mono B9.out.size))
  have S9a := Hid.intro hba.size
  clear hba
  go_wp2_with fail
  refine (hU2.out _).mono ?_; rintro e wb ⟨vn, rfl, hn, hbb⟩
  have Nb := Hid.intro hn
  have Kb := Hid.intro (Ka.out.below hbb)
  have Bb := Hid.intro (Ba.out.trans (hbb.mono Ba.out.size))
  have F := Hid.intro (fresh_of (l := UP) V7.out hn (Nat.le_trans S78.out (Nat.le_trans S89.out S9a.out)))
  have Sa := Hid.intro Ba.out.size
  clear hn hbb
  go_wp2_with fail
  refine (BkI.book_more (G := fun _ => True) Kb.out (fun _ _ => trivial) (fun _ _ => trivial) (BkI.own_mono Nb.out Sa.out) F.out (by simp) (by omega) hKb.out).mono ?_; rintro e wc ⟨rfl, c1, c2, c3⟩
  have Kc := Hid.intro c1
  have Bc := Hid.intro (Bb.out.trans c3)
  have Nc := Hid.intro (BkI.own_row (BkI.own_stay Nb.out c2 BkI.TN49))
  clear c1 c2 c3
  go_wp2_with fail
  refine (BkI.same_rows Nc.out (hr'.out.below Bc.out) (by omega)).mono ?_; rintro e wd ⟨rfl, hbd⟩
  have Kd := Hid.intro (Kc.out.below hbd)
  have Bd := Hid.intro (Bc.out.trans (hbd.mono Bc.out.size))
  clear hbd
  have hsh : BkI.Short (([] ++ [(vl, UP)]) ++ [(vn, ps)]) := fun e he => by
    have h9 : e = (vl, UP) ∨ e = (vn, ps) := by simpa using he
    rcases h9 with rfl | rfl
    · show UP.length ≤ 100000
      omega
    · show ps.length ≤ 100000
      omega
  have hsh' := Hid.intro hsh
  clear hsh
  go_wp2_with fail
  refine (BkI.book_apart Kd.out (by simp) hsh'.out hKb.out).mono ?_; rintro e we ⟨rfl, hbe⟩
  have Be := Hid.intro (Bd.out.trans hbe)
  clear hbe
  go_wp2
  go_ret
  exact ⟨rfl, Be.out⟩
set_option maxRecDepth 100000 in
set_option maxHeartbeats 16000000 in
theorem lslots_yes_len {v : Value} {ps : List Int} (gen : Int) (P : List UInt8) (w : World) (hr : BkI.Row w v ps) (h : ps.length ≤ 40) (h2 : P.length ≤ 100) (hg : 1 ≤ gen ∧ gen ≤ 1000000000) (hN : Nm ps) (hl : ¬ P.length = 32) :
    Calls Try.prog 4 #[.int .i64 gen, v, .string (str P)] w fun e w' => e = .returned (.bool true) ∧ Below w.heap.size w w' := by
  have hr' := Hid.intro hr
  obtain ⟨a, c, rfl⟩ := hr.slice
  have hA := Hid.intro alive_any
  have d1 : decide ((40 : Int) < (ps.length : Int)) = false := decide_eq_false (by omega)
  have d2 : decide ((100 : Int) < (P.length : Int)) = false := decide_eq_false (by omega)
  have hU := Hid.intro (fun w => unslot_any P w)
  have hR := Hid.intro (fun w => runslot_any P w)
  have hus := usP_short P
  have hI : ¬ Iss P := fun h => hl h.1
  have u1 : usG P = 0 := if_neg hI
  have u3 : usE P = 8 := by unfold usE; rw [if_pos hl]
  rw [u1, u3] at hU
  rw [u1] at hR
  have hlp : ¬ (P.length : Int) = 32 := by omega
  clear u1 u3 hl hI
  generalize usP P = UP at *
  obtain ⟨g, rfl⟩ : ∃ g : Nat, gen = (g : Int) := ⟨gen.toNat, by omega⟩
  have hSl : Sl (g : Int) ps := ⟨hg, hN⟩
  have hSd : decide (Sl (g : Int) ps) = true := decide_eq_true hSl
  have hS0 : slS (g : Int) ps = slL g ps ∧ slE (g : Int) ps = 0 := by have := slS_yes hSl; rwa [Int.toNat_natCast] at this
  have hU2 := Hid.intro (fun w => unslot_any (slL g ps) w)
  obtain ⟨s1, s2, s3⟩ := us_slot hSl
  rw [s1, s2, s3] at hU2
  have hC := Hid.intro (fun (W : World) (u : Value) (hh : BkI.Row W u ps) => slot_any (g : Int) hh)
  have hD := Hid.intro (fun (W : World) (u : Value) (hh : BkI.Row W u ps) => rslot_any (g : Int) hh)
  rw [hS0.1, hS0.2] at hC
  rw [hS0.1, hSd] at hD
  clear s1 s2 s3 hS0 hSd hSl hN hg
  generalize slL g ps = Z at *
  clear hr
  go_enter Try.func4, Try.ntmps4
  go_wp2_with fail
  refine (hA.out _).mono ?_; rintro e w1 ⟨rfl, hb1⟩
  have B1 := Hid.intro hb1
  clear hb1 hA
  go_wp2_with fail
  refine (lent_any (hr'.out.below B1.out) (by omega)).mono ?_; rintro e w2 ⟨g0, cap0, rfl, hL, hb2⟩
  have L2 := Hid.intro hL
  have B2 := Hid.intro (B1.out.trans (hb2.mono B1.out.size))
  clear hb2 hL
  go_wp2_with fail
  refine (hC.out _ _ L2.out.row).mono ?_; rintro e w3 ⟨rfl, hb3⟩
  have L3 := Hid.intro (L2.out.below hb3)
  have B3 := Hid.intro (B2.out.trans (hb3.mono B2.out.size))
  clear hb3
  go_wp2_with fail
  refine (hD.out _ _ (hr'.out.below B3.out)).mono ?_; rintro e w4 ⟨rfl, hb4⟩
  have L4 := Hid.intro (L3.out.below hb4)
  have B4 := Hid.intro (B3.out.trans (hb4.mono B3.out.size))
  clear hb4
  go_wp2_with fail
  refine (stays_any L4.out (hr'.out.below B4.out) (by omega)).mono ?_; rintro e w5 ⟨rfl, hb5⟩
  have B5 := Hid.intro (B4.out.trans (hb5.mono B4.out.size))
  clear hb5
  have hk6 := Hid.intro (BkI.kept_new w5 (fun _ => True) w.heap.size trivial)
  have B6 := Hid.intro (B5.out.trans (((Below.refl w5.heap.size w5).alloc (Nat.le_refl _) (.cells (BkI.bookCells (.slice none 0 0) (.slice none 0 0)) 47)).mono B5.out.size))
  have hKb := Hid.intro B5.out.size
  simp only [BkI.bookCells] at hk6 B6
  go_wp2_with fail
  generalize w5.alloc (.cells #[.slice none 0 0, .slice none 0 0, .slice none 0 0, .slice none 0 0, .slice none 0 0, .slice none 0 0, .slice none 0 0, .slice none 0 0, .slice none 0 0, .slice none 0 0, .slice none 0 0, .slice none 0 0, .slice none 0 0, .slice none 0 0] 47) = w6 at *
  generalize w5.heap.size = K at *
  refine (hU.out _).mono ?_; rintro e w7 ⟨vl, rfl, hv, hb7⟩
  have V7 := Hid.intro hv
  have K7 := Hid.intro (hk6.out.below hb7)
  have B7 := Hid.intro (B6.out.trans (hb7.mono B6.out.size))
  have S67 := Hid.intro B6.out.size
  clear hv hb7
  go_wp2_with fail
  refine (hR.out _).mono ?_; rintro e w8 ⟨vy, rfl, hy, hb8⟩
  have Y8 := Hid.intro hy
  have V8 := Hid.intro (BkI.own_below V7.out hb8)
  have K8 := Hid.intro (K7.out.below hb8)
  have B8 := Hid.intro (B7.out.trans (hb8.mono B7.out.size))
  have S78 := Hid.intro hb8.size
  clear hy hb8
  go_wp2_with fail
  refine (BkI.book_more (G := fun _ => True) K8.out (fun _ _ => trivial) (fun _ _ => trivial) (BkI.own_mono V8.out S67.out) (fun e he => by cases he) (by decide) (by omega) hKb.out).mono ?_; rintro e w9 ⟨rfl, c1, c2, c3⟩
  have K9 := Hid.intro c1
  have B9 := Hid.intro (B8.out.trans c3)
  have V9 := Hid.intro (BkI.own_row (BkI.own_stay V8.out c2 BkI.TN49))
  have Y9 := Hid.intro (BkI.own_row (BkI.own_stay Y8.out c2 BkI.TN49))
  have S89 := Hid.intro c2.size
  clear c1 c2 c3
  go_wp2_with fail
  refine (BkI.same_rows V9.out Y9.out (by omega)).mono ?_; rintro e wa ⟨rfl, hba⟩
  have Ka := Hid.intro (K9.out.below hba)
  have Ba := Hid.intro (B9.out.trans (hba.mono B9.out.size))
  have S9a := Hid.intro hba.size
  clear hba
  go_wp2_with fail
  refine (hU2.out _).mono ?_; rintro e wb ⟨vn, rfl, hn, hbb⟩
  have Nb := Hid.intro hn
  have Kb := Hid.intro (Ka.out.below hbb)
  have Bb := Hid.intro (Ba.out.trans (hbb.mono Ba.out.size))
  have F := Hid.intro (fresh_of (l := UP) V7.out hn (Nat.le_trans S78.out (Nat.le_trans S89.out S9a.out)))
  have Sa := Hid.intro Ba.out.size
  clear hn hbb
  go_wp2_with fail
  refine (BkI.book_more (G := fun _ => True) Kb.out (fun _ _ => trivial) (fun _ _ => trivial) (BkI.own_mono Nb.out Sa.out) F.out (by simp) (by omega) hKb.out).mono ?_; rintro e wc ⟨rfl, c1, c2, c3⟩
  have Kc := Hid.intro c1
  have Bc := Hid.intro (Bb.out.trans c3)
  have Nc := Hid.intro (BkI.own_row (BkI.own_stay Nb.out c2 BkI.TN49))
  clear c1 c2 c3
  go_wp2_with fail
  refine (BkI.same_rows Nc.out (hr'.out.below Bc.out) (by omega)).mono ?_; rintro e wd ⟨rfl, hbd⟩
  have Kd := Hid.intro (Kc.out.below hbd)
  have Bd := Hid.intro (Bc.out.trans (hbd.mono Bc.out.size))
  clear hbd
  have hsh : BkI.Short (([] ++ [(vl, UP)]) ++ [(vn, ps)]) := fun e he => by
    have h9 : e = (vl, UP) ∨ e = (vn, ps) := by simpa using he
    rcases h9 with rfl | rfl
    · show UP.length ≤ 100000
      omega
    · show ps.length ≤ 100000
      omega
  have hsh' := Hid.intro hsh
  clear hsh
  go_wp2_with fail
  refine (BkI.book_apart Kd.out (by simp) hsh'.out hKb.out).mono ?_; rintro e we ⟨rfl, hbe⟩
  have Be := Hid.intro (Bd.out.trans hbe)
  clear hbe
  go_wp2
  go_ret
  exact ⟨rfl, Be.out⟩
set_option maxRecDepth 100000 in
set_option maxHeartbeats 16000000 in
theorem lslots_no_yes {v : Value} {ps : List Int} (gen : Int) (P : List UInt8) (w : World) (hr : BkI.Row w v ps) (h : ps.length ≤ 40) (_ : P.length ≤ 100) (hS : ¬ Sl gen ps) (hI : Iss P) :
    Calls Try.prog 4 #[.int .i64 gen, v, .string (str P)] w fun e w' => e = .returned (.bool true) ∧ Below w.heap.size w w' := by
  have hr' := Hid.intro hr
  obtain ⟨a, c, rfl⟩ := hr.slice
  have hA := Hid.intro alive_any
  have d1 : decide ((40 : Int) < (ps.length : Int)) = false := decide_eq_false (by omega)
  have d2 : decide ((100 : Int) < (P.length : Int)) = false := decide_eq_false (by have := hI.1; omega)
  have hU := Hid.intro (fun w => unslot_any P w)
  have hR := Hid.intro (fun w => runslot_any P w)
  have hus := usP_short P
  have u1 : usE P = 0 := by unfold usE; rw [if_neg (by have := hI.1; omega), if_pos hI]
  have hG0 : (0 : Int) < usG P := by rw [usG, if_pos hI]; have := hI.2.2.1.1.1; omega
  rw [u1] at hU
  have hlp : (P.length : Int) = 32 := by have := hI.1; omega
  clear u1 hI
  generalize usG P = G at *
  generalize usP P = UP at *
  have hSd : decide (Sl gen ps) = false := decide_eq_false hS
  have hS0 := slS_no hS
  have hC := Hid.intro (fun (W : World) (u : Value) (hh : BkI.Row W u ps) => slot_any gen hh)
  have hD := Hid.intro (fun (W : World) (u : Value) (hh : BkI.Row W u ps) => rslot_any gen hh)
  rw [hS0.1, hS0.2] at hC
  rw [hS0.1, hSd] at hD
  clear hS0 hSd hS
  clear hr
  go_enter Try.func4, Try.ntmps4
  go_wp2_with fail
  refine (hA.out _).mono ?_; rintro e w1 ⟨rfl, hb1⟩
  have B1 := Hid.intro hb1
  clear hb1 hA
  go_wp2_with fail
  refine (lent_any (hr'.out.below B1.out) (by omega)).mono ?_; rintro e w2 ⟨g0, cap0, rfl, hL, hb2⟩
  have L2 := Hid.intro hL
  have B2 := Hid.intro (B1.out.trans (hb2.mono B1.out.size))
  clear hb2 hL
  go_wp2_with fail
  refine (hC.out _ _ L2.out.row).mono ?_; rintro e w3 ⟨rfl, hb3⟩
  have L3 := Hid.intro (L2.out.below hb3)
  have B3 := Hid.intro (B2.out.trans (hb3.mono B2.out.size))
  clear hb3
  go_wp2_with fail
  refine (hD.out _ _ (hr'.out.below B3.out)).mono ?_; rintro e w4 ⟨rfl, hb4⟩
  have L4 := Hid.intro (L3.out.below hb4)
  have B4 := Hid.intro (B3.out.trans (hb4.mono B3.out.size))
  clear hb4
  go_wp2_with fail
  refine (stays_any L4.out (hr'.out.below B4.out) (by omega)).mono ?_; rintro e w5 ⟨rfl, hb5⟩
  have B5 := Hid.intro (B4.out.trans (hb5.mono B4.out.size))
  clear hb5
  have hk6 := Hid.intro (BkI.kept_new w5 (fun _ => True) w.heap.size trivial)
  have B6 := Hid.intro (B5.out.trans (((Below.refl w5.heap.size w5).alloc (Nat.le_refl _) (.cells (BkI.bookCells (.slice none 0 0) (.slice none 0 0)) 47)).mono B5.out.size))
  have hKb := Hid.intro B5.out.size
  simp only [BkI.bookCells] at hk6 B6
  go_wp2_with fail
  generalize w5.alloc (.cells #[.slice none 0 0, .slice none 0 0, .slice none 0 0, .slice none 0 0, .slice none 0 0, .slice none 0 0, .slice none 0 0, .slice none 0 0, .slice none 0 0, .slice none 0 0, .slice none 0 0, .slice none 0 0, .slice none 0 0, .slice none 0 0] 47) = w6 at *
  generalize w5.heap.size = K at *
  refine (hU.out _).mono ?_; rintro e w7 ⟨vl, rfl, hv, hb7⟩
  have V7 := Hid.intro hv
  have K7 := Hid.intro (hk6.out.below hb7)
  have B7 := Hid.intro (B6.out.trans (hb7.mono B6.out.size))
  have S67 := Hid.intro B6.out.size
  clear hv hb7
  go_wp2_with fail
  refine (hR.out _).mono ?_; rintro e w8 ⟨vy, rfl, hy, hb8⟩
  have Y8 := Hid.intro hy
  have V8 := Hid.intro (BkI.own_below V7.out hb8)
  have K8 := Hid.intro (K7.out.below hb8)
  have B8 := Hid.intro (B7.out.trans (hb8.mono B7.out.size))
  have S78 := Hid.intro hb8.size
  clear hy hb8
  go_wp2_with fail
  refine (BkI.book_more (G := fun _ => True) K8.out (fun _ _ => trivial) (fun _ _ => trivial) (BkI.own_mono V8.out S67.out) (fun e he => by cases he) (by decide) (by omega) hKb.out).mono ?_; rintro e w9 ⟨rfl, c1, c2, c3⟩
  have K9 := Hid.intro c1
  have B9 := Hid.intro (B8.out.trans c3)
  have V9 := Hid.intro (BkI.own_row (BkI.own_stay V8.out c2 BkI.TN49))
  have Y9 := Hid.intro (BkI.own_row (BkI.own_stay Y8.out c2 BkI.TN49))
  have S89 := Hid.intro c2.size
  clear c1 c2 c3
  go_wp2_with fail
  refine (BkI.same_rows V9.out Y9.out (by omega)).mono ?_; rintro e wa ⟨rfl, hba⟩
  have Ka := Hid.intro (K9.out.below hba)
  have Ba := Hid.intro (B9.out.trans (hba.mono B9.out.size))
  have S9a := Hid.intro hba.size
  clear hba
  have hsh : BkI.Short ([] ++ [(vl, UP)]) := fun e he => by
    obtain rfl : e = (vl, UP) := by simpa using he
    show UP.length ≤ 100000
    omega
  have hsh' := Hid.intro hsh
  clear hsh
  go_wp2_with fail
  refine (BkI.book_apart Ka.out (by simp) hsh'.out hKb.out).mono ?_; rintro e we ⟨rfl, hbe⟩
  have Be := Hid.intro (Ba.out.trans hbe)
  clear hbe
  go_wp2
  go_ret
  exact ⟨rfl, Be.out⟩
set_option maxRecDepth 100000 in
set_option maxHeartbeats 16000000 in
theorem lslots_no_no {v : Value} {ps : List Int} (gen : Int) (P : List UInt8) (w : World) (hr : BkI.Row w v ps) (h : ps.length ≤ 40) (_ : P.length ≤ 100) (hS : ¬ Sl gen ps) (hl : P.length = 32) (hI : ¬ Iss P) :
    Calls Try.prog 4 #[.int .i64 gen, v, .string (str P)] w fun e w' => e = .returned (.bool true) ∧ Below w.heap.size w w' := by
  have hr' := Hid.intro hr
  obtain ⟨a, c, rfl⟩ := hr.slice
  have hA := Hid.intro alive_any
  have d1 : decide ((40 : Int) < (ps.length : Int)) = false := decide_eq_false (by omega)
  have d2 : decide ((100 : Int) < (P.length : Int)) = false := decide_eq_false (by omega)
  have hU := Hid.intro (fun w => unslot_any P w)
  have hR := Hid.intro (fun w => runslot_any P w)
  have hus := usP_short P
  obtain ⟨u1, _, u3⟩ := us_no hl hI
  rw [u1, u3] at hU
  rw [u1] at hR
  have hlp : (P.length : Int) = 32 := by omega
  clear u1 u3 hl hI
  generalize usP P = UP at *
  have hSd : decide (Sl gen ps) = false := decide_eq_false hS
  have hS0 := slS_no hS
  have hC := Hid.intro (fun (W : World) (u : Value) (hh : BkI.Row W u ps) => slot_any gen hh)
  have hD := Hid.intro (fun (W : World) (u : Value) (hh : BkI.Row W u ps) => rslot_any gen hh)
  rw [hS0.1, hS0.2] at hC
  rw [hS0.1, hSd] at hD
  clear hS0 hSd hS
  clear hr
  go_enter Try.func4, Try.ntmps4
  go_wp2_with fail
  refine (hA.out _).mono ?_; rintro e w1 ⟨rfl, hb1⟩
  have B1 := Hid.intro hb1
  clear hb1 hA
  go_wp2_with fail
  refine (lent_any (hr'.out.below B1.out) (by omega)).mono ?_; rintro e w2 ⟨g0, cap0, rfl, hL, hb2⟩
  have L2 := Hid.intro hL
  have B2 := Hid.intro (B1.out.trans (hb2.mono B1.out.size))
  clear hb2 hL
  go_wp2_with fail
  refine (hC.out _ _ L2.out.row).mono ?_; rintro e w3 ⟨rfl, hb3⟩
  have L3 := Hid.intro (L2.out.below hb3)
  have B3 := Hid.intro (B2.out.trans (hb3.mono B2.out.size))
  clear hb3
  go_wp2_with fail
  refine (hD.out _ _ (hr'.out.below B3.out)).mono ?_; rintro e w4 ⟨rfl, hb4⟩
  have L4 := Hid.intro (L3.out.below hb4)
  have B4 := Hid.intro (B3.out.trans (hb4.mono B3.out.size))
  clear hb4
  go_wp2_with fail
  refine (stays_any L4.out (hr'.out.below B4.out) (by omega)).mono ?_; rintro e w5 ⟨rfl, hb5⟩
  have B5 := Hid.intro (B4.out.trans (hb5.mono B4.out.size))
  clear hb5
  have hk6 := Hid.intro (BkI.kept_new w5 (fun _ => True) w.heap.size trivial)
  have B6 := Hid.intro (B5.out.trans (((Below.refl w5.heap.size w5).alloc (Nat.le_refl _) (.cells (BkI.bookCells (.slice none 0 0) (.slice none 0 0)) 47)).mono B5.out.size))
  have hKb := Hid.intro B5.out.size
  simp only [BkI.bookCells] at hk6 B6
  go_wp2_with fail
  generalize w5.alloc (.cells #[.slice none 0 0, .slice none 0 0, .slice none 0 0, .slice none 0 0, .slice none 0 0, .slice none 0 0, .slice none 0 0, .slice none 0 0, .slice none 0 0, .slice none 0 0, .slice none 0 0, .slice none 0 0, .slice none 0 0, .slice none 0 0] 47) = w6 at *
  generalize w5.heap.size = K at *
  refine (hU.out _).mono ?_; rintro e w7 ⟨vl, rfl, hv, hb7⟩
  have V7 := Hid.intro hv
  have K7 := Hid.intro (hk6.out.below hb7)
  have B7 := Hid.intro (B6.out.trans (hb7.mono B6.out.size))
  have S67 := Hid.intro B6.out.size
  clear hv hb7
  go_wp2_with fail
  refine (hR.out _).mono ?_; rintro e w8 ⟨vy, rfl, hy, hb8⟩
  have Y8 := Hid.intro hy
  have V8 := Hid.intro (BkI.own_below V7.out hb8)
  have K8 := Hid.intro (K7.out.below hb8)
  have B8 := Hid.intro (B7.out.trans (hb8.mono B7.out.size))
  have S78 := Hid.intro hb8.size
  clear hy hb8
  go_wp2_with fail
  refine (BkI.book_more (G := fun _ => True) K8.out (fun _ _ => trivial) (fun _ _ => trivial) (BkI.own_mono V8.out S67.out) (fun e he => by cases he) (by decide) (by omega) hKb.out).mono ?_; rintro e w9 ⟨rfl, c1, c2, c3⟩
  have K9 := Hid.intro c1
  have B9 := Hid.intro (B8.out.trans c3)
  have V9 := Hid.intro (BkI.own_row (BkI.own_stay V8.out c2 BkI.TN49))
  have Y9 := Hid.intro (BkI.own_row (BkI.own_stay Y8.out c2 BkI.TN49))
  have S89 := Hid.intro c2.size
  clear c1 c2 c3
  go_wp2_with fail
  refine (BkI.same_rows V9.out Y9.out (by omega)).mono ?_; rintro e wa ⟨rfl, hba⟩
  have Ka := Hid.intro (K9.out.below hba)
  have Ba := Hid.intro (B9.out.trans (hba.mono B9.out.size))
  have S9a := Hid.intro hba.size
  clear hba
  have hsh : BkI.Short ([] ++ [(vl, UP)]) := fun e he => by
    obtain rfl : e = (vl, UP) := by simpa using he
    show UP.length ≤ 100000
    omega
  have hsh' := Hid.intro hsh
  clear hsh
  go_wp2_with fail
  refine (BkI.book_apart Ka.out (by simp) hsh'.out hKb.out).mono ?_; rintro e we ⟨rfl, hbe⟩
  have Be := Hid.intro (Ba.out.trans hbe)
  clear hbe
  go_wp2
  go_ret
  exact ⟨rfl, Be.out⟩
set_option maxRecDepth 100000 in
set_option maxHeartbeats 16000000 in
theorem lslots_no_len {v : Value} {ps : List Int} (gen : Int) (P : List UInt8) (w : World) (hr : BkI.Row w v ps) (h : ps.length ≤ 40) (h2 : P.length ≤ 100) (hS : ¬ Sl gen ps) (hl : ¬ P.length = 32) :
    Calls Try.prog 4 #[.int .i64 gen, v, .string (str P)] w fun e w' => e = .returned (.bool true) ∧ Below w.heap.size w w' := by
  have hr' := Hid.intro hr
  obtain ⟨a, c, rfl⟩ := hr.slice
  have hA := Hid.intro alive_any
  have d1 : decide ((40 : Int) < (ps.length : Int)) = false := decide_eq_false (by omega)
  have d2 : decide ((100 : Int) < (P.length : Int)) = false := decide_eq_false (by omega)
  have hU := Hid.intro (fun w => unslot_any P w)
  have hR := Hid.intro (fun w => runslot_any P w)
  have hus := usP_short P
  have hI : ¬ Iss P := fun h => hl h.1
  have u1 : usG P = 0 := if_neg hI
  have u3 : usE P = 8 := by unfold usE; rw [if_pos hl]
  rw [u1, u3] at hU
  rw [u1] at hR
  have hlp : ¬ (P.length : Int) = 32 := by omega
  clear u1 u3 hl hI
  generalize usP P = UP at *
  have hSd : decide (Sl gen ps) = false := decide_eq_false hS
  have hS0 := slS_no hS
  have hC := Hid.intro (fun (W : World) (u : Value) (hh : BkI.Row W u ps) => slot_any gen hh)
  have hD := Hid.intro (fun (W : World) (u : Value) (hh : BkI.Row W u ps) => rslot_any gen hh)
  rw [hS0.1, hS0.2] at hC
  rw [hS0.1, hSd] at hD
  clear hS0 hSd hS
  clear hr
  go_enter Try.func4, Try.ntmps4
  go_wp2_with fail
  refine (hA.out _).mono ?_; rintro e w1 ⟨rfl, hb1⟩
  have B1 := Hid.intro hb1
  clear hb1 hA
  go_wp2_with fail
  refine (lent_any (hr'.out.below B1.out) (by omega)).mono ?_; rintro e w2 ⟨g0, cap0, rfl, hL, hb2⟩
  have L2 := Hid.intro hL
  have B2 := Hid.intro (B1.out.trans (hb2.mono B1.out.size))
  clear hb2 hL
  go_wp2_with fail
  refine (hC.out _ _ L2.out.row).mono ?_; rintro e w3 ⟨rfl, hb3⟩
  have L3 := Hid.intro (L2.out.below hb3)
  have B3 := Hid.intro (B2.out.trans (hb3.mono B2.out.size))
  clear hb3
  go_wp2_with fail
  refine (hD.out _ _ (hr'.out.below B3.out)).mono ?_; rintro e w4 ⟨rfl, hb4⟩
  have L4 := Hid.intro (L3.out.below hb4)
  have B4 := Hid.intro (B3.out.trans (hb4.mono B3.out.size))
  clear hb4
  go_wp2_with fail
  refine (stays_any L4.out (hr'.out.below B4.out) (by omega)).mono ?_; rintro e w5 ⟨rfl, hb5⟩
  have B5 := Hid.intro (B4.out.trans (hb5.mono B4.out.size))
  clear hb5
  have hk6 := Hid.intro (BkI.kept_new w5 (fun _ => True) w.heap.size trivial)
  have B6 := Hid.intro (B5.out.trans (((Below.refl w5.heap.size w5).alloc (Nat.le_refl _) (.cells (BkI.bookCells (.slice none 0 0) (.slice none 0 0)) 47)).mono B5.out.size))
  have hKb := Hid.intro B5.out.size
  simp only [BkI.bookCells] at hk6 B6
  go_wp2_with fail
  generalize w5.alloc (.cells #[.slice none 0 0, .slice none 0 0, .slice none 0 0, .slice none 0 0, .slice none 0 0, .slice none 0 0, .slice none 0 0, .slice none 0 0, .slice none 0 0, .slice none 0 0, .slice none 0 0, .slice none 0 0, .slice none 0 0, .slice none 0 0] 47) = w6 at *
  generalize w5.heap.size = K at *
  refine (hU.out _).mono ?_; rintro e w7 ⟨vl, rfl, hv, hb7⟩
  have V7 := Hid.intro hv
  have K7 := Hid.intro (hk6.out.below hb7)
  have B7 := Hid.intro (B6.out.trans (hb7.mono B6.out.size))
  have S67 := Hid.intro B6.out.size
  clear hv hb7
  go_wp2_with fail
  refine (hR.out _).mono ?_; rintro e w8 ⟨vy, rfl, hy, hb8⟩
  have Y8 := Hid.intro hy
  have V8 := Hid.intro (BkI.own_below V7.out hb8)
  have K8 := Hid.intro (K7.out.below hb8)
  have B8 := Hid.intro (B7.out.trans (hb8.mono B7.out.size))
  have S78 := Hid.intro hb8.size
  clear hy hb8
  go_wp2_with fail
  refine (BkI.book_more (G := fun _ => True) K8.out (fun _ _ => trivial) (fun _ _ => trivial) (BkI.own_mono V8.out S67.out) (fun e he => by cases he) (by decide) (by omega) hKb.out).mono ?_; rintro e w9 ⟨rfl, c1, c2, c3⟩
  have K9 := Hid.intro c1
  have B9 := Hid.intro (B8.out.trans c3)
  have V9 := Hid.intro (BkI.own_row (BkI.own_stay V8.out c2 BkI.TN49))
  have Y9 := Hid.intro (BkI.own_row (BkI.own_stay Y8.out c2 BkI.TN49))
  have S89 := Hid.intro c2.size
  clear c1 c2 c3
  go_wp2_with fail
  refine (BkI.same_rows V9.out Y9.out (by omega)).mono ?_; rintro e wa ⟨rfl, hba⟩
  have Ka := Hid.intro (K9.out.below hba)
  have Ba := Hid.intro (B9.out.trans (hba.mono B9.out.size))
  have S9a := Hid.intro hba.size
  clear hba
  have hsh : BkI.Short ([] ++ [(vl, UP)]) := fun e he => by
    obtain rfl : e = (vl, UP) := by simpa using he
    show UP.length ≤ 100000
    omega
  have hsh' := Hid.intro hsh
  clear hsh
  go_wp2_with fail
  refine (BkI.book_apart Ka.out (by simp) hsh'.out hKb.out).mono ?_; rintro e we ⟨rfl, hbe⟩
  have Be := Hid.intro (Ba.out.trans hbe)
  clear hbe
  go_wp2
  go_ret
  exact ⟨rfl, Be.out⟩
theorem lslots_any {v : Value} {ps : List Int} {w : World} (gen : Int) (hr : IntsAt w v ps) (P : List UInt8) :
    Calls Try.prog 4 #[.int .i64 gen, v, .string (str P)] w fun e w' => e = .returned (.bool true) ∧ Below w.heap.size w w' := by
  by_cases h : ps.length ≤ 40
  · by_cases h2 : P.length ≤ 100
    · by_cases hS : Sl gen ps
      · by_cases hl : P.length = 32
        · by_cases hI : Iss P
          · exact lslots_yes_yes gen P w hr h h2 hS.1 hS.2 hI
          · exact lslots_yes_no gen P w hr h h2 hS.1 hS.2 hl hI
        · exact lslots_yes_len gen P w hr h h2 hS.1 hS.2 hl
      · by_cases hl : P.length = 32
        · by_cases hI : Iss P
          · exact lslots_no_yes gen P w hr h h2 hS hI
          · exact lslots_no_no gen P w hr h h2 hS hl hI
        · exact lslots_no_len gen P w hr h h2 hS hl
    · exact lslots_p gen P w hr h (by omega)
  · exact lslots_l gen P w hr (by omega)
end Go.Proofs.Ytgigpohfkppplaa
