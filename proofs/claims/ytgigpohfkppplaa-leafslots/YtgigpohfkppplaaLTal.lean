/-
  The contracts of the tally (Add, Of, bytesOf, Seal) and of the document's Tally, Num, Value.
-/
import Derived.Test.YtgigpohfkppplaaLMath
namespace Go.Proofs.Ytgigpohfkppplaa
open Go.ChangeShapes Go.WideShapes Go.ChangeAt Go.RowKit

attribute [local go_sem] str_size str_extract str_append str_toList
theorem stp_1 (p : Nat × Nat) (c : Nat) : (stp p c).1 = (p.1 + c) % 65521 := rfl
theorem stp_2 (p : Nat × Nat) (c : Nat) : (stp p c).2 = (p.2 + (p.1 + c) % 65521) % 65521 := rfl
set_option maxRecDepth 100000 in
theorem add_any (t : Nat) (T : List UInt8) (w : World) (ht : t < 4294967296) (hT : T.length ≤ 1000000) :
    Calls Try.prog 79 #[.int .u32 (t : Int), .string (str T)] w fun e w' => e = .returned (.int .u32 ((w32 (tl (sp t) T) : Nat) : Int)) ∧ w' = w := by
  have e1 := wrap16 t
  have e2 : (t : Int) / 65536 = (((sp t).2 : Nat) : Int) := by unfold sp; simp
  have e3 : t % 65536 = (sp t).1 := rfl
  rw [e3] at e1
  have hq := Hid.intro (sp_lo ht)
  have hq1 := (sp_lo ht).1
  have hq2 := (sp_lo ht).2
  have e4 : IntKind.u32.wrap (((sp t).1 : Nat) : Int) = (((sp t).1 : Nat) : Int) := by rw [wrap32, Nat.mod_eq_of_lt (by omega)]
  clear e3
  generalize sp t = q at *
  go_enter Try.func79, Try.ntmps79
  go_wp2_with fail
  go_loopw [5, 6, 15] (fun lv hv iv wr => ∃ i : Nat, i ≤ T.length ∧ lv = .int .u32 ((tl q (T.take i)).1 : Int) ∧ hv = .int .u32 ((tl q (T.take i)).2 : Int) ∧ iv = .int .i64 i ∧ wr = w) (fun _ _ iv _ => T.length - (intOf iv).toNat)
  case atStart =>
    refine ⟨0, Nat.zero_le _, ?_, ?_, rfl, rfl⟩
    · rw [List.take_zero, tl_nil]
    · rw [List.take_zero, tl_nil]
  case round =>
    obtain ⟨i, hi, rfl, rfl, rfl, rfl⟩ := hrel
    have i0 : (0 : Int) ≤ (i : Int) := Int.natCast_nonneg _
    have hX := Hid.intro (tl_lo (T.take i) q hq.out)
    have hx1 := hX.out.1
    have hx2 := hX.out.2
    clear e1 e2 e4 hq1 hq2
    by_cases hl : i < T.length
    · have i1 : (i : Int) < (T.length : Int) := by omega
      obtain ⟨x, hx⟩ : ∃ x, T[i]? = some x := ⟨T[i], by simp [hl]⟩
      have hat := str_at T i x hx wr
      have hx' := Hid.intro (tl_take q hx)
      clear hx
      have hm : x.toNat < 256 := x.toNat_lt
      unfold bV at hat
      generalize tl q (T.take i) = X at *
      generalize x.toNat = m at *
      obtain ⟨A, B⟩ := X
      simp only at hx1 hx2
      go_wp2
      go_roundw
      case rel => exact ⟨i + 1, by omega, by rw [hx'.out, stp_1]; go_num, by rw [hx'.out, stp_2]; go_num, by go_num, trivial⟩
      case measure => simp [intOf]; omega
    · have hii : i = T.length := by omega
      subst hii
      rw [List.take_length] at hX hx1 hx2 ⊢
      have hb := bits_halves hX.out
      generalize hxe : tl q T = X at *
      have hxe' := Hid.intro hxe
      clear hxe
      have hs : IntKind.u32.wrap ((X.2 : Int) * 65536) = ((X.2 * 65536 : Nat) : Int) := by
        rw [show (X.2 : Int) * 65536 = ((X.2 * 65536 : Nat) : Int) by simp, wrap32, Nat.mod_eq_of_lt (by omega)]
      generalize X.2 * 65536 = Y at *
      generalize hz : w32 X = Z at *
      have hz' := Hid.intro hz
      clear hz
      go_wp2
      go_ret
      exact ⟨by rw [hxe'.out, hz'.out]; rfl, rfl⟩
theorem of_any (T : List UInt8) (w : World) (hT : T.length ≤ 1000000) :
    Calls Try.prog 63 #[.string (str T)] w fun e w' => e = .returned (.int .u32 ((ofN T : Nat) : Int)) ∧ w' = w := by
  have h := Hid.intro (add_any 44257 T w (by decide) hT)
  rw [show w32 (tl (sp 44257) T) = ofN T from rfl] at h
  generalize ofN T = z at *
  go_enter Try.func63, Try.ntmps63
  go_wp2_with fail
  refine h.out.mono ?_; rintro e w1 ⟨rfl, rfl⟩
  go_wp2
  go_ret
  exact ⟨rfl, rfl⟩
set_option maxRecDepth 100000 in
theorem rof_any (T : List UInt8) (w : World) (hT : T.length ≤ 1000000) :
    Calls Try.prog 65 #[.string (str T)] w fun e w' => e = .returned (.int .u32 ((ofN T : Nat) : Int)) ∧ w' = w := by
  unfold ofN tal
  have hq := Hid.intro start_sm.lo
  go_enter Try.func65, Try.ntmps65
  go_wp2_with fail
  generalize hqq : ((44257, 0) : Nat × Nat) = q at *
  go_loopw [3, 4, 5] (fun lv hv iv wr => ∃ i : Nat, i ≤ T.length ∧ lv = .int .u32 ((tl q (T.take i)).1 : Int) ∧ hv = .int .u32 ((tl q (T.take i)).2 : Int) ∧ iv = .int .i64 i ∧ wr = w) (fun _ _ iv _ => T.length - (intOf iv).toNat)
  case atStart => exact ⟨0, Nat.zero_le _, by rw [List.take_zero, tl_nil, ← hqq]; rfl, by rw [List.take_zero, tl_nil, ← hqq]; rfl, rfl, rfl⟩
  case round =>
    obtain ⟨i, hi, rfl, rfl, rfl, rfl⟩ := hrel
    have i0 : (0 : Int) ≤ (i : Int) := Int.natCast_nonneg _
    have hX := Hid.intro (tl_lo (T.take i) q hq.out)
    have hx1 := hX.out.1
    have hx2 := hX.out.2
    have hqq' := Hid.intro hqq
    clear hqq
    by_cases hl : i < T.length
    · have i1 : (i : Int) < (T.length : Int) := by omega
      obtain ⟨x, hx⟩ : ∃ x, T[i]? = some x := ⟨T[i], by simp [hl]⟩
      have hat := str_at T i x hx wr
      have hx' := Hid.intro (tl_take q hx)
      clear hx
      have hm : x.toNat < 256 := x.toNat_lt
      unfold bV at hat
      generalize tl q (T.take i) = X at *
      generalize x.toNat = m at *
      obtain ⟨A, B⟩ := X
      simp only at hx1 hx2
      go_wp2
      go_roundw
      case rel => exact ⟨i + 1, by omega, by rw [hx'.out, stp_1]; go_num, by rw [hx'.out, stp_2]; go_num, by go_num, trivial⟩
      case measure => simp [intOf]; omega
    · have hii : i = T.length := by omega
      subst hii
      rw [List.take_length] at hX hx1 hx2 ⊢
      generalize hxe : tl q T = X at *
      have hxe' := Hid.intro hxe
      clear hxe
      obtain ⟨A, B⟩ := X
      simp only at hx1 hx2
      go_wp2
      go_ret
      exact ⟨by rw [hqq'.out, hxe'.out]; unfold w32; go_num, rfl⟩
theorem bytL_by4 (t : Nat) : bytL t 4 = (by4 t).map fun b => (b.toNat : Int) := by
  have h : List.range 4 = [0, 1, 2, 3] := by decide
  unfold bytL by4 byt
  rw [h]
  simp
theorem str_by4 (t : Nat) : strOfNums (bytL t 4) = str (by4 t) := by rw [bytL_by4, nums_str]
theorem byt_at (t i : Nat) : IntKind.u8.wrap ((t : Int) / 2 ^ (i * 8)) = ((byt t i : Nat) : Int) := by
  rw [show (t : Int) / 2 ^ (i * 8) = ((t / 2 ^ (i * 8) : Nat) : Int) by simp, wrap8]; rfl
set_option maxRecDepth 100000 in
theorem bytesOf_any (t : Nat) (w : World) :
    Calls Try.prog 62 #[.int .u32 (t : Int)] w fun e w' => e = .returned (.string (str (by4 t))) ∧ Below w.heap.size w w' := by
  obtain ⟨w1, hmk0, hbs, hbl, hsz⟩ := make_bytes w 4 (by omega)
  have hmk : (Instr.makeSlice 54 (.int .i64 4) (.int .i64 4)).run Try.prog w = .ok (.slice (some ⟨w.heap.size, 0, none⟩) 4 4) w1 := hmk0
  have hbs' := Hid.intro hbs
  have hbl' := Hid.intro hbl
  have hsz' := Hid.intro hsz
  clear hmk0 hbs hbl hsz
  go_enter Try.func62, Try.ntmps62
  go_wp2_with fail
  go_loopw [8] (fun iv wr => ∃ i : Nat, i ≤ 4 ∧ iv = .int .i64 i ∧ BS wr w.heap.size 4 (fun j => if j < i then ((byt t j : Nat) : Int) else 0) ∧ Below w.heap.size w wr ∧ w.heap.size < wr.heap.size) (fun iv _ => 4 - (intOf iv).toNat)
  case atStart => exact ⟨0, Nat.zero_le _, rfl, hbs'.out.congr (fun j hj => by simp), hbl'.out, by have := hsz'.out; omega⟩
  case round =>
    clear hmk
    obtain ⟨i, hi, rfl, hbi, hB1, hG⟩ := hrel
    have i0 : (0 : Int) ≤ (i : Int) := Int.natCast_nonneg _
    have hbi' := Hid.intro hbi
    have hB1' := Hid.intro hB1
    by_cases hl : i < 4
    · have i1 : (i : Int) < 4 := by omega
      obtain ⟨g1, g2⟩ := hbi i hl
      have hv := byt_at t i
      clear hbi hB1
      generalize w.heap.size = G at *
      go_wp2
      go_roundw
      case rel =>
        refine ⟨i + 1, by omega, by go_num, ?_, hB1'.out.setCell (Nat.le_refl _) _, by simpa using hG⟩
        refine (hbi'.out.set _).congr (fun j hj => ?_)
        by_cases e : j = i
        · subst e; rw [if_pos rfl, if_pos (by omega)]
        · rw [if_neg e]
          by_cases e2 : j < i
          · rw [if_pos e2, if_pos (by omega)]
          · rw [if_neg e2, if_neg (by omega)]
      case measure => simp [intOf]; omega
    · obtain rfl : i = 4 := by omega
      have hcv := run_convert_bytes_arg (P := Try.prog) wr 54 5 Try.underlying54 Try.underlying5 w.heap.size 0 4 4 (bytL t 4) (bytL_length t 4) (fun j hj => by rw [bytL_getD t 4 j hj, Nat.zero_add]; have := (hbi j hj).1; simpa [hj] using this) 9 Try.underlying9
      rw [str_by4] at hcv
      generalize hz : by4 t = Z at *
      have hz' := Hid.intro hz
      clear hz
      clear hbi hB1
      go_wp2
      go_ret
      exact ⟨by rw [hz'.out]; rfl, hB1'.out⟩
set_option maxRecDepth 100000 in
theorem seal_any (T : List UInt8) (w : World) (hT : T.length ≤ 1000000) :
    Calls Try.prog 26 #[.string (str T)] w fun e w' => e = .returned (.string (str (sld T))) ∧ Below w.heap.size w w' := by
  unfold sld
  have h1 := Hid.intro (fun w => of_any T w hT)
  have h2 := Hid.intro (bytesOf_any (ofN T))
  have hZ := by4_length (ofN T)
  generalize hz : by4 (ofN T) = Z at *
  have hz' := Hid.intro hz
  clear hz
  generalize ofN T = z at *
  have i1 : ¬ 9223372036854775807 < T.length + Z.length := by omega
  go_enter Try.func26, Try.ntmps26
  go_wp2_with fail
  refine (h1.out _).mono ?_; rintro e w1 ⟨rfl, rfl⟩
  go_wp2_with fail
  refine (h2.out _).mono ?_; rintro e w1 ⟨rfl, hb⟩
  have hb' := Hid.intro hb
  go_wp2
  go_ret
  exact ⟨rfl, hb'.out⟩
set_option maxRecDepth 100000 in
theorem rnum_any (t n : Nat) (w : World) (ht : t < 4294967296) (hn : n ≤ 4) :
    Calls Try.prog 28 #[.int .i64 (t : Int), .int .i64 (n : Int)] w fun e w' => e = .returned (.string (str (num t n))) ∧ Below w.heap.size w w' := by
  obtain ⟨i0, hi0, hz0', hz1', hz2'⟩ := info_parts Try.info5
  have n0 : (0 : Int) ≤ (n : Int) := Int.natCast_nonneg _
  have n4 : (n : Int) ≤ 4 := by omega
  go_enter Try.func28, Try.ntmps28
  go_wp2_with fail
  go_loopw [0, 5, 6] (fun tv bv kv wr => ∃ u k : Nat, u = t / 2 ^ (k * 8) ∧ k ≤ n ∧ tv = .int .i64 (u : Int) ∧ kv = .int .i64 (k : Int) ∧ wr.ownsRow w.heap.size 5 1 bv k (bytV t k) ∧ Below w.heap.size w wr) (fun _ _ kv _ => n - (intOf kv).toNat)
  case atStart => exact ⟨t, 0, by simp, Nat.zero_le _, rfl, rfl, World.ownsRow_nil _ _ _ _, Below.refl _ _⟩
  case round =>
    obtain ⟨u, k, hu, hk, rfl, rfl, hown, hB⟩ := hrel
    have k0 : (0 : Int) ≤ (k : Int) := Int.natCast_nonneg _
    obtain ⟨aa, cc, rfl⟩ := own_form5 hown
    have hown' := Hid.intro hown
    have hB' := Hid.intro hB
    clear hown
    by_cases hkb : k < n
    · have k1 : (k : Int) < n := by omega
      have hul : u < 4294967296 := by rw [hu]; exact Nat.lt_of_le_of_lt (Nat.div_le_self _ _) ht
      have ha := and255 u hul
      have hby : u % 256 = byt t k := by rw [hu]; rfl
      have hlt := byt_lt t k
      rw [hby] at ha
      have hnx := Hid.intro (show u / 256 = t / 2 ^ ((k + 1) * 8) by rw [hu, Nat.div_div_eq_div_mul, ← show (2:Nat) ^ 8 = 256 from rfl, ← Nat.pow_add, show (k + 1) * 8 = k * 8 + 8 by omega])
      have hsz : w.heap.size ≤ wr.heap.size := hB.size
      have hbs := Hid.intro (bytV_succ t k)
      clear hu hby hB
      generalize byt t k = v at *
      go_wp2_with (at_builtin; refine wpList_append_lies _ rfl _ _ 54 rfl w.heap.size 5 i0 (.int .u8 0) 1 1 Try.underlying54 hi0 hz0' hz1' hz2' rfl (by decide) _ k (bytV t k) rfl (hown'.out.alloc _) ⟨wr.heap.size, 0, none⟩ 1 1 [.int .u8 (v : Int)] rfl rfl (World.news_of_block (cs := #[.int .u8 (v : Int)]) (t := 5) (fr := (0, 0)) (heap_alloc_new wr _)) (by simp [Value.oneCell']) (by decide) (by unfold maxLen; omega) (by omega) (by simp; omega) (wr.heap.size + 1) (by simp) ?_; intro g5 cap5 w5 hown5 hgrow5 hat5 hlt5)
      have hne : ∀ x, (Value.slice aa k cc).ownBlock = some x → w.heap.size ≤ x := fun x hx => (hown'.out.lt x hx).1
      have hB5 : Below w.heap.size w w5 := (hB'.out.alloc hB'.out.size _).grown hgrow5 (by simp; omega) (fun x hx => hne x hx)
      go_roundw
      case rel => exact ⟨u / 256, k + 1, hnx.out, by omega, by go_num, by go_num, by rw [hbs.out]; exact hown5, hB5⟩
      case measure => simp [intOf]; omega
    · obtain rfl : k = n := by omega
      have hcv := own_str hown'.out
      rw [str_num] at hcv
      generalize hz : num t k = Z at *
      have hz' := Hid.intro hz
      clear hz
      go_wp2
      go_ret
      exact ⟨by rw [hz'.out]; rfl, hB'.out⟩
set_option maxRecDepth 100000 in
theorem value_any (S : List UInt8) (w : World) (hS : S.length ≤ 4) :
    Calls Try.prog 33 #[.string (str S)] w fun e w' => e = .returned (.int .i64 (vl S : Int)) ∧ w' = w := by
  have n0 : (0 : Int) ≤ (S.length : Int) := Int.natCast_nonneg _
  have n4 : (S.length : Int) ≤ 4 := by omega
  obtain ⟨R, hR⟩ : ∃ R, Hid (vl S = R) := ⟨_, rfl⟩
  rw [hR.out]
  go_enter Try.func33, Try.ntmps33
  go_wp2_with fail
  go_loopw [3, 4] (fun vv kv wr => ∃ k : Nat, k ≤ S.length ∧ vv = .int .i64 (vl (S.drop k) : Int) ∧ kv = .int .i64 ((k : Int) - 1) ∧ wr = w) (fun _ kv _ => (intOf kv + 1).toNat)
  case atStart => exact ⟨S.length, Nat.le_refl _, by rw [List.drop_length]; rfl, rfl, rfl⟩
  case round =>
    obtain ⟨k, hk, rfl, rfl, rfl⟩ := hrel
    cases k with
    | zero =>
      have hR2 := hR.out
      rw [List.drop_zero] at *
      go_wp2
      go_ret
      exact ⟨by rw [hR2]; rfl, rfl⟩
    | succ j =>
      have hj : j < S.length := by omega
      obtain ⟨x, hx⟩ : ∃ x, S[j]? = some x := ⟨S[j], by simp [hj]⟩
      have hat := str_at S j x hx wr
      have hx' := Hid.intro (vl_drop hx)
      have hb := vl_lt (S.drop (j + 1))
      have hb2 : vl (S.drop (j + 1)) < 256 ^ 4 := Nat.lt_of_lt_of_le hb (Nat.pow_le_pow_right (by decide) (by rw [List.length_drop]; omega))
      have hb3 : vl (S.drop (j + 1)) < 4294967296 := hb2
      clear hx hb hb2
      have hm : x.toNat < 256 := x.toNat_lt
      unfold bV at hat
      generalize x.toNat = m at *
      generalize vl (S.drop (j + 1)) = V at *
      have j0 : (0 : Int) ≤ (j : Int) := Int.natCast_nonneg _
      have j1 : (j : Int) < (S.length : Int) := by omega
      have hc : ((j + 1 : Nat) : Int) - 1 = (j : Int) := by omega
      rw [hc]
      go_wp2
      go_roundw
      case rel => exact ⟨j, by omega, by rw [hx'.out]; first | done | go_num, rfl, trivial⟩
      case measure => simp [intOf] <;> omega
end Go.Proofs.Ytgigpohfkppplaa
