/-
  PoolFull's walk: a pool that is full takes what it has, and zeros, and nothing else; what is dropped makes room: for every two numbers.
-/
import Derived.Test.YtdmamanlclajjaaFullMath
namespace Go.Proofs.Ytdmamanlclajjaa
open Go.ChangeShapes Go.WideShapes Go.ChangeAt Go.RowKit

theorem up_call {w : World} {b p most f : Nat} {args : Array Value} {r : Value} {L' : List Bl} (hb : b ≤ w.heap.size)
    (h : Calls Try.prog f args w fun e w' => e = .returned r ∧ Pl w' (Fr (Up b) w) p most L' ∧ Keep (Up b) w w') :
    Calls Try.prog f args w fun e w' => e = .returned r ∧ Pl w' (Up b) p most L' ∧ Below b w w' := by
  refine h.mono ?_
  rintro e w' ⟨rfl, h1, k1⟩
  exact ⟨rfl, up_put hb h1 k1⟩
theorem few_mono {R S : Int} {L : List Bl} (h : Few R L) (hs : R ≤ S) : Few S L := fun q hq => by have := h q hq; omega

theorem two_bytes (w : World) (i : Nat) : (convert 40 9 (.slice (some ⟨w.heap.size, 0, none⟩) 2 2)).run Try.prog (w.alloc (.cells #[.int .u8 (65 + (i : Int) / 30), .int .u8 (65 + (i : Int) % 30)] 5)) =
    .ok (.string (str [UInt8.ofNat (65 + i / 30), UInt8.ofNat (65 + i % 30)])) (w.alloc (.cells #[.int .u8 (65 + (i : Int) / 30), .int .u8 (65 + (i : Int) % 30)] 5)) := by
  have h := run_convert_bytes_arg (P := Try.prog) (w.alloc (.cells #[.int .u8 (65 + (i : Int) / 30), .int .u8 (65 + (i : Int) % 30)] 5)) 40 5 Try.underlying40 Try.underlying5 w.heap.size 0 2 2 [65 + (i : Int) / 30, 65 + (i : Int) % 30] rfl (fun j hj => by
    have : j = 0 ∨ j = 1 := by omega
    rcases this with rfl | rfl <;> simp [go_sem]) 9 Try.underlying9
  rw [h]
  congr 3
theorem blk_app (i : Nat) : (⟨#[98, 108, 111, 99, 107, 45]⟩ : ByteArray) ++ str [UInt8.ofNat (65 + i / 30), UInt8.ofNat (65 + i % 30)] = str (blk i) := str_append [98, 108, 111, 99, 107, 45] _
attribute [local go_sem] str_size

theorem Try.info5 : (Try.prog.info? 5).map (fun i => (i.zero, i.size, i.bytes)) = some (some (.int .u8 0), 1, 1) := by kernel_rfl
theorem make_eight (w : World) : ∃ W, (Instr.makeSlice 40 (.int .i64 8) (.int .i64 8)).run Try.prog w = .ok (.slice (some ⟨w.heap.size, 0, none⟩) 8 8) W ∧ (convert 40 9 (.slice (some ⟨w.heap.size, 0, none⟩) 8 8)).run Try.prog W = .ok (.string (str zer)) W ∧ Below w.heap.size w W := by
  obtain ⟨i0, hi, hz0, hz1, hz2⟩ := info_parts Try.info5
  have hr := run_make (P := Try.prog) w 40 5 i0 (.int .u8 0) Try.underlying40 hi hz0 .i64 .i64 8 8 (by omega) (by omega) (by rw [hz2]; omega) (by omega)
  refine ⟨_, hr, ?_, (Below.refl _ _).alloc (Nat.le_refl _) _⟩
  refine (run_convert_bytes_arg (P := Try.prog) _ 40 5 Try.underlying40 Try.underlying5 w.heap.size 0 8 8 (List.replicate 8 0) rfl (fun j hj => ?_) 9 Try.underlying9)
  have h := heap_alloc_new w (.cells (madeCells (Value.int .u8 0).cells ((8 : Int).toNat * i0.size)) 5)
  unfold World.cell?
  rw [h, hz1]
  have : j = 0 ∨ j = 1 ∨ j = 2 ∨ j = 3 ∨ j = 4 ∨ j = 5 ∨ j = 6 ∨ j = 7 := by omega
  rcases this with rfl | rfl | rfl | rfl | rfl | rfl | rfl | rfl <;> simp [madeCells, Value.cells]
set_option maxRecDepth 100000 in
theorem zeros_any (w : World) : Calls Try.prog 15 #[.int .i64 8] w fun e w' => e = .returned (.string (str zer)) ∧ Below w.heap.size w w' := by
  obtain ⟨W, h1, h2, h3⟩ := make_eight w
  have h3' := Hid.intro h3
  clear h3
  go_enter Try.func15, Try.ntmps15
  go_wp2
  go_ret
  exact ⟨rfl, h3'.out⟩

set_option maxHeartbeats 4000000 in
set_option maxRecDepth 100000 in
theorem full_yes (m : Nat) (d : Int) (w : World) (hm1 : 1 ≤ m) (hm : m ≤ 60) (_hd1 : -9223372036854775808 ≤ d) (_hd2 : d ≤ 9223372036854775807) :
    Calls Try.prog 4 #[.int .i64 (m : Int), .int .i64 d] w fun e w' => e = .returned (.bool true) ∧ Below w.heap.size w w' := by
  have hnew : Hid (∀ w, Calls Try.prog 6 #[.int .i64 (m : Int)] w fun e w' => ∃ p, e = .returned (.pointer (some ⟨p, 0, none⟩)) ∧ Pl w' (Up w.heap.size) p m [] ∧ Below w.heap.size w w') := fun w => by
    have := pnew_any (m : Int) w (by omega) (by omega)
    rw [show mb (m : Int) = m by unfold mb; omega] at this
    exact this
  go_enter Try.func4, Try.ntmps4
  go_wp2_with fail
  refine (alive_any w).mono ?_; rintro e w0 ⟨rfl, hb0⟩
  go_wp2_with fail
  refine (hnew.out w0).mono ?_; rintro e w1 ⟨p, rfl, h1, hb1⟩
  have hB0 := Hid.intro hb0
  have hbb1 := hb1
  have s0 := hb0.size
  have s1 := hb1.size
  have h1' := Hid.intro h1
  clear h1 hb1 hb0
  go_wp2_with fail
  go_loopw [6] (fun iv wr => ∃ i : Nat, i ≤ m ∧ iv = .int .i64 (i : Int) ∧ Hid (Pl wr (Up w0.heap.size) p m (fl 0 i)) ∧ Below w0.heap.size w0 wr) (fun iv _ => m - (intOf iv).toNat)
  case atStart => exact ⟨0, Nat.zero_le _, rfl, h1'.out, hbb1⟩
  case round =>
    obtain ⟨i, hi, rfl, hP, hB⟩ := hrel
    by_cases hlt : i < m
    · obtain ⟨T, hT, hcv, happ⟩ : ∃ T : List UInt8, T.length = 2 ∧ (convert 40 9 (.slice (some ⟨wr.heap.size, 0, none⟩) 2 2)).run Try.prog (wr.alloc (.cells #[.int .u8 (65 + (i : Int) / 30), .int .u8 (65 + (i : Int) % 30)] 5)) =
          .ok (.string (str T)) (wr.alloc (.cells #[.int .u8 (65 + (i : Int) / 30), .int .u8 (65 + (i : Int) % 30)] 5)) ∧ Hid ((⟨#[98, 108, 111, 99, 107, 45]⟩ : ByteArray) ++ str T = str (blk i)) := ⟨_, rfl, two_bytes wr i, blk_app i⟩
      have hba : Below wr.heap.size wr (wr.alloc (.cells #[.int .u8 (65 + (i : Int) / 30), .int .u8 (65 + (i : Int) % 30)] 5)) := (Below.refl _ _).alloc (Nat.le_refl _) _
      have hput := pput_any (hP.out.below hba) (few_mono (fl_few 0 i) (by omega)) (blk i)
      rw [put_fl hlt hm] at hput
      have sr := hB.size
      have hput' := Hid.intro (up_call (b := w0.heap.size) (by simp; omega) hput)
      have hba' := Hid.intro hba
      have hT2 : ¬ (9223372036854775807 < 6 + T.length) := by omega
      clear hput hba
      go_wp2_with fail
      rw [happ.out]
      refine hput'.out.mono ?_; rintro e w2 ⟨rfl, h2, hb2⟩
      have hB2 := Hid.intro (hB.trans ((hba'.out.mono sr).trans hb2))
      have h2' := Hid.intro h2
      clear h2 hb2 hB hput' hba' hcv
      go_wp2
      go_roundw
      case rel => exact ⟨i + 1, by omega, by go_num, h2'.out, hB2.out⟩
      case measure => simp [intOf]; omega
    · have him : i = m := by omega
      subst him
      have a1 := pput_any hP.out (few_mono (fl_few 0 i) (by omega)) anew
      rw [put_anew] at a1
      have a1' := Hid.intro (up_call (b := w0.heap.size) hB.size a1)
      have hB' := Hid.intro hB
      have hm1' : (0 : Int) < (i : Int) := by omega
      have r1 := Int.tmod_lt_of_pos d hm1'
      have r2 : -(i : Int) < d.tmod i := by
        have := Int.lt_tmod_of_pos d hm1'
        omega
      obtain ⟨r, hr⟩ : ∃ r, d.tmod (i : Int) = r := ⟨_, rfl⟩
      rw [hr] at r1 r2
      obtain ⟨K, hK1, hK2, hK3⟩ : ∃ K : Nat, 1 ≤ K ∧ K ≤ i ∧ (r + (i : Int)).tmod (i : Int) = (K : Int) - 1 := by
        have e : (r + (i : Int)).tmod (i : Int) = (r + (i : Int)) % (i : Int) := Int.tmod_eq_emod_of_nonneg (by omega)
        have h1 := Int.emod_nonneg (r + (i : Int)) (b := (i : Int)) (by omega)
        have h2 := Int.emod_lt_of_pos (r + (i : Int)) hm1'
        exact ⟨((r + (i : Int)) % (i : Int) + 1).toNat, by omega, by omega, by rw [e]; omega⟩
      clear a1 hB
      go_wp2_with fail
      refine a1'.out.mono ?_; rintro e w2 ⟨rfl, h2, hb2⟩
      have hB2 := Hid.intro (hB'.out.trans hb2)
      have h2' := Hid.intro h2
      clear h2 hb2 a1'
      go_wp2_with fail
      refine (zeros_any w2).mono ?_; rintro e w3 ⟨rfl, hb3⟩
      have hB3 := Hid.intro (hB2.out.trans (hb3.mono hB2.out.size))
      have h3' := Hid.intro (h2'.out.below hb3)
      clear hb3
      have a3 := pput_any h3'.out (few_mono (fl_few 0 i) (by omega)) zer
      rw [put_zeros] at a3
      have a3' := Hid.intro (up_call (b := w0.heap.size) hB3.out.size a3)
      clear a3
      go_wp2_with fail
      refine a3'.out.mono ?_; rintro e w4 ⟨rfl, h4, hb4⟩
      have hB4 := Hid.intro (hB3.out.trans hb4)
      have h4' := Hid.intro h4
      clear h4 hb4 a3'
      have a4 := pput_any h4'.out (few_mono (fl_few 0 i) (by omega)) (blk 0)
      rw [put_first hm1] at a4
      have a4' := Hid.intro (up_call (b := w0.heap.size) hB4.out.size a4)
      clear a4
      go_wp2_with fail
      refine a4'.out.mono ?_; rintro e w5 ⟨rfl, h5, hb5⟩
      have hB5 := Hid.intro (hB4.out.trans hb5)
      have h5' := Hid.intro h5
      clear h5 hb5 a4'
      have hl2 : (fl2 i).length = i := by unfold fl2; simp [fl_len]; omega
      have a5 := proom_any h5'.out
      rw [hl2, Nat.sub_self] at a5
      have a5' := Hid.intro a5
      clear a5
      go_wp2_with fail
      refine a5'.out.mono ?_; rintro e w6 ⟨rfl, hb6⟩
      have hB6 := Hid.intro (hB5.out.trans (hb6.mono hB5.out.size))
      have h6' := Hid.intro (h5'.out.below hb6)
      clear hb6 a5'
      have a6 := drop_any h6'.out (few_mono (fl2_few i) (by omega)) 1
      rw [drop_first hm1] at a6
      have a6' := Hid.intro (up_call (b := w0.heap.size) hB6.out.size a6)
      clear a6
      go_wp2_with fail
      refine a6'.out.mono ?_; rintro e w7 ⟨rfl, h7, hb7⟩
      have hB7 := Hid.intro (hB6.out.trans hb7)
      have h7' := Hid.intro h7
      clear h7 hb7 a6'
      have a7 := drop_any h7'.out (few_mono (fl_few 0 i) (by omega)) (K : Int)
      rw [drop_fl hK1 hK2] at a7
      have a7' := Hid.intro (up_call (b := w0.heap.size) hB7.out.size a7)
      clear a7
      go_wp2_with fail
      rw [show (1 : Int) + ((K : Int) - 1) = (K : Int) by omega]
      refine a7'.out.mono ?_; rintro e w8 ⟨rfl, h8, hb8⟩
      have hB8 := Hid.intro (hB7.out.trans hb8)
      have h8' := Hid.intro h8
      clear h8 hb8 a7'
      have a8 := plen_any h8'.out
      rw [hole_len hK1 hK2] at a8
      have a8' := Hid.intro a8
      have el : ((i - 1 : Nat) : Int) = (i : Int) - 1 := by omega
      rw [el] at a8'
      clear a8 el
      go_wp2_with fail
      refine a8'.out.mono ?_; rintro e w9 ⟨rfl, rfl⟩
      have a9 := pput_any h8'.out (few_mono (hole_few i K) (by omega)) anew
      have hph := put_hole hK1 hK2
      rw [hph.1] at a9
      have hlast := hph.2
      generalize (putL i (hole i K) anew).1 = M at a9 hlast
      have a9' := Hid.intro (up_call (b := w0.heap.size) hB8.out.size a9)
      clear a9 a8' hph
      go_wp2_with fail
      refine a9'.out.mono ?_; rintro e w10 ⟨rfl, h10, hb10⟩
      have hB10 := Hid.intro (hB8.out.trans hb10)
      have a10 := plen_any h10
      rw [hlast] at a10
      have a10' := Hid.intro a10
      clear h10 hb10 a10 a9'
      go_wp2_with fail
      refine a10'.out.mono ?_; rintro e w11 ⟨rfl, rfl⟩
      go_wp2
      go_ret
      exact ⟨rfl, hB0.out.trans (hB10.out.mono s0)⟩

theorem full_no (m d : Int) (w : World) (h : m < 1 ∨ 60 < m) : Calls Try.prog 4 #[.int .i64 m, .int .i64 d] w fun e w' => e = .returned (.bool true) ∧ Below w.heap.size w w' := by
  rcases h with h | h
  · have hd : decide (m < 1) = true := by simpa using h
    go_enter Try.func4, Try.ntmps4
    go_wp2_with fail
    refine (alive_any w).mono ?_; rintro e w0 ⟨rfl, hb0⟩
    go_wp2
    go_ret
    exact ⟨rfl, hb0⟩
  · have hd : decide (m < 1) = false := by simp; omega
    have hd2 : decide (60 < m) = true := by simpa using h
    go_enter Try.func4, Try.ntmps4
    go_wp2_with fail
    refine (alive_any w).mono ?_; rintro e w0 ⟨rfl, hb0⟩
    go_wp2
    go_ret
    exact ⟨rfl, hb0⟩
theorem full_any (m d : Int) (w : World) (hm : -9223372036854775808 ≤ m ∧ m ≤ 9223372036854775807) (hd : -9223372036854775808 ≤ d ∧ d ≤ 9223372036854775807) :
    Calls Try.prog 4 #[.int .i64 m, .int .i64 d] w fun e w' => e = .returned (.bool true) ∧ Below w.heap.size w w' := by
  by_cases h : m < 1 ∨ 60 < m
  · exact full_no m d w h
  · obtain ⟨k, rfl⟩ : ∃ k : Nat, m = (k : Int) := ⟨m.toNat, by omega⟩
    exact full_yes k d w (by omega) (by omega) hd.1 hd.2
end Go.Proofs.Ytdmamanlclajjaa
