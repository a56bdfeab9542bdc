/-
  The contract of plate's bitsOf.
-/
import Derived.Test.YtjjfdkgnagfbcaaPWet
namespace Go.Proofs.Ytjjfdkgnagfbcaa
open Go.ChangeShapes Go.WideShapes Go.ChangeAt Go.RowKit
attribute [local go_sem ↓] Go.wp_at_zero Go.wp_at_succ
attribute [local go_sem] str_size str_extract str_append str_toList

def z57 : Array Value := #[.int .u64 0, .int .u64 0, .int .u64 0, .int .u64 0]
theorem Try.info57 : (Try.prog.info? 57).map (fun i => (i.zero, i.size, i.bytes)) = some (some (.agg z57), 4, 32) := by kernel_rfl
theorem zero57 (w : World) : (zeroValue 57).run Try.prog w = .ok (.agg z57) w := by
  obtain ⟨i, hi, hz0, hz1, hz2⟩ := info_parts Try.info57
  simp [zeroValue, typeInfo, hi, hz0]
theorem size57 : (Try.prog.info? 57).map (·.size) = some 4 := by kernel_rfl
theorem wv_zero : (wv 0).toArray = z57 := rfl
set_option maxRecDepth 100000 in
theorem bitsOf_any {w : World} {v : Value} {l : List Bool} (h : BoolsAt w v l) (hl : l.length ≤ 60) :
    Calls Try.prog 35 #[v] w fun e w' => e = .returned (.agg (wv (kw l)).toArray) ∧ Below w.heap.size w w' := by
  obtain ⟨a, c, rfl⟩ := h.form
  have hcap : l.length ≤ c ∨ l.length = 0 := by
    rcases h with ⟨rfl, _⟩ | ⟨g, o, cap, he, _, hc, _⟩
    · exact .inr rfl
    · cases he; exact .inl hc
  have hcap' : l.length ≤ c := by omega
  have h' := Hid.intro h
  have hb0 := Hid.intro (show Below w.heap.size w ((w.alloc (.cells z57 57)).alloc (.cells z57 57)) from ((Below.refl _ _).alloc (Nat.le_refl _) _).alloc (by simp) _)
  have hwb := Hid.intro (show WB ((w.alloc (.cells z57 57)).alloc (.cells z57 57)) (w.heap.size + 1) (kwN l 0) from by
    show ((w.alloc (.cells z57 57)).alloc (.cells z57 57)).heap[w.heap.size + 1]? = _
    have := heap_alloc_new (w.alloc (.cells z57 57)) (.cells z57 57)
    rw [show (w.alloc (.cells z57 57)).heap.size = w.heap.size + 1 by simp] at this
    exact this)
  have hwr := Hid.intro (show WB ((w.alloc (.cells z57 57)).alloc (.cells z57 57)) w.heap.size 0 from by
    show ((w.alloc (.cells z57 57)).alloc (.cells z57 57)).heap[w.heap.size]? = _
    rw [Below.heap_alloc _ _ _ (by simp)]
    exact heap_alloc_new w _)
  have hsz : ((w.alloc (.cells z57 57)).alloc (.cells z57 57)).heap.size = w.heap.size + 2 := by simp
  have hmin : min (l.length : Int) (250 : Int) = (l.length : Int) := by omega
  have hz := zero57
  have hn0 : (0 : Int) ≤ (l.length : Int) := Int.natCast_nonneg _
  clear h hcap
  go_enter Try.func35, Try.ntmps35
  go_wp2_with fail
  generalize (w.alloc (.cells z57 57)).alloc (.cells z57 57) = w0 at *
  generalize hn : l.length = n at *
  have hn' := Hid.intro hn
  clear hn
  go_loopw [12] (fun kv wr => ∃ k : Nat, k ≤ n ∧ kv = .int .i64 k ∧ WB wr (w.heap.size + 1) (kwN l k) ∧ WB wr w.heap.size 0 ∧ Below w.heap.size w wr ∧ w.heap.size + 2 ≤ wr.heap.size) (fun kv _ => n - (intOf kv).toNat)
  case atStart => exact ⟨0, Nat.zero_le _, rfl, hwb.out, hwr.out, hb0.out, by omega⟩
  case round =>
    obtain ⟨k, hk, rfl, hb, hr, hB, hS⟩ := hrel
    have hb' := Hid.intro hb
    have hr' := Hid.intro hr
    have hB' := Hid.intro hB
    have hS' := Hid.intro hS
    have k0 : (0 : Int) ≤ (k : Int) := Int.natCast_nonneg _
    by_cases hlt : k < n
    · have k1 : (k : Int) < (n : Int) := by omega
      obtain ⟨g, o, rfl, hg, hc1, hc2⟩ := (h'.out.below (hB.mono (Nat.le_refl _))).at_ (i := k) (by have := hn'.out; omega)
      obtain ⟨q0, q1⟩ := hb.cell
      have hp := Hid.intro (bput_any k q0 q1 (kwN_lt l k (by omega)) (by omega))
      clear hb hr hB hS hc1 q0 q1
      have hgb : g < w.heap.size := by
        rcases h'.out with ⟨h1, _⟩ | ⟨g', o', cap', he, hg', _⟩
        · have := hn'.out; rw [h1] at this; simp at this; omega
        · cases he; exact hg'
      cases hbit : l.getD k false with
      | true =>
        rw [hbit] at hc2
        have hkw : Hid (kwN l (k + 1) = onW (kwN l k) k) := Hid.intro (by rw [kwN, if_pos hbit])
        clear hbit
        generalize onW (kwN l k) k = V at *
        go_wp2_with fail
        refine hp.out.mono ?_; rintro e w4 ⟨rfl, rfl⟩
        go_wp2
        go_roundw
        case rel =>
          refine ⟨k + 1, by omega, by go_num, ?_, ?_, ?_, ?_⟩
          · rw [hkw.out]; exact hb'.out.set V
          · show (wr.setCell _ _).heap[w.heap.size]? = _
            rw [Below.heap_setCell _ _ _ _ (by simp)]; exact hr'.out
          · exact (hB'.out.setCell (p := ⟨w.heap.size + 1, 0, none⟩) (by simp) _).drew
          · simpa [World.setCell, World.drew] using hS'.out
        case measure => simp [intOf]; omega
      | false =>
        rw [hbit] at hc2
        have hkw : Hid (kwN l (k + 1) = kwN l k) := Hid.intro (by rw [kwN, hbit]; simp)
        clear hbit
        go_wp2
        go_roundw
        case rel => exact ⟨k + 1, by omega, by go_num, by rw [hkw.out]; exact hb'.out, hr'.out, hB'.out, hS'.out⟩
        case measure => simp [intOf]; omega
    · have hkm : k = n := by omega
      subst hkm
      have i1 : ¬ (k : Int) < (k : Int) := by omega
      obtain ⟨r1, _⟩ := hb.range
      obtain ⟨_, r3⟩ := hr.range
      have r1' := Hid.intro r1
      have r3' := Hid.intro r3
      have hkw : Hid (kwN l k = kw l) := Hid.intro (by unfold kw; rw [hn'.out])
      clear hb hr hB hS r1 r3
      have hu : Try.prog.underlying 57 = some (.array 4 55) := by kernel_rfl
      have hR := Hid.intro (World.rangeAt_setCells_same wr w.heap.size 0 (wv (kwN l k)) (by simpa [wv] using r3'.out))
      have hB2 := Hid.intro ((Keep.sets (F := fun j => j = w.heap.size) (w := wr) (g := w.heap.size) (o := 0) (vs := wv (kwN l k)) rfl).below (b := w.heap.size) (by have := hS'.out; omega) (fun j hj e => by omega))
      go_wp2_with (first | (refine wpList_load_mid rfl 57 _ rfl (w.heap.size + 1) 0 rfl (wv (kwN l k)) _ r1'.out hu rfl size57 ?_) | (refine wpList_store_mid rfl 57 _ _ rfl w.heap.size 0 _ rfl rfl (by simpa [wv] using r3'.out) size57 (all_oneCell_toArray (wv_all _)) ?_))
      refine bodyPost_ret (results_mid Try.results35 _ _ w.heap.size (wv (kwN l k)) _ rfl hR.out hu rfl size57) rfl ⟨by rw [hkw.out], hB'.out.trans hB2.out⟩
end Go.Proofs.Ytjjfdkgnagfbcaa
