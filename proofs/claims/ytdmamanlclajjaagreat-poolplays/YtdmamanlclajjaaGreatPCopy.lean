/-
  The contracts of the pool's All and Copy, and of its calls at a nil one.
-/
import Derived.Test.YtdmamanlclajjaaGreatRefB
import Derived.Lib.LazyBuf
namespace Go.Proofs.YtdmamanlclajjaaGreat
open Go.ChangeShapes Go.WideShapes Go.ChangeAt Go.RowKit

theorem eql26 (w : World) (a : Option Addr) (l c : Nat) : (binOp .eql 26 (.slice a l c) (.slice none 0 0)).run Tryz.prog w = .ok (.bool a.isNone) w := run_eql_slice_nil w 26 56 a l c Tryz.underlying26
attribute [local go_sem] eql26

theorem clone_nil (c : Nat) (w : World) :
    Calls Tryz.prog 32 #[.slice none 0 c] w fun e w' => e = .returned (.slice none 0 0) ∧ Below w.heap.size w w' := by
  go_enter Tryz.func32, Tryz.ntmps32
  go_wp2
  go_ret
  exact ⟨rfl, Below.refl _ _⟩
theorem own_empty (w : World) : (w.alloc (.cells #[] 56)).ownsRow w.heap.size 56 3 (.slice (some ⟨w.heap.size, 0, none⟩) 0 0) 0 [] :=
  ⟨rfl, .inr ⟨w.heap.size, 0, #[], rfl, Nat.le_refl _, by have := heap_alloc_new w (.cells #[] 56); simpa using this, Nat.le_refl _, Nat.zero_le _, rfl, rfl⟩⟩
set_option maxRecDepth 100000 in
theorem clone_some (ps : List Bl) (g o c : Nat) (w : World) (h0 : 0 < ps.length) (hl : ps.length ≤ 1000000) (h : Hid (Bk.Cells w g o ps)) (hg : g < w.heap.size) :
    Calls Tryz.prog 32 #[.slice (some ⟨g, o, none⟩) ps.length c] w fun e w' => ∃ v, e = .returned v ∧ w'.ownsRow w.heap.size 56 3 v ps.length (B.itemsV ps) ∧ Below w.heap.size w w' := by
  obtain ⟨i0, hi0, hz0', hz1', hz2'⟩ := info_parts Bk.Tryz.infoE
  have hba : Below w.heap.size w (w.alloc (.cells #[] 56)) := (Below.refl _ _).alloc (Nat.le_refl _) _
  have hcs : Hid (Bk.Cells (w.alloc (.cells #[] 56)) g o ps) := Hid.intro (h.out.below hba hg)
  go_enter Tryz.func32, Tryz.ntmps32
  go_wp2_with (at_builtin; refine wpList_append_lies _ rfl _ _ 26 rfl w.heap.size 56 i0 (.agg #[.int .i64 0, .int .i64 0, .string ByteArray.empty]) 3 32 Tryz.underlying26 hi0 hz0' hz1' hz2' rfl (by decide) _ 0 [] rfl (own_empty w) ⟨g, o, none⟩ ps.length c (B.itemsV ps) rfl (B.itemsV_length ps) (Bk.row_news hcs.out) (B.itemsV_one ps) h0 (by unfold maxLen; omega) (by omega) (by simp) (w.heap.size + 1) (by simp) ?_; intro g5 cap5 w5 hown5 hgrow5 hat5 hlt5)
  go_ret
  exact ⟨_, rfl, by simpa using hown5, hba.grown hgrow5 (by simp) (fun j hj => by cases hj; exact Nat.le_refl _)⟩
theorem clone_zero (a : Addr) (c : Nat) (w : World) :
    Calls Tryz.prog 32 #[.slice (some a) 0 c] w fun e w' => ∃ v, e = .returned v ∧ w'.ownsRow w.heap.size 56 3 v 0 [] ∧ Below w.heap.size w w' := by
  go_enter Tryz.func32, Tryz.ntmps32
  go_wp2
  go_ret
  exact ⟨_, rfl, own_empty w, (Below.refl _ _).alloc (Nat.le_refl _) _⟩
theorem clone_any {w : World} {v : Value} {ps : List Bl} (h : Bk.Row w v ps) (hl : ps.length ≤ 1000000) :
    Calls Tryz.prog 32 #[v] w fun e w' => ∃ v, e = .returned v ∧ w'.ownsRow w.heap.size 56 3 v ps.length (B.itemsV ps) ∧ Below w.heap.size w w' := by
  rcases h with ⟨⟨a, c, rfl⟩, rfl⟩ | ⟨g, o, cap, rfl, hg, hc⟩
  · cases a with
    | none => exact (clone_nil c w).mono fun e w' ⟨he, hb⟩ => ⟨_, he, World.ownsRow_nil _ _ _ _, hb⟩
    | some a => exact clone_zero a c w
  · by_cases e : ps = []
    · subst e; exact clone_zero _ cap w
    · exact clone_some ps g o cap w (List.length_pos_iff.2 e) hl hc hg

theorem pall_any {w : World} {F : Nat → Prop} {p most : Nat} {L : List Bl} (h : Pl w F p most L) :
    Calls Tryz.prog 12 #[.pointer (some ⟨p, 0, none⟩)] w fun e w' => ∃ v, e = .returned v ∧ w'.ownsRow w.heap.size 56 3 v L.length (B.itemsV L) ∧ Below w.heap.size w w' := by
  obtain ⟨Fs, s, v, bs, h⟩ := h
  obtain ⟨c0, c1, c2⟩ := h.cells
  have hl : L.length ≤ 1000000 := by have := h.inv.len; have := h.inv.m60; omega
  have hr := Hid.intro (Bk.own_row h.row)
  clear h
  go_enter Tryz.func12, Tryz.ntmps12
  go_wp2_with fail
  refine (clone_any hr.out hl).mono ?_; rintro e w1 ⟨v', rfl, ho, hb⟩
  go_wp2
  go_ret
  exact ⟨_, rfl, ho, hb⟩

set_option maxHeartbeats 1000000 in
set_option maxRecDepth 100000 in
theorem pcopy_any {w : World} {F : Nat → Prop} {p most : Nat} {L : List Bl} (h : Pl w F p most L) :
    Calls Tryz.prog 11 #[.pointer (some ⟨p, 0, none⟩)] w fun e w' => ∃ c, e = .returned (.pointer (some ⟨c, 0, none⟩)) ∧ Pl w' (Up w.heap.size) c most L ∧ Below w.heap.size w w' := by
  obtain ⟨Fs, s, v, bs, h⟩ := h
  obtain ⟨c0, c1, c2⟩ := h.cells
  have hI := Hid.intro h.inv
  have hm := h.inv.m60
  have hlen := h.inv.len
  have hp := lt_of_block h.box
  have hn := Hid.intro (pnone_any h)
  have hrow := Hid.intro (Bk.own_row h.row)
  obtain ⟨a, c, rfl⟩ := Bk.own_form h.row
  have hnew : Hid (∀ z : World, Calls Tryz.prog 5 #[.int .i64 (most : Int)] z fun e w' => ∃ q, e = .returned (.pointer (some ⟨q, 0, none⟩)) ∧ Pl w' (fun j => z.heap.size ≤ j) q most [] ∧ Below z.heap.size z w') := Hid.intro fun z => by
    have := pnew_any (most : Int) z (by omega) (by omega)
    rw [show mb (most : Int) = most by unfold mb; omega] at this
    exact this
  clear h
  go_enter Tryz.func11, Tryz.ntmps11
  go_wp2_with fail
  refine hn.out.mono ?_; rintro e w0 ⟨rfl, rfl⟩
  go_wp2_with fail
  refine (hnew.out w0).mono ?_; rintro e w1 ⟨q, rfl, h1, hb1⟩
  have d1 : w1.cell? ⟨p, 1, none⟩ = some (.slice a L.length c) := by rw [hb1.cell (p := ⟨p, 1, none⟩) hp]; exact c1
  have h1' := Hid.intro h1
  have hb1' := Hid.intro hb1
  clear h1 hb1 c0 c1 c2 hn hnew
  go_wp2_with fail
  go_loopw [18] (fun iv wr => ∃ i : Nat, i ≤ L.length ∧ iv = .int .i64 i ∧ Hid (∃ Fs s v bs, PMem wr (Up w0.heap.size) Fs q s v most (L.take i) bs ∧ Prints bs (L.take i)) ∧ Hid (Below w0.heap.size w0 wr)) (fun iv _ => L.length - (intOf iv).toNat)
  case atStart =>
    obtain ⟨Fs, s, v, bs, h⟩ := h1'.out
    exact ⟨0, Nat.zero_le _, rfl, ⟨Fs, s, v, bs, h.mem, h.prints⟩, hb1'.out⟩
  case round =>
    clear d1 h1' hb1'
    obtain ⟨i, hi, rfl, hM, hB⟩ := hrel
    have i0 : (0 : Int) ≤ (i : Int) := Int.natCast_nonneg _
    have hsz := hB.out.size
    by_cases hlt : i < L.length
    · obtain ⟨g, o, x, rfl, hg, hx, e0, e1, e2⟩ := rw_at hrow.out hB.out hlt
      have i1 : (i : Int) < (L.length : Int) := by omega
      obtain ⟨Fs, s', v', bs, hPM, hPr⟩ := hM.out
      obtain ⟨hid1, hid2, hid3, hid4, hid5⟩ := hI.out.ids x (List.mem_of_getElem? hx)
      have hno : ∀ r ∈ L.take i, r.1 ≠ x.1 := fun r hr => by
        obtain ⟨j, hj⟩ := List.mem_iff_getElem?.1 hr
        rw [List.getElem?_take] at hj
        split at hj
        · have := B.ord_at L j i _ _ hI.out.ord (by omega) hj hx
          omega
        · cases hj
      have hins := pinsert_any (hPM.below ((Below.refl _ wr).alloc (Nat.le_refl _) (.cells #[.int .i64 x.1, .int .i64 x.2.1, .string (str x.2.2)] 56))) hPr (by rw [List.length_take]; omega) i (by rw [List.length_take]; omega) x ⟨hid1, hid2⟩ hid4 hno
      have hst : Hid (insAt (L.take i) i x = L.take (i + 1)) := Hid.intro (by
        unfold insAt
        rw [List.take_take, Nat.min_self, List.drop_of_length_le (by rw [List.length_take]; omega), List.take_add_one, hx]
        rfl)
      have hins' := Hid.intro hins
      obtain ⟨xa, xb, xc⟩ := x
      simp only at e0 e1 e2 hins'
      clear hins hx hno hPM hPr hM
      go_wp2_with fail
      refine hins'.out.mono ?_; rintro e w2 ⟨rfl, Fs2, v2, bs2, k1, k2, k3⟩
      have hB2 : Below w0.heap.size w0 w2 := (hB.out.alloc hsz _).trans (k3.below (by simp; omega) fun k hk e => by have : w0.heap.size ≤ k := e; omega)
      have k1' := Hid.intro (show ∃ Fs s v bs, PMem w2 (Up w0.heap.size) Fs q s v most (L.take (i + 1)) bs ∧ Prints bs (L.take (i + 1)) from by
        rw [hst.out] at k1 k2
        exact ⟨_, _, _, _, k1.mono fun k hk => hk.elim id (fun e => by simp at e; show w0.heap.size ≤ k; omega), k2⟩)
      have hB2' := Hid.intro hB2
      clear k1 k2 k3 hB2
      go_wp2
      go_roundw
      case rel => exact ⟨i + 1, by omega, by go_num, k1'.out, hB2'.out⟩
      case measure => simp [intOf]; omega
    · have i1 : ¬ (i : Int) < (L.length : Int) := by omega
      go_wp2
      go_ret
      refine ⟨_, rfl, ?_, hB.out⟩
      obtain ⟨Fs, s, v, bs, h1, h2⟩ := hM.out
      rw [List.take_of_length_le (by omega)] at h1 h2
      exact ⟨Fs, s, v, bs, h1.obj h2 hI.out⟩

theorem isnone_nil (w : World) : Calls Tryz.prog 27 #[.pointer none] w fun e w' => e = .returned (.bool true) ∧ Below w.heap.size w w' := by
  go_enter Tryz.func27, Tryz.ntmps27
  go_wp2
  go_ret
  exact ⟨rfl, Below.refl _ _⟩
theorem held_nil (x : Int) (w : World) : Calls Tryz.prog 30 #[.pointer none, .int .i64 x] w fun e w' => e = .returned (.tuple #[.int .i64 (-1), .int .i64 1]) ∧ Below w.heap.size w w' := by
  go_enter Tryz.func30, Tryz.ntmps30
  go_wp2_with fail
  refine (isnone_nil w).mono ?_; rintro e w1 ⟨rfl, hb1⟩
  go_wp2
  go_ret2
  exact ⟨rfl, hb1⟩
theorem put_nil (b : List UInt8) (w : World) : Calls Tryz.prog 7 #[.pointer none, .string (str b)] w fun e w' => e = .returned (.tuple #[.int .i64 0, .int .i64 1]) ∧ Below w.heap.size w w' := by
  go_enter Tryz.func7, Tryz.ntmps7
  go_wp2_with fail
  refine (isnone_nil w).mono ?_; rintro e w1 ⟨rfl, hb1⟩
  go_wp2
  go_ret2
  exact ⟨rfl, hb1⟩
theorem get_nil (x : Int) (w : World) : Calls Tryz.prog 14 #[.pointer none, .int .i64 x] w fun e w' => e = .returned (.tuple #[.string (str []), .int .i64 1]) ∧ Below w.heap.size w w' := by
  go_enter Tryz.func14, Tryz.ntmps14
  go_wp2_with fail
  refine (held_nil x w).mono ?_; rintro e w1 ⟨rfl, hb1⟩
  go_wp2
  go_ret2
  exact ⟨rfl, hb1⟩
theorem hold_nil (x : Int) (w : World) : Calls Tryz.prog 9 #[.pointer none, .int .i64 x] w fun e w' => e = .returned (.int .i64 1) ∧ Below w.heap.size w w' := by
  go_enter Tryz.func9, Tryz.ntmps9
  go_wp2_with fail
  refine (held_nil x w).mono ?_; rintro e w1 ⟨rfl, hb1⟩
  go_wp2
  go_ret
  exact ⟨rfl, hb1⟩
theorem drop_nil (x : Int) (w : World) : Calls Tryz.prog 10 #[.pointer none, .int .i64 x] w fun e w' => e = .returned (.int .i64 1) ∧ Below w.heap.size w w' := by
  go_enter Tryz.func10, Tryz.ntmps10
  go_wp2_with fail
  refine (held_nil x w).mono ?_; rintro e w1 ⟨rfl, hb1⟩
  go_wp2
  go_ret
  exact ⟨rfl, hb1⟩
theorem refs_nil (x : Int) (w : World) : Calls Tryz.prog 18 #[.pointer none, .int .i64 x] w fun e w' => e = .returned (.int .i64 0) ∧ Below w.heap.size w w' := by
  go_enter Tryz.func18, Tryz.ntmps18
  go_wp2_with fail
  refine (held_nil x w).mono ?_; rintro e w1 ⟨rfl, hb1⟩
  go_wp2
  go_ret
  exact ⟨rfl, hb1⟩
theorem pfind_nil (b : List UInt8) (w : World) : Calls Tryz.prog 19 #[.pointer none, .string (str b)] w fun e w' => e = .returned (.int .i64 0) ∧ Below w.heap.size w w' := by
  go_enter Tryz.func19, Tryz.ntmps19
  go_wp2_with fail
  refine (isnone_nil w).mono ?_; rintro e w1 ⟨rfl, hb1⟩
  go_wp2
  go_ret
  exact ⟨rfl, hb1⟩
theorem pall_nil (w : World) : Calls Tryz.prog 12 #[.pointer none] w fun e w' => e = .returned (.slice none 0 0) ∧ Below w.heap.size w w' := by
  go_enter Tryz.func12, Tryz.ntmps12
  go_wp2
  go_ret
  exact ⟨rfl, Below.refl _ _⟩
theorem plen_nil (w : World) : Calls Tryz.prog 21 #[.pointer none] w fun e w' => e = .returned (.int .i64 0) ∧ Below w.heap.size w w' := by
  go_enter Tryz.func21, Tryz.ntmps21
  go_wp2
  go_ret
  exact ⟨rfl, Below.refl _ _⟩
theorem proom_nil (w : World) : Calls Tryz.prog 22 #[.pointer none] w fun e w' => e = .returned (.int .i64 0) ∧ Below w.heap.size w w' := by
  go_enter Tryz.func22, Tryz.ntmps22
  go_wp2
  go_ret
  exact ⟨rfl, Below.refl _ _⟩
theorem pcopy_nil (w : World) : Calls Tryz.prog 11 #[.pointer none] w fun e w' => e = .returned (.pointer none) ∧ Below w.heap.size w w' := by
  go_enter Tryz.func11, Tryz.ntmps11
  go_wp2_with fail
  refine (isnone_nil w).mono ?_; rintro e w1 ⟨rfl, hb1⟩
  go_wp2
  go_ret
  exact ⟨rfl, hb1⟩
end Go.Proofs.YtdmamanlclajjaaGreat
