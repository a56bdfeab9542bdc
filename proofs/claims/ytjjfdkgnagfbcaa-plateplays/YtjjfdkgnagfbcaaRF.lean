/-
  The contract of the document's New, and of the book's SameInts.
-/
import Derived.Test.YtjjfdkgnagfbcaaRE
namespace Go.Proofs.Ytjjfdkgnagfbcaa
open Go.ChangeShapes Go.WideShapes Go.ChangeAt Go.RowKit
attribute [local go_sem ↓] Go.wp_at_zero Go.wp_at_succ
attribute [local go_sem] str_size str_extract str_append str_toList

theorem RM.appendN {w w9 : World} {F : Nat → Prop} {r : Nat} {vN vX vW vK u : Value} {off arm : Bool} {n : Int} {L X : List (List UInt8)} {wl kl : List Bool} (h : RM w F r vN vX vW vK off arm n L X wl kl) (P : List UInt8)
    (hgr : ∀ j, j < w.heap.size → vN.ownBlock ≠ some j → w9.heap[j]? = w.heap[j]?) (hu : w9.ownsRow 0 9 1 u (L.length + 1) (L.map sV ++ [sV P])) (huF : ∀ g, u.ownBlock = some g → F g ∧ (vN.ownBlock = some g ∨ w.heap.size ≤ g)) :
    RM (w9.setCell ⟨r, 0, none⟩ u) F r u vX vW vK off arm n (L ++ [P]) X wl kl := by
  have hrl := lt_of_block h.box
  have hbx : w9.heap[r]? = some (.cells (rC vN vX vW vK off arm n).toArray 62 (0, 0)) := by rw [hgr r hrl (fun e => h.ne.1 r e rfl)]; exact h.box
  have oth : ∀ g, g < w.heap.size → g ≠ r → vN.ownBlock ≠ some g → (w9.setCell ⟨r, 0, none⟩ u).heap[g]? = w.heap[g]? := fun g h1 h2 h3 => by
    rw [Below.heap_setCell _ _ _ _ h2, hgr g h1 h3]
  refine ⟨rbox hbx, ⟨?_, fun g hg => (huF g hg).1⟩, ?_, ?_, ?_, fun g hg e => ?_, h.nK, h.fr⟩
  · have : (w9.setCell ⟨r, 0, none⟩ u).ownsRow 0 9 1 u (L.length + 1) (L.map sV ++ [sV P]) := own_keep hu fun g hg _ => Below.heap_setCell _ _ _ _ (fun e => by
      obtain ⟨c, q⟩ := own_blk hu hg
      rw [show g = r from e, hbx] at q; simp at q)
    rw [List.length_append, List.map_append]
    exact this
  · exact h.sX.keep (fun g hg => oth g (own_lt h.sX.1 hg) (h.ne.2.1 g hg) (fun e => h.nX g e hg)) fun _ h => h
  · exact h.sW.keep (fun g hg => oth g (own_lt h.sW.1 hg) (h.ne.2.2.1 g hg) (fun e => blk_type h.sW.1 h.sN.1 hg e (by decide) rfl)) fun _ h => h
  · exact h.sK.keep (fun g hg => oth g (own_lt h.sK.1 hg) (h.ne.2.2.2 g hg) (fun e => blk_type h.sK.1 h.sN.1 hg e (by decide) rfl)) fun _ h => h
  · rcases (huF g hg).2 with h1 | h1
    · exact h.nX g h1 e
    · have := own_lt h.sX.1 e; omega
theorem RM.appendX {w w9 : World} {F : Nat → Prop} {r : Nat} {vN vX vW vK u : Value} {off arm : Bool} {n : Int} {L X : List (List UInt8)} {wl kl : List Bool} (h : RM w F r vN vX vW vK off arm n L X wl kl) (P : List UInt8)
    (hgr : ∀ j, j < w.heap.size → vX.ownBlock ≠ some j → w9.heap[j]? = w.heap[j]?) (hu : w9.ownsRow 0 9 1 u (X.length + 1) (X.map sV ++ [sV P])) (huF : ∀ g, u.ownBlock = some g → F g ∧ (vX.ownBlock = some g ∨ w.heap.size ≤ g)) :
    RM (w9.setCell ⟨r, 1, none⟩ u) F r vN u vW vK off arm n L (X ++ [P]) wl kl := by
  have hrl := lt_of_block h.box
  have hbx : w9.heap[r]? = some (.cells (rC vN vX vW vK off arm n).toArray 62 (0, 0)) := by rw [hgr r hrl (fun e => h.ne.2.1 r e rfl)]; exact h.box
  have oth : ∀ g, g < w.heap.size → g ≠ r → vX.ownBlock ≠ some g → (w9.setCell ⟨r, 1, none⟩ u).heap[g]? = w.heap[g]? := fun g h1 h2 h3 => by
    rw [Below.heap_setCell _ _ _ _ h2, hgr g h1 h3]
  refine ⟨rbox hbx, ?_, ⟨?_, fun g hg => (huF g hg).1⟩, ?_, ?_, fun g hg e => ?_, h.nK, h.fr⟩
  · exact h.sN.keep (fun g hg => oth g (own_lt h.sN.1 hg) (h.ne.1 g hg) (fun e => h.nX g hg e)) fun _ h => h
  · have : (w9.setCell ⟨r, 1, none⟩ u).ownsRow 0 9 1 u (X.length + 1) (X.map sV ++ [sV P]) := own_keep hu fun g hg _ => Below.heap_setCell _ _ _ _ (fun e => by
      obtain ⟨c, q⟩ := own_blk hu hg
      rw [show g = r from e, hbx] at q; simp at q)
    rw [List.length_append, List.map_append]
    exact this
  · exact h.sW.keep (fun g hg => oth g (own_lt h.sW.1 hg) (h.ne.2.2.1 g hg) (fun e => blk_type h.sW.1 h.sX.1 hg e (by decide) rfl)) fun _ h => h
  · exact h.sK.keep (fun g hg => oth g (own_lt h.sK.1 hg) (h.ne.2.2.2 g hg) (fun e => blk_type h.sK.1 h.sX.1 hg e (by decide) rfl)) fun _ h => h
  · rcases (huF g e).2 with h1 | h1
    · exact h.nX g hg h1
    · have := own_lt h.sN.1 hg; omega
theorem Try.info9 : (Try.prog.info? 9).map (fun i => (i.zero, i.size, i.bytes)) = some (some (.string ByteArray.empty), 1, 16) := by kernel_rfl
theorem RM.below {w w' : World} {F : Nat → Prop} {r : Nat} {vN vX vW vK : Value} {off arm : Bool} {n : Int} {L X : List (List UInt8)} {wl kl : List Bool} (h : RM w F r vN vX vW vK off arm n L X wl kl) (hb : Below w.heap.size w w') : RM w' F r vN vX vW vK off arm n L X wl kl :=
  h.types fun k _ _ hk _ => hb.block k (lt_of_block hk)
/-- What an append of one string leaves. -/
theorem app_step {w7 w9 : World} {v : Value} {L : List (List UInt8)} {g9 cap9 : Nat} {P : List UInt8} (hown : w9.ownsRow 0 9 1 (.slice (some ⟨g9, 0, none⟩) (L.length + 1) cap9) (L.length + 1) (L.map sV ++ [.string (str P)])) (hgrow : (w7.alloc (.cells #[.string (str P)] 9)).grownBy w9 v.ownBlock) (hat : v.ownBlock = some g9 ∨ g9 = w7.heap.size + 1) :
    (∀ j, j < w7.heap.size → v.ownBlock ≠ some j → w9.heap[j]? = w7.heap[j]?) ∧ w9.ownsRow 0 9 1 (.slice (some ⟨g9, 0, none⟩) (L.length + 1) cap9) (L.length + 1) (L.map sV ++ [sV P]) ∧ (∀ g, (Value.slice (some ⟨g9, 0, none⟩) (L.length + 1) cap9).ownBlock = some g → v.ownBlock = some g ∨ w7.heap.size ≤ g) ∧ w7.heap.size + 1 ≤ w9.heap.size := by
  refine ⟨fun j hj hn => ?_, hown, fun g hg => ?_, by have := hgrow.size; simpa using this⟩
  · rw [hgrow.block j (by simp; omega) (fun e => hn e.symm)]; exact Below.heap_alloc _ _ _ hj
  · cases hg
    rcases hat with h | h
    · exact .inl h
    · exact .inr (by show w7.heap.size ≤ g9; omega)
theorem app_low {B : Nat} {w7 w9 : World} {v : Value} {P : List UInt8} (hgrow : (w7.alloc (.cells #[.string (str P)] 9)).grownBy w9 v.ownBlock) (hB : B ≤ w7.heap.size) (hv : ∀ g, v.ownBlock = some g → B ≤ g) : Below B w7 w9 :=
  ((Below.refl _ _).alloc hB _).grown hgrow (by simp; omega) hv
def z62 : Array Value := #[.slice none 0 0, .slice none 0 0, .slice none 0 0, .bool false, .bool false, .int .i64 0, .slice none 0 0]
theorem Try.info62 : (Try.prog.info? 62).map (fun i => (i.zero, i.size, i.bytes)) = some (some (.agg z62), 7, 112) := by kernel_rfl
theorem zero62 (w : World) : (zeroValue 62).run Try.prog w = .ok (.agg z62) w := by
  obtain ⟨i, hi, hz0, hz1, hz2⟩ := info_parts Try.info62
  simp [zeroValue, typeInfo, hi, hz0]
set_option maxHeartbeats 4000000 in
set_option maxRecDepth 100000 in
theorem rnew_any (pages : Int) (hp : pages ≤ 60) (w : World) :
    Calls Try.prog 10 #[.int .i64 pages] w fun e w' => ∃ r, e = .returned (.pointer (some ⟨r, 0, none⟩)) ∧ RO w' (fun k => w.heap.size ≤ k) r (mNew pages.toNat) ∧ Below w.heap.size w w' := by
  obtain ⟨i0, hi0, hz0', hz1', hz2'⟩ := info_parts Try.info9
  obtain ⟨n, hn, hn60, hmx⟩ : ∃ n : Nat, pages.toNat = n ∧ n ≤ 60 ∧ max pages 0 = (n : Int) := ⟨pages.toNat, rfl, by omega, by omega⟩
  have hmn : min (n : Int) 250 = (n : Int) := by omega
  rw [hn]
  clear hn hp
  have hmk := fun w1 => made_bools w1 n hn60
  have hz := zero62
  simp only [z62] at hz
  have hn0 : (0 : Int) ≤ (n : Int) := Int.natCast_nonneg _
  have hzs : Hid (∀ w, Calls Try.prog 25 #[.int .i64 32] w fun e w' => e = .returned (.string (str zp)) ∧ Below w.heap.size w w') := Hid.intro (zeros_any 32 (by omega))
  have hbox := heap_alloc_new (w.alloc (.cells (zb n) 4)) (.cells #[.slice none 0 0, .slice none 0 0, .slice (some ⟨w.heap.size, 0, none⟩) n n, .bool false, .bool false, .int .i64 0, .slice none 0 0] 62)
  have hsz1 : (w.alloc (.cells (zb n) 4)).heap.size = w.heap.size + 1 := by simp
  rw [hsz1] at hbox
  have hRM0 := Hid.intro (show RM ((w.alloc (.cells (zb n) 4)).alloc (.cells #[.slice none 0 0, .slice none 0 0, .slice (some ⟨w.heap.size, 0, none⟩) n n, .bool false, .bool false, .int .i64 0, .slice none 0 0] 62)) (fun k => w.heap.size ≤ k) (w.heap.size + 1) (.slice none 0 0) (.slice none 0 0) (.slice (some ⟨w.heap.size, 0, none⟩) n n) (.slice none 0 0) false false 0 [] [] (List.replicate n false) [] from
    ⟨hbox, ⟨World.ownsRow_nil _ _ _ _, fun g hg => (by cases hg)⟩, ⟨World.ownsRow_nil _ _ _ _, fun g hg => (by cases hg)⟩, ⟨⟨by simp, .inr ⟨w.heap.size, n, zb n, by rw [List.length_replicate], Nat.zero_le _, by rw [Below.heap_alloc _ _ _ (by simp)]; exact heap_alloc_new w _, by simp, by unfold maxLen; omega, by simp [zb], by simp [zb]⟩⟩, fun g hg => (by cases hg; exact Nat.le_refl _)⟩, br_nil _ _, fun g hg => (by cases hg), fun g hg e => (by cases e), Nat.le_succ _⟩)
  have hB0 := Hid.intro (show Below w.heap.size w ((w.alloc (.cells (zb n) 4)).alloc (.cells #[.slice none 0 0, .slice none 0 0, .slice (some ⟨w.heap.size, 0, none⟩) n n, .bool false, .bool false, .int .i64 0, .slice none 0 0] 62)) from ((Below.refl _ _).alloc (Nat.le_refl _) _).alloc (by simp) _)
  clear hbox
  go_enter Try.func10, Try.ntmps10
  go_wp2_with fail
  go_loopw [5] (fun kv wr => ∃ (k : Nat) (vN vX : Value), k ≤ n ∧ kv = .int .i64 (k : Int) ∧ RM wr (fun j => w.heap.size ≤ j) (w.heap.size + 1) vN vX (.slice (some ⟨w.heap.size, 0, none⟩) n n) (.slice none 0 0) false false 0 (List.replicate k zp) (List.replicate k zp) (List.replicate n false) [] ∧ Below w.heap.size w wr) (fun kv _ => n - (intOf kv).toNat)
  case atStart => exact ⟨0, _, _, Nat.zero_le _, rfl, hRM0.out, hB0.out⟩
  case round =>
    obtain ⟨k, vN, vX, hk, rfl, hRM, hB⟩ := hrel
    have k0 : (0 : Int) ≤ (k : Int) := Int.natCast_nonneg _
    have hc := rcells hRM.box
    have q0 := hc.c0
    have f0 := hc.fz 0
    have hRM' := Hid.intro hRM
    have hB' := Hid.intro hB
    have sB := hB.size
    have hrl := lt_of_block hRM.box
    by_cases hlt : k < n
    · have k1 : (k : Int) < (n : Int) := by omega
      obtain ⟨aN, cN, rfl⟩ := hRM.sN.form
      obtain ⟨aX, cX, rfl⟩ := hRM.sX.form
      rw [List.length_replicate] at *
      clear hRM hB hc
      go_wp2_with fail
      go_region_law (first
        | (refine step_append_lies _ (by rfl) _ _ 60 (by rfl) 0 9 i0 (.string ByteArray.empty) 1 16 Try.underlying60 hi0 hz0' hz1' hz2' rfl (by decide) (.slice aN k cN) k ((List.replicate k zp).map sV) (by rfl) (hw7.alloc _) ⟨w7.heap.size, 0, none⟩ 1 1 [.string (str zp)] (by rfl) (by rfl) (World.news_of_block (cs := #[.string (str zp)]) (t := 9) (fr := (0, 0)) (heap_alloc_new w7 _)) (by simp [Value.oneCell']) (by decide) (by unfold maxLen; omega) (by omega) (Nat.zero_le _) (w7.heap.size + 1) (by simp) ?_; intro g9 cap9 w9 hown9 hgrow9 hat9 hlt9; have hst := Hid.intro (app_step (L := List.replicate k zp) (by rw [List.length_replicate]; exact hown9) hgrow9 hat9); have q9 : w9.cell? ⟨w.heap.size + 1, 0, none⟩ = some (.slice aN k cN) := (by rw [World.cell?_of_block (w := w7) (a := ⟨w.heap.size + 1, 0, none⟩) (hst.out.1 _ (by show w.heap.size + 1 < w7.heap.size; omega) (fun e => hRM'.out.ne.1 _ e rfl))]; exact q7); have f9 : w9.frozen? ⟨w.heap.size + 1, 0, none⟩ = false := (by rw [World.frozen?_of_block (w := w7) (a := ⟨w.heap.size + 1, 0, none⟩) (hst.out.1 _ (by show w.heap.size + 1 < w7.heap.size; omega) (fun e => hRM'.out.ne.1 _ e rfl))]; exact (rcells (hRM'.out.below hb7'.out).box).fz 0); have hbl9 := Hid.intro (app_low (B := w.heap.size) hgrow9 (by omega) (fun g hg => hRM'.out.sN.2 g hg)); clear hown9 hgrow9 hat9 hlt9)
        | (go_simp; refine (hzs.out _).mono ?_; rintro e w7 ⟨rfl, hb7⟩; have hb7' := Hid.intro (below_drew hb7); have q7 : w7.cell? ⟨w.heap.size + 1, 0, none⟩ = some (.slice aN k cN) := (by rw [hb7'.out.cell (p := ⟨w.heap.size + 1, 0, none⟩) hrl]; exact q0); have hw7 : w7.ownsRow 0 9 1 (.slice aN k cN) k ((List.replicate k zp).map sV) := (by have := (hRM'.out.below hb7'.out).sN.1; rw [List.length_replicate] at this; exact this); have hz7 : w.heap.size + 1 < w7.heap.size := Nat.lt_of_lt_of_le hrl hb7'.out.size; clear hb7))
      all_goals
        have hRMb := Hid.intro ((hRM'.out.below hb7'.out).appendN zp hst.out.1 hst.out.2.1 (fun g hg => ⟨by
          have hx := hst.out.2.2.1 g hg
          rcases hx with hx | hx
          · exact hRM'.out.sN.2 g hx
          · show w.heap.size ≤ g; omega, hst.out.2.2.1 g hg⟩))
        have hBb := Hid.intro (((hB'.out.trans (hb7'.out.mono sB)).trans hbl9.out).setCell (p := ⟨w.heap.size + 1, 0, none⟩) (by show w.heap.size ≤ w.heap.size + 1; omega) (.slice (some ⟨g9, 0, none⟩) (k + 1) cap9))
        rw [List.length_replicate, ← List.replicate_succ'] at hRMb
        clear hst q9 f9 hbl9 hw7 hb7' q7 hz7
        go_wp2_with fail
        generalize w9.setCell ⟨w.heap.size + 1, 0, none⟩ (.slice (some ⟨g9, 0, none⟩) (k + 1) cap9) = wb at *
        generalize Value.slice (some ⟨g9, 0, none⟩) (k + 1) cap9 = vNb at *
        have hcb := rcells hRMb.out.box
        have q1 := hcb.c1
        have sBb := hBb.out.size
        have irl := lt_of_block hRMb.out.box
        clear hcb
        go_region_law (first
          | (refine step_append_lies _ (by rfl) _ _ 60 (by rfl) 0 9 i0 (.string ByteArray.empty) 1 16 Try.underlying60 hi0 hz0' hz1' hz2' rfl (by decide) (.slice aX k cX) k ((List.replicate k zp).map sV) (by rfl) (hu7.alloc _) ⟨u7.heap.size, 0, none⟩ 1 1 [.string (str zp)] (by rfl) (by rfl) (World.news_of_block (cs := #[.string (str zp)]) (t := 9) (fr := (0, 0)) (heap_alloc_new u7 _)) (by simp [Value.oneCell']) (by decide) (by unfold maxLen; omega) (by omega) (Nat.zero_le _) (u7.heap.size + 1) (by simp) ?_; intro h9 kap9 u9 iown9 hgrou9 iat9 ilt9; have ist := Hid.intro (app_step (L := List.replicate k zp) (by rw [List.length_replicate]; exact iown9) hgrou9 iat9); have p9 : u9.cell? ⟨w.heap.size + 1, 1, none⟩ = some (.slice aX k cX) := (by rw [World.cell?_of_block (w := u7) (a := ⟨w.heap.size + 1, 1, none⟩) (ist.out.1 _ (by show w.heap.size + 1 < u7.heap.size; omega) (fun e => hRMb.out.ne.2.1 _ e rfl))]; exact p7); have e9 : u9.frozen? ⟨w.heap.size + 1, 1, none⟩ = false := (by rw [World.frozen?_of_block (w := u7) (a := ⟨w.heap.size + 1, 1, none⟩) (ist.out.1 _ (by show w.heap.size + 1 < u7.heap.size; omega) (fun e => hRMb.out.ne.2.1 _ e rfl))]; exact (rcells (hRMb.out.below ib7'.out).box).fz 1); have ibl9 := Hid.intro (app_low (B := w.heap.size) hgrou9 (by omega) (fun g hg => hRMb.out.sX.2 g hg)); clear iown9 hgrou9 iat9 ilt9)
          | (go_simp; refine (hzs.out _).mono ?_; rintro e u7 ⟨rfl, ib7⟩; have ib7' := Hid.intro (below_drew ib7); have p7 : u7.cell? ⟨w.heap.size + 1, 1, none⟩ = some (.slice aX k cX) := (by rw [ib7'.out.cell (p := ⟨w.heap.size + 1, 1, none⟩) irl]; exact q1); have hu7 : u7.ownsRow 0 9 1 (.slice aX k cX) k ((List.replicate k zp).map sV) := (by have := (hRMb.out.below ib7'.out).sX.1; rw [List.length_replicate] at this; exact this); have iz7 : w.heap.size + 1 < u7.heap.size := Nat.lt_of_lt_of_le irl ib7'.out.size; clear ib7))
        all_goals
          have hRMc := Hid.intro ((hRMb.out.below ib7'.out).appendX zp ist.out.1 ist.out.2.1 (fun g hg => ⟨by
            have hx := ist.out.2.2.1 g hg
            rcases hx with hx | hx
            · exact hRMb.out.sX.2 g hx
            · show w.heap.size ≤ g; omega, ist.out.2.2.1 g hg⟩))
          have hBc := Hid.intro (((hBb.out.trans (ib7'.out.mono sBb)).trans ibl9.out).setCell (p := ⟨w.heap.size + 1, 1, none⟩) (by show w.heap.size ≤ w.heap.size + 1; omega) (.slice (some ⟨h9, 0, none⟩) (k + 1) kap9))
          rw [List.length_replicate, ← List.replicate_succ'] at hRMc
          clear ist p9 e9 ibl9 hu7 ib7' p7 iz7
          go_wp2
          go_roundw
          case rel => exact ⟨k + 1, _, _, by omega, by go_num, hRMc.out, hBc.out⟩
          case measure => simp [intOf]; omega
    · have hkn : k = n := by omega
      subst hkn
      have k1 : ¬ (k : Int) < (k : Int) := by omega
      have hwm : wetB (mNew k) = List.replicate k false := by
        unfold wetB mNew
        simp only [List.length_replicate]
        apply List.ext_getElem?
        intro i
        rw [List.getElem?_map, List.getElem?_replicate]
        by_cases h : i < k
        · rw [List.getElem?_range h, if_pos h]; simp
        · rw [List.getElem?_eq_none (by simp; omega), if_neg h]; rfl
      have hRO := Hid.intro (show RO wr (fun j => w.heap.size ≤ j) (w.heap.size + 1) (mNew k) from ⟨_, _, _, _, _, _, _, _, by rw [hwm]; exact hRM, ⟨rfl, rfl, fun e => (by cases e), by simp, by omega, by omega⟩⟩)
      clear hRM hB hc
      go_wp2
      go_ret
      exact ⟨_, rfl, hRO.out, hB'.out⟩
end Go.Proofs.Ytjjfdkgnagfbcaa
