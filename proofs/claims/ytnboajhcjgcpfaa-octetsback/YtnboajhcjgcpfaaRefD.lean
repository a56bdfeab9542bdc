/-
  The contract of the document's Extents.
-/
import Derived.Test.YtnboajhcjgcpfaaRefB
import Derived.Deep.QuietTactic
namespace Go.Proofs.Ytnboajhcjgcpfaa
open Go.ChangeShapes Go.WideShapes Go.ChangeAt Go.RowKit
attribute [local go_sem ↓] Go.wp_at_zero Go.wp_at_succ

theorem MO.set {w : World} {b : Nat} {m : List Int} (h : MO w b m) (hl : m.length = 64) (k : Nat) (hk : k < 64) (v : Int) : MO (w.setCell ⟨b, k, none⟩ (.int .i64 v)) b (m.set k v) :=
  ⟨irange_set v h.r (by omega), there_set h.t _ _⟩
theorem MO.far {w : World} {b g j : Nat} {m : List Int} {u : Value} (h : MO w b m) (hne : b ≠ g) : MO (w.setCell ⟨g, j, none⟩ u) b m := ⟨rangefar hne h.r, there_set h.t _ _⟩
theorem below_drwN (w : World) (n : Nat) : Below w.heap.size w (w.drewN n) := ⟨rfl, rfl, rfl, Nat.le_refl _, fun _ _ => rfl⟩
theorem mo_drewN {w : World} {b n : Nat} {m : List Int} (h : MO w b m) : MO (w.drewN n) b m := ⟨h.r, h.t⟩
theorem mo_grown {w w5 : World} {b : Nat} {m : List Int} {ob : Obj} {row : Option Nat} (h : MO w b m) (hb : b < w.heap.size) (hg : (w.alloc ob).grownBy w5 row) (hn : some b ≠ row) : MO w5 b m := by
  have h1 := h.below ((Below.refl w.heap.size w).alloc (Nat.le_refl _) ob) hb
  have h5 := hg.block b (by simp; omega) hn
  exact ⟨fun j v hv => by rw [World.cell?_of_block (w := w.alloc ob) (a := ⟨b, 0 + j, none⟩) h5]; exact h1.r j v hv, fun j hj => by
    rw [World.cell?_of_block (w := w.alloc ob) (a := ⟨b, 0 + j, none⟩) h5, World.frozen?_of_block (w := w.alloc ob) (a := ⟨b, 0 + j, none⟩) h5]; exact h1.t j hj⟩
theorem own_push {w : World} {base g cap : Nat} {L : List Ex} {x y z : Int} (h : w.ownsRow base 71 3 (.slice (some ⟨g, 0, none⟩) (L.length + 1) cap) (L.length + 1) (BkE.itemsV L ++ [.int .i64 x, .int .i64 y, .int .i64 z])) : w.ownsRow base 71 3 (.slice (some ⟨g, 0, none⟩) (L.length + 1) cap) (L ++ [(x, y, z)]).length (BkE.itemsV (L ++ [(x, y, z)])) := by
  rw [List.length_append, BkE.itemsV_append]; exact h
/-- The last extent's N is one more. -/
theorem eown_bump {w : World} {base g cap m : Nat} {init : List Ex} {f n d : Int} (hm : init.length = m) (h : w.ownsRow base 71 3 (.slice (some ⟨g, 0, none⟩) (m + 1) cap) (m + 1) (BkE.itemsV (init ++ [(f, n, d)]))) :
    (w.setCell ⟨g, m * 3 + 1, none⟩ (.int .i64 (n + 1))).ownsRow base 71 3 (.slice (some ⟨g, 0, none⟩) (m + 1) cap) (m + 1) (BkE.itemsV (init ++ [(f, n + 1, d)])) := by
  have := h.stored (m * 3 + 1) (.int .i64 (n + 1))
  have e : (BkE.itemsV (init ++ [(f, n, d)])).set (m * 3 + 1) (.int .i64 (n + 1)) = BkE.itemsV (init ++ [(f, n + 1, d)]) := by
    rw [BkE.itemsV_append, BkE.itemsV_append, List.set_append, if_neg (by rw [BkE.itemsV_length]; omega), BkE.itemsV_length]
    congr 1
    have : m * 3 + 1 - init.length * 3 = 1 := by omega
    rw [this]
    rfl
  rw [e] at this
  exact this.1
set_option maxRecDepth 100000 in
set_option maxHeartbeats 2000000 in
theorem refExt_any (m : List Int) (hs : Sane m) (w : World) :
    Calls Try.prog 41 #[.agg (iv m).toArray] w fun e w' => ∃ v L, e = .returned v ∧ w'.ownsRow w.heap.size 71 3 v L.length (BkE.itemsV L) ∧ Ti L ∧ (∀ k, val L k = mv m k) ∧ Below w.heap.size w w' := by
  obtain ⟨i0, hi0, hz0', hz1', hz2'⟩ := info_parts BkE.Try.infoE
  have hs' := Hid.intro hs
  have hm' := Hid.intro hs.1
  clear hs
  go_enter Try.func41, Try.ntmps41
  go_wp2_with fail
  go_loopw [3, 4] (fun ov jv wr => ∃ (k : Nat) (L : List Ex), k ≤ 64 ∧ jv = .int .i64 k ∧ wr.ownsRow (w.heap.size + 1) 71 3 ov L.length (BkE.itemsV L) ∧ Ti L ∧ (∀ j, val L j = if j < (k : Int) then mv m j else -1) ∧ MO wr w.heap.size m ∧ Below w.heap.size w wr) (fun _ jv _ => 64 - (intOf jv).toNat)
  case atStart => exact ⟨0, [], Nat.zero_le _, rfl, World.ownsRow_nil _ _ _ _, trivial, fun j => by
    by_cases h : j < 0
    · rw [if_pos (by omega)]; exact (mv_out hm'.out (by omega)).symm
    · rw [if_neg (by omega)]; rfl, MO.new w m hm'.out, (Below.refl _ _).alloc (Nat.le_refl _) _⟩
  case round =>
    obtain ⟨k, L, hk, rfl, hown, hTi, hval, hM, hB⟩ := hrel
    have k0 : (0 : Int) ≤ (k : Int) := Int.natCast_nonneg _
    have hL64 := ti_len hTi
    have hlt' := hM.lt
    by_cases hlt : k < 64
    · have k1 : (k : Int) < 64 := by omega
      have c0 := imv_cell hM.r k (by rw [hm'.out]; exact hlt)
      have hsn := hs'.out.2 (k : Nat)
      have HR := Hid.intro (And.intro hown hM)
      have hBB := Hid.intro hB
      have hnext : Hid (∀ j, (if j = (k : Int) then mv m (k : Nat) else if j < (k : Int) then mv m j else -1) = if j < ((k + 1 : Nat) : Int) then mv m j else -1) := Hid.intro (fun j => by
        by_cases e : j = (k : Int)
        · subst e; rw [if_pos rfl, if_pos (by omega)]
        · rw [if_neg e]
          by_cases h : j < (k : Int)
          · rw [if_pos h, if_pos (by omega)]
          · rw [if_neg h, if_neg (by omega)])
      obtain ⟨b, hb⟩ : ∃ b, Hid (mv m (k : Nat) = b) := ⟨_, rfl⟩
      rw [hb.out] at c0 hsn hnext
      have hnw : Hid (some w.heap.size ≠ u3.ownBlock) := Hid.intro (fun e => by have := (hown.lt _ e.symm).1; omega)
      clear hown hM hB
      by_cases hb0 : b < 0
      · have hbe : b = -1 := by omega
        have hsk : Hid (∀ j, val L j = if j < ((k + 1 : Nat) : Int) then mv m j else -1) := Hid.intro (fun j => by
          rw [hval, ← hnext.out j]
          by_cases e : j = (k : Int)
          · subst e; rw [if_neg (by omega), if_pos rfl]; exact hbe.symm
          · rw [if_neg e])
        have hTi' := Hid.intro hTi
        clear hval hTi hbe hsn
        go_wp2
        go_roundw
        case rel => exact ⟨k + 1, L, by omega, by go_num, HR.out.1, hTi'.out, hsk.out, HR.out.2, hBB.out⟩
        case measure => simp [intOf]; omega
      · have hb60 : b ≤ 60 := by omega
        have hbp : 0 ≤ b := by omega
        rcases Nat.eq_zero_or_pos k with hk0 | hk0
        · subst hk0
          have hpu : Hid (Ti (L ++ [((0 : Int), (1 : Int), b)]) ∧ ∀ j, val (L ++ [((0 : Int), (1 : Int), b)]) j = if j < ((0 + 1 : Nat) : Int) then mv m j else -1) := Hid.intro (by
            obtain ⟨q1, q2⟩ := ext_push (k := 0) (b := b) hTi (fun j hj => by rw [hval, if_neg (by omega)]) (by omega) (by omega) hbp hb60 (fun h => by have := h.1; rw [hval, if_pos (by omega), mv_out hm'.out (by omega)] at this; omega)
            exact ⟨q1, fun j => by rw [q2, hval]; exact hnext.out j⟩)
          clear hval hTi hsn
          go_wp2_with fail
          go_quiet (fail)
          go_wp2_with (at_builtin; refine wpList_append_lies _ rfl _ _ 30 rfl (w.heap.size + 1) 71 i0 (.agg #[.int .i64 0, .int .i64 0, .int .i64 0]) 3 24 Try.underlying30 hi0 hz0' hz1' hz2' rfl (by decide) _ L.length (BkE.itemsV L) rfl (HR.out.1.alloc _) ⟨wr.heap.size, 0, none⟩ 1 1 [.int .i64 0, .int .i64 1, .int .i64 b] rfl rfl (World.news_of_block (cs := #[.int .i64 0, .int .i64 1, .int .i64 b]) (t := 71) (fr := (0, 0)) (heap_alloc_new wr _)) (by simp [Value.oneCell']) (by decide) (by unfold maxLen; omega) (by omega) (by simp; omega) (wr.heap.size + 1) (by simp) ?_; intro g5 cap5 w5 hown5 hgrow5 hat5 hlt5)
          have hpg := Hid.intro (mo_grown (mo_drewN HR.out.2) hlt' hgrow5 hnw.out)
          have hpo := Hid.intro (own_push hown5)
          have hpb := Hid.intro (app_below (w2 := wr.drewN _) (hBB.out.trans ((below_drwN wr _).mono hBB.out.size)) hBB.out.size hgrow5 (fun j hj => by have := (HR.out.1.lt j hj).1; omega))
          clear hgrow5 hat5 hlt5 hown5
          go_roundw
          case rel => exact ⟨0 + 1, _, by omega, by go_num, hpo.out, hpu.out.1, hpu.out.2, hpg.out, hpb.out⟩
          case measure => simp [intOf] <;> omega
        · have c1 := imv_cell (HR.out.2.r) (k - 1) (by rw [hm'.out]; omega)
          have ek : ((k - 1 : Nat) : Int) = (k : Int) - 1 := by omega
          rw [ek] at c1
          have hva : val L ((k : Int) - 1) = mv m ((k : Int) - 1) := by rw [hval, if_pos (by omega)]
          have hsa := hs'.out.2 ((k : Int) - 1)
          obtain ⟨a, ha⟩ : ∃ a, Hid (mv m ((k : Int) - 1) = a) := ⟨_, rfl⟩
          rw [ha.out] at c1 hva hsa
          have kp : (0 : Int) < (k : Int) := by omega
          have hpu : Hid (¬ Jn a b → Ti (L ++ [((k : Int), (1 : Int), b)]) ∧ ∀ j, val (L ++ [((k : Int), (1 : Int), b)]) j = if j < ((k + 1 : Nat) : Int) then mv m j else -1) := Hid.intro (fun hJ => by
            obtain ⟨q1, q2⟩ := ext_push (k := (k : Int)) (b := b) hTi (fun j hj => by rw [hval, if_neg (by omega)]) (by omega) (by omega) hbp hb60 (fun h => hJ (by rw [← hva]; exact h.2))
            exact ⟨q1, fun j => by rw [q2, hval]; exact hnext.out j⟩)
          clear ek
          have a60 : a ≤ 60 := by omega
          have am1 : -1 ≤ a := by omega
          clear hsa hsn
          by_cases hbz : b = 0
          · by_cases haz : a = 0
            · subst hbz haz
              have hJ : Jn 0 0 := .inl ⟨rfl, rfl⟩
              obtain ⟨init, ⟨f, n, d⟩, rfl, hfn, hid⟩ := ext_last (k := (k : Int)) hTi (fun j hj => by rw [hval, if_neg (by omega)]) (by rw [hva]; omega)
              have hbu : Hid (Ti (init ++ [(f, n + 1, d)]) ∧ ∀ j, val (init ++ [(f, n + 1, d)]) j = if j < ((k + 1 : Nat) : Int) then mv m j else -1) := Hid.intro (by
                obtain ⟨q1, q2⟩ := ext_bump hTi hfn (by omega) hb60 (by rw [hid, hva]; exact hJ)
                exact ⟨q1, fun j => by rw [q2, hval, hnext.out]⟩)
              simp only at hfn
              have hal : Al (f, n, d) := (tp_al hTi (f, n, d) (by simp)).1
              unfold Al at hal
              simp only at hal
              have hlen : (init ++ [(f, n, d)]).length = init.length + 1 := by simp
              have hown : wr.ownsRow (w.heap.size + 1) 71 3 u3 (init ++ [(f, n, d)]).length (BkE.itemsV (init ++ [(f, n, d)])) := HR.out.1
              rw [hlen] at hown
              obtain ⟨g, cap, rfl, hgb, hgl⟩ := hown.form (by omega)
              have c1 : wr.cell? ⟨g, init.length * 3 + 1, none⟩ = some (.int .i64 n) := by
                rw [hown.cellAt (init.length * 3 + 1) (by omega)]
                exact (BkE.itemsV_get (init ++ [(f, n, d)]) init.length (f, n, d) (by simp)).2.1
              have c2 : wr.frozen? ⟨g, init.length * 3 + 1, none⟩ = false := hown.frozenAt _
              have hbo := Hid.intro hown
              have hbm := Hid.intro HR.out.2
              have hbb := Hid.intro hBB.out
              obtain ⟨n0, n1, n2⟩ : 0 ≤ n ∧ n ≤ 64 ∧ init.length ≤ 64 := ⟨by omega, by omega, by simp at hL64; omega⟩
              clear hid hTi hval hown hal HR hBB hfn hlen hJ hva hpu hnw
              go_wp2_with fail
              go_quiet (fail)
              go_wp2
              go_roundw
              case rel => exact ⟨k + 1, _, by omega, by go_num, by rw [List.length_append]; exact eown_bump (w := wr.drewN _) rfl hbo.out, hbu.out.1, hbu.out.2, (mo_drewN hbm.out).far (by omega), (hbb.out.trans ((below_drwN wr _).mono hbb.out.size)).setCell (by show w.heap.size ≤ g; omega) _⟩
              case measure => simp [intOf]; omega
            · have hpu := Hid.intro (hpu.out (by unfold Jn; omega))
              subst hbz
              have e1 : (a == 0) = false := by simp [haz]
              clear hval hTi hva haz
              go_wp2_with fail
              go_quiet (fail)
              go_wp2_with (at_builtin; refine wpList_append_lies _ rfl _ _ 30 rfl (w.heap.size + 1) 71 i0 (.agg #[.int .i64 0, .int .i64 0, .int .i64 0]) 3 24 Try.underlying30 hi0 hz0' hz1' hz2' rfl (by decide) _ L.length (BkE.itemsV L) rfl (HR.out.1.alloc _) ⟨wr.heap.size, 0, none⟩ 1 1 [.int .i64 (k : Int), .int .i64 1, .int .i64 0] rfl rfl (World.news_of_block (cs := #[.int .i64 (k : Int), .int .i64 1, .int .i64 0]) (t := 71) (fr := (0, 0)) (heap_alloc_new wr _)) (by simp [Value.oneCell']) (by decide) (by unfold maxLen; omega) (by omega) (by simp; omega) (wr.heap.size + 1) (by simp) ?_; intro g5 cap5 w5 hown5 hgrow5 hat5 hlt5)
              have hpg := Hid.intro (mo_grown (mo_drewN HR.out.2) hlt' hgrow5 hnw.out)
              have hpo := Hid.intro (own_push hown5)
              have hpb := Hid.intro (app_below (w2 := wr.drewN _) (hBB.out.trans ((below_drwN wr _).mono hBB.out.size)) hBB.out.size hgrow5 (fun j hj => by have := (HR.out.1.lt j hj).1; omega))
              clear hgrow5 hat5 hlt5 hown5
              go_roundw
              case rel => exact ⟨k + 1, _, by omega, by go_num, hpo.out, hpu.out.1, hpu.out.2, hpg.out, hpb.out⟩
              case measure => simp [intOf] <;> omega
          · have e1 : (b == 0) = false := by simp [hbz]
            have e2 : 0 < b := by omega
            by_cases hap : 0 < a
            · by_cases hbe : b = a + 1
              · have hJ : Jn a b := .inr ⟨e2, hap, hbe⟩
                have e3 : (b == a + 1) = true := by simp [hbe]
                have hbe' := Hid.intro hbe
                clear hbe hbz
                obtain ⟨init, ⟨f, n, d⟩, rfl, hfn, hid⟩ := ext_last (k := (k : Int)) hTi (fun j hj => by rw [hval, if_neg (by omega)]) (by rw [hva]; omega)
                have hbu : Hid (Ti (init ++ [(f, n + 1, d)]) ∧ ∀ j, val (init ++ [(f, n + 1, d)]) j = if j < ((k + 1 : Nat) : Int) then mv m j else -1) := Hid.intro (by
                  obtain ⟨q1, q2⟩ := ext_bump hTi hfn (by omega) hb60 (by rw [hid, hva]; exact hJ)
                  exact ⟨q1, fun j => by rw [q2, hval, hnext.out]⟩)
                simp only at hfn
                have hal : Al (f, n, d) := (tp_al hTi (f, n, d) (by simp)).1
                unfold Al at hal
                simp only at hal
                have hlen : (init ++ [(f, n, d)]).length = init.length + 1 := by simp
                have hown : wr.ownsRow (w.heap.size + 1) 71 3 u3 (init ++ [(f, n, d)]).length (BkE.itemsV (init ++ [(f, n, d)])) := HR.out.1
                rw [hlen] at hown
                obtain ⟨g, cap, rfl, hgb, hgl⟩ := hown.form (by omega)
                have c1 : wr.cell? ⟨g, init.length * 3 + 1, none⟩ = some (.int .i64 n) := by
                  rw [hown.cellAt (init.length * 3 + 1) (by omega)]
                  exact (BkE.itemsV_get (init ++ [(f, n, d)]) init.length (f, n, d) (by simp)).2.1
                have c2 : wr.frozen? ⟨g, init.length * 3 + 1, none⟩ = false := hown.frozenAt _
                have hbo := Hid.intro hown
                have hbm := Hid.intro HR.out.2
                have hbb := Hid.intro hBB.out
                obtain ⟨n0, n1, n2⟩ : 0 ≤ n ∧ n ≤ 64 ∧ init.length ≤ 64 := ⟨by omega, by omega, by simp at hL64; omega⟩
                clear hid hTi hval hown hal HR hBB hfn hlen hJ hva hpu hnw
                go_wp2_with fail
                go_quiet (fail)
                go_wp2
                go_roundw
                case rel => exact ⟨k + 1, _, by omega, by go_num, by rw [List.length_append]; exact eown_bump (w := wr.drewN _) rfl hbo.out, hbu.out.1, hbu.out.2, (mo_drewN hbm.out).far (by omega), (hbb.out.trans ((below_drwN wr _).mono hbb.out.size)).setCell (by show w.heap.size ≤ g; omega) _⟩
                case measure => simp [intOf]; omega
              · have hpu := Hid.intro (hpu.out (by unfold Jn; omega))
                have e3 : (b == a + 1) = false := by simp [hbe]
                clear hval hTi hva hbe hbz
                go_wp2_with fail
                go_quiet (fail)
                go_wp2_with (at_builtin; refine wpList_append_lies _ rfl _ _ 30 rfl (w.heap.size + 1) 71 i0 (.agg #[.int .i64 0, .int .i64 0, .int .i64 0]) 3 24 Try.underlying30 hi0 hz0' hz1' hz2' rfl (by decide) _ L.length (BkE.itemsV L) rfl (HR.out.1.alloc _) ⟨wr.heap.size, 0, none⟩ 1 1 [.int .i64 (k : Int), .int .i64 1, .int .i64 b] rfl rfl (World.news_of_block (cs := #[.int .i64 (k : Int), .int .i64 1, .int .i64 b]) (t := 71) (fr := (0, 0)) (heap_alloc_new wr _)) (by simp [Value.oneCell']) (by decide) (by unfold maxLen; omega) (by omega) (by simp; omega) (wr.heap.size + 1) (by simp) ?_; intro g5 cap5 w5 hown5 hgrow5 hat5 hlt5)
                have hpg := Hid.intro (mo_grown (mo_drewN HR.out.2) hlt' hgrow5 hnw.out)
                have hpo := Hid.intro (own_push hown5)
                have hpb := Hid.intro (app_below (w2 := wr.drewN _) (hBB.out.trans ((below_drwN wr _).mono hBB.out.size)) hBB.out.size hgrow5 (fun j hj => by have := (HR.out.1.lt j hj).1; omega))
                clear hgrow5 hat5 hlt5 hown5
                go_roundw
                case rel => exact ⟨k + 1, _, by omega, by go_num, hpo.out, hpu.out.1, hpu.out.2, hpg.out, hpb.out⟩
                case measure => simp [intOf] <;> omega
            · have hpu := Hid.intro (hpu.out (by unfold Jn; omega))
              have e5 : decide (0 < a) = false := by simp; omega
              clear hval hTi hva hbz hap
              go_wp2_with fail
              go_quiet (fail)
              go_wp2_with (at_builtin; refine wpList_append_lies _ rfl _ _ 30 rfl (w.heap.size + 1) 71 i0 (.agg #[.int .i64 0, .int .i64 0, .int .i64 0]) 3 24 Try.underlying30 hi0 hz0' hz1' hz2' rfl (by decide) _ L.length (BkE.itemsV L) rfl (HR.out.1.alloc _) ⟨wr.heap.size, 0, none⟩ 1 1 [.int .i64 (k : Int), .int .i64 1, .int .i64 b] rfl rfl (World.news_of_block (cs := #[.int .i64 (k : Int), .int .i64 1, .int .i64 b]) (t := 71) (fr := (0, 0)) (heap_alloc_new wr _)) (by simp [Value.oneCell']) (by decide) (by unfold maxLen; omega) (by omega) (by simp; omega) (wr.heap.size + 1) (by simp) ?_; intro g5 cap5 w5 hown5 hgrow5 hat5 hlt5)
              have hpg := Hid.intro (mo_grown (mo_drewN HR.out.2) hlt' hgrow5 hnw.out)
              have hpo := Hid.intro (own_push hown5)
              have hpb := Hid.intro (app_below (w2 := wr.drewN _) (hBB.out.trans ((below_drwN wr _).mono hBB.out.size)) hBB.out.size hgrow5 (fun j hj => by have := (HR.out.1.lt j hj).1; omega))
              clear hgrow5 hat5 hlt5 hown5
              go_roundw
              case rel => exact ⟨k + 1, _, by omega, by go_num, hpo.out, hpu.out.1, hpu.out.2, hpg.out, hpb.out⟩
              case measure => simp [intOf] <;> omega
    · have hk' : k = 64 := by omega
      subst hk'
      have hv' : Hid (∀ k, val L k = mv m k) := Hid.intro (fun j => by
        rw [hval]
        by_cases h : j < 64
        · rw [if_pos (by omega)]
        · rw [if_neg (by omega), mv_out hm'.out (by omega)])
      have hTi' := Hid.intro hTi
      clear hval hTi hM
      go_wp2
      go_ret
      exact ⟨_, L, rfl, BkE.own_mono hown (Nat.le_succ _), hTi'.out, hv'.out, hB⟩
/-- The law's Tidy: the tidy list of a list. -/
theorem lawTidy_any {w : World} {v : Value} {l : List Ex} (hr : BkE.Row w v l) (hl : l.length ≤ 1000000) :
    Calls Try.prog 32 #[v] w fun e w' => ∃ v L, e = .returned v ∧ w'.ownsRow w.heap.size 71 3 v L.length (BkE.itemsV L) ∧ Ti L ∧ (∀ k, val L k = mv (mOf l) k) ∧ Below w.heap.size w w' := by
  go_enter Try.func32, Try.ntmps32
  go_wp2_with fail
  refine (refOf_any hr hl).mono ?_; rintro e w1 ⟨rfl, hb⟩
  go_wp2_with fail
  refine (refExt_any (mOf l) (mOf_sane l) w1).mono ?_; rintro e w2 ⟨v2, L, rfl, ho, ht, hv, hb2⟩
  go_wp2
  go_ret
  exact ⟨_, L, rfl, BkE.own_mono ho hb.size, ht, hv, hb.trans (hb2.mono hb.size)⟩
end Go.Proofs.Ytnboajhcjgcpfaa
