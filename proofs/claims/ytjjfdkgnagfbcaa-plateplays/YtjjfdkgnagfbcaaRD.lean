/-
  The contract of the document's Fall.
-/
import Derived.Test.YtjjfdkgnagfbcaaRC
import Derived.Deep.Cut
import Derived.Deep.CutBlock
namespace Go.Proofs.Ytjjfdkgnagfbcaa
open Go.ChangeShapes Go.WideShapes Go.ChangeAt Go.RowKit
attribute [local go_sem ↓] Go.wp_at_zero Go.wp_at_succ
attribute [local go_sem] str_size str_extract str_append str_toList

theorem wetB_fall (M : MS) (K : Nat) : wetB (mFall M K) = List.replicate (mFall M K).L.length false := by
  apply List.ext_getElem?
  intro i
  unfold wetB
  rw [List.getElem?_map, List.getElem?_replicate]
  by_cases h : i < (mFall M K).L.length
  · rw [List.getElem?_range h, if_pos h]; simp [mFall]
  · rw [List.getElem?_eq_none (by simp; omega), if_neg h]; rfl
set_option maxHeartbeats 4000000 in
set_option maxRecDepth 100000 in
theorem rfall_fit {w : World} {F : Nat → Prop} {r : Nat} {M : MS} {kv : Value} {l : List Bool} (h : RO w F r M) (hF : ∀ k, F k → k < w.heap.size) (hok : Ok M) (hk : BoolsAt w kv l) (hkd : l ≠ [] → ∀ g, kv.ownBlock = some g → ¬ F g ∨ ∃ cur, w.heap[g]? = some (.cells cur 4 (0, 0))) (hl : l.length ≤ 60) :
    Calls Try.prog 38 #[.pointer (some ⟨r, 0, none⟩), kv] w fun e w' => ∃ u, e = .returned u ∧ RO w' (Fr F w) r (mOff M l).2 ∧ w'.ownsRow w.heap.size 3 1 u (mOff M l).1.length (intsV (mOff M l).1) ∧ Keep F w w' := by
  obtain ⟨ti0, hi0, hz0', hz1', hz2'⟩ := info_parts Try.info3
  have hO := Hid.intro h
  obtain ⟨vN, vX, vW, vK, off, arm, n0, kl, hm, hs⟩ := h
  have hof := hs.hoff
  obtain ⟨ak, ck, rfl⟩ := hk.form
  unfold mOff
  cases hon : M.on with
  | false =>
    rw [hon] at hof
    subst hof
    obtain ⟨_, _, _, c3, _, _, _, _⟩ := rcells hm.box
    clear hm hs hk hkd hon
    simp only [Bool.false_eq_true, if_false]
    go_enter Try.func38, Try.ntmps38
    go_wp2
    go_ret
    exact ⟨_, rfl, hO.out.wide fun _ h => .inl h, World.ownsRow_nil _ _ _ _, Keep.refl _⟩
  | true =>
    rw [hon] at hof
    subst hof
    simp only [if_true]
    have c3 := (rcells hm.box).c3
    have hn60 := hok.n60
    have hstart := Hid.intro hok.start
    have hfin := Hid.intro (hok.fall (kw l))
    have hXl := hok.len
    have hm' := Hid.intro hm
    have hs' := Hid.intro hs
    have hk' := Hid.intro hk
    have hkw := Hid.intro (fun i => kw_bit l i)
    have hwet := Hid.intro (fun k (h : k < M.L.length) => wetB_getD (M := M) h)
    have hwbl := Hid.intro (wetB_length M)
    have hFX := Hid.intro hm.sX.2
    have hkX : Hid (l ≠ [] → ∀ g, (Value.slice ak l.length ck).ownBlock = some g → vX.ownBlock ≠ some g) := Hid.intro (fun h0 g hg e => by
      rcases hkd h0 g hg with h1 | ⟨cur, h1⟩
      · exact h1 (hm.sX.2 g e)
      · obtain ⟨c2, h2⟩ := own_blk hm.sX.1 e
        rw [h1] at h2; simp at h2)
    clear hk hkd hO
    obtain ⟨aN, cN, rfl⟩ := hm.sN.form
    obtain ⟨aX, cX, rfl⟩ := hm.sX.form
    obtain ⟨aW, cW, rfl⟩ := own_form hm.sW.1
    rw [wetB_length] at *
    rw [hXl] at *
    clear hm hs
    generalize hln : l.length = n3 at *
    have hln' := Hid.intro hln
    clear hln
    generalize hnn : M.L.length = nn at *
    have hnn' := Hid.intro hnn
    clear hnn
    have nn0 : (0 : Int) ≤ (nn : Int) := Int.natCast_nonneg _
    have hLnn := Hid.intro hXl
    go_enter Try.func38, Try.ntmps38
    go_wp2_with fail
    go_loopw [5, 6, 7] (fun v iv kv wr => ∃ (k : Nat) (s : T3), k ≤ nn ∧ kv = .int .i64 (k : Int) ∧ iv = .int .i64 (((keptL M.W k).length : Nat) : Int) ∧ RM wr F r (.slice aN nn cN) (.slice aX nn cX) (.slice aW nn cW) vK false arm n0 M.L s.X (wetB M) kl ∧
      wr.ownsRow w.heap.size 3 1 v s.lost.length (intsV s.lost) ∧ (∀ g, v.ownBlock = some g → w.heap.size ≤ g) ∧ Keep F w wr ∧ (∀ g, (Value.slice aX nn cX).ownBlock ≠ some g → g < w.heap.size → wr.heap[g]? = w.heap[g]?) ∧
      FO nn ((keptL M.W nn).drop (keptL M.W k).length) s ∧ fl (kw l) (keptL M.W k).length ((keptL M.W nn).drop (keptL M.W k).length) s = fallT M (kw l) ∧ (∀ j, k ≤ j → s.L[j]? = M.L[j]?) ∧ s.lost.length ≤ (keptL M.W k).length) (fun _ _ kv _ => nn - (intOf kv).toNat)
    case atStart =>
      exact ⟨0, ⟨M.L, M.X, []⟩, Nat.zero_le _, rfl, rfl, hm'.out, World.ownsRow_nil _ _ _ _, (fun g hg => by cases hg), Keep.refl _, (fun _ _ _ => rfl), hstart.out, (by show fl _ 0 (List.drop 0 _) _ = _; rw [List.drop_zero]; show fl _ _ (keptL M.W nn) _ = fallT M (kw l); unfold fallT; rw [hnn'.out]), (fun _ _ => rfl), Nat.le_refl _⟩
    case round =>
      obtain ⟨k, s, hk, rfl, rfl, hRM, hv, hvg, hKp, hst, hFO, hfl, hsL, hll⟩ := hrel
      have k0 : (0 : Int) ≤ (k : Int) := Int.natCast_nonneg _
      obtain ⟨av, cv, rfl⟩ := own_form hv
      have hi60 : (keptL M.W k).length ≤ k := keptL_length _ _
      have hc := rcells hRM.box
      have q0 := hc.c0
      have q1 := hc.c1
      have q2 := hc.c2
      have hRM' := Hid.intro hRM
      have hv' := Hid.intro hv
      have hvg' := Hid.intro hvg
      have hKp' := Hid.intro hKp
      have hst' := Hid.intro hst
      have hsz := hKp.size
      by_cases hlt : k < nn
      · have k1 : (k : Int) < (nn : Int) := by omega
        obtain ⟨gW, rfl, qw, _⟩ := hRM.sW.at_ (k := k) (by rw [wetB_length, hnn'.out]) (by rw [wetB_length, hnn'.out]; exact hlt)
        rw [hwet.out k hlt] at qw
        cases hb : M.W.testBit k with
        | false =>
          rw [hb] at qw
          have hs2 : Hid (keptL M.W (k + 1) = keptL M.W k) := Hid.intro (by rw [keptL_succ, hb]; simp)
          have hFO' := Hid.intro hFO
          have hfl' := Hid.intro hfl
          have hsL' := Hid.intro hsL
          clear hRM hv hvg hKp hst hFO hfl hsL hc
          go_wp2
          go_roundw
          case rel => exact ⟨k + 1, s, by omega, by go_num, by rw [hs2.out], hRM'.out, hv'.out, hvg'.out, hKp'.out, hst'.out, by rw [hs2.out]; exact hFO'.out, by rw [hs2.out]; exact hfl'.out, fun j hj => hsL'.out j (by omega), by rw [hs2.out]; exact hll⟩
          case measure => simp [intOf]; omega
        | true =>
          rw [hb] at qw
          have hs2 : Hid (keptL M.W (k + 1) = keptL M.W k ++ [k]) := Hid.intro (by rw [keptL_succ, hb]; rfl)
          have hat := keptL_at hlt hb
          have hfl2 := Hid.intro ((fl_next (K := kw l) (s := s) hat).symm.trans hfl)
          rw [drop_next hat] at hFO
          have hFO2 := Hid.intro (hFO.step (K := kw l) (i := (keptL M.W k).length))
          have i0 : (0 : Int) ≤ (((keptL M.W k).length : Nat) : Int) := Int.natCast_nonneg _
          clear hat
          by_cases hin : (keptL M.W k).length < n3
          · have hin1 : (((keptL M.W k).length : Nat) : Int) < (n3 : Int) := by omega
            obtain ⟨gk, ok, rfl, hgk, _, qk⟩ := hk'.out.at_ (i := (keptL M.W k).length) (by rw [hln'.out]; exact hin)
            have hl0 : l ≠ [] := fun e => by have := hln'.out; rw [e] at this; simp at this; omega
            have qk' : wr.cell? ⟨gk, ok + (keptL M.W k).length, none⟩ = some (.bool (l.getD (keptL M.W k).length false)) := by
              rw [World.cell?_of_block (w := w) (hst gk (hkX.out hl0 gk rfl) hgk)]; exact qk
            cases hbit : l.getD (keptL M.W k).length false with
            | true =>
              rw [hbit] at qk'
              clear qk
              have hstp : Hid (stp (kw l) (keptL M.W k).length k s = { s with X := s.X.set k (pgAt s.L k) }) := Hid.intro (by unfold stp; rw [hkw.out, hbit]; rfl)
              have hsL2 : Hid (∀ j, k + 1 ≤ j → (stp (kw l) (keptL M.W k).length k s).L[j]? = M.L[j]?) := Hid.intro (fun j hj => by rw [hstp.out]; exact hsL j (by omega))
              have hpk : pgAt M.L k = pgAt s.L k := by unfold pgAt; rw [hsL k (Nat.le_refl _)]
              obtain ⟨gN, rfl, qn, _⟩ := hRM.sN.at_ (k := k) hnn'.out.symm (by rw [hnn'.out]; exact hlt)
              obtain ⟨gX, rfl, qx, fx⟩ := hRM.sX.at_ (k := k) hFO.lX.symm (by rw [hFO.lX]; exact hlt)
              have hgXl := own_lt hRM.sX.1 rfl
              have hgXF := hRM.sX.2 gX rfl
              rw [hpk] at qn
              have hRX := Hid.intro ((hRM.storeX (g := gX) rfl (pgAt s.L k) (by rw [hFO.lX]; exact hlt)).drew)
              have hKX := Hid.intro ((hKp.then (Keep.set (g := gX) (o := k) (u := .string (str (pgAt s.L k))) hgXF)).drew)
              have hvX := Hid.intro (show ((wr.setCell ⟨gX, k, none⟩ (.string (str (pgAt s.L k)))).drew).ownsRow w.heap.size 3 1 (.slice av s.lost.length cv) s.lost.length (intsV s.lost) from own_keep hv fun g hg _ => Below.heap_setCell _ _ _ _ (blk_type hv hRM.sX.1 hg rfl (by decide)))
              have hstX : Hid (∀ g, (Value.slice (some ⟨gX, 0, none⟩) nn cX).ownBlock ≠ some g → g < w.heap.size → ((wr.setCell ⟨gX, k, none⟩ (.string (str (pgAt s.L k)))).drew).heap[g]? = w.heap[g]?) := Hid.intro (fun g hgx hgl => (Below.heap_setCell wr ⟨gX, k, none⟩ _ g (fun e => hgx (by rw [e]; rfl))).trans (hst g hgx hgl))
              clear hRM hv hvg hKp hst hFO hfl hsL hc hpk
              generalize pgAt s.L k = Pk at *
              go_wp2_with fail
              go_region
              all_goals
                go_wp2
                go_roundw
                case rel => exact ⟨k + 1, stp (kw l) (keptL M.W k).length k s, by omega, by go_num, by rw [hs2.out, List.length_append]; rfl, by rw [hstp.out]; exact hRX.out, by rw [hstp.out]; exact hvX.out, hvg'.out, hKX.out, hstX.out, by rw [hs2.out, List.length_append]; exact hFO2.out, by rw [hs2.out, List.length_append]; exact hfl2.out, hsL2.out, by rw [hs2.out, hstp.out, List.length_append]; simp; omega⟩
                case measure => simp [intOf]; omega
            | false =>
              rw [hbit] at qk'
              clear qk
              have hstp : Hid (stp (kw l) (keptL M.W k).length k s = { s with L := s.L.set k (pgAt s.X k), lost := s.lost ++ [k] }) := Hid.intro (by unfold stp; rw [hkw.out, hbit]; rfl)
              have hsL2 : Hid (∀ j, k + 1 ≤ j → (stp (kw l) (keptL M.W k).length k s).L[j]? = M.L[j]?) := Hid.intro (fun j hj => by rw [hstp.out]; simp only; rw [List.getElem?_set_ne (by omega)]; exact hsL j (by omega))
              have hlost : Hid (∀ (w6 : World) (g6 cap6 : Nat), w6.ownsRow w.heap.size 3 1 (.slice (some ⟨g6, 0, none⟩) (s.lost.length + 1) cap6) (s.lost.length + 1) (intsV s.lost ++ [.int .i64 (k : Int)]) → (wr.alloc (.cells #[.int .i64 (k : Int)] 3)).grownBy w6 (Value.slice av s.lost.length cv).ownBlock → ((Value.slice av s.lost.length cv).ownBlock = some g6 ∨ g6 = wr.heap.size + 1) →
                  RM w6 F r (.slice aN nn cN) (.slice aX nn cX) (.slice (some ⟨gW, 0, none⟩) nn cW) vK false arm n0 M.L s.X (wetB M) kl ∧ w6.ownsRow w.heap.size 3 1 (.slice (some ⟨g6, 0, none⟩) (s.lost.length + 1) cap6) (s.lost ++ [k]).length (intsV (s.lost ++ [k])) ∧ (∀ g, (Value.slice (some ⟨g6, 0, none⟩) (s.lost.length + 1) cap6).ownBlock = some g → w.heap.size ≤ g) ∧ Keep F w w6 ∧ (∀ g, (Value.slice aX nn cX).ownBlock ≠ some g → g < w.heap.size → w6.heap[g]? = w.heap[g]?)) := Hid.intro (by
                intro w6 g6 cap6 ho hg hat
                have hgr : ∀ j, j < wr.heap.size → (∀ g, (Value.slice av s.lost.length cv).ownBlock = some g → j ≠ g) → w6.heap[j]? = wr.heap[j]? := fun j hj hn => by
                  rw [hg.block j (by simp; omega) (fun e => hn j e.symm rfl)]
                  exact Below.heap_alloc _ _ _ hj
                have hszg : wr.heap.size + 1 ≤ w6.heap.size := by have := hg.size; simpa using this
                refine ⟨hRM.types fun j cur t hj ht => hgr j (lt_of_block hj) (fun g hgv e => ?_), by simpa [intsV] using ho, fun g hgg => ?_, ⟨hg.os.trans hKp.os, hg.tape.trans hKp.tape, hg.output.trans hKp.output, by omega, fun j hj hnF => ?_⟩, fun g hgx hgl => ?_⟩
                · obtain ⟨c2, q⟩ := own_blk hv hgv
                  subst e
                  rw [hj] at q
                  simp at q
                  exact ht q.2
                · cases hgg
                  rcases hat with h1 | h1
                  · exact hvg _ h1
                  · show w.heap.size ≤ g6; omega
                · rw [hgr j (by omega) (fun g hgv => by have := hvg g hgv; omega)]; exact hKp.block j hj hnF
                · rw [hgr g (by omega) (fun g' hgv => by have := hvg g' hgv; omega)]; exact hst g hgx hgl)
              clear hRM hv hvg hKp hst hFO hfl hsL hc
              go_wp2_with (at_builtin; refine wpList_append_lies _ rfl _ _ 38 rfl w.heap.size 3 ti0 (.int .i64 0) 1 8 Try.underlying38 hi0 hz0' hz1' hz2' rfl (by decide) _ s.lost.length (intsV s.lost) rfl (hv'.out.alloc _) ⟨wr.heap.size, 0, none⟩ 1 1 [.int .i64 (k : Int)] rfl rfl (World.news_of_block (cs := #[.int .i64 (k : Int)]) (t := 3) (fr := (0, 0)) (heap_alloc_new wr _)) (by simp [Value.oneCell']) (by decide) (by unfold maxLen; omega) (by omega) (by simp; omega) (wr.heap.size + 1) (by simp) ?_; intro g6 cap6 w6 hown6 hgrow6 hat6 hlt6)
              have hpost := Hid.intro (hlost.out w6 g6 cap6 hown6 hgrow6 hat6)
              clear hown6 hgrow6 hat6 hlt6
              go_wp2
              go_roundw
              case rel => exact ⟨k + 1, stp (kw l) (keptL M.W k).length k s, by omega, by go_num, by rw [hs2.out, List.length_append]; rfl, by rw [hstp.out]; exact hpost.out.1, by rw [hstp.out]; exact hpost.out.2.1, hpost.out.2.2.1, hpost.out.2.2.2.1, hpost.out.2.2.2.2, by rw [hs2.out, List.length_append]; exact hFO2.out, by rw [hs2.out, List.length_append]; exact hfl2.out, hsL2.out, by rw [hs2.out, hstp.out, List.length_append]; simp; omega⟩
              case measure => simp [intOf]; omega
          · have hin1 : ¬ (((keptL M.W k).length : Nat) : Int) < (n3 : Int) := by omega
            have hbit : l.getD (keptL M.W k).length false = false := by rw [List.getD, List.getElem?_eq_none (by have := hln'.out; omega)]; rfl
            have hstp : Hid (stp (kw l) (keptL M.W k).length k s = { s with L := s.L.set k (pgAt s.X k), lost := s.lost ++ [k] }) := Hid.intro (by unfold stp; rw [hkw.out, hbit]; rfl)
            have hsL2 : Hid (∀ j, k + 1 ≤ j → (stp (kw l) (keptL M.W k).length k s).L[j]? = M.L[j]?) := Hid.intro (fun j hj => by rw [hstp.out]; simp only; rw [List.getElem?_set_ne (by omega)]; exact hsL j (by omega))
            have hlost : Hid (∀ (w6 : World) (g6 cap6 : Nat), w6.ownsRow w.heap.size 3 1 (.slice (some ⟨g6, 0, none⟩) (s.lost.length + 1) cap6) (s.lost.length + 1) (intsV s.lost ++ [.int .i64 (k : Int)]) → (wr.alloc (.cells #[.int .i64 (k : Int)] 3)).grownBy w6 (Value.slice av s.lost.length cv).ownBlock → ((Value.slice av s.lost.length cv).ownBlock = some g6 ∨ g6 = wr.heap.size + 1) →
                RM w6 F r (.slice aN nn cN) (.slice aX nn cX) (.slice (some ⟨gW, 0, none⟩) nn cW) vK false arm n0 M.L s.X (wetB M) kl ∧ w6.ownsRow w.heap.size 3 1 (.slice (some ⟨g6, 0, none⟩) (s.lost.length + 1) cap6) (s.lost ++ [k]).length (intsV (s.lost ++ [k])) ∧ (∀ g, (Value.slice (some ⟨g6, 0, none⟩) (s.lost.length + 1) cap6).ownBlock = some g → w.heap.size ≤ g) ∧ Keep F w w6 ∧ (∀ g, (Value.slice aX nn cX).ownBlock ≠ some g → g < w.heap.size → w6.heap[g]? = w.heap[g]?)) := Hid.intro (by
              intro w6 g6 cap6 ho hg hat
              have hgr : ∀ j, j < wr.heap.size → (∀ g, (Value.slice av s.lost.length cv).ownBlock = some g → j ≠ g) → w6.heap[j]? = wr.heap[j]? := fun j hj hn => by
                rw [hg.block j (by simp; omega) (fun e => hn j e.symm rfl)]
                exact Below.heap_alloc _ _ _ hj
              have hszg : wr.heap.size + 1 ≤ w6.heap.size := by have := hg.size; simpa using this
              refine ⟨hRM.types fun j cur t hj ht => hgr j (lt_of_block hj) (fun g hgv e => ?_), by simpa [intsV] using ho, fun g hgg => ?_, ⟨hg.os.trans hKp.os, hg.tape.trans hKp.tape, hg.output.trans hKp.output, by omega, fun j hj hnF => ?_⟩, fun g hgx hgl => ?_⟩
              · obtain ⟨c2, q⟩ := own_blk hv hgv
                subst e
                rw [hj] at q
                simp at q
                exact ht q.2
              · cases hgg
                rcases hat with h1 | h1
                · exact hvg _ h1
                · show w.heap.size ≤ g6; omega
              · rw [hgr j (by omega) (fun g hgv => by have := hvg g hgv; omega)]; exact hKp.block j hj hnF
              · rw [hgr g (by omega) (fun g' hgv => by have := hvg g' hgv; omega)]; exact hst g hgx hgl)
            clear hRM hv hvg hKp hst hFO hfl hsL hc
            go_wp2_with (at_builtin; refine wpList_append_lies _ rfl _ _ 38 rfl w.heap.size 3 ti0 (.int .i64 0) 1 8 Try.underlying38 hi0 hz0' hz1' hz2' rfl (by decide) _ s.lost.length (intsV s.lost) rfl (hv'.out.alloc _) ⟨wr.heap.size, 0, none⟩ 1 1 [.int .i64 (k : Int)] rfl rfl (World.news_of_block (cs := #[.int .i64 (k : Int)]) (t := 3) (fr := (0, 0)) (heap_alloc_new wr _)) (by simp [Value.oneCell']) (by decide) (by unfold maxLen; omega) (by omega) (by simp; omega) (wr.heap.size + 1) (by simp) ?_; intro g6 cap6 w6 hown6 hgrow6 hat6 hlt6)
            have hpost := Hid.intro (hlost.out w6 g6 cap6 hown6 hgrow6 hat6)
            clear hown6 hgrow6 hat6 hlt6
            go_wp2
            go_roundw
            case rel => exact ⟨k + 1, stp (kw l) (keptL M.W k).length k s, by omega, by go_num, by rw [hs2.out, List.length_append]; rfl, by rw [hstp.out]; exact hpost.out.1, by rw [hstp.out]; exact hpost.out.2.1, hpost.out.2.2.1, hpost.out.2.2.2.1, hpost.out.2.2.2.2, by rw [hs2.out, List.length_append]; exact hFO2.out, by rw [hs2.out, List.length_append]; exact hfl2.out, hsL2.out, by rw [hs2.out, hstp.out, List.length_append]; simp; omega⟩
            case measure => simp [intOf]; omega
      · have hkn : k = nn := by omega
        subst hkn
        have k1 : ¬ (k : Int) < (k : Int) := by omega
        have hdr : (keptL M.W k).drop (keptL M.W k).length = [] := List.drop_length
        rw [hdr] at hFO hfl
        have hfl2 : s = fallT M (kw l) := hfl
        have hsame : s.L = s.X := List.ext_getElem? fun j => hFO.same j (by simp)
        have hlost : Hid (s.lost = lostL M (kw l)) := Hid.intro (by rw [hfl2]; rfl)
        have hMf : Hid (mFall M (kw l) = ⟨false, s.X, s.X, 0, -1, 0⟩) := Hid.intro (by show (⟨false, (fallT M (kw l)).L, (fallT M (kw l)).X, 0, -1, 0⟩ : MS) = _; rw [← hfl2, hsame])
        have hwF : Hid (wetB (mFall M (kw l)) = List.replicate k false) := Hid.intro (by rw [wetB_fall, hMf.out]; simp only; rw [hFO.lX])
        obtain ⟨w6, hcp, hRM6, hK6⟩ := hRM.drew.copyN (by rw [hFO.lX, hnn'.out])
        rw [hnn'.out] at hcp
        obtain ⟨hRM7, hK7⟩ := hRM6.rewet (m := k) (by omega)
        have hmk := made_bools w6 k (by omega)
        have b1 := rbox (o := 3) (u := .bool true) hRM7.box
        have b2 := rbox (o := 4) (u := .bool false) b1
        have hRM9 := Hid.intro (hRM7.boxed (w' := (((w6.alloc (.cells (zb k) 4)).setCell ⟨r, 2, none⟩ (.slice (some ⟨w6.heap.size, 0, none⟩) k k)).setCell ⟨r, 3, none⟩ (.bool true)).setCell ⟨r, 4, none⟩ (.bool false)) b2 (fun j hj => by rw [Below.heap_setCell _ _ _ _ hj, Below.heap_setCell _ _ _ _ hj]))
        have hK9 := (Keep.of (F := F) (w := wr) below_drw).then (hK6.then (hK7.then ((Keep.set (F := F) (g := r) (o := 3) (u := .bool true) hRM.fr).then (Keep.set (F := F) (g := r) (o := 4) (u := .bool false) hRM.fr))))
        have hKall := Hid.intro (hKp.then hK9)
        have hv9 := Hid.intro (own_keep hv fun g hg _ => hK9.block g (own_lt hv hg) (fun e => by have := hvg g hg; have := hF g e; omega))
        have hRO : Hid (RO ((((w6.alloc (.cells (zb k) 4)).setCell ⟨r, 2, none⟩ (.slice (some ⟨w6.heap.size, 0, none⟩) k k)).setCell ⟨r, 3, none⟩ (.bool true)).setCell ⟨r, 4, none⟩ (.bool false)) (Fr F w) r (mFall M (kw l))) := Hid.intro (by
          have hfr : ∀ j, Fr F w6 j → Fr F w j := fun j hj => hj.elim .inl fun hj => .inr (by have := hK6.size; change wr.heap.size ≤ _ at this; omega)
          exact RO.wide ⟨.slice aN k cN, .slice aX k cX, .slice (some ⟨w6.heap.size, 0, none⟩) k k, vK, true, false, n0, kl, by rw [hwF.out, hMf.out]; exact hRM9.out, ⟨rfl, rfl, fun e => (by cases e), hs'.out.k60, hs'.out.n0, hs'.out.n1⟩⟩ hfr)
        have hrl6 : r < w6.heap.size := lt_of_block hRM6.box
        have hc6 := rcells hRM6.box
        have g0 := hc6.c0
        have g2 := hc6.c2
        have gf := hc6.fz 2
        have hc7 := rcells hRM7.box
        have e3 := hc7.c3
        have e3f := hc7.fz 3
        have e4 := hc7.c4
        have e4f := hc7.fz 4
        clear hRM hv hvg hKp hst hFO hfl hsL hc hRM6 hK6 hRM7 hK7 b1 b2 hRM9 hK9 hc6 hc7 hfl2 hsame hdr
        go_wp2_with fail
        go_region_law (refine step_copy_runI rfl _ _ 60 60 rfl _ _ (by simp [Act.eval]) (by simp [Act.eval]) (hcp _) ?_)
        all_goals
          go_upto_region 15 with fail
          have hsw : (w6.alloc (.cells (zb k) 4)).setCell ⟨r, 2, none⟩ (.slice (some ⟨w6.heap.size, 0, none⟩) k k) = (w6.setCell ⟨r, 2, none⟩ (.slice (some ⟨w6.heap.size, 0, none⟩) k k)).alloc (.cells (zb k) 4) := by simp [go_sem, hrl6]
          rw [hsw] at hRO hv9 hKall e3 e3f e4 e4f
          generalize (w6.setCell ⟨r, 2, none⟩ (.slice (some ⟨w6.heap.size, 0, none⟩) k k)).alloc (.cells (zb k) 4) = w7 at *
          clear hsw g0 g2 gf
          go_wp2
          go_ret
          exact ⟨_, rfl, hRO.out, by rw [← hlost.out]; exact hv9.out, hKall.out⟩
theorem RO.fit {w : World} {F : Nat → Prop} {r : Nat} {M : MS} (h : RO w F r M) : RO w (fun k => F k ∧ k < w.heap.size) r M := by
  obtain ⟨vN, vX, vW, vK, off, arm, n, kl, hm, hs⟩ := h
  exact ⟨vN, vX, vW, vK, off, arm, n, kl, ⟨hm.box, ⟨hm.sN.1, fun g hg => ⟨hm.sN.2 g hg, own_lt hm.sN.1 hg⟩⟩, ⟨hm.sX.1, fun g hg => ⟨hm.sX.2 g hg, own_lt hm.sX.1 hg⟩⟩, ⟨hm.sW.1, fun g hg => ⟨hm.sW.2 g hg, own_lt hm.sW.1 hg⟩⟩, ⟨hm.sK.1, fun g hg => ⟨hm.sK.2 g hg, own_lt hm.sK.1 hg⟩⟩, hm.nX, hm.nK, ⟨hm.fr, lt_of_block hm.box⟩⟩, hs⟩
theorem Fr.fit {F : Nat → Prop} {w : World} {k : Nat} (h : Fr (fun k => F k ∧ k < w.heap.size) w k) : Fr F w k := h.elim (fun h => .inl h.1) .inr
theorem rfall_any {w : World} {F : Nat → Prop} {r : Nat} {M : MS} {kv : Value} {l : List Bool} (h : RO w F r M) (hok : Ok M) (hk : BoolsAt w kv l) (hkd : l ≠ [] → ∀ g, kv.ownBlock = some g → ¬ F g ∨ ∃ cur, w.heap[g]? = some (.cells cur 4 (0, 0))) (hl : l.length ≤ 60) :
    Calls Try.prog 38 #[.pointer (some ⟨r, 0, none⟩), kv] w fun e w' => ∃ u, e = .returned u ∧ RO w' (Fr F w) r (mOff M l).2 ∧ w'.ownsRow w.heap.size 3 1 u (mOff M l).1.length (intsV (mOff M l).1) ∧ Keep F w w' :=
  (rfall_fit h.fit (fun _ h => h.2) hok hk (fun h0 g hg => (hkd h0 g hg).imp (fun h h' => h h'.1) id) hl).mono fun _ _ ⟨u, h1, h2, h3, h4⟩ => ⟨u, h1, h2.wide fun _ h => h.fit, h3, h4.mono fun _ _ h => h.1⟩
end Go.Proofs.Ytjjfdkgnagfbcaa
