/-
  The contract of the law's Is: a disk and the document's that are the same.
-/
import Derived.Test.YtjjfdkgnagfbcaaRG
import Derived.Test.YtjjfdkgnagfbcaaRF
namespace Go.Proofs.Ytjjfdkgnagfbcaa
open Go.ChangeShapes Go.WideShapes Go.ChangeAt Go.RowKit
attribute [local go_sem ↓] Go.wp_at_zero Go.wp_at_succ
attribute [local go_sem] str_size str_extract str_append str_toList

set_option maxHeartbeats 4000000 in
set_option maxRecDepth 100000 in
theorem is_any {w : World} {p gl gf : Nat} {F : Nat → Prop} {r : Nat} {M : MS} (hP : PO w p gl gf M) (hR : RO w F r M) :
    Calls Try.prog 11 #[.pointer (some ⟨p, 0, none⟩), .pointer (some ⟨r, 0, none⟩)] w fun e w' => e = .returned (.bool true) ∧ Below w.heap.size w w' := by
  obtain ⟨i0, hi0, hz0', hz1', hz2'⟩ := info_parts Try.info3
  have hGp := Hid.intro (fun (k : Int) (w' : World) (h : PO w' p gl gf M) => get_any h k)
  have hGr := Hid.intro (fun (k : Int) (w' : World) (h : RO w' F r M) => rget_any h k)
  have hOn := Hid.intro (fun (w' : World) (h : PO w' p gl gf M) => on_any h)
  have hPg := Hid.intro (fun (w' : World) (h : PO w' p gl gf M) => pages_any h)
  have hWe := Hid.intro (fun (w' : World) (h : PO w' p gl gf M) => wet_any h)
  have hP' := Hid.intro hP
  have hR' := Hid.intro hR
  have hB60 := hP.ok.n60
  obtain ⟨vN, vX, vW, vK, off, arm, n0, kl, hm, hs⟩ := hR
  have hoff := hs.hoff
  obtain ⟨aN, cN, rfl⟩ := hm.sN.form
  obtain ⟨aW, cW, hvW⟩ := own_form hm.sW.1
  rw [wetB_length] at hvW
  subst hvW
  have hm' := Hid.intro hm
  have hSt := Hid.intro (fun (w' : World) (hb : Below w.heap.size w w') => rcells (hm.stay (G := F) (fun k hk _ => hb.block k hk) (fun _ h => h)).box)
  have hWt := Hid.intro (fun (w' : World) (hb : Below w.heap.size w w') (k : Nat) (hk : k < M.L.length) => (by
    have := (hm.stay (G := F) (fun k hk _ => hb.block k hk) (fun _ h => h)).sW.at_ (k := k) (wetB_length M).symm (by rw [wetB_length]; exact hk)
    rwa [wetB_getD hk] at this : ∃ g, aW = some ⟨g, 0, none⟩ ∧ w'.cell? ⟨g, k, none⟩ = some (.bool (M.W.testBit k)) ∧ w'.frozen? ⟨g, k, none⟩ = false))
  clear hP hm hs
  generalize hk : M.L.length = B at *
  have hk' := Hid.intro hk
  clear hk
  subst hoff
  generalize hK : M.W = K at *
  generalize ho : M.on = on at *
  clear hK ho
  go_enter Try.func11, Try.ntmps11
  go_wp2_with fail
  go_loopw [5, 6] (fun v kv wr => ∃ k : Nat, k ≤ B ∧ kv = .int .i64 (k : Int) ∧ wr.ownsRow w.heap.size 3 1 v (keptL K k).length (intsV (keptL K k)) ∧ Below w.heap.size w wr) (fun _ kv _ => B - (intOf kv).toNat)
  case atStart => exact ⟨0, Nat.zero_le _, rfl, World.ownsRow_nil _ _ _ _, Below.refl _ _⟩
  case round =>
    obtain ⟨k, hk, rfl, hown, hB⟩ := hrel
    have k0 : (0 : Int) ≤ (k : Int) := Int.natCast_nonneg _
    have hown' := Hid.intro hown
    have hB' := Hid.intro hB
    have hsz := hB.size
    clear hown hB
    obtain ⟨c0, _, c2, c3, _, _, _, _⟩ := hSt.out wr hB'.out
    by_cases hlt : k < B
    · have i1 : (k : Int) < (B : Int) := by omega
      obtain ⟨g, rfl, hc, _⟩ := hWt.out wr hB'.out k hlt
      have hlen := keptL_length K k
      cases hb : K.testBit k with
      | true =>
        rw [hb] at hc
        have hs2 : Hid (keptL K (k + 1) = keptL K k ++ [k]) := Hid.intro (by rw [keptL_succ, hb]; rfl)
        clear hb
        go_wp2_with (at_builtin; refine wpList_append_lies _ rfl _ _ 38 rfl w.heap.size 3 i0 (.int .i64 0) 1 8 Try.underlying38 hi0 hz0' hz1' hz2' rfl (by decide) _ (keptL K k).length (intsV (keptL K k)) rfl (hown'.out.alloc _) ⟨wr.heap.size, 0, none⟩ 1 1 [.int .i64 (k : Int)] rfl rfl (World.news_of_block (cs := #[.int .i64 (k : Int)]) (t := 3) (fr := (0, 0)) (heap_alloc_new wr _)) (by simp [Value.oneCell']) (by decide) (by unfold maxLen; omega) (by omega) (by simp; omega) (wr.heap.size + 1) (by simp) ?_; intro g5 cap5 w5 hown5 hgrow5 hat5 hlt5)
        go_roundw
        case rel =>
          refine ⟨k + 1, by omega, by go_num, by rw [hs2.out]; simpa [intsV] using hown5, ?_⟩
          exact (hB'.out.alloc hB'.out.size _).grown hgrow5 (by have := hB'.out.size; simp; omega) (fun j hj => (hown'.out.lt j hj).1)
        case measure => simp [intOf]; omega
      | false =>
        rw [hb] at hc
        have hs2 : Hid (keptL K (k + 1) = keptL K k) := Hid.intro (by rw [keptL_succ, hb]; simp)
        clear hb
        go_wp2
        go_roundw
        case rel => exact ⟨k + 1, by omega, by go_num, by rw [hs2.out]; exact hown'.out, hB'.out⟩
        case measure => simp [intOf]; omega
    · have hkm : k = B := by omega
      subst hkm
      have i1 : ¬ (k : Int) < (k : Int) := by omega
      have hPw := Hid.intro (hP'.out.below hB'.out)
      obtain ⟨av, cv, rfl⟩ := own_form hown'.out
      have hll := Hid.intro (show (keptL K k).length ≤ 1000000 from by have := keptL_length K k; omega)
      have n1 : (on == !on) = false := by cases on <;> rfl
      have n2 : ((k : Int) != (k : Int)) = false := by simp
      go_wp2_with fail
      go_region_held3 (fun w' => w'.cell? ⟨r, 3, none⟩ = some (.bool (!on)) ∧ w'.cell? ⟨r, 0, none⟩ = some (.slice aN k cN))
        (first
          | exact ⟨c3, c0⟩
          | exact ⟨(hSt.out _ S3.out).c3, (hSt.out _ S3.out).c0⟩
          | exact ⟨(hSt.out _ S2.out).c3, (hSt.out _ S2.out).c0⟩)
        (first
          | (go_at_call 24; refine (hOn.out _ (hPw.out.below below_drw)).mono ?_; rintro e w11 ⟨rfl, rfl⟩)
          | (go_at_call 21; refine (hPg.out _ (hPw.out.below below_drw)).mono ?_; rintro e w12 ⟨rfl, rfl⟩)
          | (go_at_call 20; refine (hWe.out _ (hPw.out.below below_drw)).mono ?_; rintro e w13 ⟨vw, rfl, o13, c13⟩; obtain ⟨aw, cw, rfl⟩ := own_form o13; have O13 := Hid.intro o13; have S2 := Hid.intro (hB'.out.drew.trans (c13.mono hB'.out.drew.size)); have S2r := Hid.intro c13; clear o13 c13)
          | (go_at_call 26; refine (sameInts_any O13.out (own_below (hown'.out) (Below.trans below_drw S2r.out)) hll.out).mono ?_; rintro e w14 ⟨rfl, c14⟩; have S3 := Hid.intro (S2.out.trans (c14.mono S2.out.size)); clear c14))
      all_goals
        go_wp2_with fail
        go_loopw [7] (fun kv wr2 => ∃ x : Int, -1 ≤ x ∧ x ≤ (k : Int) + 1 ∧ kv = .int .i64 x ∧ Below w.heap.size w wr2) (fun kv _ => ((k : Int) + 1 - intOf kv).toNat)
        case atStart => exact ⟨-1, by omega, by omega, rfl, S3.out⟩
        case round =>
          obtain ⟨x, hx0, hx1, rfl, hBx⟩ := hrel
          have hBx' := Hid.intro hBx
          obtain ⟨d0, _, _, _, _, _, _, _⟩ := hSt.out _ hBx
          clear hBx
          by_cases hxB : x ≤ (k : Int)
          · have hg1 := hGp.out x _ (hP'.out.below hBx'.out)
            have hg2 := hGr.out x _ (hR'.out.below hBx'.out)
            generalize mGetS M x = G1 at *
            generalize mGetE M x = G2 at *
            have n4 : (G2 != G2) = false := by simp
            have n5 : ((str G1).toList == (str G1).toList) = true := by simp
            go_wp2_with fail
            refine hg1.mono ?_; rintro e w21 ⟨rfl, rfl⟩
            go_wp2_with fail
            refine hg2.mono ?_; rintro e w22 ⟨rfl, rfl⟩
            go_wp2
            go_roundw
            case rel => exact ⟨x + 1, by omega, by omega, by go_num, hBx'.out⟩
            case measure => simp [intOf]; omega
          · go_wp2
            go_ret
            exact ⟨rfl, hBx'.out⟩
end Go.Proofs.Ytjjfdkgnagfbcaa
