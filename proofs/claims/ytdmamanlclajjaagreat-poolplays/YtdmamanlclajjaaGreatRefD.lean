/-
  The document's pool: Put.
-/
import Derived.Test.YtdmamanlclajjaaGreatRefC
namespace Go.Proofs.YtdmamanlclajjaaGreat
open Go.ChangeShapes Go.WideShapes Go.ChangeAt Go.RowKit
attribute [local go_sem] str_size

set_option maxHeartbeats 1000000 in
set_option maxRecDepth 100000 in
theorem rPut_len {w : World} {a : Option Addr} {c : Nat} {L : List Bl} (most : Nat) (h : Rf w (.slice a L.length c) L) (b : List UInt8) (h8 : b.length ≠ 8) :
    Calls Tryz.prog 6 #[.agg #[.int .i64 most, .slice a L.length c], .string (str b)] w fun e w' => ∃ v', e = .returned (.tuple #[.agg #[.int .i64 most, v'], .int .i64 0, .int .i64 1]) ∧ RefOut w w' (.slice a L.length c) v' L := by
  have h' := Hid.intro h.row
  have hf' := Hid.intro h
  have hbe : ((b.length : Int) != 8) = true := by simp; omega
  clear h
  go_enter Tryz.func6, Tryz.ntmps6
  go_wp2
  refine bodyPost_ret (v := .tuple #[.agg #[.int .i64 most, .slice a L.length c], .int .i64 0, .int .i64 1]) (by simp [results, Tryz.results6, go_sem]) rfl ⟨_, rfl, ?_⟩
  exact RefOut.same hf'.out bel_boxes

set_option maxHeartbeats 1000000 in
set_option maxRecDepth 100000 in
theorem rPut_zer {w : World} {a : Option Addr} {c : Nat} {L : List Bl} (most : Nat) (h : Rf w (.slice a L.length c) L) :
    Calls Tryz.prog 6 #[.agg #[.int .i64 most, .slice a L.length c], .string (str zer)] w fun e w' => ∃ v', e = .returned (.tuple #[.agg #[.int .i64 most, v'], .int .i64 0, .int .i64 0]) ∧ RefOut w w' (.slice a L.length c) v' L := by
  have h' := Hid.intro h.row
  have hf' := Hid.intro h
  have hzl : zer.length = 8 := rfl
  have hz : allZ zer = true := rfl
  have hbe : ((zer.length : Int) != 8) = false := by rw [hzl]; rfl
  clear h
  generalize zer = b at *
  go_enter Tryz.func6, Tryz.ntmps6
  go_wp2_with fail
  refine (refZero_any b _ (by omega)).mono ?_; rintro e w1 ⟨rfl, rfl⟩
  go_wp2
  refine bodyPost_ret (v := .tuple #[.agg #[.int .i64 most, .slice a L.length c], .int .i64 0, .int .i64 0]) (by simp [results, Tryz.results6, go_sem]) rfl ⟨_, rfl, ?_⟩
  exact RefOut.same hf'.out bel_boxes

set_option maxHeartbeats 1000000 in
set_option maxRecDepth 100000 in
theorem rPut_found {w : World} {a : Option Addr} {c : Nat} {L : List Bl} (most : Nat) (h : Bk.Row w (.slice a L.length c) L) (b : List UInt8) (h8 : b.length = 8) (hz : ¬ b = zer) (hf : 0 < find L b) (hl : L.length ≤ 1000) (hR : ∀ q ∈ L, 0 < q.2.1 ∧ q.2.1 ≤ 1000000) :
    Calls Tryz.prog 6 #[.agg #[.int .i64 most, .slice a L.length c], .string (str b)] w fun e w' => ∃ v', e = .returned (.tuple #[.agg #[.int .i64 most, v'], .int .i64 (find L b), .int .i64 0]) ∧ RefOut w w' (.slice a L.length c) v' (rfL L (find L b) 1) := by
  have h' := Hid.intro h
  have hR' := Hid.intro hR
  have hbe : ((b.length : Int) != 8) = false := by rw [h8]; rfl
  have hzz : allZ b = false := by rw [allZ_zer h8]; exact decide_eq_false hz
  have hfi := Hid.intro (rFind_any (most : Int) (row_boxes (u := .int .i64 most) (v := .slice a L.length c) h'.out) b hl)
  clear h hR hz
  generalize find L b = id at *
  go_enter Tryz.func6, Tryz.ntmps6
  go_wp2_with fail
  refine (refZero_any b _ (by omega)).mono ?_; rintro e w0 ⟨rfl, rfl⟩
  go_wp2_with fail
  refine hfi.out.mono ?_; rintro e w1 ⟨rfl, hb⟩
  obtain ⟨hB, hsz, hp, hr⟩ := after_boxes hb
  obtain ⟨p0, p1, _, _⟩ := box_at hp
  have hB' := Hid.intro hB
  have hr' := Hid.intro hr
  have hrf := Hid.intro (rRefs_any (most : Int) (h'.out.below hB'.out) id 1 hl hR'.out (by omega) (by omega))
  clear hfi hB hb hp hr
  go_wp2_with fail
  refine hrf.out.mono ?_; rintro e w2 ⟨v2, rfl, ho2, hb2⟩
  have hr2 : w2.heap[w.heap.size + 1]? = some (.cells #[.int .i64 0, .slice none 0 0] 28 (0, 0)) := by rw [hb2.block _ (by omega)]; exact hr'.out
  obtain ⟨s0, s1, y0, y1⟩ := box_at hr2
  obtain ⟨a2, c2, rfl⟩ := Bk.own_form ho2
  have ho2' := Hid.intro ho2
  have hb2' := Hid.intro hb2
  clear hr2 ho2 hb2 p0 p1 hrf
  go_wp2
  refine bodyPost_ret (v := .tuple #[.agg #[.int .i64 most, .slice a2 (rfL L id 1).length c2], .int .i64 id, .int .i64 0]) (by simp [results, Tryz.results6, go_sem, s0, s1]) rfl ⟨_, rfl, ?_⟩
  exact RefOut.new (Bk.own_mono (own_boxed ho2'.out (by omega)) (by omega)) (bel_boxed (hB'.out.trans (hb2'.out.mono (by omega))) (by omega))

set_option maxHeartbeats 1000000 in
set_option maxRecDepth 100000 in
theorem rPut_full {w : World} {a : Option Addr} {c : Nat} {L : List Bl} (most : Nat) (h : Rf w (.slice a L.length c) L) (b : List UInt8) (h8 : b.length = 8) (hz : ¬ b = zer) (hf : find L b = 0) (hl : L.length ≤ 1000) (hm : most ≤ L.length) :
    Calls Tryz.prog 6 #[.agg #[.int .i64 most, .slice a L.length c], .string (str b)] w fun e w' => ∃ v', e = .returned (.tuple #[.agg #[.int .i64 most, v'], .int .i64 0, .int .i64 5]) ∧ RefOut w w' (.slice a L.length c) v' L := by
  have h' := Hid.intro h.row
  have hf' := Hid.intro h
  have hbe : ((b.length : Int) != 8) = false := by rw [h8]; rfl
  have hzz : allZ b = false := by rw [allZ_zer h8]; exact decide_eq_false hz
  have hfi := rFind_any (most : Int) (row_boxes (u := .int .i64 most) (v := .slice a L.length c) h'.out) b hl
  rw [hf] at hfi
  have hfi' := Hid.intro hfi
  have hm' : (most : Int) ≤ (L.length : Int) := by omega
  clear h hz hf hfi
  go_enter Tryz.func6, Tryz.ntmps6
  go_wp2_with fail
  refine (refZero_any b _ (by omega)).mono ?_; rintro e w0 ⟨rfl, rfl⟩
  go_wp2_with fail
  refine hfi'.out.mono ?_; rintro e w1 ⟨rfl, hb⟩
  obtain ⟨hB, hsz, hp, hr⟩ := after_boxes hb
  obtain ⟨p0, p1, _, _⟩ := box_at hp
  obtain ⟨s0, s1, y0, y1⟩ := box_at hr
  have hB' := Hid.intro hB
  clear hfi' hB hb hp hr
  go_wp2
  refine bodyPost_ret (v := .tuple #[.agg #[.int .i64 most, .slice a L.length c], .int .i64 0, .int .i64 5]) (by simp [results, Tryz.results6, go_sem, s0, s1]) rfl ⟨_, rfl, ?_⟩
  exact RefOut.same hf'.out (bel_boxed hB'.out (by omega))

theorem gap_at {L : List Bl} {i : Nat} {q : Bl} (h : i < gap L) (hq : L[i]? = some q) : q.1 = (i : Int) + 1 := by
  have := gapN_at L 1 i q h hq
  omega
theorem gap_end {L : List Bl} {q : Bl} (hq : L[gap L]? = some q) : ¬ q.1 = ((gap L : Nat) : Int) + 1 := by
  have := gapN_end L 1 q hq
  intro e
  apply this
  rw [e]
  unfold gap
  omega

theorem put_mid {w w1 wr w5 : World} {u v : Value} {obj : Obj} {row : Option Nat} (hBr : Below (w.heap.size + 2) w1 wr) (hB : Below w.heap.size w w1) (hsz : w.heap.size + 2 ≤ w1.heap.size)
    (hp : w1.heap[w.heap.size]? = some (.cells #[u, v] 28 (0, 0))) (hr : w1.heap[w.heap.size + 1]? = some (.cells #[.int .i64 0, .slice none 0 0] 28 (0, 0)))
    (hg : (wr.alloc obj).grownBy w5 row) (hrow : ∀ j, row = some j → w.heap.size + 2 ≤ j) :
    (Below (w.heap.size + 2) w1 w5 ∧ Below w.heap.size w w5) ∧ w.heap.size + 2 ≤ w5.heap.size ∧ w5.cell? ⟨w.heap.size, 0, none⟩ = some u ∧ w5.cell? ⟨w.heap.size, 1, none⟩ = some v ∧
      w5.cell? ⟨w.heap.size + 1, 0, none⟩ = some (.int .i64 0) ∧ w5.cell? ⟨w.heap.size + 1, 1, none⟩ = some (.slice none 0 0) ∧ w5.frozen? ⟨w.heap.size + 1, 0, none⟩ = false ∧ w5.frozen? ⟨w.heap.size + 1, 1, none⟩ = false := by
  have hs := hBr.size
  have h5 : Below (w.heap.size + 2) w1 w5 := (hBr.alloc (by omega) _).grown hg (by simp; omega) hrow
  have hbx : w5.heap[w.heap.size]? = some (.cells #[u, v] 28 (0, 0)) := by rw [h5.block _ (by omega)]; exact hp
  have hbr : w5.heap[w.heap.size + 1]? = some (.cells #[.int .i64 0, .slice none 0 0] 28 (0, 0)) := by rw [h5.block _ (by omega)]; exact hr
  obtain ⟨p0, p1, _, _⟩ := box_at hbx
  obtain ⟨s0, s1, y0, y1⟩ := box_at hbr
  exact ⟨⟨h5, hB.trans (h5.mono (by omega))⟩, by have := h5.size; omega, p0, p1, s0, s1, y0, y1⟩
theorem put_end {w w1 w5 w6 : World} {u v x y : Value} {row : Option Nat} (hB : Below (w.heap.size + 2) w1 w5 ∧ Below w.heap.size w w5) (hz : w.heap.size + 2 ≤ w5.heap.size) (p0 : w5.cell? ⟨w.heap.size, 0, none⟩ = some x) (p1 : w5.cell? ⟨w.heap.size, 1, none⟩ = some y) (t0 : w5.cell? ⟨w.heap.size + 1, 0, none⟩ = some u) (t1 : w5.cell? ⟨w.heap.size + 1, 1, none⟩ = some v) (y0 : w5.frozen? ⟨w.heap.size + 1, 0, none⟩ = false) (y1 : w5.frozen? ⟨w.heap.size + 1, 1, none⟩ = false)
    (hg : w5.grownBy w6 row) (hrow : ∀ j, row = some j → w.heap.size + 2 ≤ j) :
    Below w.heap.size w w6 ∧ w6.cell? ⟨w.heap.size, 0, none⟩ = some x ∧ w6.cell? ⟨w.heap.size, 1, none⟩ = some y ∧ w6.cell? ⟨w.heap.size + 1, 0, none⟩ = some u ∧ w6.cell? ⟨w.heap.size + 1, 1, none⟩ = some v ∧ w6.frozen? ⟨w.heap.size + 1, 0, none⟩ = false ∧ w6.frozen? ⟨w.heap.size + 1, 1, none⟩ = false := by
  have h6 : Below (w.heap.size + 2) w5 w6 := (Below.refl _ w5).grown hg (by omega) hrow
  have l0 : w.heap.size < w.heap.size + 2 := by omega
  have l1 : w.heap.size + 1 < w.heap.size + 2 := by omega
  exact ⟨hB.2.trans (h6.mono (by omega)), by rw [h6.cell (p := ⟨w.heap.size, 0, none⟩) l0]; exact p0, by rw [h6.cell (p := ⟨w.heap.size, 1, none⟩) l0]; exact p1, by rw [h6.cell (p := ⟨w.heap.size + 1, 0, none⟩) l1]; exact t0, by rw [h6.cell (p := ⟨w.heap.size + 1, 1, none⟩) l1]; exact t1,
    by rw [h6.frozen (p := ⟨w.heap.size + 1, 0, none⟩) l1]; exact y0, by rw [h6.frozen (p := ⟨w.heap.size + 1, 1, none⟩) l1]; exact y1⟩
theorem row_cells_of {w : World} {g o c i : Nat} {L : List Bl} (h : Bk.Row w (.slice (some ⟨g, o, none⟩) L.length c) L) (hi : i < L.length) : Bk.Cells w g o L := by
  rcases h with ⟨_, rfl⟩ | ⟨g', o', cap, hv, hg, hc⟩
  · simp at hi
  · cases hv; exact hc
theorem cells_drop {w w5 : World} {g o : Nat} {L : List Bl} (h : Bk.Cells w g o L) (hb : Below w.heap.size w w5) (hg : g < w.heap.size) (k : Nat) : Bk.Cells w5 g (o + k * 3) (L.drop k) := fun i p hp => by
  rw [List.getElem?_drop] at hp
  have := (h.below hb hg) (k + i) p hp
  have e : o + (k + i) * 3 = o + k * 3 + i * 3 := by omega
  rw [e] at this
  exact this

theorem ins_own {w : World} {base base' i : Nat} {L : List Bl} {v : Value} {x : Int} {b : List UInt8} (h : w.ownsRow base 56 3 v (i + 1 + (L.length - i)) (B.itemsV (L.take i) ++ [.int .i64 x, .int .i64 1, .string (str b)] ++ B.itemsV (L.drop i))) (hi : i ≤ L.length) (hb : base' ≤ base) :
    w.ownsRow base' 56 3 v (insAt L i (x, 1, b)).length (B.itemsV (insAt L i (x, 1, b))) := by
  have e1 : (insAt L i (x, 1, b)).length = i + 1 + (L.length - i) := by rw [insAt_len hi]; omega
  have e2 : B.itemsV (insAt L i (x, 1, b)) = B.itemsV (L.take i) ++ [.int .i64 x, .int .i64 1, .string (str b)] ++ B.itemsV (L.drop i) := by
    unfold insAt
    rw [B.itemsV_append, List.append_assoc]
    rfl
  rw [e1, e2]
  exact Bk.own_mono h hb

theorem ins_own0 {w : World} {base base' i : Nat} {L : List Bl} {v : Value} {x : Int} {b : List UInt8} (h : w.ownsRow base 56 3 v (i + 1) (B.itemsV (L.take i) ++ [.int .i64 x, .int .i64 1, .string (str b)])) (hi : L.length = i) (hb : base' ≤ base) :
    w.ownsRow base' 56 3 v (insAt L i (x, 1, b)).length (B.itemsV (insAt L i (x, 1, b))) := by
  refine ins_own (i := i) ?_ (by omega) hb
  rw [List.drop_of_length_le (by omega), show i + 1 + (L.length - i) = i + 1 by omega]
  show w.ownsRow base 56 3 v (i + 1) (_ ++ B.itemsV [])
  rw [show B.itemsV [] = [] from rfl, List.append_nil]
  exact h
theorem own_cap {w : World} {base n c : Nat} {xs : List Value} {a : Addr} (h : w.ownsRow base 56 3 (.slice (some a) n c) n xs) : n ≤ c := by
  rcases h.2 with ⟨h, _⟩ | ⟨g, cap, cur, hv, _, _, hn, _⟩
  · cases h
  · cases hv; exact hn

set_option maxHeartbeats 4000000 in
set_option maxRecDepth 100000 in
theorem rPut_new {w : World} {a : Option Addr} {c : Nat} {L : List Bl} (most : Nat) (h : Bk.Row w (.slice a L.length c) L) (b : List UInt8) (h8 : b.length = 8) (hz : ¬ b = zer) (hf : find L b = 0) (hl : L.length ≤ 1000) (hm : L.length < most) (hcap : L.length ≤ c) :
    Calls Tryz.prog 6 #[.agg #[.int .i64 most, .slice a L.length c], .string (str b)] w fun e w' => ∃ v', e = .returned (.tuple #[.agg #[.int .i64 most, v'], .int .i64 ((gap L : Int) + 1), .int .i64 0]) ∧ RefOut w w' (.slice a L.length c) v' (insAt L (gap L) ((gap L : Int) + 1, 1, b)) := by
  obtain ⟨i0, hi0, hz0', hz1', hz2'⟩ := info_parts Bk.Tryz.infoE
  have h' := Hid.intro h
  have hbe : ((b.length : Int) != 8) = false := by rw [h8]; rfl
  have hzz : allZ b = false := by rw [allZ_zer h8]; exact decide_eq_false hz
  have hfi := rFind_any (most : Int) (row_boxes (u := .int .i64 most) (v := .slice a L.length c) h'.out) b hl
  rw [hf] at hfi
  have hfi' := Hid.intro hfi
  have hm1 : decide (most ≤ L.length) = false := decide_eq_false (by omega)
  have hm2 : decide ((most : Int) ≤ (L.length : Int)) = false := decide_eq_false (by omega)
  have hgl := gap_le L
  have hga := Hid.intro (fun i q => gap_at (L := L) (i := i) (q := q))
  have hge := Hid.intro (fun q => gap_end (L := L) (q := q))
  clear h hz hf hfi
  have hG : ∃ G, Hid (gap L = G) := ⟨_, rfl⟩
  obtain ⟨G, hG⟩ := hG
  rw [hG.out] at hgl hga hge ⊢
  go_enter Tryz.func6, Tryz.ntmps6
  go_wp2_with fail
  refine (refZero_any b _ (by omega)).mono ?_; rintro e w0 ⟨rfl, rfl⟩
  go_wp2_with fail
  refine hfi'.out.mono ?_; rintro e w1 ⟨rfl, hb⟩
  obtain ⟨hB, hsz, hp, hr⟩ := after_boxes hb
  obtain ⟨p0, p1, _, _⟩ := box_at hp
  have hB' := Hid.intro hB
  have hp' := Hid.intro hp
  have hr' := Hid.intro hr
  clear hfi' hB hb hp hr
  go_wp2_with fail
  go_loopw [7, 8, 9] (fun dv ov iv wr => ∃ i : Nat, i ≤ G ∧ iv = .int .i64 i ∧ dv = .int .i64 ((i : Int) + 1) ∧ Hid (wr.ownsRow (w.heap.size + 2) 56 3 ov i (B.itemsV (L.take i))) ∧ Hid (Below (w.heap.size + 2) w1 wr)) (fun _ _ iv _ => G - (intOf iv).toNat)
  case atStart => exact ⟨0, Nat.zero_le _, rfl, rfl, World.ownsRow_nil _ _ _ _, Below.refl _ _⟩
  case round =>
    clear p0 p1
    obtain ⟨i, hi, rfl, rfl, ho, hBr⟩ := hrel
    have j0 : (0 : Int) ≤ (i : Int) := Int.natCast_nonneg _
    have hBw : Below w.heap.size w wr := hB'.out.trans (hBr.out.mono (by omega))
    have hbx : wr.heap[w.heap.size]? = some (.cells #[.int .i64 most, .slice a L.length c] 28 (0, 0)) := by rw [hBr.out.block _ (by omega)]; exact hp'.out
    have hbr : wr.heap[w.heap.size + 1]? = some (.cells #[.int .i64 0, .slice none 0 0] 28 (0, 0)) := by rw [hBr.out.block _ (by omega)]; exact hr'.out
    obtain ⟨p0, p1, _, _⟩ := box_at hbx
    obtain ⟨s0, s1, y0, y1⟩ := box_at hbr
    have hsr : w.heap.size + 2 ≤ wr.heap.size := by have := hBr.out.size; omega
    have hBw' := Hid.intro hBw
    obtain ⟨ov, oc, rfl⟩ := Bk.own_form ho.out
    clear hbx hbr hBw
    by_cases hlt : i < G
    · obtain ⟨g, o, q, rfl, hg, hq, c0, c1, c2⟩ := rw_at h'.out hBw'.out (i := i) (by omega)
      have hid := hga.out i q hlt hq
      have k1 : (i : Int) < (L.length : Int) := by omega
      have hst : Hid (L.take (i + 1) = L.take i ++ [q]) := Hid.intro (by rw [List.take_add_one, hq]; rfl)
      clear hq
      obtain ⟨x, y, z⟩ := q
      simp only at hid c0 c1 c2 hst
      subst hid
      go_wp2_with (at_builtin; refine wpList_append_lies _ rfl _ _ 26 rfl (w.heap.size + 2) 56 i0 (.agg #[.int .i64 0, .int .i64 0, .string ByteArray.empty]) 3 32 Tryz.underlying26 hi0 hz0' hz1' hz2' rfl (by decide) _ _ _ rfl (ho.out.alloc _) ⟨wr.heap.size, 0, none⟩ 1 1 [.int .i64 ((i : Int) + 1), .int .i64 y, .string (str z)] rfl rfl (World.news_of_block (cs := #[.int .i64 ((i : Int) + 1), .int .i64 y, .string (str z)]) (t := 56) (fr := (0, 0)) (heap_alloc_new wr _)) (by simp [Value.oneCell']) (by decide) (by unfold maxLen; omega) (by omega) (by simp; omega) (wr.heap.size + 1) (by simp) ?_; intro g5 cap5 w5 hown5 hgrow5 hat5 hlt5)
      go_roundw
      case rel =>
        refine ⟨i + 1, by omega, by go_num, by go_num, ?_, ?_⟩
        · rw [hst.out, B.itemsV_append]; exact hown5
        · exact (hBr.out.alloc hsr _).grown hgrow5 (by simp; omega) (fun j hj => (ho.out.lt j hj).1)
      case measure => simp [intOf]; omega
    · have hii : i = G := by omega
      subst hii
      by_cases hlen : i < L.length
      · obtain ⟨g, o, q, rfl, hg, hq, c0, c1, c2⟩ := rw_at h'.out hBw'.out hlen
        have hid := hge.out q hq
        have k1 : (i : Int) < (L.length : Int) := by omega
        have hcL : Hid (Bk.Cells w g o L) := Hid.intro (row_cells_of h'.out hlen)
        have e1 : IntKind.i64.wrap (i : Int) = (i : Int) := IntWalk.i64_in _ (by omega)
        have e2 : ¬ c = i := by omega
        obtain ⟨x, y, z⟩ := q
        simp only at hid c0 c1 c2
        clear hq c1 c2 hge hga
        go_wp2_with (at_builtin; refine wpList_append_lies _ rfl _ _ 26 rfl (w.heap.size + 2) 56 i0 (.agg #[.int .i64 0, .int .i64 0, .string ByteArray.empty]) 3 32 Tryz.underlying26 hi0 hz0' hz1' hz2' rfl (by decide) _ _ _ rfl (ho.out.alloc _) ⟨wr.heap.size, 0, none⟩ 1 1 [.int .i64 ((i : Int) + 1), .int .i64 1, .string (str b)] rfl rfl (World.news_of_block (cs := #[.int .i64 ((i : Int) + 1), .int .i64 1, .string (str b)]) (t := 56) (fr := (0, 0)) (heap_alloc_new wr _)) (by simp [Value.oneCell']) (by decide) (by unfold maxLen; omega) (by omega) (by simp; omega) (wr.heap.size + 1) (by simp) ?_; intro g5 cap5 w5 hown5 hgrow5 hat5 hlt5; obtain ⟨hB5, hz5, P0, P1, T0, T1, Y0, Y1⟩ := put_mid hBr.out hB'.out hsz hp'.out hr'.out hgrow5 (fun j hj => (ho.out.lt j hj).1); have hown5' := Hid.intro hown5; have hB5' := Hid.intro hB5; clear hown5 hgrow5 hat5 hlt5 hB5)
        go_region_law (refine step_append_lies _ (by rfl) _ _ 26 (by rfl) (w.heap.size + 2) 56 i0 (.agg #[.int .i64 0, .int .i64 0, .string ByteArray.empty]) 3 32 Tryz.underlying26 hi0 hz0' hz1' hz2' rfl (by decide) (.slice (some ⟨g5, 0, none⟩) (i + 1) cap5) (i + 1) _ (by rfl) hown5'.out.drew ⟨g, o + i * 3, none⟩ (L.length - i) (c - i) (B.itemsV (L.drop i)) (by rfl) (by rw [B.itemsV_length, List.length_drop]) (Bk.row_news (cells_drop hcL.out hB5'.out.2.drew hg i)) (B.itemsV_one _) (by omega) (by unfold maxLen; omega) (by omega) hz5 w5.heap.size rfl ?_; intro g6 cap6 w6 hown6 hgrow6 hat6 hlt6; obtain ⟨hB6, P60, P61, T60, T61, Y60, Y61⟩ := put_end (w5 := w5.drew) ⟨hB5'.out.1.drew, hB5'.out.2.drew⟩ hz5 P0 P1 T0 T1 Y0 Y1 hgrow6 (fun j hj => (hown5'.out.lt j hj).1); have hown6' := Hid.intro hown6; have hB6' := Hid.intro hB6; clear hown6 hgrow6 hat6 hlt6 hB6)
        all_goals
          go_wp2
          refine bodyPost_ret (v := .tuple #[.agg #[.int .i64 most, .slice (some ⟨g6, 0, none⟩) (i + 1 + (L.length - i)) cap6], .int .i64 ((i : Int) + 1), .int .i64 0]) (by simp [results, Tryz.results6, go_sem, T60, T61]) rfl ⟨_, rfl, ?_⟩
          exact RefOut.new (ins_own (own_boxed hown6'.out (by omega)) (by omega) (by omega)) (bel_boxed hB6'.out (by omega))
      · have k1 : ¬ (i : Int) < (L.length : Int) := by omega
        have e1 : IntKind.i64.wrap (i : Int) = (i : Int) := IntWalk.i64_in _ (by omega)
        have e3 : L.length = i := by omega
        clear hge hga
        go_wp2_with (at_builtin; refine wpList_append_lies _ rfl _ _ 26 rfl (w.heap.size + 2) 56 i0 (.agg #[.int .i64 0, .int .i64 0, .string ByteArray.empty]) 3 32 Tryz.underlying26 hi0 hz0' hz1' hz2' rfl (by decide) _ _ _ rfl (ho.out.alloc _) ⟨wr.heap.size, 0, none⟩ 1 1 [.int .i64 ((i : Int) + 1), .int .i64 1, .string (str b)] rfl rfl (World.news_of_block (cs := #[.int .i64 ((i : Int) + 1), .int .i64 1, .string (str b)]) (t := 56) (fr := (0, 0)) (heap_alloc_new wr _)) (by simp [Value.oneCell']) (by decide) (by unfold maxLen; omega) (by omega) (by simp; omega) (wr.heap.size + 1) (by simp) ?_; intro g5 cap5 w5 hown5 hgrow5 hat5 hlt5; obtain ⟨hB5, hz5, P0, P1, T0, T1, Y0, Y1⟩ := put_mid hBr.out hB'.out hsz hp'.out hr'.out hgrow5 (fun j hj => (ho.out.lt j hj).1); have hown5' := Hid.intro hown5; have hB5' := Hid.intro hB5; clear hown5 hgrow5 hat5 hlt5 hB5)
        have hc5 : i + 1 ≤ cap5 := own_cap hown5'.out
        have T0' := Hid.intro T0
        cases hA : (if c = i then a else Option.map (fun x => x.add (i * 3)) a) with
        | none =>
          go_region_law (fail)
          all_goals
            go_wp2
            refine bodyPost_ret (v := .tuple #[.agg #[.int .i64 most, .slice (some ⟨g5, 0, none⟩) (i + 1) cap5], .int .i64 ((i : Int) + 1), .int .i64 0]) (by simp [results, Tryz.results6, go_sem, T0, T1]) rfl ⟨_, rfl, ?_⟩
            exact RefOut.new (ins_own0 (own_boxed hown5'.out.drew (by omega)) e3 (by omega)) (bel_boxed hB5'.out.2.drew (by omega))
        | some ad =>
          go_region_law (fail)
          all_goals
            go_wp2
            refine bodyPost_ret (v := .tuple #[.agg #[.int .i64 most, .slice (some ⟨g5, 0, none⟩) (i + 1) cap5], .int .i64 ((i : Int) + 1), .int .i64 0]) (by simp [results, Tryz.results6, go_sem, T0, T1]) rfl ⟨_, rfl, ?_⟩
            exact RefOut.new (ins_own0 (own_boxed hown5'.out.drew (by omega)) e3 (by omega)) (bel_boxed hB5'.out.2.drew (by omega))

theorem rPut_any {w : World} {v : Value} {most : Nat} {L : List Bl} (h : Rf w v L) (hI : Inv most L) (hR : Few 1000000 L) (b : List UInt8) :
    Calls Tryz.prog 6 #[.agg #[.int .i64 most, v], .string (str b)] w fun e w' => ∃ v', e = .returned (.tuple #[.agg #[.int .i64 most, v'], .int .i64 (putL most L b).2.1, .int .i64 (putL most L b).2.2]) ∧ RefOut w w' v v' (putL most L b).1 := by
  obtain ⟨a, c, rfl⟩ := rw_slice h.row
  have hl : L.length ≤ 1000 := by have := hI.len; have := hI.m60; omega
  have hR2 : ∀ q ∈ L, 0 < q.2.1 ∧ q.2.1 ≤ 1000000 := fun q hq => ⟨by have := (hI.ids q hq).2.2.1; omega, hR q hq⟩
  by_cases h8 : b.length = 8
  · by_cases hz : b = zer
    · have e : putL most L b = (L, 0, 0) := by unfold putL; rw [if_neg (by omega), if_pos hz]
      rw [e]
      subst hz
      exact rPut_zer most h
    · by_cases hf : find L b = 0
      · by_cases hm : most ≤ L.length
        · have e : putL most L b = (L, 0, 5) := by unfold putL; rw [if_neg (by omega), if_neg hz, if_neg (by omega), if_pos hm]
          rw [e]
          exact rPut_full most h b h8 hz hf hl hm
        · have e : putL most L b = (insAt L (gap L) ((gap L : Int) + 1, 1, b), (gap L : Int) + 1, 0) := by unfold putL; rw [if_neg (by omega), if_neg hz, if_neg (by omega), if_neg hm]
          rw [e]
          exact rPut_new most h.row b h8 hz hf hl (by omega) (h.cap _ _ _ rfl)
      · have e : putL most L b = (rfL L (find L b) 1, find L b, 0) := by
          unfold putL; rw [if_neg (by omega), if_neg hz, if_pos hf, rfL_bump L _ 1 hI.ord fun q hq => (hR2 q hq).1]
        have hp : 0 < find L b := by
          obtain ⟨q, hq, e1, _⟩ := find_some L b hf
          have := (hI.ids q hq).1
          omega
        rw [e]
        exact rPut_found most h.row b h8 hz hp hl hR2
  · have e : putL most L b = (L, 0, 1) := by unfold putL; rw [if_pos h8]
    rw [e]
    exact rPut_len most h b h8
end Go.Proofs.YtdmamanlclajjaaGreat
