/-
  The contracts of the pool's Find and gap.
-/
import Derived.Test.YtdmamanlclajjaaGreatPHold
namespace Go.Proofs.YtdmamanlclajjaaGreat
open Go.ChangeShapes Go.WideShapes Go.ChangeAt Go.RowKit

theorem ints_slice {w : World} {b : Nat} {v : Value} {l : List Int} (h : Ints w b v l) : ∃ a c, v = .slice a l.length c := by
  rcases ints_cells h with ⟨rfl, rfl⟩ | ⟨g, cap, rfl, _⟩
  · exact ⟨_, _, rfl⟩
  · exact ⟨_, _, rfl⟩
theorem str_toList (S : List UInt8) : (str S).toList = S := by
  rw [Go.Lib.toList_data]; rfl
theorem str_ne {S T : List UInt8} (h : ¬ S = T) : ((str S).toList == (str T).toList) = false := by
  rw [str_toList, str_toList]; simpa using h

set_option maxHeartbeats 1000000 in
set_option maxRecDepth 100000 in
theorem pfind_any {w : World} {F : Nat → Prop} {p most : Nat} {L : List Bl} (h : Pl w F p most L) (b : List UInt8) (hb : b.length ≤ 1000000) :
    Calls Tryz.prog 19 #[.pointer (some ⟨p, 0, none⟩), .string (str b)] w fun e w' => e = .returned (.int .i64 (find L b)) ∧ Below w.heap.size w w' := by
  obtain ⟨Fs, s, v, bs, h⟩ := h
  have hn := Hid.intro (pnone_any h)
  obtain ⟨l, hl, hor⟩ := sh_bucket h.sh (pr b)
  have hl60 : l.length ≤ 60 := by
    have h1 := sum_mem bs l (List.mem_of_getElem? hl)
    rw [h.prints.2] at h1
    have := h.inv.len
    have := h.inv.m60
    omega
  have hfx := pr_fits b 1 (by omega) (by omega)
  have hfi := Hid.intro (find_any (h.below (Below.refl _ w).drew).sh (pr b) hfx.1 hfx.2.1 hl (by omega))
  have hids : Hid (∀ id, id ∈ und l (pr b) ↔ (pr b, id) ∈ L.map key) := by
    intro id
    rw [mem_und, h.prints.1 _ l hl]
    simp
  have hlen := und_length l (pr b)
  obtain ⟨c0, c1, c2⟩ := h.cells
  have h' := Hid.intro h
  clear h hl hor hfx
  generalize hI : und l (pr b) = I at *
  clear hI
  go_enter Tryz.func19, Tryz.ntmps19
  go_wp2_with fail
  refine hn.out.mono ?_; rintro e w0 ⟨rfl, rfl⟩
  go_wp2_with fail
  go_region_held3 (fun w' => w'.cell? ⟨p, 2, none⟩ = some (.pointer (some ⟨s, 0, none⟩)))
    (first
      | exact c2
      | (show w6.cell? _ = _; rw [hb6.cell (p := ⟨p, 2, none⟩) (lt_of_block h'.out.box)]; exact c2))
    (first
      | (go_at_call 36; refine (of_any b _ hb).mono ?_; rintro e w5 ⟨rfl, rfl⟩)
      | (go_at_call 35; refine hfi.out.mono ?_; rintro e w6 ⟨v6, rfl, hi6, hb6⟩; obtain ⟨a6, q6, rfl⟩ := ints_slice hi6))
  all_goals
    have hB6 : Below w0.heap.size w0 w6 := (Below.refl _ w0).drew.trans hb6
    have h6 := Hid.intro (h'.out.below hB6)
    clear c0 c1 c2 hb6 hfi hn
    rcases ints_cells hi6 with ⟨hv6, rfl⟩ | ⟨g, cap, hv6, _, hg, hc⟩
    · cases hv6
      have hfin : Hid (find L b = 0) := find_not fun q hq e => by
        have := (hids.out q.1).2 (List.mem_map.2 ⟨q, hq, by unfold key; rw [e]⟩)
        cases this
      go_wp2_with fail
      go_loopw [19] (fun iv wr => iv = .int .i64 0 ∧ wr = w6) (fun _ _ => 0)
      case atStart => exact ⟨rfl, rfl⟩
      case round =>
        obtain ⟨rfl, rfl⟩ := hrel
        go_wp2
        go_ret
        exact ⟨by rw [hfin.out]; rfl, hB6⟩
    · cases hv6
      have hc' := Hid.intro hc
      clear hc hi6
      go_wp2_with fail
      go_loopw [19] (fun iv wr => ∃ i : Nat, i ≤ I.length ∧ iv = .int .i64 (i : Int) ∧ Hid (∀ (j : Nat) (id : Int) (q : Bl), j < i → I[j]? = some id → q ∈ L → q.1 = id → q.2.2 ≠ b) ∧ Below w6.heap.size w6 wr) (fun iv _ => I.length - (intOf iv).toNat)
      case atStart => exact ⟨0, Nat.zero_le _, rfl, fun j id q hj => by omega, Below.refl _ _⟩
      case round =>
        obtain ⟨i, hi, rfl, hnone, hB⟩ := hrel
        by_cases hlt : i < I.length
        · obtain ⟨id, hid⟩ : ∃ id, I[i]? = some id := ⟨_, List.getElem?_eq_getElem hlt⟩
          obtain ⟨q, hqm, hqk⟩ := List.mem_map.1 ((hids.out id).1 (List.mem_of_getElem? hid))
          have hq1 : q.1 = id := congrArg Prod.snd hqk
          have h7 := Hid.intro (h6.out.below hB)
          have hsel : sel L id = some q := by rw [← hq1]; exact sel_of h7.out.inv.ord hqm
          have hpl := pplace_any h7.out id
          rw [has_yes h7.out.inv.ord hsel] at hpl
          have hpl' := Hid.intro hpl
          have hat := Hid.intro (pos_sel L id q h7.out.inv.ord hsel)
          have hci : wr.cell? ⟨g, i, none⟩ = some (.int .i64 id) := by rw [hB.cell (p := ⟨g, i, none⟩) hg]; exact hc'.out i id hid
          have hid' := Hid.intro hid
          have hqm' := Hid.intro hqm
          have hq1' := Hid.intro hq1
          clear hid hqm hqk hq1 hsel hpl
          generalize B.pos L id = t at *
          go_wp2_with fail
          refine hpl'.out.mono ?_; rintro e w8 ⟨rfl, hb8⟩
          have h8 := Hid.intro (h7.out.below hb8)
          obtain ⟨c0, c1, c2⟩ := h8.out.cells
          obtain ⟨g8, cap8, hv, hi8, hL8, d0, d1, d2⟩ := h8.out.at hat.out
          subst hv
          have hB8 := Hid.intro (hB.trans (hb8.mono hB.size))
          by_cases heq : q.2.2 = b
          · have hfin : Hid (find L b = id) := by
              show find L b = id
              rw [← heq, find_of h8.out.inv hqm'.out, hq1'.out]
            rw [heq] at d2
            clear heq
            go_wp2
            go_ret
            exact ⟨by rw [hfin.out]; rfl, hB6.trans (hB8.out.mono hB6.size)⟩
          · have hse := str_ne heq
            go_wp2
            go_roundw
            case rel =>
              refine ⟨i + 1, by omega, by go_num, fun j jd r hj hjd hr hrd => ?_, hB8.out⟩
              rcases Nat.lt_or_eq_of_le (Nat.le_of_lt_succ hj) with hj | rfl
              · exact hnone.out j jd r hj hjd hr hrd
              · rw [hid'.out] at hjd
                cases hjd
                rw [ord_inj L h8.out.inv.ord r hr q hqm'.out (by rw [hrd, hq1'.out])]
                exact heq
            case measure => simp [intOf]; omega
        · have hfin : Hid (find L b = 0) := find_not fun q hq e => by
            have hm := (hids.out q.1).2 (List.mem_map.2 ⟨q, hq, by unfold key; rw [e]⟩)
            obtain ⟨j, hj⟩ := List.mem_iff_getElem?.1 hm
            have hjl := (List.getElem?_eq_some_iff.1 hj).1
            exact hnone.out j q.1 q (by omega) hj hq rfl e
          go_wp2
          go_ret
          exact ⟨by rw [hfin.out]; rfl, hB6.trans (hB.mono hB6.size)⟩

theorem gapN_step (L : List Bl) (i : Nat) (q : Bl) (h : L[i]? = some q) (hn : gapN ((i : Int) + 1) (L.drop i) + i = gap L) : (q.1 = (i : Int) + 1 → gapN (((i + 1 : Nat) : Int) + 1) (L.drop (i + 1)) + (i + 1) = gap L) ∧ (q.1 ≠ (i : Int) + 1 → gap L = i) := by
  obtain ⟨hi, hqe⟩ := List.getElem?_eq_some_iff.1 h
  rw [List.drop_eq_getElem_cons hi, hqe] at hn
  unfold gapN at hn
  constructor
  · intro e
    rw [if_pos e] at hn
    rw [show (((i + 1 : Nat) : Int) + 1) = (i : Int) + 1 + 1 by omega]
    omega
  · intro e
    rw [if_neg e] at hn
    omega

set_option maxHeartbeats 1000000 in
set_option maxRecDepth 100000 in
theorem gap_any {w : World} {F : Nat → Prop} {p most : Nat} {L : List Bl} (h : Pl w F p most L) :
    Calls Tryz.prog 28 #[.pointer (some ⟨p, 0, none⟩)] w fun e w' => e = .returned (.int .i64 (gap L : Nat)) ∧ Below w.heap.size w w' := by
  obtain ⟨Fs, s, v, bs, h⟩ := h
  obtain ⟨c0, c1, c2⟩ := h.cells
  have hL : L.length ≤ 60 := by have := h.inv.len; have := h.inv.m60; omega
  have hpl := lt_of_block h.box
  rcases B.buk_cases h.row with ⟨rfl, rfl⟩ | ⟨g, cap, rfl, _, hg, hc⟩
  · clear h
    go_enter Tryz.func28, Tryz.ntmps28
    go_wp2_with fail
    go_loopw [10] (fun iv wr => iv = .int .i64 0 ∧ wr = w) (fun _ _ => 0)
    case atStart => exact ⟨rfl, rfl⟩
    case round =>
      obtain ⟨rfl, rfl⟩ := hrel
      go_wp2
      go_ret
      exact ⟨rfl, Below.refl _ _⟩
  · have hc' := Hid.intro hc
    clear h hc
    go_enter Tryz.func28, Tryz.ntmps28
    go_wp2_with fail
    go_loopw [10] (fun iv wr => ∃ i : Nat, i ≤ L.length ∧ iv = .int .i64 (i : Int) ∧ Hid (gapN ((i : Int) + 1) (L.drop i) + i = gap L) ∧ Below w.heap.size w wr) (fun iv _ => L.length - (intOf iv).toNat)
    case atStart => exact ⟨0, Nat.zero_le _, rfl, by simp [Hid, gap], Below.refl _ _⟩
    case round =>
      obtain ⟨i, hi, rfl, hgap, hB⟩ := hrel
      have k1 : wr.cell? ⟨p, 1, none⟩ = some (.slice (some ⟨g, 0, none⟩) L.length cap) := by rw [hB.cell (p := ⟨p, 1, none⟩) hpl]; exact c1
      by_cases hlt : i < L.length
      · obtain ⟨⟨x, y, z⟩, hq⟩ : ∃ q, L[i]? = some q := ⟨_, List.getElem?_eq_getElem hlt⟩
        obtain ⟨d0, d1, d2⟩ := (hc'.out.below hB hg) i _ hq
        simp only at d0 d1 d2
        obtain ⟨s1, s2⟩ := gapN_step L i _ hq hgap.out
        simp only at s1 s2
        have hB' := Hid.intro hB
        clear hq hgap hB
        by_cases e : x = (i : Int) + 1
        · have s1' := Hid.intro (s1 e)
          have hxe : (x == (i : Int) + 1) = true := by simpa using e
          clear s1 s2 e
          go_wp2
          go_roundw
          case rel => exact ⟨i + 1, by omega, by go_num, s1'.out, hB'.out.alloc hB'.out.size _⟩
          case measure => simp [intOf]; omega
        · have s2' := Hid.intro (s2 e)
          have hxe : (x == (i : Int) + 1) = false := by simpa using e
          clear s1 s2 e
          go_wp2
          go_ret
          exact ⟨by rw [s2'.out]; rfl, hB'.out.alloc hB'.out.size _⟩
      · have hi' : i = L.length := by omega
        have e : Hid (gap L = L.length) := by
          have := hgap.out
          rw [hi', List.drop_eq_nil_of_le (Nat.le_refl _)] at this
          unfold gapN at this
          show _ = _
          omega
        have hB' := Hid.intro hB
        clear hgap hB
        go_wp2
        go_ret
        exact ⟨by rw [e.out]; rfl, hB'.out⟩
end Go.Proofs.YtdmamanlclajjaaGreat
