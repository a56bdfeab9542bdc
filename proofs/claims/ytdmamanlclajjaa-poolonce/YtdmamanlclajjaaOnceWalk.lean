/-
  PoolOnce's walk: blocks that are alike have one id, others have others; as often as it was put a block has to be dropped: for every strings.
-/
import Derived.Test.YtdmamanlclajjaaOnceArg
import Derived.WalkArith
namespace Go.Proofs.Ytdmamanlclajjaa
open Go.ChangeShapes Go.WideShapes Go.ChangeAt Go.RowKit
attribute [local go_sem] str_size

theorem Try.info4 : (Try.prog.info? 4).map (fun i => (i.zero, i.size, i.bytes)) = some (some (.bool false), 1, 1) := by kernel_rfl
theorem zero3 (w : World) : (zeroValue 3).run Try.prog w = .ok (.int .i64 0) w := by
  obtain ⟨i, hi, hz0, hz1, hz2⟩ := info_parts Try.info3
  simp [zeroValue, typeInfo, hi, hz0]
theorem zero4 (w : World) : (zeroValue 4).run Try.prog w = .ok (.bool false) w := by
  obtain ⟨i, hi, hz0, hz1, hz2⟩ := info_parts Try.info4
  simp [zeroValue, typeInfo, hi, hz0]
theorem wf64 {x : Int} (h0 : 0 ≤ x) (h1 : x ≤ 1000000) : (Lit.int .i64 x).wf = true := WalkArith.wf_i64 (by omega)
abbrev OwnI (w : World) (m n : Nat) (D : DataW Unit) : Prop := w.ownsMap Try.prog 9 (plainElem Try.prog 3) m n D
abbrev OwnB (w : World) (m n : Nat) (D : DataW Unit) : Prop := w.ownsMap Try.prog 3 (plainElem Try.prog 4) m n D

theorem Kit.sub {w : World} {b0 p : Nat} {F : Nat → Prop} {L : List Bl} {ms ns : List Nat} (h : Kit w b0 p F L ms) (hs : ∀ m ∈ ns, m ∈ ms) : Kit w b0 p F L ns := ⟨h.pl, h.lo, fun m hm => h.out m (hs m hm)⟩
theorem key_inv {key : Value} {kl : Lit} (h : keyOf Try.prog 9 key = some kl) : ∃ b, key = .string (str b) ∧ kl = .string b := by
  cases key <;> simp [keyOf, Try.underlying9, mapKey] at h
  rename_i s
  obtain ⟨T, rfl⟩ := str_ex s
  refine ⟨T, rfl, ?_⟩
  rw [← h.2]
  rfl
theorem look_ids {w : World} {m n : Nat} {D : DataW Unit} {S : List (List UInt8)} {L : List Bl} (ho : OwnI w m n D) (hD : Ids D S L) (T : List UInt8) (hT : T.length ≤ 1000) :
    ∃ x : Int, (Instr.lookup 26 (.map (some m)) (.string (str T)) true).run Try.prog w = .ok (.tuple #[.int .i64 x, .bool (decide (T ∈ S))]) w ∧ (T ∈ S → x = find L T) := by
  obtain ⟨v, ps, hr, hv⟩ := World.ownsMap.look_ok ho keyed9 Try.underlying26 (zero3 w) (plainElem_int Try.underlying3 (wf64 (Int.le_refl 0) (by omega))) (key_str T hT)
  obtain ⟨x, rfl, hx, _⟩ := plainElem_int_inv Try.underlying3 hv
  have hh : Maps.has D (.string T) = decide (T ∈ S) := by
    cases e : Maps.has D (.string T)
    · exact (decide_eq_false fun h => by rw [(hD.has T).2 h] at e; cases e).symm
    · exact (decide_eq_true ((hD.has T).1 e)).symm
  rw [hh] at hr
  refine ⟨x, hr, fun hin => ?_⟩
  have := hD.at_ T hin (.lit (.int .i64 0))
  have e := congrArg Prod.fst hx
  simp only at e
  rw [e] at this
  simpa using this
theorem look_cnt {w : World} {m n : Nat} {D : DataW Unit} {S : List (List UInt8)} (ho : OwnI w m n D) (hD : Cnt D S) (T : List UInt8) (hT : T.length ≤ 1000) :
    (Instr.lookup 26 (.map (some m)) (.string (str T)) false).run Try.prog w = .ok (.int .i64 (S.count T : Nat)) w := by
  obtain ⟨c, hr, hat, _⟩ := World.ownsMap.lookup_int ho keyed9 Try.underlying26 Try.underlying3 (zero3 w) (key_str T hT)
  rw [hD.at_ T] at hat
  injection hat with hat
  injection hat with _ hat
  rw [hr, hat]
theorem set_int {w : World} {m n : Nat} {D : DataW Unit} (ho : OwnI w m n D) (hn : n ≤ 1000) (T : List UInt8) (hT : T.length ≤ 1000) (x : Int) (h0 : 0 ≤ x) (h1 : x ≤ 1000000) :
    ∃ w', (Instr.mapUpdate 26 (.map (some m)) (.string (str T)) (.int .i64 x)).run Try.prog w = .ok () w' ∧ OwnI w' m (n + 1) (D.put (.string T) (.lit (.int .i64 x))) ∧ w.grownBy w' (some m) :=
  World.ownsMap.update ho keyed9 Try.underlying26 (by unfold maxLen; omega) (key_str T hT) (plainElem_int Try.underlying3 (wf64 h0 h1))
theorem look_seen {w : World} {m n : Nat} {D : DataW Unit} (ho : OwnB w m n D) (i : Int) (h0 : 0 ≤ i) (h1 : i ≤ 1000000) (hno : D.atKey (.int .i64 i) (.lit (.bool false)) ≠ .lit (.bool true)) :
    (Instr.lookup 32 (.map (some m)) (.int .i64 i) false).run Try.prog w = .ok (.bool false) w := by
  obtain ⟨v, ps, hr, hv⟩ := World.ownsMap.lookup ho keyed3 Try.underlying32 (zero4 w) (plainElem_bool Try.underlying4 false) (Maps.keyOf_int_mk Try.underlying3 (wf64 h0 h1))
  have : v = .bool false := by
    unfold plainElem at hv
    rw [Try.underlying4] at hv
    cases v <;> simp at hv
    rename_i x
    cases x
    · rfl
    · exact absurd hv.1.symm hno
  rw [hr, this]
theorem set_seen {w : World} {m n : Nat} {D : DataW Unit} (ho : OwnB w m n D) (hn : n ≤ 1000) (i : Int) (h0 : 0 ≤ i) (h1 : i ≤ 1000000) :
    ∃ w', (Instr.mapUpdate 32 (.map (some m)) (.int .i64 i) (.bool true)).run Try.prog w = .ok () w' ∧ OwnB w' m (n + 1) (D.put (.int .i64 i) (.lit (.bool true))) ∧ w.grownBy w' (some m) :=
  World.ownsMap.update ho keyed3 Try.underlying32 (by unfold maxLen; omega) (Maps.keyOf_int_mk Try.underlying3 (wf64 h0 h1)) (plainElem_bool Try.underlying4 true)

set_option maxHeartbeats 8000000 in
set_option maxRecDepth 100000 in
theorem once_yes (a : Option Addr) (c : Nat) (os : List (List UInt8)) (w : World) (hos : Hid (StrsAt w (.slice a os.length c) os)) (hlen : os.length ≤ 50) :
    Calls Try.prog 3 #[.slice a os.length c] w fun e w' => e = .returned (.bool true) ∧ Below w.heap.size w w' := by
  have hnew : Hid (∀ w, Calls Try.prog 6 #[.int .i64 60] w fun e w' => ∃ p, e = .returned (.pointer (some ⟨p, 0, none⟩)) ∧ Pl w' (Up w.heap.size) p 60 [] ∧ Below w.heap.size w w') := fun w => by
    have := pnew_any 60 w (by omega) (by omega)
    rw [show mb 60 = 60 by unfold mb; omega] at this
    exact this
  go_enter Try.func3, Try.ntmps3
  go_wp2_with fail
  refine (alive_any w).mono ?_; rintro e w0 ⟨rfl, hb0⟩
  go_wp2_with fail
  refine (hnew.out w0).mono ?_; rintro e w1 ⟨p, rfl, h1, hb1⟩
  have hB1 := hb0.trans (hb1.mono hb0.size)
  have s1 := hb1.size
  have s0 := hb0.size
  have K1 : Kit w1 w.heap.size p (Up w0.heap.size) [] [] := ⟨h1, fun k hk => Nat.le_trans s0 hk, fun m hm => by cases hm⟩
  have hI := Hid.intro (show Inv 60 [] from h1.inv)
  have K2 := K1.made (by omega) (World.grownBy_alloc w1 (.map #[] 0) none) (by simp)
  have K3 := K2.made (by simp; omega) (World.grownBy_alloc _ (.map #[] 0) none) (by simp)
  have o1 : OwnI ((w1.alloc (.map #[] 0)).alloc (.map #[] 0)) w1.heap.size 0 (.map []) := (World.ownsMap_made w1 Try.prog 9 _).alloc _
  have o2 : OwnI ((w1.alloc (.map #[] 0)).alloc (.map #[] 0)) (w1.alloc (.map #[] 0)).heap.size 0 (.map []) := World.ownsMap_made (w1.alloc (.map #[] 0)) Try.prog 9 _
  have hB2 : Below w.heap.size w ((w1.alloc (.map #[] 0)).alloc (.map #[] 0)) := (hB1.alloc (by omega) _).alloc (by simp; omega) _
  have hs : (w1.alloc (.map #[] 0)).heap.size = w1.heap.size + 1 := by simp
  rw [hs] at K3 o2
  have hS := Hid.intro (⟨_, K3, o1, o2, hB2⟩ : ∃ F, Kit ((w1.alloc (.map #[] 0)).alloc (.map #[] 0)) w.heap.size p F [] [w1.heap.size + 1, w1.heap.size] ∧ OwnI ((w1.alloc (.map #[] 0)).alloc (.map #[] 0)) w1.heap.size 0 (.map []) ∧ OwnI ((w1.alloc (.map #[] 0)).alloc (.map #[] 0)) (w1.heap.size + 1) 0 (.map []) ∧ Below w.heap.size w ((w1.alloc (.map #[] 0)).alloc (.map #[] 0)))
  have hw1 : w.heap.size ≤ w1.heap.size := by omega
  clear hb0 hb1 h1 K1 K2 K3 o1 o2 hs hB1 hB2 s1 s0
  have hmk : ∀ w : World, (Instr.makeMap 26 none).run Try.prog w = .ok (.map (some w.heap.size)) (w.alloc (.map #[] 0)) := fun w => by rfl
  go_wp2_with fail
  go_loopw [6] (fun iv wr => ∃ (i : Nat) (S : List (List UInt8)) (L : List Bl) (F : Nat → Prop) (D1 D2 : DataW Unit), i ≤ os.length ∧ iv = .int .i64 (i : Int) ∧ S.length ≤ i ∧ Hid (On S L) ∧ Hid (Kit wr w.heap.size p F L [w1.heap.size + 1, w1.heap.size]) ∧ Hid (OwnI wr w1.heap.size i D1) ∧ Hid (OwnI wr (w1.heap.size + 1) i D2) ∧ Hid (Ids D1 S L) ∧ Hid (Cnt D2 S) ∧ Hid (Below w.heap.size w wr)) (fun iv _ => os.length - (intOf iv).toNat)
  case atStart =>
    obtain ⟨F, k1, k2, k3, k4⟩ := hS.out
    exact ⟨0, [], [], F, _, _, Nat.zero_le _, rfl, Nat.le_refl _, On.nil hI.out, k1, k2, k3, Ids.nil _, Cnt.nil, k4⟩
  case round =>
    obtain ⟨i, S, L, F, D1, D2, hi, rfl, hSi, hO, hK, h1, h2, hD1, hD2, hB⟩ := hrel
    clear hS hI hnew
    by_cases hl : i < os.length
    · obtain ⟨T, hT⟩ : ∃ T, os[i]? = some T := ⟨os[i], by simp [hl]⟩
      obtain ⟨g, o, rfl, hg, hcell⟩ := hos.out.at hB.out i T hT
      have hT' := Hid.intro hT
      clear hT
      by_cases hT60 : 60 < T.length
      · go_wp2
        go_ret
        exact ⟨rfl, hB.out⟩
      · have hput := pput_any hK.out.pl (hO.out.few (by omega)) T
        by_cases hT8 : T.length = 8
        · obtain ⟨p1, p2, p3, p4, p5, p6⟩ := hO.out.put (by omega) hT8
          generalize putL 60 L T = r at *
          obtain ⟨M, id, er⟩ := r
          simp only at p1 p2 p3 p4 p5 p6 hput
          subst p1
          have hput' := Hid.intro hput
          have hidb := find_pos p2.inv T
          rw [← p3] at hidb
          obtain ⟨hid0, hid60⟩ := hidb
          have q2 := Hid.intro p2
          have q3 := Hid.intro p3
          have q6 := Hid.intro p6
          clear hput p2 p3 p6
          have hbe : ((T.length : Int) != 8) = false := by simp; omega
          go_wp2_with fail
          refine hput'.out.mono ?_; rintro e w2 ⟨rfl, h3, k3⟩
          have hh := Hid.intro (hK.out.call (by have := hB.out.size; omega) h3 k3)
          have m1 := Hid.intro (own_keep h1.out k3 (hK.out.out _ (by simp)).1)
          have m2 := Hid.intro (own_keep h2.out k3 (hK.out.out _ (by simp)).1)
          have hB2 := Hid.intro (hB.out.trans hh.out.2)
          have cell2 := hos.out.cell hB2.out hT'.out
          obtain ⟨x, hlook, hx⟩ := look_ids m1.out hD1.out T (by omega)
          obtain ⟨w3, hset, m1a, hg3⟩ := set_int m1.out (by omega) T (by omega) id hid0 (by omega)
          have hh3 := Hid.intro (hh.out.1.upd (m := w1.heap.size) (by simp) (by have := hB2.out.size; omega) hg3)
          have m2a := m2.out.kept hg3 (by simp)
          have hB3 := Hid.intro (hB2.out.trans hh3.out.2)
          have cell3 := hos.out.cell hB3.out hT'.out
          have hcnt := look_cnt m2a hD2.out T (by omega)
          have hcl := List.count_le_length (a := T) (l := S)
          obtain ⟨w4, hset4, m2b, hg4⟩ := set_int m2a (by omega) T (by omega) ((S.count T : Nat) + 1) (by omega) (by omega)
          have hh4 := Hid.intro (hh3.out.1.upd (m := w1.heap.size + 1) (by simp) (by have := hB3.out.size; omega) hg4)
          have m1b := Hid.intro (m1a.kept hg4 (by simp))
          have m2b' := Hid.intro m2b
          have hB4 := Hid.intro (hB3.out.trans hh4.out.2)
          have cell4 := hos.out.cell hB4.out hT'.out
          have hz := refZero_any T w2 (by omega)
          rw [allZ_zer hT8] at hz
          have hz' := Hid.intro hz
          clear h3 k3 hput' hh m1 m2 m1a m2a m2b hg3 hg4 hz hB hB2 hB3 hh3 h1 h2 hK
          have hfin : ∃ is : Bool, ∃ zr : Bool, Hid (decide (T ∈ S) = is ∧ decide (T = zer) = zr) ∧ (decide (id = 0) = zr) ∧ (is = true → x = id) := ⟨_, _, ⟨rfl, rfl⟩, by simp [p5], fun e => by rw [hx (of_decide_eq_true e), p4 (of_decide_eq_true e)]⟩
          obtain ⟨is, zr, he, hzr, hxi⟩ := hfin
          rw [he.out.1] at hlook
          rw [he.out.2] at hz'
          have hidc : (zr = true ∧ id = 0) ∨ (zr = false ∧ id ≠ 0) := by
            cases zr
            · exact .inr ⟨rfl, of_decide_eq_false hzr⟩
            · exact .inl ⟨rfl, of_decide_eq_true hzr⟩
          have hisc : (is = true ∧ x = id) ∨ is = false := by
            cases is
            · exact .inr rfl
            · exact .inl ⟨rfl, hxi rfl⟩
          clear hx p4 p5 hzr hxi
          have hend : Hid (∃ (i' : Nat) (S : List (List UInt8)) (L : List Bl) (F : Nat → Prop) (D1 D2 : DataW Unit), i' ≤ os.length ∧ i' = i + 1 ∧ S.length ≤ i' ∧ Hid (On S L) ∧ Hid (Kit w4 w.heap.size p F L [w1.heap.size + 1, w1.heap.size]) ∧ Hid (OwnI w4 w1.heap.size i' D1) ∧ Hid (OwnI w4 (w1.heap.size + 1) i' D2) ∧ Hid (Ids D1 S L) ∧ Hid (Cnt D2 S) ∧ Hid (Below w.heap.size w w4)) :=
            ⟨i + 1, S ++ [T], M, _, _, _, by omega, rfl, by simp; omega, q2, hh4.out.1, m1b, m2b', hD1.out.put q3.out q6.out, hD2.out.put rfl, hB4⟩
          clear hh4 m1b m2b' hB4 q2 q3 q6 hO hD1 hD2
          rcases hidc with ⟨rfl, rfl⟩ | ⟨rfl, hidn⟩
          · rcases hisc with ⟨rfl, rfl⟩ | rfl
            · go_wp2_with fail
              refine hz'.out.mono ?_; rintro e w5 ⟨rfl, rfl⟩
              go_wp2
              go_roundw
              case rel => obtain ⟨i', S', L', F', E1, E2, z1, rfl, z2, z3⟩ := hend.out; exact ⟨i + 1, S', L', F', E1, E2, z1, by go_num, z2, z3⟩
              case measure => simp [intOf]; omega
            · go_wp2_with fail
              refine hz'.out.mono ?_; rintro e w5 ⟨rfl, rfl⟩
              go_wp2
              go_roundw
              case rel => obtain ⟨i', S', L', F', E1, E2, z1, rfl, z2, z3⟩ := hend.out; exact ⟨i + 1, S', L', F', E1, E2, z1, by go_num, z2, z3⟩
              case measure => simp [intOf]; omega
          · rcases hisc with ⟨rfl, rfl⟩ | rfl
            · go_wp2_with fail
              refine hz'.out.mono ?_; rintro e w5 ⟨rfl, rfl⟩
              go_wp2
              go_roundw
              case rel => obtain ⟨i', S', L', F', E1, E2, z1, rfl, z2, z3⟩ := hend.out; exact ⟨i + 1, S', L', F', E1, E2, z1, by go_num, z2, z3⟩
              case measure => simp [intOf]; omega
            · go_wp2_with fail
              refine hz'.out.mono ?_; rintro e w5 ⟨rfl, rfl⟩
              go_wp2
              go_roundw
              case rel => obtain ⟨i', S', L', F', E1, E2, z1, rfl, z2, z3⟩ := hend.out; exact ⟨i + 1, S', L', F', E1, E2, z1, by go_num, z2, z3⟩
              case measure => simp [intOf]; omega
        · rw [show putL 60 L T = (L, 0, 1) by unfold putL; rw [if_pos hT8]] at hput
          have hput' := Hid.intro hput
          clear hput
          go_wp2_with fail
          refine hput'.out.mono ?_; rintro e w2 ⟨rfl, h3, k3⟩
          have hh := Hid.intro (hK.out.call (by have := hB.out.size; omega) h3 k3)
          have m1 := Hid.intro (own_keep h1.out k3 (hK.out.out _ (by simp)).1)
          have m2 := Hid.intro (own_keep h2.out k3 (hK.out.out _ (by simp)).1)
          have hbe : ((T.length : Int) != 8) = true := by simp; omega
          have cell2 := hos.out.cell (hB.out.trans hh.out.2) hT'.out
          clear h3 k3 hput'
          go_wp2
          go_roundw
          case rel => exact ⟨i + 1, S, L, _, D1, D2, by omega, by go_num, by omega, hO, hh.out.1, m1.out.mono (by omega), m2.out.mono (by omega), hD1, hD2, hB.out.trans hh.out.2⟩
          case measure => simp [intOf]; omega
    · have hii : i = os.length := by omega
      subst hii
      have hSb : S.length ≤ 50 := by omega
      have hm3 : w1.heap.size + 1 < wr.heap.size := (hK.out.out _ (by simp)).2.2
      have K2 := hK.out.made (by have := hB.out.size; omega) (World.grownBy_alloc wr (.map #[] 0) none) (by simp)
      have o1 : OwnI (wr.alloc (.map #[] 0)) w1.heap.size os.length D1 := h1.out.alloc _
      have o2 : OwnI (wr.alloc (.map #[] 0)) (w1.heap.size + 1) os.length D2 := h2.out.alloc _
      have o3 : OwnB (wr.alloc (.map #[] 0)) wr.heap.size 0 (.map []) := World.ownsMap_made wr Try.prog 3 _
      have hB5 : Below w.heap.size w (wr.alloc (.map #[] 0)) := hB.out.alloc hB.out.size _
      obtain ⟨w5, hrun5, hrg5, hg5, hs5⟩ := World.ownsMap.range o1 keyed9 Try.underlying26
      have K3 := K2.made (by have := hB5.size; omega) hg5 hs5
      have o2' := o2.kept hg5 (by simp)
      have o3' := World.ownsMap.kept o3 hg5 (by simp)
      have hB6 : Below w.heap.size w w5 := hB5.trans ⟨hg5.os, hg5.tape, hg5.output, hg5.size, fun k hk => hg5.block k (by have := hB5.size; omega) (by simp)⟩
      have hsz := World.ownsMap.size_le o1
      have hst := Hid.intro (⟨_, K3, hrg5, o2', o3', hB6⟩ : ∃ F, Kit w5 w.heap.size p F L [(wr.alloc (.map #[] 0)).heap.size, wr.heap.size, w1.heap.size + 1, w1.heap.size] ∧ w5.ranges Try.prog 9 (plainElem Try.prog 3) w1.heap.size (wr.alloc (.map #[] 0)).heap.size os.length D1 (Maps.has D1) (Maps.size D1) ∧ OwnI w5 (w1.heap.size + 1) os.length D2 ∧ OwnB w5 wr.heap.size 0 (.map []) ∧ Below w.heap.size w w5)
      have hs1 : (wr.alloc (.map #[] 0)).heap.size = wr.heap.size + 1 := by simp
      rw [hs1] at hst hrun5
      clear K2 o1 o2 o3 hB5 hrg5 hg5 hs5 K3 o2' o3' hB6 hB h1 h2 hK hs1
      have hmk3 : ∀ w : World, (Instr.makeMap 32 none).run Try.prog w = .ok (.map (some w.heap.size)) (w.alloc (.map #[] 0)) := fun w => rfl
      generalize hwr : wr.heap.size = m3 at *
      go_wp2_with fail
      go_loopw [] (fun v6 => ∃ (left : Lit → Bool) (cnt n3 : Nat) (F : Nat → Prop) (D3 : DataW Unit), n3 + cnt ≤ 50 ∧ Hid (v6.ranges Try.prog 9 (plainElem Try.prog 3) w1.heap.size (m3 + 1) os.length D1 left cnt) ∧ Hid (Kit v6 w.heap.size p F L [m3 + 1, m3, w1.heap.size + 1, w1.heap.size]) ∧ Hid (OwnI v6 (w1.heap.size + 1) os.length D2) ∧ Hid (OwnB v6 m3 n3 D3) ∧ Hid (Seen D3 L left) ∧ Hid (∀ k, left k = true → Maps.has D1 k = true) ∧ Hid (Below w.heap.size w v6)) (fun v6 => v6.rangeLeft w1.heap.size (m3 + 1))
      case atStart =>
        obtain ⟨F, z1, z2, z3, z4, z5⟩ := hst.out
        exact ⟨_, _, 0, F, _, by omega, z2, z1, z3, z4, Seen.nil _ _, fun k hk => hk, z5⟩
      case round =>
        obtain ⟨left, cnt, n3, F, D3, hn3, hrg, hK, h2, h3, hSeen, hlh, hB⟩ := hrel
        clear hst hmk3 hmk hrun5
        rcases hrg.out.next keyed9 0 with ⟨h0, hl, hrun⟩ | ⟨key, v, kl, y, w6, cnt', hkey, hlk, hv, hat, hrun, hrg', hlt, hgr, hsz6, hen⟩
        · have o1 := hrg.out.owns
          obtain ⟨w5, hrun5, hrg5, hg5, hs5⟩ := World.ownsMap.range o1 keyed9 Try.underlying26
          have K3 := (hK.out.made (by have := hB.out.size; omega) hg5 hs5).sub (ns := [wr.heap.size, w1.heap.size + 1, w1.heap.size]) (by simp)
          have o2' := h2.out.kept hg5 (by simp)
          have hB6 : Below w.heap.size w w5 := hB.out.trans ⟨hg5.os, hg5.tape, hg5.output, hg5.size, fun k hk => hg5.block k (by have := hB.out.size; omega) (by simp)⟩
          have hgone := Gone.all hO.out hD1.out
          have hst := Hid.intro (⟨_, K3, hrg5, o2', hgone, hB6⟩ : ∃ F, Kit w5 w.heap.size p F L [wr.heap.size, w1.heap.size + 1, w1.heap.size] ∧ w5.ranges Try.prog 9 (plainElem Try.prog 3) w1.heap.size wr.heap.size os.length D1 (Maps.has D1) (Maps.size D1) ∧ OwnI w5 (w1.heap.size + 1) os.length D2 ∧ Gone L (Maps.has D1) L ∧ Below w.heap.size w w5)
          have hm4 : w1.heap.size + 1 < wr.heap.size := (hK.out.out _ (by simp)).2.2
          clear o1 hrg5 hg5 hs5 K3 o2' hB6 hgone hrg hK h2 h3 hSeen hlh hB hl h0
          generalize hwr2 : wr.heap.size = r2 at *
          go_wp2_with fail
          go_loopw [] (fun v6 => ∃ (left : Lit → Bool) (cnt : Nat) (F : Nat → Prop) (M : List Bl), Hid (v6.ranges Try.prog 9 (plainElem Try.prog 3) w1.heap.size r2 os.length D1 left cnt) ∧ Hid (Kit v6 w.heap.size p F M [r2, w1.heap.size + 1, w1.heap.size]) ∧ Hid (OwnI v6 (w1.heap.size + 1) os.length D2) ∧ Hid (Gone L left M) ∧ Hid (∀ k, left k = true → Maps.has D1 k = true) ∧ Hid (Below w.heap.size w v6)) (fun v6 => v6.rangeLeft w1.heap.size r2)
          case atStart =>
            obtain ⟨F, z1, z2, z3, z4, z5⟩ := hst.out
            exact ⟨_, _, F, _, z2, z1, z3, z4, fun k hk => hk, z5⟩
          case round =>
            obtain ⟨left, cnt, F, M, hrg, hK, h2, hGo, hlh, hB⟩ := hrel
            clear hst hrun5
            rcases hrg.out.next keyed9 0 with ⟨h0, hl, hrun⟩ | ⟨key, v, kl, y, w6, cnt', hkey, hlk, hv, hat, hrun, hrg', hlt, hgr, hsz6, hen⟩
            · have hM := hGo.out.none hl
              subst hM
              have hlen0 := plen_any hK.out.pl
              have hroom := proom_any hK.out.pl
              have hlen' := Hid.intro hlen0
              have hroom' := Hid.intro hroom
              clear hlen0 hroom hl h0 hrg
              go_wp2_with fail
              refine hlen'.out.mono ?_; rintro e w7 ⟨rfl, rfl⟩
              go_wp2_with fail
              refine hroom'.out.mono ?_; rintro e w8 ⟨rfl, hb8⟩
              go_wp2
              go_ret
              exact ⟨rfl, hB.out.trans (hb8.mono hB.out.size)⟩
            · obtain ⟨b, rfl, rfl⟩ := key_inv hkey
              obtain ⟨id, rfl, rfl, _⟩ := plainElem_int_inv Try.underlying3 hv
              have hbS : b ∈ S := (hD1.out.has b).1 (hlh.out _ hlk)
              have hb8 := hO.out.s8 b hbS
              have hid : id = find L b := by
                have e1 := hD1.out.at_ b hbS (.lit (.int .i64 0))
                rw [hat] at e1
                simpa using e1
              subst hid
              have hfp := find_pos hO.out.inv b
              obtain ⟨hK6, hBa⟩ := hK.out.upd (m := r2) (by simp) (by have := hB.out.size; omega) hgr
              have hB6 := Hid.intro (hB.out.trans hBa)
              have o2 := Hid.intro (h2.out.kept hgr (by simp; omega))
              have hlh6 : Hid (∀ k, (left k && !k.sameKey (.string b)) = true → Maps.has D1 k = true) := fun k hk => hlh.out k (by simp at hk; exact hk.1)
              have hrg6 := Hid.intro hrg'
              have hK6' := Hid.intro hK6
              have hms : cnt' = w6.rangeLeft w1.heap.size r2 := hrg'.left_eq.symm
              have hms0 : cnt = wr.rangeLeft w1.heap.size r2 := hrg.out.left_eq.symm
              by_cases hz : find L b = 0
              · have hgn := Hid.intro (hGo.out.zero (find_none L b (fun x hx => by have := hO.out.inv.ids x hx; omega) hz))
                rw [hz] at hrun hen
                clear hrg' hK6 hBa hgr hK hB h2 hat hv hkey
                go_wp2_with fail
                go_loopw [18] (fun kv w7 => kv = .int .i64 0 ∧ w7 = w6) (fun _ _ => 0)
                case atStart => exact ⟨rfl, rfl⟩
                case round =>
                  obtain ⟨rfl, rfl⟩ := hrel
                  go_wp2
                  go_roundw
                  case rel => exact ⟨_, cnt', F, M, hrg6, hK6', o2, hgn, hlh6, hB6⟩
                  case measure => omega
              · obtain ⟨q, hq1, hq2, hq3, hsel⟩ := find_mem hO.out.inv hz
                have hqM : q ∈ M := (hGo.out.mem q).2 ⟨hq1, by rw [hq3]; exact hlk⟩
                have hq4 := (hO.out.refs q hq1).2
                have hdn0 := Dn.zero hGo.out.inv hqM
                have hMf := Hid.intro (hGo.out.few hO.out (by omega))
                have hcl := List.count_le_length (a := b) (l := S)
                have hstep : Hid (∀ (k : Nat) (N : List Bl), Dn M q.1 q.2.1 q.2.2 k N → ¬ (k : Int) < q.2.1 → Gone L (fun z => left z && !z.sameKey (.string b)) N ∧ find N b = 0) := fun k N hd hk => by
                  refine ⟨?_, ?_⟩
                  · have := hGo.out.step hO.out.inv hq1 hd hk
                    rw [hq3] at this; exact this
                  · have := Dn.find hGo.out.inv hqM hd hk
                    rw [hq3] at this; exact this
                rw [hq4, hq2, hq3] at hdn0 hstep
                have hcnt : Hid (∀ w', OwnI w' (w1.heap.size + 1) os.length D2 → (Instr.lookup 26 (.map (some (w1.heap.size + 1))) (.string (str b)) false).run Try.prog w' = .ok (.int .i64 (S.count b : Nat)) w') := fun w' ho => look_cnt ho hD2.out b (by omega)
                have hdn := Hid.intro hdn0
                have idpos : 0 < find L b := by omega
                generalize hf : find L b = id at *
                generalize hcn : S.count b = cb at *
                clear hrg' hK6 hBa hgr hK hB h2 hat hv hkey hdn0 hsel hqM hq1 hq2 hq3 hq4 q
                go_wp2_with fail
                go_loopw [18] (fun kv w7 => ∃ (k : Nat) (F : Nat → Prop) (N : List Bl), k ≤ cb ∧ kv = .int .i64 (k : Int) ∧ Hid (Dn M id (cb : Nat) b k N) ∧ Hid (Kit w7 w.heap.size p F N [r2, w1.heap.size + 1, w1.heap.size]) ∧ Hid (w7.ranges Try.prog 9 (plainElem Try.prog 3) w1.heap.size r2 os.length D1 (fun z => left z && !z.sameKey (.string b)) cnt') ∧ Hid (OwnI w7 (w1.heap.size + 1) os.length D2) ∧ Hid (Below w.heap.size w w7)) (fun kv _ => cb - (intOf kv).toNat)
                case atStart => exact ⟨0, F, M, Nat.zero_le _, rfl, hdn, hK6', hrg6, o2, hB6⟩
                case round =>
                  obtain ⟨k, F7, N, hk, rfl, hd7, hK7, hrg7, o7, hB7⟩ := hrel
                  have hc7 := hcnt.out _ o7.out
                  clear hrun hen
                  by_cases hkc : k < cb
                  · obtain ⟨e1, hd8⟩ := hd7.out.step (by omega) (by omega)
                    have hdr := drop_any hK7.out.pl (hd7.out.few hMf.out (by omega)) id
                    rw [e1] at hdr
                    have hdr' := Hid.intro hdr
                    have hd8' := Hid.intro hd8
                    clear hdr hd8 e1
                    go_wp2_with fail
                    refine hdr'.out.mono ?_; rintro e w8 ⟨rfl, h8, k8⟩
                    have hh := Hid.intro (hK7.out.call (by have := hB7.out.size; omega) h8 k8)
                    have o8 := Hid.intro (own_keep o7.out k8 (hK7.out.out _ (by simp)).1)
                    have r8 := Hid.intro (rng_keep hrg7.out k8 (hK7.out.out _ (by simp)).1 (hK7.out.out _ (by simp)).1)
                    clear h8 k8 hdr'
                    go_wp2
                    go_roundw
                    case rel => exact ⟨k + 1, _, _, by omega, by go_num, hd8', hh.out.1, r8, o8, hB7.out.trans hh.out.2⟩
                    case measure => simp [intOf]; omega
                  · have hdr := drop_any hK7.out.pl (hd7.out.few hMf.out (by omega)) id
                    rw [hd7.out.done (by omega) (by omega)] at hdr
                    have hdr' := Hid.intro hdr
                    obtain ⟨hgn, hfn⟩ := hstep.out k N hd7.out (by omega)
                    have hgn' := Hid.intro hgn
                    have hfn' := Hid.intro hfn
                    clear hdr hgn hfn
                    go_wp2_with fail
                    refine hdr'.out.mono ?_; rintro e w8 ⟨rfl, h8, k8⟩
                    have hh := Hid.intro (hK7.out.call (by have := hB7.out.size; omega) h8 k8)
                    have o8 := Hid.intro (own_keep o7.out k8 (hK7.out.out _ (by simp)).1)
                    have r8 := Hid.intro (rng_keep hrg7.out k8 (hK7.out.out _ (by simp)).1 (hK7.out.out _ (by simp)).1)
                    have hfi := pfind_any h8 b (by omega)
                    rw [hfn'.out] at hfi
                    have hfi' := Hid.intro hfi
                    have hB8 := Hid.intro (hB7.out.trans hh.out.2)
                    clear h8 k8 hdr' hfi
                    go_wp2_with fail
                    refine hfi'.out.mono ?_; rintro e w9 ⟨rfl, hb9⟩
                    have o9 := Hid.intro (own_keep (F := fun _ => False) o8.out (Keep.of hb9) (fun e => e))
                    have r9 := Hid.intro (rng_keep (F := fun _ => False) r8.out (Keep.of hb9) (fun e => e) (fun e => e))
                    have K9 := Hid.intro (hh.out.1.below hb9)
                    have hB9 := Hid.intro (hB8.out.trans (hb9.mono hB8.out.size))
                    have hms9 : w9.rangeLeft w1.heap.size r2 = cnt' := r9.out.left_eq
                    clear hb9 hfi'
                    go_wp2
                    go_roundw
                    case rel => exact ⟨_, cnt', _, N, r9, K9, o9, hgn', hlh6, hB9⟩
                    case measure => omega
        · obtain ⟨b, rfl, rfl⟩ := key_inv hkey
          obtain ⟨id, rfl, rfl, _⟩ := plainElem_int_inv Try.underlying3 hv
          have hbS : b ∈ S := (hD1.out.has b).1 (hlh.out _ hlk)
          have hb8 := hO.out.s8 b hbS
          have hid : id = find L b := by
            have e1 := hD1.out.at_ b hbS (.lit (.int .i64 0))
            rw [hat] at e1
            simpa using e1
          subst hid
          have hfp := find_pos hO.out.inv b
          obtain ⟨hK6, hBa⟩ := hK.out.upd (m := m3 + 1) (by simp) (by have := hB.out.size; omega) hgr
          have hB6 := Hid.intro (hB.out.trans hBa)
          have o2 := Hid.intro (h2.out.kept hgr (by simp; omega))
          have o3 := Hid.intro (h3.out.kept hgr (by simp))
          have hl6 : ∀ k, left k = false → (left k && !k.sameKey (.string b)) = false := fun k hk => by rw [hk]; rfl
          have hsn := Hid.intro (hSeen.out.less hl6)
          have hlh6 : Hid (∀ k, (left k && !k.sameKey (.string b)) = true → Maps.has D1 k = true) := fun k hk => hlh.out k (by simp at hk; exact hk.1)
          have hrg6 := Hid.intro hrg'
          have hK6' := Hid.intro hK6
          have hms : cnt' = w6.rangeLeft w1.heap.size (m3 + 1) := hrg'.left_eq.symm
          have hms0 : cnt = wr.rangeLeft w1.heap.size (m3 + 1) := hrg.out.left_eq.symm
          by_cases hz : find L b = 0
          · rw [hz] at hrun hen
            clear hrg' hK6 hBa hgr hK hB h2 h3 hat hv hkey hl6
            go_wp2
            go_roundw
            case rel => exact ⟨_, cnt', n3, F, D3, by omega, hrg6, hK6', o2, o3, hsn, hlh6, hB6⟩
            case measure => omega
          · obtain ⟨q, hq1, hq2, hq3, hsel⟩ := find_mem hO.out.inv hz
            have hget := get_any hK6.pl (find L b)
            rw [show getL L (find L b) = (b, 0) by unfold getL; rw [if_neg hz, hsel]; simp only [hq3]] at hget
            have hrefs : Hid (∀ w', Below w6.heap.size w6 w' → Calls Try.prog 10 #[.pointer (some ⟨p, 0, none⟩), .int .i64 (find L b)] w' fun e w'' => e = .returned (.int .i64 (S.count b : Nat)) ∧ Below w6.heap.size w6 w'') := fun w' hb' => by
              have := refs_any (hK6.pl.below hb') (find L b)
              rw [show refsL L (find L b) = (S.count b : Nat) by unfold refsL; rw [hsel]; simp only; rw [(hO.out.refs q hq1).2, hq3]] at this
              refine this.mono ?_
              rintro e w'' ⟨rfl, hb2⟩
              exact ⟨rfl, hb'.trans (hb2.mono hb'.size)⟩
            have hfind : Hid (∀ w', Below w6.heap.size w6 w' → Calls Try.prog 11 #[.pointer (some ⟨p, 0, none⟩), .string (str b)] w' fun e w'' => e = .returned (.int .i64 (find L b)) ∧ Below w6.heap.size w6 w'') := fun w' hb' => by
              refine (pfind_any (hK6.pl.below hb') b (by omega)).mono ?_
              rintro e w'' ⟨rfl, hb2⟩
              exact ⟨rfl, hb'.trans (hb2.mono hb'.size)⟩
            have hnot := hSeen.out.not hO.out.inv hlk hz
            have rk : ∀ w', Below w6.heap.size w6 w' → (Instr.lookup 32 (.map (some m3)) (.int .i64 (find L b)) false).run Try.prog w' = .ok (.bool false) w' ∧ (Instr.lookup 26 (.map (some (w1.heap.size + 1))) (.string (str b)) false).run Try.prog w' = .ok (.int .i64 (S.count b : Nat)) w' ∧ Below w6.heap.size w6 w' := fun w' hb' =>
              ⟨look_seen (own_keep (F := fun _ => False) o3.out (Keep.of hb') (fun e => e)) _ hfp.1 (by omega) hnot, look_cnt (own_keep (F := fun _ => False) o2.out (Keep.of hb') (fun e => e)) hD2.out b (by omega), hb'⟩
            have rk' := Hid.intro rk
            have hget' := Hid.intro hget
            have hseq : ((str b).toList == (str b).toList) = true := by simp
            have hlk' := Hid.intro hlk
            have hO' := hO
            generalize hf : find L b = id at *
            have hf' := Hid.intro hf
            generalize hcn : S.count b = cb at *
            clear hrg' hK6 hBa hgr hK hB h2 h3 hat hv hkey hl6 rk hget hsel hq1 hq2 hq3 q hnot hlk hf hcn
            go_wp2_with fail
            refine hget'.out.mono ?_; rintro e w7 ⟨rfl, hb7⟩
            go_wp2_with fail
            go_region_held3 (fun w' => (Instr.lookup 32 (.map (some m3)) (.int .i64 id) false).run Try.prog w' = .ok (.bool false) w' ∧ (Instr.lookup 26 (.map (some (w1.heap.size + 1))) (.string (str b)) false).run Try.prog w' = .ok (.int .i64 (cb : Nat)) w' ∧ Below w6.heap.size w6 w')
              (first
                | exact rk'.out _ hb7.drew
                | exact rk'.out _ hb8
                | exact rk'.out _ hb9)
              (first
                | (go_at_call 10; refine (hrefs.out _ hb7.drew).mono ?_; rintro e w8 ⟨rfl, hb8⟩)
                | (go_at_call 11; refine (hfind.out _ hb8).mono ?_; rintro e w9 ⟨rfl, hb9⟩))
            all_goals
              obtain ⟨w10, hset, m3a, hg10⟩ := set_seen (own_keep (F := fun _ => False) o3.out (Keep.of hb9) (fun e => e)) (by omega) id hfp.1 (by omega)
              have Ka := hK6'.out.below hb9
              have hb9' : Below w.heap.size w w9 := hB6.out.trans (hb9.mono hB6.out.size)
              obtain ⟨Kb, hBb⟩ := Ka.upd (m := m3) (by simp) hb9'.size hg10
              have o2b := Hid.intro ((own_keep (F := fun _ => False) o2.out (Keep.of hb9) (fun e => e)).kept hg10 (by simp; omega))
              have rgb := Hid.intro ((rng_keep (F := fun _ => False) hrg6.out (Keep.of hb9) (fun e => e) (fun e => e)).kept hg10 (by simp; omega) (by simp))
              have hBc := Hid.intro (hb9'.trans hBb)
              have hsb := Hid.intro (hsn.out.put (b := b) (by simp only [WideAt.sameKey_self (strkey b)]; simp))
              rw [hf'.out] at hsb
              have m3b := Hid.intro m3a
              have Kb' := Hid.intro Kb
              have hms1 : w10.rangeLeft w1.heap.size (m3 + 1) = cnt' := rgb.out.left_eq
              clear Ka hb9' Kb hBb m3a hg10 hb9 hb8 hb7 hrefs hfind rk' hget'
              go_wp2
              go_roundw
              case rel => exact ⟨_, cnt', n3 + 1, F, _, by omega, rgb, Kb', o2b, m3b, hsb, hlh6, hBc⟩
              case measure => omega
set_option maxRecDepth 100000 in
theorem once_any (v : Value) (os : List (List UInt8)) (w : World) (h : StrsAt w v os) : Calls Try.prog 3 #[v] w fun e w' => e = .returned (.bool true) ∧ Below w.heap.size w w' := by
  obtain ⟨a, c, rfl⟩ := h.slice
  by_cases hl : os.length ≤ 50
  · exact once_yes a c os w h hl
  · have h' := Hid.intro h
    have hd : decide (50 < (os.length : Int)) = true := by simp; omega
    clear h
    go_enter Try.func3, Try.ntmps3
    go_wp2_with fail
    refine (alive_any w).mono ?_; rintro e w0 ⟨rfl, hb0⟩
    go_wp2
    go_ret
    exact ⟨rfl, hb0⟩
end Go.Proofs.Ytdmamanlclajjaa
