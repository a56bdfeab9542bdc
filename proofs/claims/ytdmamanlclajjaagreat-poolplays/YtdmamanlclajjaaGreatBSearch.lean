/-
  The contracts of the search among a pool's blocks and of the pool's place: where the block of an id lies or would lie in a list that is in order, and whether it is there; nothing that was there is written.
-/
import Derived.Test.YtdmamanlclajjaaGreatBDel
import Derived.Test.YtdmamanlclajjaaGreatSearch
namespace Go.Proofs.YtdmamanlclajjaaGreat.B
open Go.ChangeShapes Go.WideShapes Go.ChangeAt Go.RowKit

/-- Where the block of an id lies. -/
def pos : List Bl → Int → Nat
  | [], _ => 0
  | q :: r, i => if q.1 < i then pos r i + 1 else 0
/-- In order of the ids, none twice. -/
def Ord : List Bl → Prop
  | [] => True
  | q :: r => (∀ a ∈ r, q.1 < a.1) ∧ Ord r
/-- Is the block of an id there? -/
def has (l : List Bl) (i : Int) : Bool := match l[pos l i]? with
  | some q => q.1 == i
  | none => false

theorem pos_le : ∀ (l : List Bl) (i : Int), pos l i ≤ l.length
  | [], _ => Nat.le_refl _
  | q :: r, i => by unfold pos; split <;> simp; exact pos_le r i
theorem pos_of : ∀ (l : List Bl) (i : Int) (n : Nat), n ≤ l.length → (∀ t a, t < n → l[t]? = some a → a.1 < i) → (∀ a, l[n]? = some a → ¬ a.1 < i) → pos l i = n
  | [], i, n, h, _, _ => by simp at h; subst h; rfl
  | q :: r, i, 0, _, _, h2 => by unfold pos; rw [if_neg (h2 q rfl)]
  | q :: r, i, n + 1, h, h1, h2 => by
    unfold pos
    rw [if_pos (h1 0 q (by omega) rfl), pos_of r i n (by simpa using h) (fun t a ht ha => h1 (t + 1) a (by omega) (by simpa using ha)) (fun a ha => h2 a (by simpa using ha))]
theorem ord_at : ∀ (l : List Bl) (s t : Nat) (a b : Bl), Ord l → s < t → l[s]? = some a → l[t]? = some b → a.1 < b.1
  | [], s, t, a, b, _, _, h, _ => by simp at h
  | q :: r, 0, t + 1, a, b, ho, _, ha, hb => by
    simp at ha; subst ha
    exact ho.1 b (List.mem_of_getElem? (by simpa using hb))
  | q :: r, s + 1, t + 1, a, b, ho, hst, ha, hb => ord_at r s t a b ho.2 (by omega) (by simpa using ha) (by simpa using hb)

set_option maxRecDepth 100000 in
theorem cmp_any (p : Bl) (i : Int) (w : World) :
    Calls Tryz.prog 75 #[.agg #[.int .i64 p.1, .int .i64 p.2.1, .string (str p.2.2)], .int .i64 i] w fun e w' => e = .returned (.int .i64 (cmpZ p.1 i)) ∧ Below w.heap.size w w' := by
  go_enter Tryz.func75, Tryz.ntmps75
  go_wp2_with fail
  refine (cmp64 _ _ _).mono ?_; rintro e w1 ⟨rfl, rfl⟩
  go_wp2
  go_ret
  exact ⟨rfl, (Below.refl _ _).alloc (Nat.le_refl _) _⟩

set_option maxHeartbeats 1000000 in
set_option maxRecDepth 100000 in
theorem search_some (l : List Bl) (x : Int) (g c : Nat) (w : World) (hl : l.length ≤ 1000) (hg : g < w.heap.size) (hc : Hid (Cells w g l)) (ho : Hid (Ord l)) :
    Calls Tryz.prog 74 #[.slice (some ⟨g, 0, none⟩) l.length c, .int .i64 x, .func (.func 75) #[] #[]] w fun e w' =>
      e = .returned (.tuple #[.int .i64 (pos l x : Nat), .bool (has l x)]) ∧ Below w.heap.size w w' := by
  go_enter Tryz.func74, Tryz.ntmps74
  go_wp2_with fail
  go_loopw [9, 10] (fun lv hv wr => ∃ lo hi : Nat, lo ≤ hi ∧ hi ≤ l.length ∧ lv = .int .i64 (lo : Int) ∧ hv = .int .i64 (hi : Int) ∧ Hid (∀ t q, t < lo → l[t]? = some q → q.1 < x) ∧ Hid (∀ (t : Nat) (q : Bl), hi ≤ t → l[t]? = some q → x ≤ q.1) ∧ Below w.heap.size w wr) (fun lv hv _ => (intOf hv).toNat - (intOf lv).toNat)
  case atStart => exact ⟨0, l.length, by omega, by omega, rfl, rfl, fun t q h => by omega, fun t q h k => by have := (List.getElem?_eq_some_iff.1 k).1; omega, Below.refl _ _⟩
  case round =>
    obtain ⟨lo, hi, h1, h2, rfl, rfl, hlo, hhi, hB⟩ := hrel
    have hgr : g < wr.heap.size := Nat.lt_of_lt_of_le hg hB.size
    by_cases hlt : lo < hi
    · obtain ⟨m, hm⟩ : ∃ m : Nat, m = (lo + hi) / 2 := ⟨_, rfl⟩
      have em : ((lo : Int) + (hi : Int)) / 2 = (m : Int) := by omega
      obtain ⟨⟨q, r, d⟩, hq⟩ : ∃ q, l[m]? = some q := ⟨l[m]'(by omega), by rw [List.getElem?_eq_getElem]⟩
      have hq' := Hid.intro hq
      obtain ⟨c0, c1, c2⟩ := (hc.out.below hB hg) m _ hq
      clear hq
      simp only at c0 c1 c2
      have hmn : m < l.length := by omega
      have hm' := Hid.intro hm
      have hmlo : lo ≤ m := by omega
      have hmhi : m < hi := by omega
      clear hm
      by_cases hcm : q < x
      · have hcz : cmpZ q x = -1 := by unfold cmpZ; simp [hcm]
        have hcm' := Hid.intro hcm
        clear hcm
        go_wp2_with fail
        refine (cmp_any (q, r, d) x _).mono ?_; rintro e w1 ⟨rfl, hb1⟩
        all_goals
          rw [hcz]
          have hb2 := hb1
          go_wp2
          go_roundw
          case rel =>
            refine ⟨m + 1, hi, by omega, h2, by go_num, rfl, fun t s ht hs => ?_, hhi, hB.trans (hb2.mono hB.size)⟩
            rcases Nat.lt_or_eq_of_le (Nat.le_of_lt_succ ht) with ht | rfl
            · exact Int.lt_trans (ord_at l t m s _ ho.out ht hs hq'.out) hcm'.out
            · rw [hq'.out] at hs; cases hs; exact hcm'.out
          case measure => simp [intOf]; omega
      · have hcz : (0 : Int) ≤ cmpZ q x := by unfold cmpZ; rw [if_neg hcm]; split <;> omega
        have hcm' := Hid.intro (Int.not_lt.1 hcm)
        clear hcm
        generalize hcc : cmpZ q x = cz at hcz
        have hcc' := Hid.intro hcc
        clear hcc
        go_wp2_with fail
        refine (cmp_any (q, r, d) x _).mono ?_; rintro e w1 ⟨rfl, hb1⟩
        all_goals
          rw [hcc'.out]
          have hb2 := hb1
          go_wp2
          go_roundw
          case rel =>
            refine ⟨lo, m, by omega, by omega, rfl, by go_num, hlo, fun t s ht hs => ?_, hB.trans (hb2.mono hB.size)⟩
            rcases Nat.lt_or_eq_of_le ht with ht | rfl
            · have := ord_at l m t _ s ho.out ht hq'.out hs
              have := hcm'.out
              simp only at *
              omega
            · rw [hq'.out] at hs; cases hs; exact hcm'.out
          case measure => simp [intOf]; omega
    · have hlh : lo = hi := by omega
      subst hlh
      have hpos : pos l x = lo := pos_of l x lo h2 hlo.out fun q hq => by have := hhi.out lo q (Nat.le_refl _) hq; omega
      by_cases hln : lo < l.length
      · obtain ⟨m, hm⟩ : ∃ m : Nat, m = lo := ⟨_, rfl⟩
        subst hm
        obtain ⟨⟨q, r, d⟩, hq⟩ : ∃ q, l[m]? = some q := ⟨l[m]'(by omega), by rw [List.getElem?_eq_getElem]⟩
        obtain ⟨c0, c1, c2⟩ := (hc.out.below hB hg) m _ hq
        simp only at c0 c1 c2
        have hfin : Hid (has l x = (cmpZ q x == 0)) := by
          show has l x = _
          unfold has cmpZ
          rw [hpos, hq]
          by_cases e : q = x
          · subst e; simp
          · have : (q == x) = false := by simpa using e
            simp only [this]
            rw [eq_comm]
            split
            · rfl
            · rw [if_pos (by omega)]; rfl
        have hpos' := Hid.intro hpos
        clear hpos hq hlo hhi
        go_wp2_with fail
        refine (cmp_any (q, r, d) x _).mono ?_; rintro e w1 ⟨rfl, hb1⟩
        all_goals
          have hb2 := hb1
          go_wp2
          go_ret2
          exact ⟨by rw [hfin.out, hpos'.out]; rfl, hB.trans (hb2.mono hB.size)⟩
      · have hfin : Hid (has l x = false) := by
          show has l x = _
          unfold has
          rw [hpos, List.getElem?_eq_none (by omega)]
        have hpos' := Hid.intro hpos
        clear hpos hlo hhi
        have hdf : decide ((lo : Int) < (l.length : Int)) = false := by simp; omega
        all_goals
          go_wp2
          go_ret2
          exact ⟨by rw [hfin.out, hpos'.out]; rfl, hB⟩

set_option maxHeartbeats 1000000 in
set_option maxRecDepth 100000 in
theorem search_nil (x : Int) (w : World) :
    Calls Tryz.prog 74 #[.slice none 0 0, .int .i64 x, .func (.func 75) #[] #[]] w fun e w' =>
      e = .returned (.tuple #[.int .i64 0, .bool false]) ∧ Below w.heap.size w w' := by
  go_enter Tryz.func74, Tryz.ntmps74
  go_wp2_with fail
  go_loopw [9, 10] (fun lv hv wr => lv = .int .i64 0 ∧ hv = .int .i64 0 ∧ Below w.heap.size w wr) (fun _ _ _ => 0)
  case atStart => exact ⟨rfl, rfl, Below.refl _ _⟩
  case round =>
    obtain ⟨rfl, rfl, hB⟩ := hrel
    all_goals
      go_wp2
      go_ret2
      exact ⟨rfl, hB⟩
end Go.Proofs.YtdmamanlclajjaaGreat.B
