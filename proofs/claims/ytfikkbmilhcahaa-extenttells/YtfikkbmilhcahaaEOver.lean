/-
  The contracts of extent's setAll, Tidy and Over.
-/
import Derived.Test.YtfikkbmilhcahaaESet
namespace Go.Proofs.Ytfikkbmilhcahaa
open Go.ChangeShapes Go.WideShapes Go.ChangeAt Go.RowKit
attribute [local go_sem ↓] Go.wp_at_zero Go.wp_at_succ

theorem fold_ti {l : List Ex} (h : Ti l) : ∀ top : List Ex, Ti (top.foldl setL l) := by
  intro top
  induction top generalizing l with
  | nil => exact h
  | cons x r ih => exact ih (setL_spec h).1
/-- setAll -/
theorem setAll_any {w : World} {base : Nat} {v u : Value} {l top : List Ex} (hv : w.ownsRow base 24 3 v l.length (BkE.itemsV l)) (hbase : base ≤ w.heap.size) (ht : Ti l) (hu : BkE.Row w u top) (hl : top.length ≤ 1000000) (hf : ∀ x ∈ top, x.1 ≤ 9223372036854775807) :
    Calls Try.prog 44 #[v, u] w fun e w' => ∃ v, e = .returned v ∧ w'.ownsRow base 24 3 v (top.foldl setL l).length (BkE.itemsV (top.foldl setL l)) ∧ Below w.heap.size w w' := by
  obtain ⟨a, c, rfl⟩ := hu.slice
  have hv' := Hid.intro hv
  have ht' := Hid.intro ht
  have hf' := Hid.intro hf
  have hu' := Hid.intro hu
  clear hv ht hf hu
  go_enter Try.func44, Try.ntmps44
  go_wp2_with fail
  go_loopw [0, 9] (fun ov iv wr => ∃ i : Nat, i ≤ top.length ∧ iv = .int .i64 i ∧ wr.ownsRow base 24 3 ov ((top.take i).foldl setL l).length (BkE.itemsV ((top.take i).foldl setL l)) ∧ Below w.heap.size w wr) (fun _ iv _ => top.length - (intOf iv).toNat)
  case atStart => exact ⟨0, Nat.zero_le _, rfl, hv'.out, Below.refl _ _⟩
  case round =>
    obtain ⟨i, hi, rfl, hown, hB⟩ := hrel
    have i0' : (0 : Int) ≤ (i : Int) := Int.natCast_nonneg _
    by_cases hlt : i < top.length
    · obtain ⟨g, o, ⟨p, q, r⟩, rfl, hg, hp, d0, d1, d2⟩ := erow_at (hu'.out.below hB) hlt
      have hpf : p ≤ 9223372036854775807 := hf'.out _ (List.mem_of_getElem? hp)
      have hnx : Hid ((top.take (i + 1)).foldl setL l = setL ((top.take i).foldl setL l) (p, q, r)) := Hid.intro (by
        rw [List.take_add_one, hp, List.foldl_append]; rfl)
      have hti := Hid.intro (fold_ti ht'.out (top.take i))
      have i1 : (i : Int) < (top.length : Int) := by omega
      simp only at d0 d1 d2
      clear hp
      generalize (top.take i).foldl setL l = cur at *
      have hro := Hid.intro (BkE.own_row (BkE.own_below hown ((Below.refl _ _).alloc (Nat.le_refl _) (.cells #[.int .i64 p, .int .i64 q, .int .i64 r] 24))))
      have hBa := Hid.intro (hB.alloc hB.size (.cells #[.int .i64 p, .int .i64 q, .int .i64 r] 24))
      clear hown
      go_wp2_with fail
      refine (set_any hro.out hti.out (p, q, r) hpf).mono ?_; rintro e w4 ⟨v4, rfl, hv4, hb4⟩
      have hsz := hB.size
      have hv4' := Hid.intro hv4
      have hb4' := Hid.intro hb4
      clear hv4 hb4 hB d0 d1 d2
      go_wp2
      go_roundw
      case rel => exact ⟨i + 1, by omega, by go_num, by rw [hnx.out]; exact BkE.own_mono hv4'.out (by simp; omega), hBa.out.trans (hb4'.out.mono hBa.out.size)⟩
      case measure => simp [intOf]; omega
    · have hi' : i = top.length := by omega
      have hfull : (top.take i).foldl setL l = top.foldl setL l := by rw [hi', List.take_length]
      rw [hfull] at hown
      clear hfull
      go_wp2
      go_ret
      exact ⟨_, rfl, hown, hB⟩
/-- Tidy -/
theorem tidyL_any {w : World} {u : Value} {top : List Ex} (hu : BkE.Row w u top) (hl : top.length ≤ 1000000) (hf : ∀ x ∈ top, x.1 ≤ 9223372036854775807) :
    Calls Try.prog 45 #[u] w fun e w' => ∃ v, e = .returned v ∧ w'.ownsRow w.heap.size 24 3 v (top.foldl setL []).length (BkE.itemsV (top.foldl setL [])) ∧ Below w.heap.size w w' := by
  go_enter Try.func45, Try.ntmps45
  go_wp2_with fail
  refine (setAll_any (l := []) (World.ownsRow_nil _ _ _ _) (Nat.le_refl _) trivial hu hl hf).mono ?_; rintro e w1 ⟨v1, rfl, hv1, hb1⟩
  go_wp2
  go_ret
  exact ⟨_, rfl, hv1, hb1⟩
/-- Over -/
theorem over_any {w : World} {v u : Value} {l m : List Ex} (hv : BkE.Row w v l) (hu : BkE.Row w u m) (hl : l.length ≤ 1000000) (hm : m.length ≤ 1000000) (hf : ∀ x ∈ l, x.1 ≤ 9223372036854775807) (hf2 : ∀ x ∈ m, x.1 ≤ 9223372036854775807) :
    Calls Try.prog 16 #[v, u] w fun e w' => ∃ v, e = .returned v ∧ w'.ownsRow w.heap.size 24 3 v (m.foldl setL (l.foldl setL [])).length (BkE.itemsV (m.foldl setL (l.foldl setL []))) ∧ Below w.heap.size w w' := by
  go_enter Try.func16, Try.ntmps16
  go_wp2_with fail
  refine (tidyL_any hv hl hf).mono ?_; rintro e w1 ⟨v1, rfl, hv1, hb1⟩
  go_wp2_with fail
  refine (setAll_any hv1 hb1.size (fold_ti (l := []) trivial l) (hu.below hb1) hm hf2).mono ?_; rintro e w2 ⟨v2, rfl, hv2, hb2⟩
  go_wp2
  go_ret
  exact ⟨_, rfl, hv2, hb1.trans (hb2.mono hb1.size)⟩

/-- What a list says, laid extent by extent over another one. -/
theorem fold_val : ∀ (top : List Ex) (p : Ex) (l : List Ex), Ti l → Tp p top → ∀ k, val (top.foldl setL l) k = overF (val l) (val top) k
  | [], p, l, _, _, k => by unfold overF; simp [val]
  | x :: r, p, l, hl, ⟨t1, t2, t3, t4⟩, k => by
    obtain ⟨a, b, _⟩ := setL_spec (x := x) hl
    rw [List.foldl_cons, fold_val r x (setL l x) a t4 k]
    unfold overF
    rw [b]
    unfold setF
    by_cases hk : x.1 ≤ k ∧ k < x.1 + x.2.1
    · have h1 := idA_low t3 hk.1
      have hv : val (x :: r) k = idA x k := by unfold val; rw [if_pos hk]
      have hr : val r k = -1 := tp_lo t4 hk.2
      rw [hv, hr, if_neg (by omega), if_pos ⟨t3, hk⟩, if_pos h1]
    · have hv : val (x :: r) k = val r k := by conv => lhs; unfold val; rw [if_neg hk]
      have e : (if Al x ∧ x.1 ≤ k ∧ k < x.1 + x.2.1 then idA x k else val l k) = val l k := if_neg fun h => hk h.2
      rw [hv, e]
/-- A tidy list made tidy is itself. -/
theorem fold_self {l : List Ex} (h : Ti l) : l.foldl setL [] = l :=
  ti_ext (fold_ti (l := []) trivial l) h fun k => by
    rw [fold_val l e0 [] trivial h]
    unfold overF
    rcases tp_val h k with e | e
    · rw [e]; rfl
    · rw [if_pos e.1]
/-- Over of two tidy ones. -/
def overL (l m : List Ex) : List Ex := m.foldl setL l
theorem overL_spec {l m : List Ex} (hl : Ti l) (hm : Ti m) : Ti (overL l m) ∧ ∀ k, val (overL l m) k = overF (val l) (val m) k := ⟨fold_ti hl m, fold_val m e0 l hl hm⟩
theorem ti_fits {l : List Ex} (h : Ti l) : ∀ x ∈ l, x.1 ≤ 9223372036854775807 := fun x hx => by
  have := (tp_al h x hx).1
  unfold Al at this; omega
theorem over_tidy {w : World} {v u : Value} {l m : List Ex} (hv : BkE.Row w v l) (hu : BkE.Row w u m) (hl : Ti l) (hm : Ti m) :
    Calls Try.prog 16 #[v, u] w fun e w' => ∃ v, e = .returned v ∧ w'.ownsRow w.heap.size 24 3 v (overL l m).length (BkE.itemsV (overL l m)) ∧ Below w.heap.size w w' := by
  have := over_any hv hu (by have := ti_len hl; omega) (by have := ti_len hm; omega) (ti_fits hl) (ti_fits hm)
  rw [fold_self hl] at this
  exact this
end Go.Proofs.Ytfikkbmilhcahaa
