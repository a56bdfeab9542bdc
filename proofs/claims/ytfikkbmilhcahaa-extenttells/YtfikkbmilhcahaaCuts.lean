/-
  The contracts of runs' Put and Of for whatever list, of without and of Cut.
-/
import Derived.Test.YtfikkbmilhcahaaPuts
namespace Go.Proofs.Ytfikkbmilhcahaa
open Go.ChangeShapes Go.WideShapes Go.ChangeAt Go.RowKit
attribute [local go_sem ↓] Go.wp_at_zero Go.wp_at_succ

theorem less_any (o s : Sp) (w : World) (ho : Wh o) (hf : s.1 ≤ 9223372036854775807) :
    Calls Try.prog 43 #[.agg #[.int .i64 o.1, .int .i64 o.2], .agg #[.int .i64 s.1, .int .i64 s.2]] w fun e w' => ∃ v, e = .returned v ∧ w'.ownsRow w.heap.size 26 2 v (lessS o s).length (spansV (lessS o s)) ∧ Below w.heap.size w w' := by
  obtain ⟨f, n⟩ := o; obtain ⟨g, m⟩ := s
  obtain ⟨h1, h2, h3⟩ := id ho
  simp only at h1 h2 h3 hf ⊢
  by_cases hs : Wh (g, m)
  · obtain ⟨k1, k2, k3⟩ := id hs
    simp only at k1 k2 k3
    by_cases hm : f < g + m ∧ g < f + n
    · have hl : lessS (f, n) (g, m) = (if f < g then [(f, g - f)] else []) ++ (if g + m < f + n then [(g + m, f + n - (g + m))] else []) := by
        simp only [lessS]; rw [if_pos ⟨hs, hm⟩]
      rw [hl]
      have ht := fun w => meet_some f n g m _ _ w h1 h2 h3 k1 k2 k3 rfl rfl (by split <;> split <;> omega) (by split <;> omega) (by split <;> omega)
      by_cases c1 : f < g
      · by_cases c2 : g + m < f + n
        · simp only [if_pos c1, if_pos c2] at ht ⊢
          simpa [spansV] using less_11 f n g m g (g + m) w h1 h2 h3 c1 (by omega) c2 ht
        · simp only [if_pos c1, if_neg c2] at ht ⊢
          simpa [spansV] using less_10 f n g m g (f + n) w h1 h2 h3 c1 (by omega) rfl ht
      · by_cases c2 : g + m < f + n
        · simp only [if_neg c1, if_pos c2] at ht ⊢
          simpa [spansV] using less_01 f n g m f (g + m) w h1 h2 h3 rfl (by omega) c2 ht
        · simp only [if_neg c1, if_neg c2] at ht ⊢
          simpa [spansV] using less_00 f n g m f (f + n) w h1 h2 h3 rfl (by omega) rfl ht
    · have hl : lessS (f, n) (g, m) = [(f, n)] := by
        simp only [lessS]; rw [if_neg fun h => hm h.2]
      rw [hl]
      simpa [spansV] using less_all f n g m w h1 h2 h3 fun w => meet_none f n g m _ _ w h1 h2 h3 k1 k2 k3 rfl rfl (by split <;> split <;> omega)
  · have hl : lessS (f, n) (g, m) = [(f, n)] := by
      simp only [lessS]; rw [if_neg fun h => hs h.1]
    rw [hl]
    simpa [spansV] using less_all f n g m w h1 h2 h3 fun w => meet_b f n g m w hf h1 h2 h3 hs

theorem own_slice {w : World} {base : Nat} {v : Value} {n : Nat} {xs : List Value} (h : w.ownsRow base 26 2 v n xs) : ∃ a c, v = .slice a n c := by
  rcases h.2 with ⟨rfl, rfl⟩ | ⟨g, cap, cur, hv, _⟩
  · exact ⟨_, _, rfl⟩
  · exact ⟨_, _, hv⟩

theorem own_room {w : World} {base : Nat} {v : Value} {n : Nat} {xs : List Value} (h : w.ownsRow base 26 2 v n xs) : (v = .slice none 0 0 ∧ n = 0) ∨ ∃ g c, v = .slice (some ⟨g, 0, none⟩) n c ∧ n ≤ c := by
  rcases h.2 with ⟨rfl, rfl⟩ | ⟨g, cap, cur, hv, _, _, hn, _⟩
  · exact .inl ⟨rfl, rfl⟩
  · exact .inr ⟨g, cap, hv, hn⟩
theorem Hid.intro {p : Prop} (h : p) : Hid p := h

theorem Row.sliced {w : World} {v : Value} {ps : List Sp} (h : Row w v ps) : ∃ a n c, v = .slice a n c := by
  obtain ⟨a, c, h⟩ := h.slice
  exact ⟨a, _, c, h⟩

theorem less_length (o s : Sp) : (lessS o s).length ≤ 2 := by
  unfold lessS; split <;> (try split) <;> (try split) <;> simp

end Go.Proofs.Ytfikkbmilhcahaa
