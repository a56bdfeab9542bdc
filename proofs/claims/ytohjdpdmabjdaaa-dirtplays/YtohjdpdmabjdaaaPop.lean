import Derived.Test.YtohjdpdmabjdaaaProg
namespace Go.Proofs.Ytohjdpdmabjdaaa

/-- k bytes p, one behind the other. -/
def rep (p : Nat) : Nat → Nat
  | 0 => 0
  | k + 1 => p + 256 * rep p k

def s1 (k x : Nat) : Nat := (x / 2 &&& rep 85 k) + (x &&& rep 85 k)
def s2 (k x : Nat) : Nat := (x / 4 &&& rep 51 k) + (x &&& rep 51 k)
def s3 (k x : Nat) : Nat := (x / 16 + x) &&& rep 15 k

theorem and_step (a b p q : Nat) (ha : a < 256) (hp : p < 256) : (a + 256 * b) &&& (p + 256 * q) = (a &&& p) + 256 * (b &&& q) := by
  have h1 : ((a + 256 * b) &&& (p + 256 * q)) % 2 ^ 8 = a &&& p := by
    rw [Nat.and_mod_two_pow]
    rw [show (a + 256 * b) % 2 ^ 8 = a by omega, show (p + 256 * q) % 2 ^ 8 = p by omega]
  have h2 : ((a + 256 * b) &&& (p + 256 * q)) / 2 ^ 8 = b &&& q := by
    rw [Nat.and_div_two_pow]
    rw [show (a + 256 * b) / 2 ^ 8 = b by omega, show (p + 256 * q) / 2 ^ 8 = q by omega]
  omega

def c1 (a : Nat) : Nat := (a / 2 &&& 85) + (a &&& 85)
def c2 (a : Nat) : Nat := (a / 4 &&& 51) + (a &&& 51)
def c3 (a : Nat) : Nat := (a / 16 + a) &&& 15

theorem c1_top : ∀ a : Fin 256, ∀ t : Fin 2, (a.val / 2 + 128 * t.val) &&& 85 = a.val / 2 &&& 85 := by decide +kernel
theorem c2_top : ∀ a : Fin 256, ∀ t : Fin 4, (a.val / 4 + 64 * t.val) &&& 51 = a.val / 4 &&& 51 := by decide +kernel
theorem c3_top : ∀ a : Fin 69, ∀ t : Fin 5, (a.val / 16 + a.val + 16 * t.val) &&& 15 = (a.val / 16 + a.val) &&& 15 := by decide +kernel
theorem c1_lt : ∀ a : Fin 256, c1 a.val < 256 := by decide +kernel
theorem c21_lt : ∀ a : Fin 256, c2 (c1 a.val) < 69 ∧ c2 (c1 a.val) % 16 ≤ 4 := by decide +kernel
theorem c321_lt : ∀ a : Fin 256, c3 (c2 (c1 a.val)) ≤ 8 := by decide +kernel

theorem s1_step (k a b : Nat) (ha : a < 256) : s1 (k + 1) (a + 256 * b) = c1 a + 256 * s1 k b := by
  unfold s1 c1
  have e : (a + 256 * b) / 2 = (a / 2 + 128 * (b % 2)) + 256 * (b / 2) := by omega
  rw [e, rep, and_step _ _ _ _ (by omega) (by omega), and_step _ _ _ _ ha (by omega)]
  have := c1_top ⟨a, ha⟩ ⟨b % 2, by omega⟩
  simp only at this
  rw [this]
  omega
theorem s2_step (k a b : Nat) (ha : a < 256) : s2 (k + 1) (a + 256 * b) = c2 a + 256 * s2 k b := by
  unfold s2 c2
  have e : (a + 256 * b) / 4 = (a / 4 + 64 * (b % 4)) + 256 * (b / 4) := by omega
  rw [e, rep, and_step _ _ _ _ (by omega) (by omega), and_step _ _ _ _ ha (by omega)]
  have := c2_top ⟨a, ha⟩ ⟨b % 4, by omega⟩
  simp only at this
  rw [this]
  omega
theorem s3_step (k a b : Nat) (ha : a < 69) (hb : b % 16 ≤ 4) : s3 (k + 1) (a + 256 * b) = c3 a + 256 * s3 k b := by
  unfold s3 c3
  have e : (a + 256 * b) / 16 + (a + 256 * b) = (a / 16 + a + 16 * (b % 16)) + 256 * (b / 16 + b) := by omega
  rw [e, rep, and_step _ _ _ _ (by omega) (by omega)]
  have := c3_top ⟨a, ha⟩ ⟨b % 16, by omega⟩
  simp only at this
  rw [this]

/-- The three steps. -/
def s123 (k x : Nat) : Nat := s3 k (s2 k (s1 k x))
def c123 (a : Nat) : Nat := c3 (c2 (c1 a))
theorem s12_mod (k x : Nat) : s2 k (s1 k x) % 16 ≤ 4 := by
  cases k with
  | zero => simp [s1, s2, rep]
  | succ k =>
    have e : x = x % 256 + 256 * (x / 256) := by omega
    have hlt : x % 256 < 256 := by omega
    have := (c21_lt ⟨x % 256, hlt⟩).2
    rw [e, s1_step _ _ _ hlt, s2_step _ _ _ (c1_lt ⟨x % 256, hlt⟩)]
    simp only at this ⊢
    omega
theorem s123_step (k a b : Nat) (ha : a < 256) : s123 (k + 1) (a + 256 * b) = c123 a + 256 * s123 k b := by
  unfold s123 c123
  rw [s1_step _ _ _ ha, s2_step _ _ _ (c1_lt ⟨_, ha⟩), s3_step _ _ _ (c21_lt ⟨_, ha⟩).1 (s12_mod _ _)]

/-- How many of the first n bits of x are set. -/
def popN (x : Nat) (n : Nat) : Nat := (List.range n).countP fun k => x.testBit k
theorem popN_succ (x n : Nat) : popN x (n + 1) = popN x n + (if x.testBit n then 1 else 0) := by
  simp [popN, List.range_succ, List.countP_append]
theorem popN_step (a b : Nat) (ha : a < 256) : ∀ n, popN (a + 256 * b) (8 + n) = popN a 8 + popN b n
  | 0 => by
    simp only [popN, Nat.add_zero, List.range_zero, List.countP_nil]
    apply List.countP_congr
    intro k hk
    rw [List.mem_range] at hk
    rw [show a + 256 * b = 2 ^ 8 * b + a by omega, Nat.testBit_two_pow_mul_add _ (by omega), if_pos hk]
  | n + 1 => by
    rw [← Nat.add_assoc, popN_succ (a + 256 * b) (8 + n), popN_succ b n, popN_step a b ha n]
    have : (a + 256 * b).testBit (8 + n) = b.testBit n := by
      rw [show a + 256 * b = 2 ^ 8 * b + a by omega, Nat.testBit_two_pow_mul_add _ (by omega), if_neg (by omega)]
      congr 1; omega
    rw [this]; omega
theorem c123_pop : ∀ a : Fin 256, c123 a.val = popN a.val 8 := by decide +kernel
def pop (x : Nat) : Nat := popN x 64
theorem pop_le (x : Nat) : pop x ≤ 64 := by
  have := List.countP_le_length (p := fun k => x.testBit k) (l := List.range 64)
  simpa [pop, popN] using this

/-- The folding of the eight bytes. -/
def fold3 (y : Nat) : Nat :=
  let y1 := y + y / 256
  let y2 := y1 + y1 / 65536
  let y3 := y2 + y2 / 4294967296
  y3 % 128

theorem d1 (u z : Nat) (h : u < 256) : (u + 256 * z) / 256 = z := by omega
theorem d2 (u v z : Nat) (h : u < 256) (k : v < 256) : (u + 256 * (v + 256 * z)) / 65536 = z := by omega
theorem d4 (u v x y z : Nat) (h : u < 256) (k : v < 256) (l : x < 256) (m : y < 256) : (u + 256 * (v + 256 * (x + 256 * (y + 256 * z)))) / 4294967296 = z := by
  rw [show (4294967296 : Nat) = 65536 * 65536 from rfl, ← Nat.div_div_eq_div_mul, d2 _ _ _ h k, d2 _ _ _ l m]
theorem l1 (a b c d : Nat) : (a + 256 * b) + (c + 256 * d) = (a + c) + 256 * (b + d) := by omega
theorem fold3_eq (a0 a1 a2 a3 a4 a5 a6 a7 : Nat) (h0 : a0 ≤ 8) (h1 : a1 ≤ 8) (h2 : a2 ≤ 8) (h3 : a3 ≤ 8) (h4 : a4 ≤ 8) (h5 : a5 ≤ 8) (h6 : a6 ≤ 8) (h7 : a7 ≤ 8) :
    fold3 (a0 + 256 * (a1 + 256 * (a2 + 256 * (a3 + 256 * (a4 + 256 * (a5 + 256 * (a6 + 256 * a7))))))) = a0 + a1 + a2 + a3 + a4 + a5 + a6 + a7 := by
  show ((a0 + 256 * (a1 + 256 * (a2 + 256 * (a3 + 256 * (a4 + 256 * (a5 + 256 * (a6 + 256 * a7)))))) + (a0 + 256 * (a1 + 256 * (a2 + 256 * (a3 + 256 * (a4 + 256 * (a5 + 256 * (a6 + 256 * a7))))))) / 256) + (a0 + 256 * (a1 + 256 * (a2 + 256 * (a3 + 256 * (a4 + 256 * (a5 + 256 * (a6 + 256 * a7)))))) + (a0 + 256 * (a1 + 256 * (a2 + 256 * (a3 + 256 * (a4 + 256 * (a5 + 256 * (a6 + 256 * a7))))))) / 256) / 65536 + (((a0 + 256 * (a1 + 256 * (a2 + 256 * (a3 + 256 * (a4 + 256 * (a5 + 256 * (a6 + 256 * a7)))))) + (a0 + 256 * (a1 + 256 * (a2 + 256 * (a3 + 256 * (a4 + 256 * (a5 + 256 * (a6 + 256 * a7))))))) / 256)) + (a0 + 256 * (a1 + 256 * (a2 + 256 * (a3 + 256 * (a4 + 256 * (a5 + 256 * (a6 + 256 * a7)))))) + (a0 + 256 * (a1 + 256 * (a2 + 256 * (a3 + 256 * (a4 + 256 * (a5 + 256 * (a6 + 256 * a7))))))) / 256) / 65536) / 4294967296) % 128 = _
  rw [d1 _ _ (by omega)]
  simp only [l1]
  rw [d2 _ _ _ (by omega) (by omega)]
  simp only [l1]
  rw [d4 _ _ _ _ _ (by omega) (by omega) (by omega) (by omega)]
  have : ∀ u x a b c d e : Nat, u + a + c + e < 128 → (u + 256 * x + (a + 256 * b + (c + 256 * d + e))) % 128 = u + a + c + e := by intro u x a b c d e h; omega
  rw [this _ _ _ _ _ _ _ (by omega)]
  omega

theorem b8 (x : Nat) (hx : x < 18446744073709551616) : ∃ a0 a1 a2 a3 a4 a5 a6 a7 : Nat, a0 < 256 ∧ a1 < 256 ∧ a2 < 256 ∧ a3 < 256 ∧ a4 < 256 ∧ a5 < 256 ∧ a6 < 256 ∧ a7 < 256 ∧
      x = a0 + 256 * (a1 + 256 * (a2 + 256 * (a3 + 256 * (a4 + 256 * (a5 + 256 * (a6 + 256 * (a7 + 256 * 0))))))) := by
  have step : ∀ (y B : Nat), y < 256 * B → ∃ a z, a < 256 ∧ z < B ∧ y = a + 256 * z := fun y B h => ⟨y % 256, y / 256, by omega, by omega, by omega⟩
  obtain ⟨a0, y0, l0, m0, e0⟩ := step x 72057594037927936 (by omega)
  obtain ⟨a1, y1, l1, m1, e1⟩ := step y0 281474976710656 (by omega)
  obtain ⟨a2, y2, l2, m2, e2⟩ := step y1 1099511627776 (by omega)
  obtain ⟨a3, y3, l3, m3, e3⟩ := step y2 4294967296 (by omega)
  obtain ⟨a4, y4, l4, m4, e4⟩ := step y3 16777216 (by omega)
  obtain ⟨a5, y5, l5, m5, e5⟩ := step y4 65536 (by omega)
  obtain ⟨a6, y6, l6, m6, e6⟩ := step y5 256 (by omega)
  refine ⟨a0, a1, a2, a3, a4, a5, a6, y6, l0, l1, l2, l3, l4, l5, l6, m6, ?_⟩
  rw [e0, e1, e2, e3, e4, e5, e6, Nat.mul_zero, Nat.add_zero]

theorem c123_le (a : Nat) (h : a < 256) : c123 a ≤ 8 := c321_lt ⟨a, h⟩
theorem c123_eq (a : Nat) (h : a < 256) : c123 a = popN a 8 := c123_pop ⟨a, h⟩
theorem swar (x : Nat) (hx : x < 18446744073709551616) : fold3 (s123 8 x) = pop x := by
  have key : ∀ a0 a1 a2 a3 a4 a5 a6 a7 : Nat, a0 < 256 → a1 < 256 → a2 < 256 → a3 < 256 → a4 < 256 → a5 < 256 → a6 < 256 → a7 < 256 →
      x = a0 + 256 * (a1 + 256 * (a2 + 256 * (a3 + 256 * (a4 + 256 * (a5 + 256 * (a6 + 256 * (a7 + 256 * 0))))))) → fold3 (s123 8 x) = pop x := by
    intro a0 a1 a2 a3 a4 a5 a6 a7 h0 h1 h2 h3 h4 h5 h6 h7 e
    rw [e, s123_step _ _ _ h0, s123_step _ _ _ h1, s123_step _ _ _ h2, s123_step _ _ _ h3, s123_step _ _ _ h4, s123_step _ _ _ h5, s123_step _ _ _ h6, s123_step _ _ _ h7]
    rw [show s123 0 0 = 0 from rfl, Nat.mul_zero, Nat.add_zero, Nat.add_zero]
    rw [fold3_eq _ _ _ _ _ _ _ _ (c123_le _ h0) (c123_le _ h1) (c123_le _ h2) (c123_le _ h3) (c123_le _ h4) (c123_le _ h5) (c123_le _ h6) (c123_le _ h7)]
    rw [c123_eq _ h0, c123_eq _ h1, c123_eq _ h2, c123_eq _ h3, c123_eq _ h4, c123_eq _ h5, c123_eq _ h6, c123_eq _ h7]
    unfold pop
    rw [show (64 : Nat) = 8 + (8 + (8 + (8 + (8 + (8 + (8 + 8)))))) from rfl, popN_step _ _ h0, popN_step _ _ h1, popN_step _ _ h2, popN_step _ _ h3, popN_step _ _ h4, popN_step _ _ h5, popN_step _ _ h6]
    omega
  obtain ⟨a0, a1, a2, a3, a4, a5, a6, a7, h0, h1, h2, h3, h4, h5, h6, h7, e⟩ := b8 x hx
  exact key a0 a1 a2 a3 a4 a5 a6 a7 h0 h1 h2 h3 h4 h5 h6 h7 e
end Go.Proofs.Ytohjdpdmabjdaaa
