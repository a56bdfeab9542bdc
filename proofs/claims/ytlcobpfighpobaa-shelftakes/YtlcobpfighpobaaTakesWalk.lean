/-
  ShelfTakes's walk, whole.
-/
import Derived.Test.YtlcobpfighpobaaWalk
namespace Go.Proofs.Ytlcobpfighpobaa
open Go.ChangeShapes Go.WideShapes Go.ChangeAt Go.RowKit

set_option maxHeartbeats 2000000 in
set_option maxRecDepth 100000 in
theorem takes_many (k : Int) (a : Option Addr) (n c : Nat) (x id : Int) (w : World) (hn : 60 < n) :
    Calls Try.prog 3 #[.int .i64 k, .slice a n c, .int .u32 x, .int .i64 id] w fun e w' => e = .returned (.bool true) ∧ Below w.heap.size w w' := by
  have hd : decide ((60 : Int) < (n : Int)) = true := by simp; omega
  go_enter Try.func3, Try.ntmps3
  go_wp2_with fail
  refine (alive_any w).mono ?_; rintro e w1 ⟨rfl, hb1⟩
  go_wp2
  go_ret
  exact ⟨rfl, hb1⟩

set_option maxHeartbeats 2000000 in
set_option maxRecDepth 100000 in
theorem takes_few (k : Int) (a : Option Addr) (c : Nat) (os : List SOp) (x id : Int) (w : World) (hk1 : -9223372036854775808 ≤ k) (hk2 : k ≤ 9223372036854775807) (hf : Fits (x, id)) (hn : os.length ≤ 60) (ha : Hid (OpsAt w (.slice a os.length c) os)) :
    Calls Try.prog 3 #[.int .i64 k, .slice a os.length c, .int .u32 x, .int .i64 id] w fun e w' => e = .returned (.bool true) ∧ Below w.heap.size w w' := by
  have hd : decide ((60 : Int) < (os.length : Int)) = false := by simp; omega
  have hf' := Hid.intro hf
  obtain ⟨f0, f1, _, _⟩ := hf
  go_enter Try.func3, Try.ntmps3
  go_wp2_with fail
  refine (alive_any w).mono ?_; rintro e w1 ⟨rfl, hb1⟩
  have hb1' := Hid.intro hb1
  have hs1 := hb1.size
  clear hb1
  go_wp2_with fail
  refine (new_any k w1 hk1 hk2).mono ?_; rintro e w2 ⟨s, rfl, h2, hb2⟩
  have hb2' := Hid.intro hb2
  have h2' := Hid.intro h2
  have hs2 := hb2.size
  clear hb2 h2
  go_wp2_with fail
  go_loopw [10] (fun iv wr => ∃ (i : Nat) (bs : List (List It)), i ≤ os.length ∧ iv = .int .i64 (i : Int) ∧ Hid (Sh wr w1.heap.size s bs) ∧ Hid (∀ l ∈ bs, l.length ≤ i) ∧ Hid (Keep w1.heap.size w2 wr)) (fun iv _ => os.length - (intOf iv).toNat)
  case atStart => exact ⟨0, _, Nat.zero_le _, rfl, h2', fun l hl => by have := List.eq_of_mem_replicate hl; subst this; exact Nat.le_refl _, Keep.of (Below.refl _ _)⟩
  case round =>
    obtain ⟨i, bs, hi, rfl, hsh, hbd, hkp⟩ := hrel
    have hB0 := Hid.intro (hb1'.out.trans ((keep_below hb2'.out hs2 hkp.out).mono hs1))
    have hsr := hkp.out.size
    by_cases hlt : i < os.length
    · obtain ⟨g, o, d, y, rfl, hg, c1, c2, hfit⟩ := ha.out.at hB0.out i hlt
      have hfit' := Hid.intro hfit
      clear hfit
      have hput := Hid.intro (put_loop (hsh.out.below (Below.refl _ wr).drew) y d hfit'.out hbd.out (by omega))
      have hgr : g < w1.heap.size := by omega
      have hszr : w1.heap.size ≤ wr.heap.size := by omega
      go_wp2_with fail
      go_region_held3 (fun w' => w'.cell? ⟨g, o + i * 3 + 1, none⟩ = some (.int .i64 d) ∧ w'.cell? ⟨g, o + i * 3 + 2, none⟩ = some (.int .u32 y))
        (first
          | exact ⟨c1, c2⟩
          | exact ⟨by rw [(hk4.below hszr).cell (p := ⟨g, o + i * 3 + 1, none⟩) hgr]; exact c1, by rw [(hk4.below hszr).cell (p := ⟨g, o + i * 3 + 2, none⟩) hgr]; exact c2⟩)
        (first
          | (go_at_call 6; refine hput.out.mono ?_; rintro e w4 ⟨r4, bs4, rfl, h4, hbd4, hk4⟩))
      all_goals
        have h4' := Hid.intro h4
        have hbd4' := Hid.intro hbd4
        have hk4' := Hid.intro hk4
        clear h4 hbd4 hk4
        go_wp2
        go_roundw
        case rel => exact ⟨i + 1, bs4, by omega, by go_num, h4', hbd4', hkp.out.trans ((Keep.of (Below.refl _ wr).drew).trans hk4'.out)⟩
        case measure => simp [intOf]; omega
    · have hbd6 := Hid.intro (fun l hl => Nat.le_trans (hbd.out l hl) (Nat.le_trans hi hn))
      have hkl := bk_lt hsh.out x
      obtain ⟨q, hq⟩ : ∃ q, bk bs x = q := ⟨_, rfl⟩
      rw [hq] at hkl
      obtain ⟨l, hl⟩ : ∃ l, bs[q]? = some l := ⟨bs[q], List.getElem?_eq_getElem hkl⟩
      have hll : l.length ≤ 60 := by have := hbd.out l (List.mem_of_getElem? hl); omega
      have hq' := Hid.intro hq
      have hl' := Hid.intro hl
      have hB3 := hB0
      clear hbd hq hl hkl
      go_wp2_with fail
      refine (find_any hsh.out x f0 f1 (by rw [hq'.out]; exact hl'.out) (by omega)).mono ?_; rintro e w4 ⟨v4, rfl, hi4, hb4⟩
      have h4 := Hid.intro (hsh.out.below hb4)
      have hB4 := Hid.intro (hB0.out.trans (hb4.mono hB0.out.size))
      have hs4 : w1.heap.size ≤ w4.heap.size := by have := hb4.size; omega
      obtain ⟨a4, c4, rfl⟩ := hi4.form
      have hi4' := Hid.intro hi4
      clear hi4 hb4
      go_wp2_with fail
      refine (len_any h4.out (fun l hl => by have := hbd6.out l hl; omega)).mono ?_; rintro e w5 ⟨rfl, hb5⟩
      have h5 := Hid.intro (h4.out.below hb5)
      have hi5 := Hid.intro (hi4'.out.below hb5)
      have hB5 := Hid.intro (hB4.out.trans (hb5.mono hB4.out.size))
      have hs5 : w1.heap.size ≤ w5.heap.size := by have := hb5.size; omega
      have hul := und_length l x
      clear hb5 h4 hi4' hB4
      go_wp2_with fail
      go_loopw [13, 14] (fun dv iv wr => ∃ (i : Nat) (d : Bool), i ≤ (und l x).length ∧ iv = .int .i64 (i : Int) ∧ dv = .bool d ∧ Hid (d = decide (id ∈ (und l x).take i)) ∧ wr = w5) (fun _ iv _ => (und l x).length - (intOf iv).toNat)
      case atStart => exact ⟨0, false, Nat.zero_le _, rfl, rfl, by simp [Hid], rfl⟩
      case round =>
        obtain ⟨j, d, hj, rfl, rfl, hdd, rfl⟩ := hrel
        by_cases hjl : j < (und l x).length
        · obtain ⟨m, hm⟩ : ∃ m, (und l x)[j]? = some m := ⟨(und l x)[j], List.getElem?_eq_getElem hjl⟩
          obtain ⟨g5, rfl, cm⟩ := hi5.out.at hm
          have htk := Hid.intro (take_more (und l x) j m hm)
          clear hm
          cases d with
          | true =>
            go_wp2
            go_roundw
            case rel => exact ⟨j + 1, true, by omega, by go_num, rfl, by
              have := hdd.out.symm
              rw [decide_eq_true_eq] at this
              show _ = _
              rw [htk.out]; simp [this], by simp⟩
            case measure => simp [intOf]; omega
          | false =>
            go_wp2
            go_roundw
            case rel => exact ⟨j + 1, m == id, by omega, by go_num, rfl, by
              have := hdd.out.symm
              rw [decide_eq_false_iff_not] at this
              show _ = _
              rw [htk.out]
              rw [Bool.eq_iff_iff]
              simp [this]
              exact eq_comm, by simp⟩
            case measure => simp [intOf]; omega
        · have hdf : d = decide ((x, id) ∈ l) := by
            rw [hdd.out, List.take_of_length_le (by omega)]
            rw [Bool.eq_iff_iff]
            simp [mem_und]
          clear hdd
          have hsb := sum_le bs 60 hbd6.out
          have hn2 : bs.length ≤ 100 := by obtain ⟨B, vs, h⟩ := h5.out; rw [h.len]; exact h.n2
          have hsb1 : sum bs ≤ 6000 := by omega
          have hol := Hid.intro (sh_ord h5.out hl'.out)
          clear hsb hn2 hll
          have hll : l.length ≤ 60 := hbd6.out l (List.mem_of_getElem? hl'.out)
          by_cases hin : (x, id) ∈ l
          · have hd1 : d = true := by rw [hdf]; simpa using hin
            subst hd1
            have hin' := Hid.intro hin
            clear hdf hin
            have hdn := Hid.intro (not_mem_del l (x, id) hol.out hin'.out)
            have hdl : (del l (x, id)).length ≤ 60 := by have := del_length l (x, id) (pos_lt hol.out hin'.out); omega
            have hsd := Hid.intro (sum_del hl'.out hol.out hin'.out)
            have hset := Hid.intro (set_at (m := del l (x, id)) hl'.out)
            have hset2 : Hid (((bs.set q (del l (x, id))).set q (ins (del l (x, id)) (x, id)))[q]? = some l) := by
              rw [ins_del l (x, id) hol.out hin'.out]; exact set_at hset.out
            go_wp2_with fail
            refine (put_old h5.out x id hf'.out (by rw [hq'.out]; exact hl'.out) (by omega) hin'.out).mono ?_; rintro e w6 ⟨rfl, h6, hb6⟩
            have h6' := Hid.intro h6
            clear h6
            have hi6 := Hid.intro (hi5.out.below hb6)
            have hB6 := Hid.intro (hB5.out.trans (hb6.mono hB5.out.size))
            have hs6 : w1.heap.size ≤ w6.heap.size := by have := hb6.size; omega
            clear hb6
            go_wp2_with fail
            refine (cut_yes h6'.out x id hf'.out (by rw [hq'.out]; exact hl'.out) (by omega) hin'.out).mono ?_; rintro e w7 ⟨rfl, h7, hk7⟩
            rw [hq'.out] at h7
            have h7' := Hid.intro h7
            clear h7
            have hi7 := Hid.intro (hi6.out.keep hk7)
            have hB7 := Hid.intro (hB6.out.trans ((hk7.below hs6).mono hs1))
            have hs7 : w1.heap.size ≤ w7.heap.size := by have := hk7.size; omega
            clear hk7
            go_wp2_with fail
            refine (cut_no h7'.out x id hf'.out (by rw [bk_set, hq'.out]; exact hset.out) (by omega) hdn.out).mono ?_; rintro e w8 ⟨rfl, h8, hb8⟩
            have h8' := Hid.intro h8
            clear h8
            have hi8 := Hid.intro (hi7.out.below hb8)
            have hB8 := Hid.intro (hB7.out.trans (hb8.mono hB7.out.size))
            have hs8 : w1.heap.size ≤ w8.heap.size := by have := hb8.size; omega
            clear hb8
            have hlen := len_any h8'.out (set_bound (m := 1000) (fun q hq => by have := hbd6.out q hq; omega) (by omega))
            rw [hsd.out] at hlen
            have hlen' := Hid.intro hlen
            clear hlen
            go_wp2_with fail
            refine hlen'.out.mono ?_; rintro e w9 ⟨rfl, hb9⟩
            have h9' := Hid.intro (h8'.out.below hb9)
            have hi9 := Hid.intro (hi8.out.below hb9)
            have hB9 := Hid.intro (hB8.out.trans (hb9.mono hB8.out.size))
            have hs9 : w1.heap.size ≤ w9.heap.size := by have := hb9.size; omega
            clear hb9
            go_wp2_with fail
            refine (put_new h9'.out x id hf'.out (by rw [bk_set, hq'.out]; exact hset.out) (by omega) hdn.out).mono ?_; rintro e w10 ⟨rfl, h10, hk10⟩
            rw [bk_set, hq'.out] at h10
            have h10' := Hid.intro h10
            clear h10
            have hi10 := Hid.intro (hi9.out.keep hk10)
            have hB10 := Hid.intro (hB9.out.trans ((hk10.below hs9).mono hs1))
            have hs10 : w1.heap.size ≤ w10.heap.size := by have := hk10.size; omega
            clear hk10
            go_wp2_with fail
            refine (find_any h10'.out x f0 f1 (by rw [bk_set, bk_set, hq'.out]; exact hset2.out) (by omega)).mono ?_; rintro e w11 ⟨v11, rfl, hj11, hb11⟩
            have hj11' := Hid.intro hj11
            clear hj11
            have hi11 := Hid.intro (hi10.out.below hb11)
            have hB11 := Hid.intro (hB10.out.trans (hb11.mono hB10.out.size))
            have hs11 : w1.heap.size ≤ w11.heap.size := by have := hb11.size; omega
            clear hb11
            go_wp2_with fail
            refine (same_any hj11'.out hi11.out (by omega)).mono ?_; rintro e w12 ⟨rfl, hb12⟩
            have hi12 := Hid.intro (hi11.out.below hb12)
            have hB12 := Hid.intro (hB11.out.trans (hb12.mono hB11.out.size))
            have hs12 : w1.heap.size ≤ w12.heap.size := by have := hb12.size; omega
            clear hb12
            go_wp2
            go_ret
            exact ⟨rfl, hB12.out⟩
          · have hd1 : d = false := by rw [hdf]; simpa using hin
            subst hd1
            have hin' := Hid.intro hin
            clear hdf hin
            have hil : (ins l (x, id)).length ≤ 61 := by rw [ins_length]; omega
            have hmi := Hid.intro ((mem_ins l (x, id) (x, id)).2 (.inl rfl))
            have hset := Hid.intro (set_at (m := ins l (x, id)) hl'.out)
            have hback : Hid ((bs.set q (ins l (x, id))).set q (del (ins l (x, id)) (x, id)) = bs) := by
              obtain ⟨hqb, hqe⟩ := List.getElem?_eq_some_iff.1 hl'.out
              show _ = _
              rw [del_ins, List.set_set, ← hqe]
              exact List.set_getElem_self hqb
            go_wp2_with fail
            refine (put_new h5.out x id hf'.out (by rw [hq'.out]; exact hl'.out) (by omega) hin'.out).mono ?_; rintro e w6 ⟨rfl, h6, hk6⟩
            rw [hq'.out] at h6
            have h6' := Hid.intro h6
            clear h6
            have hi6 := Hid.intro (hi5.out.keep hk6)
            have hB6 := Hid.intro (hB5.out.trans ((hk6.below hs5).mono hs1))
            have hs6 : w1.heap.size ≤ w6.heap.size := by have := hk6.size; omega
            clear hk6
            go_wp2_with fail
            refine (cut_yes h6'.out x id hf'.out (by rw [bk_set, hq'.out]; exact hset.out) (by omega) hmi.out).mono ?_; rintro e w7 ⟨rfl, h7, hk7⟩
            rw [bk_set, hq'.out, hback.out] at h7
            have h7' := Hid.intro h7
            clear h7
            have hi7 := Hid.intro (hi6.out.keep hk7)
            have hB7 := Hid.intro (hB6.out.trans ((hk7.below hs6).mono hs1))
            have hs7 : w1.heap.size ≤ w7.heap.size := by have := hk7.size; omega
            clear hk7
            go_wp2_with fail
            refine (cut_no h7'.out x id hf'.out (by rw [hq'.out]; exact hl'.out) (by omega) hin'.out).mono ?_; rintro e w8 ⟨rfl, h8, hb8⟩
            have h8' := Hid.intro h8
            clear h8
            have hi8 := Hid.intro (hi7.out.below hb8)
            have hB8 := Hid.intro (hB7.out.trans (hb8.mono hB7.out.size))
            have hs8 : w1.heap.size ≤ w8.heap.size := by have := hb8.size; omega
            clear hb8
            go_wp2_with fail
            refine (len_any h8'.out (fun q hq => by have := hbd6.out q hq; omega)).mono ?_; rintro e w9 ⟨rfl, hb9⟩
            have h9' := Hid.intro (h8'.out.below hb9)
            have hi9 := Hid.intro (hi8.out.below hb9)
            have hB9 := Hid.intro (hB8.out.trans (hb9.mono hB8.out.size))
            have hs9 : w1.heap.size ≤ w9.heap.size := by have := hb9.size; omega
            clear hb9
            go_wp2_with fail
            refine (find_any h9'.out x f0 f1 (by rw [hq'.out]; exact hl'.out) (by omega)).mono ?_; rintro e w11 ⟨v11, rfl, hj11, hb11⟩
            have hj11' := Hid.intro hj11
            clear hj11
            have hi11 := Hid.intro (hi9.out.below hb11)
            have hB11 := Hid.intro (hB9.out.trans (hb11.mono hB9.out.size))
            have hs11 : w1.heap.size ≤ w11.heap.size := by have := hb11.size; omega
            clear hb11
            go_wp2_with fail
            refine (same_any hj11'.out hi11.out (by omega)).mono ?_; rintro e w12 ⟨rfl, hb12⟩
            have hi12 := Hid.intro (hi11.out.below hb12)
            have hB12 := Hid.intro (hB11.out.trans (hb12.mono hB11.out.size))
            have hs12 : w1.heap.size ≤ w12.heap.size := by have := hb12.size; omega
            clear hb12
            go_wp2
            go_ret
            exact ⟨rfl, hB12.out⟩

theorem takes_any (k : Int) (v : Value) (os : List SOp) (x id : Int) (w : World) (hk : -9223372036854775808 ≤ k ∧ k ≤ 9223372036854775807) (hf : Fits (x, id)) (h : OpsAt w v os) :
    Calls Try.prog 3 #[.int .i64 k, v, .int .u32 x, .int .i64 id] w fun e w' => e = .returned (.bool true) ∧ Below w.heap.size w w' := by
  obtain ⟨a, c, rfl⟩ := h.slice
  by_cases hn : os.length ≤ 60
  · exact takes_few k a c os x id w hk.1 hk.2 hf hn h
  · exact takes_many k a os.length c x id w (by omega)
end Go.Proofs.Ytlcobpfighpobaa
