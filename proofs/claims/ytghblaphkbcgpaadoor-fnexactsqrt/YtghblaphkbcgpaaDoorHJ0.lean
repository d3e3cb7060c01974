/- A number cut to some bits more than a form has, its last bit set for what was cut off, is rounded like the number itself. Nothing of the program stands here. -/
import Derived.Test.YtghblaphkbcgpaaDoorHS2
import Derived.Test.YtghblaphkbcgpaaDoorHS1
import Derived.Lib.TrailingZeros
import Derived.Test.YtghblaphkbcgpaaDoorHW2
import Derived.RegionTactic
import Derived.Deep.RegionWith
namespace Go.Proofs.YtghblaphkbcgpaaDoor

/-- The last bit is set for what was cut off. -/
def jam (Q r : Nat) : Nat := if r = 0 then Q else Q / 2 * 2 + 1

theorem jam_half (Q r : Nat) : jam Q r / 2 = Q / 2 := by
  unfold jam
  split <;> omega

theorem jam_div {Q r k : Nat} (hk : 1 ≤ k) : jam Q r / 2 ^ k = Q / 2 ^ k := by
  obtain ⟨j, rfl⟩ : ∃ j, k = j + 1 := ⟨k - 1, by omega⟩
  rw [Nat.pow_succ, Nat.mul_comm, ← Nat.div_div_eq_div_mul, ← Nat.div_div_eq_div_mul, jam_half]

theorem jam_mod {Q r k : Nat} (hk : 1 ≤ k) : jam Q r % 2 ^ k = jam (Q % 2 ^ k) r := by
  obtain ⟨j, rfl⟩ : ∃ j, k = j + 1 := ⟨k - 1, by omega⟩
  rw [Nat.pow_succ]
  unfold jam
  split
  · rfl
  · have hp : 0 < 2 ^ j := Nat.pow_pos (by decide)
    generalize 2 ^ j = P at *
    have e1 : Q % (P * 2) = Q % 2 + 2 * (Q / 2 % P) := by rw [Nat.mul_comm, Nat.mod_mul]
    have e2 : (Q / 2 * 2 + 1) % (P * 2) = (Q / 2 * 2 + 1) % 2 + 2 * ((Q / 2 * 2 + 1) / 2 % P) := by rw [Nat.mul_comm P, Nat.mod_mul]
    rw [e1, e2, show (Q / 2 * 2 + 1) / 2 = Q / 2 by omega]
    omega

theorem jam_blen {Q r : Nat} (hQ : 0 < Q) : blen (jam Q r) = blen Q := by
  obtain ⟨h0, h1, h2⟩ := blen_pos hQ
  obtain ⟨L, hL⟩ : ∃ L, blen Q = L + 1 := ⟨blen Q - 1, by omega⟩
  rw [hL] at h1 h2
  rw [hL]
  simp only [Nat.add_sub_cancel] at h1
  apply blen_at
  · unfold jam
    split
    · exact h1
    · cases L with
      | zero => omega
      | succ L => rw [Nat.pow_succ] at h1 ⊢; omega
  · unfold jam
    split
    · exact h2
    · rw [Nat.pow_succ] at h2 ⊢; omega

theorem blen_div {N c : Nat} (h : 0 < N / 2 ^ c) : blen N = blen (N / 2 ^ c) + c := by
  obtain ⟨h0, h1, h2⟩ := blen_pos h
  obtain ⟨L, hL⟩ : ∃ L, blen (N / 2 ^ c) = L + 1 := ⟨blen (N / 2 ^ c) - 1, by omega⟩
  rw [hL] at h1 h2 ⊢
  simp only [Nat.add_sub_cancel] at h1
  rw [Nat.le_div_iff_mul_le (Nat.pow_pos (by decide)), ← Nat.pow_add] at h1
  rw [Nat.div_lt_iff_lt_mul (Nat.pow_pos (by decide)), ← Nat.pow_add] at h2
  rw [show L + 1 + c = L + c + 1 by omega]
  exact blen_at h1 (by rwa [show L + c + 1 = L + 1 + c by omega])

theorem cmp_jam {y r C H : Nat} (hr : r < C) : cmpOf (y * C + r) (2 * H * C) = cmpOf (jam y r) (2 * H) := by
  have hC : 0 < C := by omega
  unfold cmpOf jam
  by_cases h0 : r = 0
  · subst h0
    rw [if_pos rfl, Nat.add_zero]
    rcases Nat.lt_trichotomy y (2 * H) with h | rfl | h
    · rw [if_pos h, if_pos (Nat.mul_lt_mul_of_pos_right h hC)]
    · simp
    · have := Nat.mul_lt_mul_of_pos_right h hC
      rw [if_neg (by omega), if_neg (by omega), if_neg (by omega), if_neg (by omega)]
  · rw [if_neg h0]
    rcases Nat.lt_or_ge y (2 * H) with h | h
    · have h1 : (y + 1) * C ≤ 2 * H * C := Nat.mul_le_mul_right _ h
      rw [Nat.add_mul] at h1
      rw [if_pos (by omega), if_pos (by omega)]
    · have h1 : 2 * H * C ≤ y * C := Nat.mul_le_mul_right _ h
      rw [if_neg (by omega), if_neg (by omega), if_neg (by omega), if_neg (by omega)]

/-- Cut at c places, the last bit set for what fell off: the same rounding. -/
theorem rnd_jam {p t h S mode e : Int} (neg : Bool) {N c : Nat} (hp1 : p ≤ 53) (hQ : 2 ^ 54 ≤ N / 2 ^ c) :
    rndV p t h S mode (e + c) neg (jam (N / 2 ^ c) (N % 2 ^ c)) false = rndV p t h S mode e neg N false ∧ rndF p t h mode (e + c) neg (jam (N / 2 ^ c) (N % 2 ^ c)) false = rndF p t h mode e neg N false := by
  have hQ0 : 0 < N / 2 ^ c := Nat.lt_of_lt_of_le (Nat.pow_pos (by decide)) hQ
  have hb : 55 ≤ blen (N / 2 ^ c) := by
    obtain ⟨_, _, h2⟩ := blen_pos hQ0
    have := (Nat.pow_lt_pow_iff_right (a := 2) (by decide)).1 (Nat.lt_of_le_of_lt hQ h2)
    omega
  have hbN := blen_div hQ0
  have hbj := jam_blen (r := N % 2 ^ c) hQ0
  have hu : uOf p t (e + c) (jam (N / 2 ^ c) (N % 2 ^ c)) = uOf p t e N := by
    unfold uOf
    rw [hbj, hbN]
    have : e + (c : Int) + (blen (N / 2 ^ c) : Int) - 1 = e + ((blen (N / 2 ^ c) + c : Nat) : Int) - 1 := by omega
    rw [this]
  have hge := (uOf_ge p t e N).2.1
  generalize hU : uOf p t e N = U at *
  obtain ⟨k, hk⟩ : ∃ k : Nat, U - (e + c) = ((k + 2 : Nat) : Int) := ⟨(U - (e + c) - 2).toNat, by omega⟩
  have hk2 : U - e = ((k + 2 + c : Nat) : Int) := by omega
  have hm : mOf (jam (N / 2 ^ c) (N % 2 ^ c)) (U - (e + c)) = mOf N (U - e) := by
    unfold mOf
    rw [if_neg (by omega), if_neg (by omega), hk, hk2, Int.toNat_natCast, Int.toNat_natCast, jam_div (by omega), Nat.div_div_eq_div_mul, ← Nat.pow_add, Nat.add_comm c]
  have hrN : rOf N (U - e) = (N / 2 ^ c % 2 ^ (k + 2)) * 2 ^ c + N % 2 ^ c := by
    unfold rOf
    rw [if_neg (by omega), hk2, Int.toNat_natCast, Nat.add_comm (k + 2), Nat.pow_add, Nat.mod_mul, Nat.mul_comm (2 ^ c), Nat.add_comm]
  have hrM : rOf (jam (N / 2 ^ c) (N % 2 ^ c)) (U - (e + c)) = jam (N / 2 ^ c % 2 ^ (k + 2)) (N % 2 ^ c) := by
    unfold rOf
    rw [if_neg (by omega), hk, Int.toNat_natCast, jam_mod (by omega)]
  have hlt : N % 2 ^ c < 2 ^ c := Nat.mod_lt _ (Nat.pow_pos (by decide))
  have hh : hOf (jam (N / 2 ^ c) (N % 2 ^ c)) (U - (e + c)) false = hOf N (U - e) false := by
    unfold hOf
    rw [if_neg (show ¬ U - (e + c) ≤ 0 by omega), if_neg (show ¬ U - e ≤ 0 by omega), hrN, hrM, hk, hk2, Int.toNat_natCast, Int.toNat_natCast]
    rw [show k + 2 - 1 = k + 1 by omega, show k + 2 + c - 1 = k + 1 + c by omega, Nat.pow_add 2 (k + 1), Nat.pow_succ 2 k, Nat.mul_comm (2 ^ k) 2, cmp_jam hlt]
  have hs : sOf (jam (N / 2 ^ c) (N % 2 ^ c)) (U - (e + c)) false = sOf N (U - e) false := by
    unfold sOf
    rw [hrN, hrM]
    congr 1
    rw [decide_eq_decide]
    have hC : 0 < 2 ^ c := Nat.pow_pos (by decide)
    unfold jam
    split
    · rename_i h0
      rw [h0, Nat.add_zero]
      exact ⟨fun h => Nat.mul_pos h hC, fun h => Nat.pos_of_mul_pos_right h⟩
    · omega
  have hkk : kOf mode neg (jam (N / 2 ^ c) (N % 2 ^ c)) (U - (e + c)) false = kOf mode neg N (U - e) false := by
    unfold kOf
    rw [hm, hh, hs]
  have hz : zOf p t h mode (e + c) neg (jam (N / 2 ^ c) (N % 2 ^ c)) false = zOf p t h mode e neg N false := by
    unfold zOf
    rw [hu, hU, hkk]
  refine ⟨?_, ?_⟩
  · unfold rndV
    rw [hz]
  · unfold rndF
    rw [hz, hu, hU]
    unfold fOf
    rw [hs, hbj, hbN, show e + (c : Int) + (blen (N / 2 ^ c) : Int) - 1 = e + ((blen (N / 2 ^ c) + c : Nat) : Int) - 1 by omega]

theorem blen_mul {N s : Nat} (h : 0 < N) : blen (N * 2 ^ s) = blen N + s := by
  obtain ⟨h0, h1, h2⟩ := blen_pos h
  obtain ⟨L, hL⟩ : ∃ L, blen N = L + 1 := ⟨blen N - 1, by omega⟩
  rw [hL] at h1 h2 ⊢
  simp only [Nat.add_sub_cancel] at h1
  have hp : 0 < 2 ^ s := Nat.pow_pos (by decide)
  rw [show L + 1 + s = L + s + 1 by omega]
  apply blen_at
  · rw [Nat.pow_add]; exact Nat.mul_le_mul_right _ h1
  · rw [show L + s + 1 = L + 1 + s by omega, Nat.pow_add]; exact Nat.mul_lt_mul_of_pos_right h2 hp

theorem cmp_mul {a b C : Nat} (hC : 0 < C) : cmpOf (a * C) (b * C) = cmpOf a b := by
  unfold cmpOf
  rcases Nat.lt_trichotomy a b with h | rfl | h
  · rw [if_pos h, if_pos (Nat.mul_lt_mul_of_pos_right h hC)]
  · simp
  · have := Nat.mul_lt_mul_of_pos_right h hC
    rw [if_neg (by omega), if_neg (by omega), if_neg (by omega), if_neg (by omega)]

/-- More noughts behind, a lesser exponent: the same rounding. -/
theorem rnd_scale {p t h S mode e : Int} (neg : Bool) {N s : Nat} (hN : 0 < N) :
    rndV p t h S mode (e - s) neg (N * 2 ^ s) false = rndV p t h S mode e neg N false ∧ rndF p t h mode (e - s) neg (N * 2 ^ s) false = rndF p t h mode e neg N false := by
  have hb := blen_mul (s := s) hN
  have hp : 0 < 2 ^ s := Nat.pow_pos (by decide)
  have hee : e - (s : Int) + ((blen N + s : Nat) : Int) - 1 = e + (blen N : Int) - 1 := by omega
  have hu : uOf p t (e - s) (N * 2 ^ s) = uOf p t e N := by
    unfold uOf
    rw [hb, hee]
  generalize hU : uOf p t e N = U at *
  have key : mOf (N * 2 ^ s) (U - (e - s)) = mOf N (U - e) ∧ hOf (N * 2 ^ s) (U - (e - s)) false = hOf N (U - e) false ∧ sOf (N * 2 ^ s) (U - (e - s)) false = sOf N (U - e) false := by
    by_cases hd : U - e ≤ 0
    · by_cases hd2 : U - (e - s) ≤ 0
      · refine ⟨?_, ?_, ?_⟩
        · unfold mOf
          rw [if_pos hd, if_pos hd2, Nat.mul_assoc, ← Nat.pow_add]
          congr 2
          omega
        · unfold hOf
          rw [if_pos hd, if_pos hd2]
        · unfold sOf rOf
          rw [if_pos hd, if_pos hd2]
      · obtain ⟨k, hk⟩ : ∃ k : Nat, U - (e - s) = ((k + 1 : Nat) : Int) := ⟨(U - (e - s) - 1).toNat, by omega⟩
        obtain ⟨j, hj⟩ : ∃ j : Nat, s = k + 1 + j := ⟨s - (k + 1), by omega⟩
        have hr : N * 2 ^ s % 2 ^ (k + 1) = 0 := by rw [hj, Nat.pow_add, ← Nat.mul_assoc, Nat.mul_right_comm, Nat.mul_mod_left]
        have hr0 : rOf (N * 2 ^ s) (U - (e - s)) = 0 := by
          unfold rOf
          rw [if_neg hd2, hk, Int.toNat_natCast, hr]
        refine ⟨?_, ?_, ?_⟩
        · unfold mOf
          rw [if_pos hd, if_neg hd2, hk, Int.toNat_natCast, hj, show (-(U - e)).toNat = j by omega, Nat.pow_add, ← Nat.mul_assoc, Nat.mul_right_comm, Nat.mul_div_cancel _ (Nat.pow_pos (by decide))]
        · unfold hOf
          rw [if_pos hd, if_neg hd2, hr0]
          have : cmpOf 0 (2 ^ ((U - (e - s)).toNat - 1)) = -1 := by unfold cmpOf; rw [if_pos (Nat.pow_pos (by decide))]
          rw [this]
          simp
        · unfold sOf
          rw [hr0]
          unfold rOf
          rw [if_pos hd]
    · obtain ⟨k, hk⟩ : ∃ k : Nat, U - e = ((k + 1 : Nat) : Int) := ⟨(U - e - 1).toNat, by omega⟩
      have hk2 : U - (e - s) = ((k + 1 + s : Nat) : Int) := by omega
      have hr : rOf (N * 2 ^ s) (U - (e - s)) = rOf N (U - e) * 2 ^ s := by
        unfold rOf
        rw [if_neg hd, if_neg (by omega), hk, hk2, Int.toNat_natCast, Int.toNat_natCast, Nat.pow_add, Nat.mul_mod_mul_right]
      refine ⟨?_, ?_, ?_⟩
      · unfold mOf
        rw [if_neg hd, if_neg (by omega), hk, hk2, Int.toNat_natCast, Int.toNat_natCast, Nat.pow_add, Nat.mul_div_mul_right _ _ hp]
      · unfold hOf
        rw [if_neg hd, if_neg (show ¬ U - (e - s) ≤ 0 by omega), hr, hk, hk2, Int.toNat_natCast, Int.toNat_natCast, show k + 1 - 1 = k by omega, show k + 1 + s - 1 = k + s by omega, Nat.pow_add, cmp_mul hp]
      · unfold sOf
        rw [hr]
        congr 1
        rw [decide_eq_decide]
        exact ⟨fun h => Nat.pos_of_mul_pos_right h, fun h => Nat.mul_pos h hp⟩
  obtain ⟨km, kh, ks⟩ := key
  have hkk : kOf mode neg (N * 2 ^ s) (U - (e - s)) false = kOf mode neg N (U - e) false := by
    unfold kOf
    rw [km, kh, ks]
  have hz : zOf p t h mode (e - s) neg (N * 2 ^ s) false = zOf p t h mode e neg N false := by
    unfold zOf
    rw [hu, hU, hkk]
  refine ⟨?_, ?_⟩
  · unfold rndV
    rw [hz]
  · unfold rndF
    rw [hz, hu, hU]
    unfold fOf
    rw [ks, hb, hee]
end Go.Proofs.YtghblaphkbcgpaaDoor

/- The library's TrailingZeros64: how often two divides a word that is not 0. -/
namespace Go.Proofs.YtghblaphkbcgpaaDoor
open Go.RowKit

/-- The library's table lies in memory as its text lays it. -/
structure Brj (w : World) : Prop where
  size : 1 < w.heap.size
  cells : ∀ i, i < 64 → w.cell? ⟨1, i, none⟩ = some (.int .u8 ((Lib.deBruijn64tab.getD i 0 : Nat) : Int))

theorem Brj.below {w w' : World} (h : Brj w) (hb : Below w.heap.size w w') : Brj w' :=
  ⟨Nat.lt_of_lt_of_le h.size hb.size, fun i hi => (hb.cell (p := ⟨1, i, none⟩) h.size).trans (h.cells i hi)⟩

theorem Brj.alloc {w : World} (h : Brj w) (o : Obj) : Brj (w.alloc o) := h.below ((Below.refl _ _).alloc (Nat.le_refl _) _)

set_option maxHeartbeats 1000000 in
theorem tz_walk (m a : Int) (j k : Nat) (w : World) (h0 : (m == 0) = false) (ha : bits .and .u64 m (IntKind.u64.wrap (-m)) = a)
    (hj : IntKind.u64.wrap (a * 285870213051353865) / 288230376151711744 = (j : Int)) (hj1 : (j : Int) < 64) (hk : (k : Int) < 64) (hc : w.cell? ⟨1, j, none⟩ = some (.int .u8 (k : Int))) :
    Calls Tryd.prog 54 #[.int .u64 m] w fun e w' => e = .returned (.int .i64 (k : Int)) ∧ w' = w := by
  go_enter Tryd.func54, Tryd.ntmps54
  go_wp2
  go_ret
  exact ⟨rfl, rfl⟩

theorem tz64 {m man : Int} {k : Nat} (h : Tz m man k) (ho : man % 2 = 1) (hm : m < 18446744073709551616) (w : World) (hb : Brj w) :
    Calls Tryd.prog 54 #[.int .u64 m] w fun e w' => e = .returned (.int .i64 (k : Int)) ∧ w' = w := by
  have hk := (h.le hm).1
  have hp := h.pos
  obtain ⟨n, rfl⟩ := Int.eq_ofNat_of_zero_le (show 0 ≤ man by omega)
  obtain ⟨q, rfl⟩ : ∃ q, n = 2 * q + 1 := ⟨n / 2, by omega⟩
  have he : m = ((2 ^ k * (2 * q + 1) : Nat) : Int) := by rw [h.eq, Nat.mul_comm (2 ^ k), Int.natCast_mul]
  have hlt : 2 ^ k * (2 * q + 1) < 2 ^ 64 := by
    have : ((2 ^ k * (2 * q + 1) : Nat) : Int) < ((2 ^ 64 : Nat) : Int) := by rw [← he]; exact hm
    exact_mod_cast this
  have hand := Lib.and_neg 64 k q hlt
  have hpos : 0 < 2 ^ k * (2 * q + 1) := Nat.mul_pos (Nat.two_pow_pos k) (by omega)
  obtain ⟨hj, hd⟩ := Lib.deBruijn64_at k (by omega)
  have hc := hb.cells _ hj
  rw [hd] at hc
  generalize 2 ^ k * (2 * q + 1) = u at *
  have hw : IntKind.u64.wrap (-m) = ((2 ^ 64 - u : Nat) : Int) := by
    rw [IntKind.wrap_u64, he]
    omega
  refine tz_walk m ((2 ^ k : Nat) : Int) _ k w (by rw [he]; simp; omega) ?_ ?_ ?_ (by omega) hc
  · rw [hw, he, u64_and_nat u (2 ^ 64 - u) hlt (by omega), hand]
  · rw [IntKind.wrap_u64]
    have : ((2 ^ k : Nat) : Int) * 285870213051353865 = ((2 ^ k * 285870213051353865 : Nat) : Int) := by rw [Int.natCast_mul]; rfl
    rw [this]
    omega
  · exact_mod_cast hj
end Go.Proofs.YtghblaphkbcgpaaDoor

/- The program's small methods on a form: sign bit, infinity, quiet bit, plain NaN, whether bits are a NaN. -/
namespace Go.Proofs.YtghblaphkbcgpaaDoor
open Go.RowKit

/-- A row of the table, boxed. -/
abbrev shpObj (wd p t : Int) : Obj := .cells #[.int .i64 wd, .int .i64 p, .int .i64 t] 58

theorem signBit_any {f wd p t S D h q : Int} (hF : Frm f wd p t S D h q) (w : World) :
    Calls Tryd.prog 45 #[.agg #[.int .i64 wd, .int .i64 p, .int .i64 t]] w fun e w' => e = .returned (.int .u64 S) ∧ w' = w.alloc (shpObj wd p t) := by
  rcases hF with ⟨rfl, rfl, rfl, rfl, rfl, rfl, rfl, rfl⟩ | ⟨rfl, rfl, rfl, rfl, rfl, rfl, rfl, rfl⟩ | ⟨rfl, rfl, rfl, rfl, rfl, rfl, rfl, rfl⟩
  all_goals
    go_enter Tryd.func45, Tryd.ntmps45
    go_wp2
    go_ret
    exact ⟨rfl, rfl⟩

theorem infinity_any {f wd p t S D h q : Int} (hF : Frm f wd p t S D h q) (w : World) :
    Calls Tryd.prog 46 #[.agg #[.int .i64 wd, .int .i64 p, .int .i64 t]] w fun e w' => e = .returned (.int .u64 ((2 * t + 1) * h)) ∧ w' = w.alloc (shpObj wd p t) := by
  rcases hF with ⟨rfl, rfl, rfl, rfl, rfl, rfl, rfl, rfl⟩ | ⟨rfl, rfl, rfl, rfl, rfl, rfl, rfl, rfl⟩ | ⟨rfl, rfl, rfl, rfl, rfl, rfl, rfl, rfl⟩
  all_goals
    go_enter Tryd.func46, Tryd.ntmps46
    go_wp2
    go_ret
    exact ⟨rfl, rfl⟩

theorem quietBit_any {f wd p t S D h q : Int} (hF : Frm f wd p t S D h q) (w : World) :
    Calls Tryd.prog 49 #[.agg #[.int .i64 wd, .int .i64 p, .int .i64 t]] w fun e w' => e = .returned (.int .u64 (h / 2)) ∧ w' = w.alloc (shpObj wd p t) := by
  rcases hF with ⟨rfl, rfl, rfl, rfl, rfl, rfl, rfl, rfl⟩ | ⟨rfl, rfl, rfl, rfl, rfl, rfl, rfl, rfl⟩ | ⟨rfl, rfl, rfl, rfl, rfl, rfl, rfl, rfl⟩
  all_goals
    go_enter Tryd.func49, Tryd.ntmps49
    go_wp2
    go_ret
    exact ⟨rfl, rfl⟩

theorem below_34 {w : World} (o o' o'' : Obj) : Below w.heap.size w (((w.alloc o).alloc o').alloc o'') := (below_two o o').alloc (by simp; omega) _

theorem below_34d {w : World} (o o' o'' : Obj) : Below w.heap.size w (((w.alloc o).alloc o').alloc o'').drew := (below_34 o o' o'').drew

set_option maxHeartbeats 1000000 in
theorem plainNan_any {f wd p t S D h q : Int} (hF : Frm f wd p t S D h q) (w : World) :
    Calls Tryd.prog 39 #[.agg #[.int .i64 wd, .int .i64 p, .int .i64 t]] w fun e w' => e = .returned (.int .u64 ((2 * t + 1) * h + h / 2)) ∧ Below w.heap.size w w' := by
  have e : bits .or .u64 ((2 * t + 1) * h) (h / 2) = (2 * t + 1) * h + h / 2 := by
    rcases hF with ⟨rfl, rfl, rfl, rfl, rfl, rfl, rfl, rfl⟩ | ⟨rfl, rfl, rfl, rfl, rfl, rfl, rfl, rfl⟩ | ⟨rfl, rfl, rfl, rfl, rfl, rfl, rfl, rfl⟩ <;> decide
  have hS := fun w => quietBit_any hF w
  have hI := fun w => infinity_any hF w
  generalize (2 * t + 1) * h + h / 2 = n at *
  generalize (2 * t + 1) * h = i at *
  generalize h / 2 = j at *
  clear hF
  go_enter Tryd.func39, Tryd.ntmps39
  go_wp2
  go_region_with (first | (go_at_call 49; refine (hS _).mono ?_; rintro e w' ⟨rfl, rfl⟩) | (go_at_call 46; refine (hI _).mono ?_; rintro e w' ⟨rfl, rfl⟩))
  all_goals (go_wp2; go_ret; exact ⟨rfl, below_34d _ _ _⟩)
end Go.Proofs.YtghblaphkbcgpaaDoor
