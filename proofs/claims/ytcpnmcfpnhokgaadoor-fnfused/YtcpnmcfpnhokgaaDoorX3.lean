/- The program's Sub by its Add; what is packed of what was unpacked; 1 and 2 in a form. -/
import Derived.Test.YtcpnmcfpnhokgaaDoorX1
import Derived.Test.YtcpnmcfpnhokgaaDoorHX2
import Derived.Test.YtcpnmcfpnhokgaaDoorK2
namespace Go.Proofs.YtcpnmcfpnhokgaaDoor
open Go.RowKit

theorem sub_bad {f mode x y : Int} (hx0 : 0 ≤ x) (hx1 : x < 18446744073709551616) (hy0 : 0 ≤ y) (hy1 : y < 18446744073709551616) (hb : ¬ Good2 f mode x y) (w : World) (hs : Tabs w) :
    Calls Tryd.prog 14 #[.int .i64 f, .int .i64 mode, .int .u64 x, .int .u64 y] w fun e w' => e = .returned (.tuple #[.int .u64 0, .int .i64 0]) ∧ Below w.heap.size w w' := by
  obtain ⟨h33, h37⟩ := bad2 hx0 hx1 hy0 hy1 hb
  exact isub_early f mode x y 0 0 w (early2 _ h37 w hs)

/-- A difference is the sum with the other sign. -/
theorem sub_add {f wd p t S D h q : Int} (hF : Frm f wd p t S D h q) (mode : Int) (m1 : 1 ≤ mode) (m5 : mode ≤ 5) {x y ka ea kb eb : Int} {A B : Nat} {na nb : Bool} (ux : Up f p t S D h x ka ea A na) (uy : Up f p t S D h y kb eb B nb) (nb3 : kb ≠ 3) :
    ∃ V F : Int, (∀ w, Tabs w → Calls Tryd.prog 14 #[.int .i64 f, .int .i64 mode, .int .u64 x, .int .u64 y] w fun e w' => e = .returned (.tuple #[.int .u64 V, .int .i64 F]) ∧ Below w.heap.size w w') ∧
      (∀ w, Tabs w → Calls Tryd.prog 8 #[.int .i64 f, .int .i64 mode, .int .u64 x, .int .u64 (flp S y)] w fun e w' => e = .returned (.tuple #[.int .u64 V, .int .i64 F]) ∧ Below w.heap.size w w') := by
  obtain ⟨h33, h34, h37⟩ := fr2 hF mode m1 m5 ux.x0 ux.xD uy.x0 uy.xD
  obtain ⟨z1, z2, z3, z4, z5, z6⟩ := flip_any hF y uy.x0 uy.xD
  have n2 : ¬ (2 * t + 1) * h < sz S y := fun e => nb3 (uy.nan.2 e)
  by_cases hk : ka = 3
  · obtain ⟨kc, ec, C, nc, uz⟩ := unpack_whole hF (flp S y) z2 z3
    have e : (decide ((2 * t + 1) * h < sz S x) || decide ((2 * t + 1) * h < sz S y)) = true := by simp [ux.nan.1 hk]
    rw [e] at h37
    have eg : nfg t h S x (flp S y) = nfg t h S x y := by
      unfold nfg
      refine fgB_congr fun k _ => ?_
      by_cases hk0 : k = 0
      · simp [hk0]
      · simp [hk0, sigOf, z5, z6]
    have := (add_nan hF mode m1 m5 ux uz (Or.inl hk)).2
    rw [eg] at this
    exact ⟨_, _, fun w hs => isub_early f mode x y _ _ w (early2 _ h37 w hs), this⟩
  · have e : (decide ((2 * t + 1) * h < sz S x) || decide ((2 * t + 1) * h < sz S y)) = false := by
      have n1 : ¬ (2 * t + 1) * h < sz S x := fun e => hk (ux.nan.2 e)
      simp [n1, n2]
    rw [e] at h37
    obtain ⟨V, F, -, hB⟩ := add_both f mode x (flp S y) ux.x0 (by have := ux.xD; omega) z2 (by omega)
    exact ⟨V, F, fun w hs => isub_on hF mode x y _ V F w hs z1 (early2 _ h37 w hs) hB, hB⟩

theorem Frm.pow {f wd p t S D h q : Int} (hF : Frm f wd p t S D h q) : 1 ≤ p ∧ p ≤ 53 ∧ h = ((2 ^ (p - 1).toNat : Nat) : Int) ∧ 0 < h ∧ 2 ≤ t ∧ t ≤ 1023 ∧ 0 < S ∧ (2 * t + 1) * h < S ∧ 0 < h / 2 ∧ 1 ≤ f ∧ f ≤ 3 ∧ D = 2 * S ∧ S = (2 * t + 2) * h := by
  rcases hF with ⟨rfl, rfl, rfl, rfl, rfl, rfl, rfl, rfl⟩ | ⟨rfl, rfl, rfl, rfl, rfl, rfl, rfl, rfl⟩ | ⟨rfl, rfl, rfl, rfl, rfl, rfl, rfl, rfl⟩ <;> decide

/-- What is packed of what was unpacked, whichever sign it is given. -/
theorem pk_back {f wd p t S D h q : Int} (hF : Frm f wd p t S D h q) {x K E : Int} {M : Nat} {n : Bool} (u : Up f p t S D h x K E M n) (h3 : K ≠ 3) (mode : Int) (n' : Bool) :
    pkV p t h S mode K E n' M = sz S x + (if n' then S else 0) := by
  obtain ⟨p1, p53, hh, h0, t2, t1, S0, hS, -⟩ := hF.pow
  unfold pkV
  rcases u.k with rfl | rfl | rfl | rfl
  · rw [if_pos rfl, u.zero rfl, Int.zero_add]
  · rw [if_neg (by decide), if_pos rfl]
    obtain ⟨m, st, k, ht, ho, hE, hst, hm, hor, hsz, hlt⟩ := u.bits rfl
    have hM := u.fin rfl
    obtain ⟨m, rfl⟩ := Int.eq_ofNat_of_zero_le (show 0 ≤ m by rw [ht.eq]; exact Int.mul_nonneg (Int.natCast_nonneg _) (Int.natCast_nonneg _))
    have em : m = M * 2 ^ k := by have := ht.eq; exact_mod_cast this
    have hr := (rnd_scale (p := p) (t := t) (h := h) (S := S) (mode := mode) (e := E) n' (N := M) (s := k) hM.1).1
    rw [← hr, ← em, show E - (k : Int) = 2 - t - p + st by omega]
    have hz := z_exact (t := t) (mode := mode) (st := st) n' (m := m) p1 hh (by rw [em]; exact Nat.mul_pos hM.1 (Nat.pow_pos (by decide))) hm hor hst
    unfold rndV
    rw [hz, if_neg (by omega), hsz]
  · rw [if_neg (by decide), if_neg (by decide), if_pos rfl, u.inf rfl]
  · exact absurd rfl h3

theorem flp_val {f wd p t S D h q : Int} (hF : Frm f wd p t S D h q) {x K E : Int} {M : Nat} {n : Bool} (u : Up f p t S D h x K E M n) (h3 : K ≠ 3) : sz S x + (if (!n) then S else 0) = flp S x := by
  obtain ⟨p1, p53, hh, h0, t2, t1, S0, hS, -⟩ := hF.pow
  have := u.sgn h3
  have hx := u.x0
  unfold sz at this ⊢
  unfold flp
  cases n
  · replace this : x = (if x < S then x else x - S) + 0 := this
    show (if x < S then x else x - S) + S = if x < S then x + S else x - S
    by_cases hl : x < S
    · rw [if_pos hl, if_pos hl]
    · rw [if_neg hl] at this
      omega
  · replace this : x = (if x < S then x else x - S) + S := this
    show (if x < S then x else x - S) + 0 = if x < S then x + S else x - S
    by_cases hl : x < S
    · rw [if_pos hl] at this
      omega
    · rw [if_neg hl, if_neg hl, Int.add_zero]

/-- What was unpacked, packed with the other sign. -/
theorem pack_flip {f wd p t S D h q : Int} (hF : Frm f wd p t S D h q) {x K E : Int} {M : Nat} {n : Bool} (u : Up f p t S D h x K E M n) (h3 : K ≠ 3) :
    ∃ F : Int, ∀ w, Shp w → Calls Tryd.prog 13 #[.int .i64 f, .int .i64 1, .agg #[.int .i64 K, .bool (!n), .int .i64 E, .int .u64 (M : Int)]] w fun e w' => e = .returned (.tuple #[.int .u64 (flp S x), .int .i64 F]) ∧ Below w.heap.size w w' := by
  obtain ⟨p1, p53, hh, h0, t2, t1, S0, hS, -, f1, f3, -⟩ := hF.pow
  refine ⟨pkF p t h 1 K E (!n) M, fun w hs => ?_⟩
  rw [← flp_val hF u h3, ← pk_back hF u h3 1 (!n)]
  refine pack_good f 1 K E M _ _ (!n) w hs f1 f3 (by decide) (by decide) ?_ (fun w hs => packNum_any hF 1 K E (!n) M w hs (fun e => by have := u.fin e; omega))
  by_cases hk : K = 1
  · have := u.fin hk
    exact Or.inr ⟨by simp [hk], by simp; omega, by omega, by omega⟩
  · exact Or.inl (by simpa using hk)

/-- A power of two in a form. -/
theorem pow_at {f wd p t S D h q : Int} (hF : Frm f wd p t S D h q) (mode : Int) (n : Bool) (c : Int) (h0 : 0 ≤ t - 1 + c) (h1 : t - 1 + c < 2 * t) :
    rndV p t h S mode c n 1 false = (t + c) * h + (if n then S else 0) := by
  obtain ⟨p1, p53, hh, hpos, t2, t1, S0, hS, -⟩ := hF.pow
  have hr := (rnd_scale (p := p) (t := t) (h := h) (S := S) (mode := mode) (e := c) n (N := 1) (s := (p - 1).toNat) (by decide)).1
  rw [Nat.one_mul] at hr
  have hz := z_exact (t := t) (mode := mode) (st := t - 1 + c) n (m := 2 ^ (p - 1).toNat) p1 hh (Nat.pow_pos (by decide)) (by omega) (Or.inr (by omega)) h0
  have e1 : (t - 1 + c) * h + h = (t + c) * h := by
    rw [show t + c = t - 1 + c + 1 by omega, Int.add_mul (t - 1 + c), Int.one_mul]
  have e2 : (t + c) * h < (2 * t + 1) * h := Int.mul_lt_mul_of_pos_right (by omega) hpos
  rw [← hr, show c - ((p - 1).toNat : Int) = 2 - t - p + (t - 1 + c) by omega]
  unfold rndV
  rw [hz, ← hh, e1, if_neg (by omega)]

/-- 1 in a form, packed. -/
theorem pack_one {f wd p t S D h q : Int} (hF : Frm f wd p t S D h q) :
    ∃ F : Int, ∀ w, Shp w → Calls Tryd.prog 13 #[.int .i64 f, .int .i64 1, .agg #[.int .i64 1, .bool false, .int .i64 0, .int .u64 1]] w fun e w' => e = .returned (.tuple #[.int .u64 (t * h), .int .i64 F]) ∧ Below w.heap.size w w' := by
  obtain ⟨p1, p53, hh, h0, t2, t1, S0, hS, -, f1, f3, -⟩ := hF.pow
  refine ⟨pkF p t h 1 1 0 false 1, fun w hs => ?_⟩
  have e : t * h = pkV p t h S 1 1 0 false 1 := by
    unfold pkV
    rw [if_neg (by decide), if_pos rfl, pow_at hF 1 false 0 (by omega) (by omega)]
    simp
  rw [e]
  exact pack_good f 1 1 0 (1 : Nat) _ _ false w hs f1 f3 (by decide) (by decide) (Or.inr ⟨rfl, rfl, by decide, by decide⟩) (fun w hs => packNum_any hF 1 1 0 false 1 w hs (fun _ => by decide))

/-- 1 in a form, unpacked. -/
theorem up_one {f wd p t S D h q : Int} (hF : Frm f wd p t S D h q) : Up f p t S D h (t * h) 1 0 1 false := by
  obtain ⟨p1, p53, hh, hpos, t2, t1, S0, hS, -, f1, f3, hD, hS2⟩ := hF.pow
  have e0 : 0 < t * h := Int.mul_pos (by omega) hpos
  have e1 : t * h < (2 * t + 1) * h := Int.mul_lt_mul_of_pos_right (by omega) hpos
  obtain ⟨K, E, M, n, u⟩ := unpack_whole hF (t * h) (by omega) (by omega)
  have hs : sz S (t * h) = t * h := by unfold sz; rw [if_pos (by omega)]
  have hK : K = 1 := by
    rcases u.k with rfl | rfl | rfl | rfl
    · have := u.zero rfl; omega
    · rfl
    · have := u.inf rfl; omega
    · have := u.nan.1 rfl; omega
  subst hK
  obtain ⟨m, st, k, ht, ho, hE, hst, hm, hor, hsz, hlt⟩ := u.bits rfl
  have hst' : st = t - 1 ∧ m = h := by
    rw [hs] at hsz
    rcases hF with ⟨_, _, rfl, rfl, _, _, rfl, _⟩ | ⟨_, _, rfl, rfl, _, _, rfl, _⟩ | ⟨_, _, rfl, rfl, _, _, rfl, _⟩ <;> omega
  obtain ⟨rfl, rfl⟩ := hst'
  obtain ⟨hM, hk⟩ := ht.unique ⟨Int.le_refl 1, by rw [Int.one_mul]; exact hh⟩ ho (by decide)
  have hM' : M = 1 := by omega
  have hE' : E = 0 := by omega
  have hn : n = false := by
    have := u.sgn (by decide)
    rw [hs] at this
    cases n
    · rfl
    · simp at this; omega
  rw [hM', hE', hn] at u
  exact u

/-- 1 and 1. -/
theorem two_at {f wd p t S D h q : Int} (hF : Frm f wd p t S D h q) : addV p t h S 1 1 0 false 1 1 0 false 1 = (t + 1) * h := by
  obtain ⟨p1, p53, hh, hpos, t2, t1, S0, hS, -⟩ := hF.pow
  unfold addV smV
  rw [if_neg (by decide), if_neg (by decide), if_neg (by decide)]
  have e : sg false (1 * 2 ^ ((0 : Int) + 9000).toNat) + sg false (1 * 2 ^ ((0 : Int) + 9000).toNat) = ((1 * 2 ^ ((1 : Int) + 9000).toNat : Nat) : Int) := by
    unfold sg
    rw [if_neg (by decide), show ((1 : Int) + 9000).toNat = ((0 : Int) + 9000).toNat + 1 from rfl, Nat.pow_succ]
    omega
  have hp0 : 0 < 1 * 2 ^ ((1 : Int) + 9000).toNat := Nat.mul_pos (by decide) (Nat.pow_pos (by decide))
  have hp1 : 0 < 1 * 2 ^ ((0 : Int) + 9000).toNat := Nat.mul_pos (by decide) (Nat.pow_pos (by decide))
  rw [e, if_neg (by omega), if_neg (by omega), Int.natAbs_natCast, show decide (((1 * 2 ^ ((1 : Int) + 9000).toNat : Nat) : Int) < 0) = false from decide_eq_false (Int.not_lt.mpr (Int.natCast_nonneg _))]
  rw [(rnd_low (p := p) (t := t) (h := h) (S := S) (mode := 1) (e := 1) false (N := 1) (by decide) (by decide)).1, pow_at hF 1 false 1 (by omega) (by omega)]
  simp
end Go.Proofs.YtcpnmcfpnhokgaaDoor
