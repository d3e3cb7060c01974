/- A number out of its three residues. -/
import Derived.Test.YtacenbapmelncaaDoorP1
import Derived.Test.YtacenbapmelncaaDoorM3
namespace Go.Proofs.YtacenbapmelncaaDoor
open Go.RowKit

/-- How often a step is missing. -/
def tmV (x st r p : Int) : Int := (r - x % p + p) % p * ivV (st % p) p % p

set_option maxHeartbeats 1000000 in
theorem tm_any {x st r p : Int} (hp : Prm p) (hx : 0 ≤ x ∧ x ≤ 1000000000000000000) (hst : 0 ≤ st ∧ st ≤ 1000000000000000000) (hr : 0 ≤ r ∧ r < p) {w : World} (hs : Prs w) :
    Calls Tryd.prog 15 #[.int .i64 x, .int .i64 st, .int .i64 r, .int .i64 p] w fun e w' => e = .returned (.int .i64 (tmV x st r p)) ∧ w' = w := by
  have hpb := hp.bounds
  have i1 := iInv_any (st % p) p hs
  have bi := ivV_bounds (a := st % p) hp
  obtain ⟨V, hV⟩ : ∃ V, ivV (st % p) p = V := ⟨_, rfl⟩
  obtain ⟨u, hu⟩ : ∃ u, x % p = u := ⟨_, rfl⟩
  obtain ⟨M, hM⟩ : ∃ M, (r - u) % p = M := ⟨_, rfl⟩
  have ez : tmV x st r p = M * V % p := by
    unfold tmV
    rw [hu, hV, Int.add_emod_right, hM]
  rw [ez]
  rw [hV] at i1 bi
  have q1 := Int.emod_nonneg x (show p ≠ 0 by omega)
  have q2 := Int.emod_lt_of_pos x (show 0 < p by omega)
  have q3 := Int.emod_nonneg (r - u) (show p ≠ 0 by omega)
  have q4 := Int.emod_lt_of_pos (r - u) (show 0 < p by omega)
  rw [hu] at q1 q2
  rw [hM] at q3 q4
  have m1 := mul_lt (a := M) (b := V) (p := p) q3 q4 bi.1 bi.2 hpb.2
  clear hp hs ez hV
  go_enter Tryd.func15, Tryd.ntmps15
  go_wp2_with (go_at_call 20; (with_reducible refine (i1).mono ?_); rintro e w' ⟨rfl, hw⟩; obtain rfl := hw.symm)
  go_ret
  exact ⟨rfl, rfl⟩

theorem isBig_yes {x : Int} (h : -4000000000000000000 ≤ x ∧ x ≤ 4000000000000000000) (w : World) : Calls Tryd.prog 16 #[.int .i64 x] w fun e w' => e = .returned (.bool true) ∧ w' = w := by
  obtain ⟨h1, h2⟩ := h
  go_enter Tryd.func16, Tryd.ntmps16
  go_wp2
  go_ret
  exact ⟨by simp, rfl⟩

theorem idx43 (a b c : Int) (W : World) : Sem.run Tryd.prog (Instr.index 31 (.agg #[.int .i64 a, .int .i64 b, .int .i64 c]) (.int .i64 0)) W = .ok (.int .i64 a) W ∧ Sem.run Tryd.prog (Instr.index 31 (.agg #[.int .i64 a, .int .i64 b, .int .i64 c]) (.int .i64 1)) W = .ok (.int .i64 b) W ∧ Sem.run Tryd.prog (Instr.index 31 (.agg #[.int .i64 a, .int .i64 b, .int .i64 c]) (.int .i64 2)) W = .ok (.int .i64 c) W := ⟨by kernel_rfl, by kernel_rfl, by kernel_rfl⟩

/-- How often step is in what is missing: it is what is left. -/
theorem tmV_of {x st q p : Int} (hp : Prm p) (hst : 1 ≤ st % p) {r : Int} (hr : Cg p r (x + st * q)) : tmV x st r p = q % p := by
  have hb := hp.bounds
  have hlt := Int.emod_lt_of_pos st (show 0 < p by omega)
  have hi := inv_mul hp (a := st % p) ⟨hst, by omega⟩
  have h1 : Cg p (r - x % p + p) (st % p * q) := by
    have h2 := (hr.add ((cg_mod p x).mul (Cg.refl p (-1)))).add (show Cg p p 0 from ⟨1, by omega⟩)
    have h3 : Cg p (x + st * q + x * -1 + 0) (st % p * q) := by
      have h4 := (cg_mod p st).symm.mul (Cg.refl p q)
      have e : x + st * q + x * -1 + 0 = st * q := by grind
      rw [e]
      exact h4
    have h5 := h2.trans h3
    have e2 : r + x % p * -1 + p = r - x % p + p := by omega
    rw [e2] at h5
    exact h5
  have h6 : Cg p ((r - x % p + p) % p * ivV (st % p) p) (st % p * q * ivV (st % p) p) := ((cg_mod p _).trans h1).mul (Cg.refl _ _)
  have h7 : Cg p (st % p * q * ivV (st % p) p) q := by
    have := hi.mul (Cg.refl p q)
    rw [Int.one_mul] at this
    have e : st % p * q * ivV (st % p) p = st % p * ivV (st % p) p * q := by grind
    rw [e]
    exact this
  exact (h6.trans h7).mod_eq

set_option maxHeartbeats 4000000 in
theorem tog_any {X : Int} (hX : -4000000000000000000 ≤ X ∧ X ≤ 4000000000000000000) {w : World} (hs : Prs w) :
    Calls Tryd.prog 5 #[.int .i64 (X % 998244353), .int .i64 (X % 167772161), .int .i64 (X % 469762049)] w fun e w' => e = .returned (.int .i64 X) ∧ w' = w := by
  have pA : Prm 998244353 := .inl rfl
  have pB : Prm 167772161 := .inr (.inl rfl)
  have pC : Prm 469762049 := .inr (.inr rfl)
  obtain ⟨q, hq⟩ : ∃ q, q = X / 998244353 := ⟨_, rfl⟩
  obtain ⟨y, hy⟩ : ∃ y, y = q % 167772161 := ⟨_, rfl⟩
  obtain ⟨s, hsq⟩ : ∃ s, s = q / 167772161 := ⟨_, rfl⟩
  obtain ⟨a, ha⟩ : ∃ a, a = X % 998244353 := ⟨_, rfl⟩
  obtain ⟨b, hb⟩ : ∃ b, b = X % 167772161 := ⟨_, rfl⟩
  obtain ⟨c, hc⟩ : ∃ c, c = X % 469762049 := ⟨_, rfl⟩
  have e1 : X = a + 998244353 * q := by omega
  have e2 : q = y + 167772161 * s := by omega
  have by0 : 0 ≤ y ∧ y < 167772161 := by omega
  have ba : 0 ≤ a ∧ a < 998244353 := by omega
  have bb : 0 ≤ b ∧ b < 167772161 := by omega
  have bc : 0 ≤ c ∧ c < 469762049 := by omega
  have bs : -24 ≤ s ∧ s ≤ 23 := by omega
  have t1 : tmV a 998244353 b 167772161 = y := by
    rw [hy]
    refine tmV_of pB (by decide) ?_
    rw [hb, ← e1]
    exact cg_mod _ _
  obtain ⟨x1, hx1⟩ : ∃ x1, x1 = a + 998244353 * y := ⟨_, rfl⟩
  have e3 : X = x1 + 167477612308856833 * s := by omega
  have t2 : tmV x1 167477612308856833 c 469762049 = s % 469762049 := by
    refine tmV_of pC (by decide) ?_
    rw [hc, ← e3]
    exact cg_mod _ _
  have i1 := tm_any (x := a) (st := 998244353) (r := b) pB (by omega) (by omega) bb hs
  have i2 := tm_any (x := x1) (st := 167477612308856833) (r := c) pC (by omega) (by omega) bc hs
  rw [t1] at i1
  rw [t2] at i2
  have r1 := fun W => iRes_any a 998244353 (by omega) W
  have r2 := fun W => iRes_any b 167772161 (by omega) W
  have r3 := fun W => iRes_any c 469762049 (by omega) W
  rw [decide_eq_true (show 0 ≤ a ∧ a ≤ 998244353 - 1 by omega)] at r1
  rw [decide_eq_true (show 0 ≤ b ∧ b ≤ 167772161 - 1 by omega)] at r2
  rw [decide_eq_true (show 0 ≤ c ∧ c ≤ 469762049 - 1 by omega)] at r3
  have i3 := isBig_yes hX
  rw [← ha, ← hb, ← hc]
  have hs1 : 998244353 * y = x1 - a := by omega
  obtain ⟨c0, c1, c2⟩ := hs
  obtain ⟨d0, d1, d2⟩ := idx43 a b c w
  obtain ⟨z, hz⟩ : ∃ z, z = s % 469762049 := ⟨_, rfl⟩
  rw [← hz] at i2
  have HZ : Hid (z = s % 469762049) := hz
  have HE : Hid (X = x1 + 167477612308856833 * s) := e3
  have bx : 0 ≤ x1 ∧ x1 ≤ 167477612308856833 := by omega
  have HX1 : Hid (x1 = a + 998244353 * y) := hx1
  clear hx1 hz e1 e2 e3 ha hb hc hq hy hsq t1 t2 pA pB pC hs1
  go_enter Tryd.func5, Tryd.ntmps5
  go_wp2
  go_loopw [7, 8, 15] (fun _ _ i wr => ∃ k : Nat, i = .int .i64 k ∧ k ≤ 3 ∧ wr = w) (fun _ _ i _ => 3 - (intOf i).toNat)
  case atStart => exact ⟨0, rfl, by omega, rfl⟩
  case round =>
    obtain ⟨k, rfl, hk, hw⟩ := hrel
    obtain rfl := hw.symm
    have : k = 0 ∨ k = 1 ∨ k = 2 ∨ k = 3 := by omega
    rcases this with rfl | rfl | rfl | rfl
    · go_wp2_with (go_at_call 14; (with_reducible refine (r1 _).mono ?_); rintro e w' ⟨rfl, hw⟩; obtain rfl := hw.symm)
      go_roundw
      case rel => exact ⟨1, rfl, by omega, by trivial⟩
      case measure => simp [intOf]
    · go_wp2_with (go_at_call 14; (with_reducible refine (r2 _).mono ?_); rintro e w' ⟨rfl, hw⟩; obtain rfl := hw.symm)
      go_roundw
      case rel => exact ⟨2, rfl, by omega, by trivial⟩
      case measure => simp [intOf]
    · go_wp2_with (go_at_call 14; (with_reducible refine (r3 _).mono ?_); rintro e w' ⟨rfl, hw⟩; obtain rfl := hw.symm)
      go_roundw
      case rel => exact ⟨3, rfl, by omega, by trivial⟩
      case measure => simp [intOf]
    · have e5 : 998244353 * y = x1 - a := by have := HX1.out; omega
      have e5b : a + (x1 - a) = x1 := by omega
      by_cases h0 : 0 ≤ s
      · obtain rfl : z = s := by rw [HZ.out]; omega
        have e6 : x1 + 167477612308856833 * z = X := HE.out.symm
        have h1 : z ≤ 234881024 := by omega
        go_wp2_with (first | (go_at_call 15; (with_reducible refine (i1).mono ?_); rintro e w' ⟨rfl, hw⟩; obtain rfl := hw.symm) | (go_at_call 15; (with_reducible refine (i2).mono ?_); rintro e w' ⟨rfl, hw⟩; obtain rfl := hw.symm) | (go_at_call 16; (with_reducible refine (i3 _).mono ?_); rintro e w' ⟨rfl, hw⟩; obtain rfl := hw.symm))
        go_ret
        exact ⟨rfl, rfl⟩
      · have hz2 : z = s + 469762049 := by rw [HZ.out]; omega
        have e7 : z - 469762049 = s := by omega
        have e6 : x1 + 167477612308856833 * s = X := HE.out.symm
        have h1 : 234881024 < z := by omega
        clear hz2
        go_wp2_with (first | (go_at_call 15; (with_reducible refine (i1).mono ?_); rintro e w' ⟨rfl, hw⟩; obtain rfl := hw.symm) | (go_at_call 15; (with_reducible refine (i2).mono ?_); rintro e w' ⟨rfl, hw⟩; obtain rfl := hw.symm) | (go_at_call 16; (with_reducible refine (i3 _).mono ?_); rintro e w' ⟨rfl, hw⟩; obtain rfl := hw.symm))
        go_ret
        exact ⟨rfl, rfl⟩

end Go.Proofs.YtacenbapmelncaaDoor
