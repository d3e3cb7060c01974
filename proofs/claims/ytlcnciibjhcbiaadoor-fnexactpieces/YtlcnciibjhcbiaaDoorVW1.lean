/- Cosines in plain numbers, and the program's. -/
import Derived.Test.YtlcnciibjhcbiaaDoorVA2
import Derived.Test.YtlcnciibjhcbiaaDoorVB0
import Derived.Laws.BitsAllLaws
namespace Go.Proofs.YtlcnciibjhcbiaaDoor.Wv
open Go.RowKit

/-- The cosines of the first quarter. -/
def cosL : List Int := [1073741824, 1073418433, 1072448455, 1070832474, 1068571463, 1065666784, 1062120187, 1057933808, 1053110169, 1047652176, 1041563116, 1034846657, 1027506845, 1019548101, 1010975219, 1001793363, 992008064, 981625216, 970651074, 959092248, 946955701, 934248743, 920979028, 907154550, 892783636, 877874942, 862437449, 846480456, 830013575, 813046725, 795590126, 777654293, 759250030, 740388423, 721080834, 701338893, 681174492, 660599777, 639627141, 618269217, 596538871, 574449192, 552013486, 529245268, 506158252, 482766345, 459083638, 435124396, 410903051, 386434193, 361732561, 336813035, 311690625, 286380464, 260897798, 235257977, 209476445, 183568732, 157550444, 131437253, 105244889, 78989129, 52685789, 26350713, 0]

def ct (k : Nat) : Int := cosL.getD k 0

/-- The one before, the wave being even. -/
def pv (k : Nat) : Int := if k = 0 then ct 1 else ct (k - 1)

theorem ct_bounds (k : Nat) : 0 ≤ ct k ∧ ct k ≤ 1073741824 := by
  by_cases h : k < 65
  · have : ∀ k : Fin 65, 0 ≤ ct k.val ∧ ct k.val ≤ 1073741824 := by decide +kernel
    exact this ⟨k, h⟩
  · have : ct k = 0 := by
      unfold ct
      rw [List.getD_eq_getElem?_getD, List.getElem?_eq_none (by show 65 ≤ k; omega)]
      rfl
    omega

theorem ct_step {j : Nat} (h : j < 63) : rdV (2146836866 * ct j) 1073741824 - pv j = ct (j + 1) := by
  have : ∀ k : Fin 63, rdV (2146836866 * ct k.val) 1073741824 - pv k.val = ct (k.val + 1) := by decide +kernel
  exact this ⟨j, h⟩

theorem rd_bounds {j : Nat} (h : j < 63) : -2147483648 ≤ rdV (2146836866 * ct j) 1073741824 ∧ rdV (2146836866 * ct j) 1073741824 ≤ 4294967296 := by
  have : ∀ k : Fin 63, -2147483648 ≤ rdV (2146836866 * ct k.val) 1073741824 ∧ rdV (2146836866 * ct k.val) 1073741824 ≤ 4294967296 := by decide +kernel
  exact this ⟨j, h⟩

theorem pv_bounds (k : Nat) : 0 ≤ pv k ∧ pv k ≤ 1073741824 := by
  unfold pv
  split <;> exact ct_bounds _

theorem pv_succ (k : Nat) : pv (k + 1) = ct k := by unfold pv; rw [if_neg (by omega)]; rfl

theorem ct_end : ct 64 = 0 := by decide +kernel
theorem ct_0 : ct 0 = 1073741824 := by decide +kernel
theorem pv_0 : pv 0 = 1073418433 := by decide +kernel

/-- A place on the circle. -/
def cosr (r : Int) : Int := if r ≤ 64 then ct r.toNat else if r ≤ 128 then -ct (128 - r).toNat else if r ≤ 192 then -ct (r - 128).toNat else ct (256 - r).toNat

/-- The cosine of a step. -/
def cosv (s : Int) : Int := cosr (s % 256)

theorem cosv_bounds (s : Int) : -1073741824 ≤ cosv s ∧ cosv s ≤ 1073741824 := by
  have h1 := ct_bounds (s % 256).toNat
  have h2 := ct_bounds (128 - s % 256).toNat
  have h3 := ct_bounds (s % 256 - 128).toNat
  have h4 := ct_bounds (256 - s % 256).toNat
  unfold cosv cosr
  split
  · omega
  · split
    · omega
    · split <;> omega

theorem cosv_congr {s t : Int} (h : s % 256 = t % 256) : cosv s = cosv t := by unfold cosv; rw [h]

theorem ofInt_mod (x : Int) : (BitVec.ofInt 64 x).toNat = (x % 18446744073709551616).toNat := by
  rw [BitVec.toNat_ofInt]
  rfl

theorem mask255 (x : Int) : bits .and .i64 x 255 = x % 256 := by
  show IntKind.i64.wrap ((BitVec.ofInt 64 x &&& BitVec.ofInt 64 255).toNat : Int) = _
  have e : (BitVec.ofInt 64 255).toNat = 255 := by decide +kernel
  rw [BitVec.toNat_and, e, nat_mask8, ofInt_mod]
  have h := Nat.mod_lt (x % 18446744073709551616).toNat (show 256 > 0 by decide)
  have h2 : (((x % 18446744073709551616).toNat % 256 : Nat) : Int) = x % 256 := by omega
  rw [h2]
  simp [IntKind.wrap, IntKind.bits, IntKind.signed]
  omega

theorem onCircle_any (s : Int) (w : World) : Calls Tryd.prog 74 #[.int .i64 s] w fun e w' => e = .returned (.int .i64 (s % 256)) ∧ w' = w := by
  have hm := mask255 s
  go_enter Tryd.func74, Tryd.ntmps74
  go_wp2
  go_ret
  exact ⟨by first | rfl | rw [hm] | simp, rfl⟩

set_option maxHeartbeats 1000000 in
theorem ruled_any {k : Nat} (hk : k ≤ 64) (w : World) : Calls Tryd.prog 73 #[.int .i64 k] w fun e w' => e = .returned (.int .i64 (ct k)) ∧ Below w.heap.size w w' := by
  by_cases h64 : k = 64
  · subst h64
    show Calls Tryd.prog 73 #[.int .i64 64] w _
    go_enter Tryd.func73, Tryd.ntmps73
    go_wp2
    go_ret
    exact ⟨by rw [ct_end]; rfl, Below.refl _ _⟩
  · have hb64 : ((k : Int) == 64) = false := by rw [beq_eq_false_iff_ne]; omega
    go_enter Tryd.func73, Tryd.ntmps73
    go_wp2
    go_loopw [3, 4, 8] (fun b h i wr => ∃ j : Nat, i = .int .i64 j ∧ b = .int .i64 (pv j) ∧ h = .int .i64 (ct j) ∧ j ≤ k ∧ Hid (Below w.heap.size w wr)) (fun _ _ i _ => k - (intOf i).toNat)
    case atStart => exact ⟨0, rfl, by rw [pv_0], by rw [ct_0], by omega, Below.refl _ _⟩
    case round =>
      obtain ⟨j, rfl, rfl, rfl, hj, hrel⟩ := hrel
      by_cases h1 : j < k
      · have c1 := ct_bounds j
        have c2 := pv_bounds j
        have c3 := rd_bounds (show j < 63 by omega)
        have e1 := ct_step (show j < 63 by omega)
        have i1 := iRound_any (2146836866 * ct j) 1073741824
        generalize rdV (2146836866 * ct j) 1073741824 = R at c3 e1 i1
        have E1 : Hid (R - pv j = ct (j + 1)) := e1
        clear e1
        go_wp2_with (first | (go_at_call 83; (with_reducible refine (i1 _).mono ?_); rintro e w1 ⟨rfl, hb1⟩))
        go_roundw
        case rel => exact ⟨j + 1, by go_num, by rw [pv_succ], by rw [E1.out], by omega, bstep hrel.out hb1⟩
        case measure => simp [intOf]; omega
      · obtain rfl : j = k := by omega
        go_wp2
        go_ret
        exact ⟨rfl, hrel.out⟩

set_option maxRecDepth 20000 in
set_option maxHeartbeats 1000000 in
theorem mirrored_any (s : Int) (w : World) : Calls Tryd.prog 72 #[.int .i64 s, .func (.func 73) #[] #[]] w fun e w' => e = .returned (.int .i64 (cosv s)) ∧ Below w.heap.size w w' := by
  have i1 := onCircle_any s
  have r0 := Int.emod_nonneg s (show (256 : Int) ≠ 0 by decide)
  have r1 := Int.emod_lt_of_pos s (show (0 : Int) < 256 by decide)
  have hv : cosv s = cosr (s % 256) := rfl
  rw [hv]
  clear hv
  generalize s % 256 = r at i1 r0 r1 ⊢
  obtain ⟨n, rfl⟩ := Int.eq_ofNat_of_zero_le r0
  clear r0
  obtain ⟨y, hy⟩ : ∃ y, y = cosr (n : Int) := ⟨_, rfl⟩
  rw [← hy]
  have HY : Hid (y = cosr (n : Int)) := hy
  clear hy
  by_cases h1 : n ≤ 64
  · have i2 := ruled_any h1
    obtain ⟨x, hx⟩ : ∃ x, x = ct n := ⟨_, rfl⟩
    have E : Hid (x = y) := by rw [HY.out, hx]; unfold cosr; rw [if_pos (by omega)]; rfl
    rw [← hx] at i2
    clear hx
    go_enter Tryd.func72, Tryd.ntmps72
    go_wp2_with (first | (go_at_call 74; (with_reducible refine (i1 _).mono ?_); rintro e w' ⟨rfl, hw⟩; obtain rfl := hw.symm) | (go_at_call 73; (with_reducible refine (i2 _).mono ?_); rintro e w1 ⟨rfl, hb1⟩))
    go_ret
    exact ret2 E.out hb1
  · by_cases h2 : n ≤ 128
    · have i2 := ruled_any (show 128 - n ≤ 64 by omega)
      have e2 : ((128 - n : Nat) : Int) = 128 - (n : Int) := by omega
      rw [e2] at i2
      have c1 := ct_bounds (128 - n)
      obtain ⟨x, hx⟩ : ∃ x, x = ct (128 - n) := ⟨_, rfl⟩
      have E : Hid (-x = y) := by rw [HY.out, hx]; unfold cosr; rw [if_neg (by omega), if_pos (by omega)]; congr 2; omega
      rw [← hx] at i2 c1
      clear hx
      go_enter Tryd.func72, Tryd.ntmps72
      go_wp2_with (first | (go_at_call 74; (with_reducible refine (i1 _).mono ?_); rintro e w' ⟨rfl, hw⟩; obtain rfl := hw.symm) | (go_at_call 73; (with_reducible refine (i2 _).mono ?_); rintro e w1 ⟨rfl, hb1⟩))
      go_ret
      exact ret2 E.out hb1
    · by_cases h3 : n ≤ 192
      · have i2 := ruled_any (show n - 128 ≤ 64 by omega)
        have e2 : ((n - 128 : Nat) : Int) = (n : Int) - 128 := by omega
        rw [e2] at i2
        have c1 := ct_bounds (n - 128)
        obtain ⟨x, hx⟩ : ∃ x, x = ct (n - 128) := ⟨_, rfl⟩
        have E : Hid (-x = y) := by rw [HY.out, hx]; unfold cosr; rw [if_neg (by omega), if_neg (by omega), if_pos (by omega)]; congr 2; omega
        rw [← hx] at i2 c1
        clear hx
        go_enter Tryd.func72, Tryd.ntmps72
        go_wp2_with (first | (go_at_call 74; (with_reducible refine (i1 _).mono ?_); rintro e w' ⟨rfl, hw⟩; obtain rfl := hw.symm) | (go_at_call 73; (with_reducible refine (i2 _).mono ?_); rintro e w1 ⟨rfl, hb1⟩))
        go_ret
        exact ret2 E.out hb1
      · have i2 := ruled_any (show 256 - n ≤ 64 by omega)
        have e2 : ((256 - n : Nat) : Int) = 256 - (n : Int) := by omega
        rw [e2] at i2
        obtain ⟨x, hx⟩ : ∃ x, x = ct (256 - n) := ⟨_, rfl⟩
        have E : Hid (x = y) := by rw [HY.out, hx]; unfold cosr; rw [if_neg (by omega), if_neg (by omega), if_neg (by omega)]; congr 1; omega
        rw [← hx] at i2
        clear hx
        go_enter Tryd.func72, Tryd.ntmps72
        go_wp2_with (first | (go_at_call 74; (with_reducible refine (i1 _).mono ?_); rintro e w' ⟨rfl, hw⟩; obtain rfl := hw.symm) | (go_at_call 73; (with_reducible refine (i2 _).mono ?_); rintro e w1 ⟨rfl, hb1⟩))
        go_ret
        exact ret2 E.out hb1

theorem iCos_any (s : Int) (w : World) : Calls Tryd.prog 65 #[.int .i64 s] w fun e w' => e = .returned (.int .i64 (cosv s)) ∧ Below w.heap.size w w' := by
  have i1 := mirrored_any s
  go_enter Tryd.func65, Tryd.ntmps65
  go_wp2_with (first | (go_at_call 72; (with_reducible refine (i1 _).mono ?_); rintro e w1 ⟨rfl, hb1⟩))
  go_ret
  exact ⟨rfl, hb1⟩

/-- The sine. -/
def sinv (s : Int) : Int := cosv (s - 64)

theorem sinv_bounds (s : Int) : -1073741824 ≤ sinv s ∧ sinv s ≤ 1073741824 := cosv_bounds _

theorem iSin_any (s : Int) (w : World) : Calls Tryd.prog 66 #[.int .i64 s] w fun e w' => e = .returned (.int .i64 (sinv s)) ∧ Below w.heap.size w w' := by
  have i1 := onCircle_any s
  have i2 := iCos_any (s % 256 - 64)
  have r0 := Int.emod_nonneg s (show (256 : Int) ≠ 0 by decide)
  have r1 := Int.emod_lt_of_pos s (show (0 : Int) < 256 by decide)
  have E : cosv (s % 256 - 64) = sinv s := cosv_congr (by omega)
  rw [E] at i2
  clear E
  generalize s % 256 = r at i1 i2 r0 r1
  go_enter Tryd.func66, Tryd.ntmps66
  go_wp2_with (first | (go_at_call 74; (with_reducible refine (i1 _).mono ?_); rintro e w' ⟨rfl, hw⟩; obtain rfl := hw.symm) | (go_at_call 65; (with_reducible refine (i2 _).mono ?_); rintro e w1 ⟨rfl, hb1⟩))
  go_ret
  exact ⟨rfl, hb1⟩

end Go.Proofs.YtlcnciibjhcbiaaDoor.Wv
