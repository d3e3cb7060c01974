/- The program's packFinite: every finite number. -/
import Derived.Test.YtghblaphkbcgpaaDoorHQ1
import Derived.Test.YtghblaphkbcgpaaDoorHS7
import Derived.Deep.Cut
import Derived.Deep.CutRange
namespace Go.Proofs.YtghblaphkbcgpaaDoor
open Go.RowKit

theorem len_at (M : Nat) (h0 : 0 < M) (h1 : M < 18446744073709551616) (w : World) :
    Calls Tryd.prog 56 #[.int .u64 (M : Int)] w fun e w' => e = .returned (.int .i64 (blen M : Int)) ∧ w' = w := by
  obtain ⟨L, hB, hL⟩ := len_of (M : Int) (by omega) (by omega)
  have e : L = blen M := by
    apply Bl.eq
    have h2 := hB.lt
    have h3 := hB.ge
    have h4 : M < 2 ^ L := by exact_mod_cast h2
    rcases L with _ | L
    · simp at h4
      omega
    · refine Or.inr ⟨by omega, ?_, h4⟩
      rw [Nat.pow_succ] at h3
      simp only [Nat.add_sub_cancel]
      omega
  rw [← e]
  exact hL w

/-- What packFinite has laid: the shape and the number. -/
structure Lp (B : Nat) (wd p t K E M : Int) (n : Bool) (w W : World) : Prop where
  a0 : W.cell? ⟨B, 0, none⟩ = some (.int .i64 wd)
  a1 : W.cell? ⟨B, 1, none⟩ = some (.int .i64 p)
  a2 : W.cell? ⟨B, 2, none⟩ = some (.int .i64 t)
  b0 : W.cell? ⟨B + 1, 0, none⟩ = some (.int .i64 K)
  b1 : W.cell? ⟨B + 1, 1, none⟩ = some (.bool n)
  b2 : W.cell? ⟨B + 1, 2, none⟩ = some (.int .i64 E)
  b3 : W.cell? ⟨B + 1, 3, none⟩ = some (.int .u64 M)
  bl : Below B w W

theorem Lp.lt {B : Nat} {wd p t K E M : Int} {n : Bool} {w W : World} (h : Lp B wd p t K E M n w W) : B + 1 < W.heap.size := World.block_lt_of_cell? W _ h.b0

theorem Lp.step {B : Nat} {wd p t K E M : Int} {n : Bool} {w W V : World} (h : Lp B wd p t K E M n w W) (hb : Below W.heap.size W V) : Lp B wd p t K E M n w V := by
  have hl := h.lt
  have c : ∀ b o, b ≤ B + 1 → V.cell? ⟨b, o, none⟩ = W.cell? ⟨b, o, none⟩ := fun b o hbb => hb.cell (p := ⟨b, o, none⟩) (show b < W.heap.size by omega)
  exact ⟨(c _ _ (by omega)).trans h.a0, (c _ _ (by omega)).trans h.a1, (c _ _ (by omega)).trans h.a2, (c _ _ (by omega)).trans h.b0, (c _ _ (by omega)).trans h.b1, (c _ _ (by omega)).trans h.b2, (c _ _ (by omega)).trans h.b3, h.bl.trans (hb.mono (by omega))⟩

theorem lp_start (w : World) (wd p t K E M : Int) (n : Bool) : Lp w.heap.size wd p t K E M n w ((w.alloc (Obj.cells #[.int .i64 wd, .int .i64 p, .int .i64 t] 58)).alloc (Obj.cells #[.int .i64 K, .bool n, .int .i64 E, .int .u64 M] 31)) := by
  refine ⟨?_, ?_, ?_, ?_, ?_, ?_, ?_, below_two _ _⟩ <;> simp

set_option maxHeartbeats 4000000 in
set_option maxRecDepth 100000 in
theorem packFinite_any {f wd p t S D h q : Int} (hF : Frm f wd p t S D h q) (mode E : Int) (n : Bool) (M : Nat) (w : World) (hM0 : 0 < M) (hM : M < 18446744073709551616) (hE0 : -100000 ≤ E) (hE1 : E ≤ 100000) :
    Calls Tryd.prog 51 #[.agg #[.int .i64 wd, .int .i64 p, .int .i64 t], .int .i64 mode, .agg #[.int .i64 1, .bool n, .int .i64 E, .int .u64 (M : Int)]] w fun x w' => x = .returned (.tuple #[.int .u64 (rndV p t h S mode E n M false), .int .i64 (rndF p t h mode E n M false)]) ∧ Below w.heap.size w w' := by
  have hp : 11 ≤ p ∧ p ≤ 53 ∧ 15 ≤ t ∧ t ≤ 1023 := by
    rcases hF with ⟨_, _, rfl, rfl, _⟩ | ⟨_, _, rfl, rfl, _⟩ | ⟨_, _, rfl, rfl, _⟩ <;> omega
  obtain ⟨hp0, hp1, ht0, ht1⟩ := hp
  have hL : (blen M : Int) ≤ 64 := by have := blen_le (N := M) (L := 64) hM; omega
  have hL0 : (0 : Int) < blen M := by have := (blen_pos hM0).1; omega
  have hlen := fun w => len_at M hM0 hM w
  have hu := uOf_ge p t E M
  have HUd : Hid (uOf p t E M = (if E + blen M - 1 < 1 - t then 1 - t else E + blen M - 1) - p + 1) := rfl
  generalize hUU : uOf p t E M = U at *
  have HU : Hid (uOf p t E M = U) := hUU
  clear hUU
  have hlu : ∀ W, Lp w.heap.size wd p t 1 E M n w W → Calls Tryd.prog 55 #[.agg #[.int .i64 wd, .int .i64 p, .int .i64 t]] W fun e w' => e = .returned (.int .i64 (2 - t - p)) ∧ Lp w.heap.size wd p t 1 E M n w w' := fun W hW => by
    refine (leastUnit_any hF W).mono ?_
    rintro e w' ⟨rfl, rfl⟩
    exact ⟨rfl, hW.step (by first | exact Below.refl _ _ | exact below_one _)⟩
  have HF : Hid (Frm f wd p t S D h q) := hF
  obtain ⟨hu1, hu2, hu3, hu4⟩ := hu
  have HU3 : Hid _ := hu3
  have HU4 : Hid _ := hu4
  have hu5 : U ≤ 200000 := by by_cases h : E + blen M - 1 < 1 - t; have := hu3 h; omega; have := hu4 h; omega
  clear hF hu3 hu4
  go_enter Tryd.func51, Tryd.ntmps51
  go_wp2
  go_quiet ((go_at_call 56; exact Calls.quiet_of_same (hlen _)))
  go_wp2
  generalize hW : (((w.alloc _).alloc _).drewN nq) = W
  have hl : Lp w.heap.size wd p t 1 E M n w W := by
    subst hW
    exact (lp_start w wd p t 1 E M n).step (below_drewN (Below.refl _ _) _)
  clear hW
  go_cut [9] from 14 (fun s wx => s = .int .i64 U ∧ Lp w.heap.size wd p t 1 E M n w wx)
  case first =>
    have h1 := hlu _ (hl.step (Below.refl _ _).drew)
    have HB : Hid (∀ x : Int, x = (if E + blen M - 1 < 1 - t then 1 - t else E + blen M - 1) - p + 1 → x = U) := fun x hx => by rw [hx, HUd.out]
    obtain ⟨a0, a1, a2, b0, b1, b2, b3, bl⟩ := hl
    have w3 := wrap_small (E + blen M - 1 - p) (by omega) (by omega)
    have w4 := wrap_small (E + blen M - 1 - p + 1) (by omega) (by omega)
    by_cases hmx : E + blen M - 1 - p + 1 < 2 - t - p
    · go_region_with (go_at_call 55; refine h1.mono ?_; rintro e w' ⟨rfl, hl'⟩; have c0 := hl'.a0; have c1 := hl'.a1; have c2 := hl'.a2)
      all_goals
        go_wp2
        go_meet
        case rel => exact ⟨by rw [← HB.out (2 - t - p) (by split <;> omega)], hl'⟩
    · go_region_with (go_at_call 55; refine h1.mono ?_; rintro e w' ⟨rfl, hl'⟩; have c0 := hl'.a0; have c1 := hl'.a1; have c2 := hl'.a2)
      all_goals
        go_wp2
        go_meet
        case rel => exact ⟨by rw [← HB.out (E + blen M - 1 - p + 1) (by split <;> omega)], hl'⟩
  case rest =>
    obtain ⟨rfl, hl2⟩ := hcut
    have hmlt : mOf M (U - E) < 2 ^ 53 := mOf_lt (by omega)
    have hK : kOf mode n M (U - E) false ≤ 2 ^ 53 := by have := (kOf_le mode n M (U - E) false).2; omega
    have hR : ∀ W, Lp w.heap.size wd p t 1 E M n w W → Calls Tryd.prog 57 #[.int .i64 mode, .agg #[.int .i64 1, .bool n, .int .i64 E, .int .u64 (M : Int)], .int .i64 U] W fun e w' => e = .returned (.tuple #[.int .u64 (kOf mode n M (U - E) false : Nat), .bool (!sOf M (U - E) false)]) ∧ Lp w.heap.size wd p t 1 E M n w w' := fun W hW => by
      refine (roundTo_any mode 1 E U n M W hM0 hM (by omega) (by omega) (by omega) (by omega) (by omega)).mono ?_
      rintro e w' ⟨rfl, hb⟩
      exact ⟨rfl, hW.step hb⟩
    have hI : ∀ W, Lp w.heap.size wd p t 1 E M n w W → Calls Tryd.prog 46 #[.agg #[.int .i64 wd, .int .i64 p, .int .i64 t]] W fun e w' => e = .returned (.int .u64 ((2 * t + 1) * h)) ∧ Lp w.heap.size wd p t 1 E M n w w' := fun W hW => by
      refine (infinity_any HF.out W).mono ?_
      rintro e w' ⟨rfl, rfl⟩
      exact ⟨rfl, hW.step (below_one _)⟩
    have hG : ∀ (s : Int) W, 0 ≤ s → s < S → Lp w.heap.size wd p t 1 E M n w W → Calls Tryd.prog 50 #[.agg #[.int .i64 wd, .int .i64 p, .int .i64 t], .bool n, .int .u64 s] W fun e w' => e = .returned (.int .u64 (s + (if n then S else 0))) ∧ Below w.heap.size w w' := fun s W h0 h1 hW => by
      refine (signed_any HF.out n s W h0 h1).mono ?_
      rintro e w' ⟨rfl, hb⟩
      refine ⟨?_, (hW.step hb).bl⟩
      cases n <;> simp
    have hO : ∀ W, Lp w.heap.size wd p t 1 E M n w W → Calls Tryd.prog 58 #[.agg #[.int .i64 wd, .int .i64 p, .int .i64 t], .int .i64 mode, .bool n] W fun e w' => e = .returned (.tuple #[.int .u64 (oOf mode ((2 * t + 1) * h) n + (if n then S else 0)), .int .i64 5]) ∧ Below w.heap.size w w' := fun W hW => by
      refine (overflow_any HF.out mode n W).mono ?_
      rintro e w' ⟨rfl, hb⟩
      exact ⟨rfl, (hW.step hb).bl⟩
    have hS : 0 < h ∧ (2 * t + 1) * h < S ∧ S ≤ 9223372036854775808 ∧ 0 ≤ (2 * t + 1) * h := by
      rcases HF.out with ⟨rfl, rfl, rfl, rfl, rfl, rfl, rfl, rfl⟩ | ⟨rfl, rfl, rfl, rfl, rfl, rfl, rfl, rfl⟩ | ⟨rfl, rfl, rfl, rfl, rfl, rfl, rfl, rfl⟩ <;> decide
    obtain ⟨hh0, hi1, hS1, hi0⟩ := hS
    have HZ : Hid (zOf p t h mode E n M false = (U - (2 - t - p)) * h + (kOf mode n M (U - E) false : Nat)) := by
      show zOf p t h mode E n M false = _
      unfold zOf
      rw [HU.out]
    have HV1 : Hid ((2 * t + 1) * h ≤ (U - (2 - t - p)) * h + (kOf mode n M (U - E) false : Nat) → Ending.returned (.tuple #[.int .u64 (oOf mode ((2 * t + 1) * h) n + (if n then S else 0)), .int .i64 5]) = Ending.returned (.tuple #[.int .u64 (rndV p t h S mode E n M false), .int .i64 (rndF p t h mode E n M false)])) := fun hz => by
      unfold rndV rndF
      rw [HZ.out, if_pos hz, if_pos hz]
    have HV2 : Hid (¬ (2 * t + 1) * h ≤ (U - (2 - t - p)) * h + (kOf mode n M (U - E) false : Nat) → ∀ x y : Int, x = (U - (2 - t - p)) * h + (kOf mode n M (U - E) false : Nat) + (if n then S else 0) → y = (if sOf M (U - E) false then (if E + blen M - 1 < 1 - t then 3 else 1) else 0) → Ending.returned (.tuple #[.int .u64 x, .int .i64 y]) = Ending.returned (.tuple #[.int .u64 (rndV p t h S mode E n M false), .int .i64 (rndF p t h mode E n M false)])) := fun hz x y hx hy => by
      unfold rndV rndF fOf
      rw [HZ.out, if_neg hz, if_neg hz, HU.out, hx, hy]
    have HZ1 : Hid (2 * t < U - (2 - t - p) → (2 * t + 1) * h ≤ (U - (2 - t - p)) * h) := fun hh => Int.mul_le_mul_of_nonneg_right (by omega) (by omega)
    have HZ2 : Hid (¬ 2 * t < U - (2 - t - p) → (U - (2 - t - p)) * h ≤ 2 * t * h) := fun hh => Int.mul_le_mul_of_nonneg_right (by omega) (by omega)
    have HZ3 : Hid (0 ≤ (U - (2 - t - p)) * h) := Int.mul_nonneg (by omega) (by omega)
    have HZ4 : Hid (2 * t * h ≤ (2 * t + 1) * h) := Int.mul_le_mul_of_nonneg_right (by omega) (by omega)
    have HSH : Hid (¬ 2 * t < U - (2 - t - p) → IntKind.u64.wrap ((U - (2 - t - p)) * 2 ^ (p.toNat - 1)) = (U - (2 - t - p)) * h) := fun hh => by
      have h2 := HZ2.out hh
      have h3 := HZ3.out
      have h4 := HZ4.out
      have e : (U - (2 - t - p)) * 2 ^ (p.toNat - 1) = (U - (2 - t - p)) * h := by
        rcases HF.out with ⟨rfl, rfl, rfl, rfl, rfl, rfl, rfl, rfl⟩ | ⟨rfl, rfl, rfl, rfl, rfl, rfl, rfl, rfl⟩ | ⟨rfl, rfl, rfl, rfl, rfl, rfl, rfl, rfl⟩ <;> rfl
      rw [e, IntKind.wrap_u64]
      omega
    clear hmlt
    generalize kOf mode n M (U - E) false = K at *
    generalize sOf M (U - E) false = sO at *
    generalize (if n = true then S else 0) = sg at *
    generalize (U - (2 - t - p)) * h = Z at *
    generalize (2 * t + 1) * h = i at *
    have hl3 := hl2
    obtain ⟨a0, a1, a2, b0, b1, b2, b3, bl⟩ := hl2
    by_cases o1 : 2 * t < U - (2 - t - p)
    · have HV : Hid _ := HV1.out (by have := HZ1.out o1; omega)
      clear HV1 HV2 HSH
      go_wp2_with (first | (go_at_call 57; refine (hR _ (by assumption)).mono ?_; rintro e w1 ⟨rfl, l1⟩; have a0p := l1.a0; have a1p := l1.a1; have a2p := l1.a2; have b0p := l1.b0; have b1p := l1.b1; have b2p := l1.b2; have b3p := l1.b3) | (go_at_call 55; refine (hlu _ (by assumption)).mono ?_; rintro e w2 ⟨rfl, l2⟩; have a0q := l2.a0; have a1q := l2.a1; have a2q := l2.a2; have b0q := l2.b0; have b1q := l2.b1; have b2q := l2.b2; have b3q := l2.b3) | (go_at_call 46; refine (hI _ (by assumption)).mono ?_; rintro e w3 ⟨rfl, l3⟩; have a0r := l3.a0; have a1r := l3.a1; have a2r := l3.a2; have b0r := l3.b0; have b1r := l3.b1; have b2r := l3.b2; have b3r := l3.b3) | (go_at_call 50; refine (hG _ _ (by omega) (by omega) (by assumption)).mono ?_; rintro e w4 ⟨rfl, hb4⟩) | (go_at_call 58; refine (hO _ (by assumption)).mono ?_; rintro e w4 ⟨rfl, hb4⟩))
      go_ret2
      exact ⟨HV.out, hb4⟩
    · have h2 := HZ2.out o1
      have h3 := HZ3.out
      have h4 := HZ4.out
      have q1 := HSH.out o1
      clear HSH
      have hK2 : (K : Int) ≤ 9007199254740992 := by omega
      have hZ9 : Z ≤ i := by omega
      clear h2 h4
      by_cases o2 : i ≤ Z + K
      · have HV : Hid _ := HV1.out o2
        clear HV1 HV2
        go_wp2_with (first | (go_at_call 57; refine (hR _ (by assumption)).mono ?_; rintro e w1 ⟨rfl, l1⟩; have a0p := l1.a0; have a1p := l1.a1; have a2p := l1.a2; have b0p := l1.b0; have b1p := l1.b1; have b2p := l1.b2; have b3p := l1.b3) | (go_at_call 55; refine (hlu _ (by assumption)).mono ?_; rintro e w2 ⟨rfl, l2⟩; have a0q := l2.a0; have a1q := l2.a1; have a2q := l2.a2; have b0q := l2.b0; have b1q := l2.b1; have b2q := l2.b2; have b3q := l2.b3) | (go_at_call 46; refine (hI _ (by assumption)).mono ?_; rintro e w3 ⟨rfl, l3⟩; have a0r := l3.a0; have a1r := l3.a1; have a2r := l3.a2; have b0r := l3.b0; have b1r := l3.b1; have b2r := l3.b2; have b3r := l3.b3) | (go_at_call 50; refine (hG _ _ (by omega) (by omega) (by assumption)).mono ?_; rintro e w4 ⟨rfl, hb4⟩) | (go_at_call 58; refine (hO _ (by assumption)).mono ?_; rintro e w4 ⟨rfl, hb4⟩))
        go_ret2
        exact ⟨HV.out, hb4⟩
      · have HV : Hid _ := HV2.out o2
        clear HV1 HV2
        cases sO
        · go_wp2_with (first | (go_at_call 57; refine (hR _ (by assumption)).mono ?_; rintro e w1 ⟨rfl, l1⟩; have a0p := l1.a0; have a1p := l1.a1; have a2p := l1.a2; have b0p := l1.b0; have b1p := l1.b1; have b2p := l1.b2; have b3p := l1.b3) | (go_at_call 55; refine (hlu _ (by assumption)).mono ?_; rintro e w2 ⟨rfl, l2⟩; have a0q := l2.a0; have a1q := l2.a1; have a2q := l2.a2; have b0q := l2.b0; have b1q := l2.b1; have b2q := l2.b2; have b3q := l2.b3) | (go_at_call 46; refine (hI _ (by assumption)).mono ?_; rintro e w3 ⟨rfl, l3⟩; have a0r := l3.a0; have a1r := l3.a1; have a2r := l3.a2; have b0r := l3.b0; have b1r := l3.b1; have b2r := l3.b2; have b3r := l3.b3) | (go_at_call 50; refine (hG _ _ (by omega) (by omega) (by assumption)).mono ?_; rintro e w4 ⟨rfl, hb4⟩) | (go_at_call 58; refine (hO _ (by assumption)).mono ?_; rintro e w4 ⟨rfl, hb4⟩))
          go_ret2
          exact ⟨HV.out _ _ rfl (by simp), hb4⟩
        · by_cases ht : E + blen M - 1 < 1 - t
          · go_wp2_with (first | (go_at_call 57; refine (hR _ (by assumption)).mono ?_; rintro e w1 ⟨rfl, l1⟩; have a0p := l1.a0; have a1p := l1.a1; have a2p := l1.a2; have b0p := l1.b0; have b1p := l1.b1; have b2p := l1.b2; have b3p := l1.b3) | (go_at_call 55; refine (hlu _ (by assumption)).mono ?_; rintro e w2 ⟨rfl, l2⟩; have a0q := l2.a0; have a1q := l2.a1; have a2q := l2.a2; have b0q := l2.b0; have b1q := l2.b1; have b2q := l2.b2; have b3q := l2.b3) | (go_at_call 46; refine (hI _ (by assumption)).mono ?_; rintro e w3 ⟨rfl, l3⟩; have a0r := l3.a0; have a1r := l3.a1; have a2r := l3.a2; have b0r := l3.b0; have b1r := l3.b1; have b2r := l3.b2; have b3r := l3.b3) | (go_at_call 50; refine (hG _ _ (by omega) (by omega) (by assumption)).mono ?_; rintro e w4 ⟨rfl, hb4⟩) | (go_at_call 58; refine (hO _ (by assumption)).mono ?_; rintro e w4 ⟨rfl, hb4⟩))
            go_ret2
            exact ⟨HV.out _ _ rfl (by simp [ht]), hb4⟩
          · go_wp2_with (first | (go_at_call 57; refine (hR _ (by assumption)).mono ?_; rintro e w1 ⟨rfl, l1⟩; have a0p := l1.a0; have a1p := l1.a1; have a2p := l1.a2; have b0p := l1.b0; have b1p := l1.b1; have b2p := l1.b2; have b3p := l1.b3) | (go_at_call 55; refine (hlu _ (by assumption)).mono ?_; rintro e w2 ⟨rfl, l2⟩; have a0q := l2.a0; have a1q := l2.a1; have a2q := l2.a2; have b0q := l2.b0; have b1q := l2.b1; have b2q := l2.b2; have b3q := l2.b3) | (go_at_call 46; refine (hI _ (by assumption)).mono ?_; rintro e w3 ⟨rfl, l3⟩; have a0r := l3.a0; have a1r := l3.a1; have a2r := l3.a2; have b0r := l3.b0; have b1r := l3.b1; have b2r := l3.b2; have b3r := l3.b3) | (go_at_call 50; refine (hG _ _ (by omega) (by omega) (by assumption)).mono ?_; rintro e w4 ⟨rfl, hb4⟩) | (go_at_call 58; refine (hO _ (by assumption)).mono ?_; rintro e w4 ⟨rfl, hb4⟩))
            go_ret2
            exact ⟨HV.out _ _ rfl (by simp [ht]), hb4⟩
end Go.Proofs.YtghblaphkbcgpaaDoor
