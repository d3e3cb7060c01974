/- Threshold: the walks. -/
import Derived.Test.YtmpbhmmhdllkhaaTH
namespace Go.Proofs.Ytmpbhmmhdllkhaa
open Go.RowKit

/-- Arguments of a threshold. -/
abbrev GTh (n c d : Int) : Prop := (0 ≤ n ∧ n ≤ 60) ∧ (1 ≤ c ∧ c ≤ 1000) ∧ (1 ≤ d ∧ d ≤ 1000)

set_option maxHeartbeats 4000000 in
theorem iThr_good {n c d K : Nat} (h : GTh n c d) (hK : K ≤ 2 * n + 1) (h1 : ∀ j : Nat, j < K → ¬ Alw n c d (-(n : Int) + (j : Int))) (h2 : Alw n c d (-(n : Int) + (K : Int))) (w : World) :
    Calls Try.prog 6 #[.int .i64 (n : Int), .int .i64 (c : Int), .int .i64 (d : Int)] w fun e w' => e = .returned (.tuple #[.int .i64 (-(n : Int) + (K : Int)), .bool true]) ∧ w' = w := by
  obtain ⟨g1, g2, g3⟩ := h
  have i1 := coins_any (n : Int)
  rw [decide_eq_true g1] at i1
  have i2 := chance_any (c : Int)
  rw [decide_eq_true g2] at i2
  have i3 := chance_any (d : Int)
  rw [decide_eq_true g3] at i3
  have H1 : Hid (∀ j : Nat, j < K → ¬ Alw n c d (-(n : Int) + (j : Int))) := h1
  have H2 : Hid (Alw n c d (-(n : Int) + (K : Int))) := h2
  clear h1 h2
  go_enter Try.func6, Try.ntmps6
  go_wp2_with (first
    | (go_at_call 11; (with_reducible refine (i1 _).mono ?_); rintro e w' ⟨rfl, hw⟩; obtain rfl := hw.symm)
    | (go_at_call 12; (with_reducible refine (i2 _).mono ?_); rintro e w' ⟨rfl, hw⟩; obtain rfl := hw.symm)
    | (go_at_call 12; (with_reducible refine (i3 _).mono ?_); rintro e w' ⟨rfl, hw⟩; obtain rfl := hw.symm))
  clear i1 i2 i3
  go_loopw [8] (fun t wr => ∃ (k : Nat) (T : Int), t = .int .i64 T ∧ T = -(n : Int) + (k : Int) ∧ k ≤ K ∧ wr = w) (fun t _ => K - ((intOf t) + n).toNat)
  case atStart => exact ⟨0, _, rfl, by omega, by omega, rfl⟩
  case round =>
    obtain ⟨k, T, rfl, hT, hk, rfl⟩ := hrel
    have i1 := iWays_good n T (by omega) (by omega)
    have hle := Nat.le_trans (wys_le n T) (two60 (n := n) (by omega))
    have i2 := allowed_any (wys n T) n c d hle (by omega) (by omega) (by omega)
    by_cases h3 : k < K
    · rw [decide_eq_false (show ¬ wys n T * d ≤ c * 2 ^ n by rw [hT]; exact H1.out k h3)] at i2
      generalize wys n T = V at i1 i2
      have hT1 : -60 ≤ T ∧ T ≤ 61 := by omega
      have HE : Hid (T = -(n : Int) + (k : Int)) := hT
      clear hle hT
      go_wp2_with (first
        | (go_at_call 8; (with_reducible refine (i1 _).mono ?_); rintro e w' ⟨rfl, hw⟩; obtain rfl := hw.symm)
        | (go_at_call 13; (with_reducible refine (i2 _).mono ?_); rintro e w' ⟨rfl, hw⟩; obtain rfl := hw.symm))
      go_roundw
      case rel => exact ⟨k + 1, _, rfl, by have := HE.out; omega, by omega, by trivial⟩
      case measure => have := HE.out; simp [intOf]; omega
    · obtain rfl : k = K := by omega
      rw [decide_eq_true (show wys n T * d ≤ c * 2 ^ n by rw [hT]; exact H2.out)] at i2
      generalize wys n T = V at i1 i2
      clear hle
      have HE : Hid (T = -(n : Int) + (k : Int)) := hT
      clear hT
      go_wp2_with (first
        | (go_at_call 8; (with_reducible refine (i1 _).mono ?_); rintro e w' ⟨rfl, hw⟩; obtain rfl := hw.symm)
        | (go_at_call 13; (with_reducible refine (i2 _).mono ?_); rintro e w' ⟨rfl, hw⟩; obtain rfl := hw.symm))
      go_ret2
      exact ⟨by rw [HE.out]; rfl, rfl⟩

theorem nt_mono {w : World} {v : Value} {m m' X : Nat} (h : Q.Nt w v m X) (hm : m ≤ m') : Q.Nt w v m' X := by
  obtain ⟨n, h1, h2⟩ := h
  exact ⟨n, Nat.le_trans h1 hm, h2⟩

set_option maxHeartbeats 8000000 in
theorem sThr_good {n c d K : Nat} (h : GTh n c d) (hK : K ≤ 2 * n + 1) (h1 : ∀ j : Nat, j < K → ¬ Alw n c d (-(n : Int) + (j : Int))) (h2 : Alw n c d (-(n : Int) + (K : Int))) (w : World) :
    Calls Try.prog 7 #[.int .i64 (n : Int), .int .i64 (c : Int), .int .i64 (d : Int)] w fun e w' => e = .returned (.tuple #[.int .i64 (-(n : Int) + (K : Int)), .bool true]) ∧ Below w.heap.size w w' := by
  obtain ⟨g1, g2, g3⟩ := h
  have i1 := in_any (n : Int) 0 60
  rw [decide_eq_true g1] at i1
  have i2 := in_any (c : Int) 1 1000
  rw [decide_eq_true g2] at i2
  have i3 := in_any (d : Int) 1 1000
  rw [decide_eq_true g3] at i3
  have H1 : Hid (∀ j : Nat, j < K → ¬ Alw n c d (-(n : Int) + (j : Int))) := h1
  have H2 : Hid (Alw n c d (-(n : Int) + (K : Int))) := h2
  have j1 := Q.nat_any c (by omega) w
  have j2 : ∀ {W : World} {v : Value}, Q.Nt W v 2 c → Calls Try.prog 15 #[v, .int .i64 (n : Int)] W fun e w' => Below W.heap.size W w' ∧ ∃ v', e = .returned v' ∧ Q.Nt w' v' 9 (c * 2 ^ n) := fun {W v} hv => by
    have := Q.shl_any hv (by omega) (n / 32) (n % 32) (by omega) (by omega)
    rw [show 32 * (n / 32) + n % 32 = n by omega, show (32 * ((n / 32 : Nat) : Int) + ((n % 32 : Nat) : Int)) = (n : Int) by omega] at this
    refine this.mono ?_
    rintro e w' ⟨hb, v', rfl, hv'⟩
    exact ⟨hb, v', rfl, nt_mono hv' (by omega)⟩
  have J2 : Hid _ := @j2
  clear h1 h2 j2
  go_enter Try.func7, Try.ntmps7
  go_wp2_with (first
    | (go_at_call 14; (with_reducible refine (i1 _).mono ?_); rintro e w' ⟨rfl, hw⟩; obtain rfl := hw.symm)
    | (go_at_call 14; (with_reducible refine (i2 _).mono ?_); rintro e w' ⟨rfl, hw⟩; obtain rfl := hw.symm)
    | (go_at_call 14; (with_reducible refine (i3 _).mono ?_); rintro e w' ⟨rfl, hw⟩; obtain rfl := hw.symm)
    | (go_at_call 16; (with_reducible refine j1.mono ?_); rintro e w1 ⟨hb1, v1, rfl, hv1⟩; have B1 : Hid (Below w.heap.size w w1) := hb1; have V1 : Hid (Q.Nt w1 v1 2 c) := hv1; clear hb1 hv1)
    | (go_at_call 15; refine (J2.out V1.out).mono ?_; rintro e w2 ⟨hb2, v2, rfl, hv2⟩; have B2 : Hid (Below w.heap.size w w2) := bstep B1.out hb2; have V2 : Hid (Q.Nt w2 v2 9 (c * 2 ^ n)) := hv2; clear hb2 hv2))
  clear i1 i2 i3 j1
  go_loopw [9] (fun t wr => ∃ (k : Nat) (T : Int), t = .int .i64 T ∧ T = -(n : Int) + (k : Int) ∧ k ≤ K ∧ Hid (Below w.heap.size w wr ∧ Q.Nt wr v2 9 (c * 2 ^ n))) (fun t _ => K - ((intOf t) + n).toNat)
  case atStart => exact ⟨0, _, rfl, by omega, by omega, B2.out, V2.out⟩
  case round =>
    obtain ⟨k, T, rfl, hT, hk, hrel⟩ := hrel
    have i1 := sWays_good n T (by omega) (by omega) wr
    have hle := Nat.le_trans (wys_le n T) (two60 (n := n) (by omega))
    have key : wys n T * d ≤ c * 2 ^ n ↔ k = K := by
      rw [hT]
      refine ⟨fun h => ?_, fun h => by rw [h]; exact H2.out⟩
      by_cases h3 : k < K
      · exact absurd h (H1.out k h3)
      · omega
    generalize wys n T = V at i1 hle key
    have KY : Hid (V * d ≤ c * 2 ^ n ↔ k = K) := key
    have j1 : ∀ W, Calls Try.prog 16 #[.int .u64 (V : Int)] W fun e w' => Below W.heap.size W w' ∧ ∃ v, e = .returned v ∧ Q.Nt w' v 2 V := fun W => Q.nat_any V (by omega) W
    have j2 : ∀ W, Calls Try.prog 16 #[.int .u64 (d : Int)] W fun e w' => Below W.heap.size W w' ∧ ∃ v, e = .returned v ∧ Q.Nt w' v 2 d := fun W => Q.nat_any d (by omega) W
    clear key
    have hT1 : -60 ≤ T ∧ T ≤ 61 := by omega
    have HE : Hid (T = -(n : Int) + (k : Int)) := hT
    clear hT
    have R0 : Hid (Below w.heap.size w wr ∧ Q.Nt wr v2 9 (c * 2 ^ n)) := hrel
    clear hrel
    by_cases h3 : k < K
    · obtain ⟨q, hqe⟩ : ∃ q, q = Q.cmpOf (V * d) (c * 2 ^ n) := ⟨_, rfl⟩
      have j5 : Hid (∀ W va vb, Q.Nt W va 9 (V * d) → Q.Nt W vb 9 (c * 2 ^ n) → Calls Try.prog 17 #[va, vb] W fun e w' => e = .returned (.int .i64 q) ∧ Below W.heap.size W w') := fun W va vb ha hb => by rw [hqe]; exact Q.cmp_any ha hb (by omega)
      have hq : 0 < q := by rw [hqe]; unfold Q.cmpOf; have := KY.out; rw [if_neg (by omega), if_neg (by omega)]; decide
      clear hqe
      go_wp2_with (first
        | (go_at_call 19; (with_reducible refine i1.mono ?_); rintro e w3 ⟨rfl, hb3⟩; have R1 : Hid (Below w.heap.size w w3 ∧ Q.Nt w3 v2 9 (c * 2 ^ n)) := ⟨bstep R0.out.1 hb3, R0.out.2.below hb3⟩; clear hb3)
        | (go_at_call 16; (with_reducible refine (j1 _).mono ?_); rintro e w4 ⟨hb4, va, rfl, hva⟩; have R2 : Hid (Below w.heap.size w w4 ∧ Q.Nt w4 v2 9 (c * 2 ^ n)) := ⟨bstep R1.out.1 hb4, R1.out.2.below hb4⟩; have VA : Hid (Q.Nt w4 va 2 V) := hva; clear hb4 hva)
        | (go_at_call 16; (with_reducible refine (j2 _).mono ?_); rintro e w5 ⟨hb5, vb, rfl, hvb⟩; have R3 : Hid (Below w.heap.size w w5 ∧ Q.Nt w5 v2 9 (c * 2 ^ n)) := ⟨bstep R2.out.1 hb5, R2.out.2.below hb5⟩; have VB : Hid (Q.Nt w5 va 2 V ∧ Q.Nt w5 vb 2 d) := ⟨VA.out.below hb5, hvb⟩; clear hb5 hvb)
        | (go_at_call 18; refine (Q.mul_any VB.out.1 VB.out.2 (by omega)).mono ?_; rintro e w6 ⟨hb6, vc, rfl, hvc⟩; have R4 : Hid (Below w.heap.size w w6 ∧ Q.Nt w6 v2 9 (c * 2 ^ n)) := ⟨bstep R3.out.1 hb6, R3.out.2.below hb6⟩; have VC : Hid (Q.Nt w6 vc 9 (V * d)) := nt_mono hvc (by omega); clear hb6 hvc)
        | (go_at_call 17; refine (j5.out _ _ _ VC.out R4.out.2).mono ?_; rintro e w7 ⟨rfl, hb7⟩; have R5 : Hid (Below w.heap.size w w7 ∧ Q.Nt w7 v2 9 (c * 2 ^ n)) := ⟨bstep R4.out.1 hb7, R4.out.2.below hb7⟩; clear hb7))
      go_roundw
      case rel => exact ⟨k + 1, _, rfl, by have := HE.out; omega, by omega, R5.out⟩
      case measure => have := HE.out; simp [intOf]; omega
    · obtain rfl : k = K := by omega
      obtain ⟨q, hqe⟩ : ∃ q, q = Q.cmpOf (V * d) (c * 2 ^ n) := ⟨_, rfl⟩
      have j5 : Hid (∀ W va vb, Q.Nt W va 9 (V * d) → Q.Nt W vb 9 (c * 2 ^ n) → Calls Try.prog 17 #[va, vb] W fun e w' => e = .returned (.int .i64 q) ∧ Below W.heap.size W w') := fun W va vb ha hb => by rw [hqe]; exact Q.cmp_any ha hb (by omega)
      have hq : ¬ 0 < q := by rw [hqe]; unfold Q.cmpOf; have := KY.out; split <;> first | omega | (split <;> omega)
      clear hqe
      go_wp2_with (first
        | (go_at_call 19; (with_reducible refine i1.mono ?_); rintro e w3 ⟨rfl, hb3⟩; have R1 : Hid (Below w.heap.size w w3 ∧ Q.Nt w3 v2 9 (c * 2 ^ n)) := ⟨bstep R0.out.1 hb3, R0.out.2.below hb3⟩; clear hb3)
        | (go_at_call 16; (with_reducible refine (j1 _).mono ?_); rintro e w4 ⟨hb4, va, rfl, hva⟩; have R2 : Hid (Below w.heap.size w w4 ∧ Q.Nt w4 v2 9 (c * 2 ^ n)) := ⟨bstep R1.out.1 hb4, R1.out.2.below hb4⟩; have VA : Hid (Q.Nt w4 va 2 V) := hva; clear hb4 hva)
        | (go_at_call 16; (with_reducible refine (j2 _).mono ?_); rintro e w5 ⟨hb5, vb, rfl, hvb⟩; have R3 : Hid (Below w.heap.size w w5 ∧ Q.Nt w5 v2 9 (c * 2 ^ n)) := ⟨bstep R2.out.1 hb5, R2.out.2.below hb5⟩; have VB : Hid (Q.Nt w5 va 2 V ∧ Q.Nt w5 vb 2 d) := ⟨VA.out.below hb5, hvb⟩; clear hb5 hvb)
        | (go_at_call 18; refine (Q.mul_any VB.out.1 VB.out.2 (by omega)).mono ?_; rintro e w6 ⟨hb6, vc, rfl, hvc⟩; have R4 : Hid (Below w.heap.size w w6 ∧ Q.Nt w6 v2 9 (c * 2 ^ n)) := ⟨bstep R3.out.1 hb6, R3.out.2.below hb6⟩; have VC : Hid (Q.Nt w6 vc 9 (V * d)) := nt_mono hvc (by omega); clear hb6 hvc)
        | (go_at_call 17; refine (j5.out _ _ _ VC.out R4.out.2).mono ?_; rintro e w7 ⟨rfl, hb7⟩; have R5 : Hid (Below w.heap.size w w7 ∧ Q.Nt w7 v2 9 (c * 2 ^ n)) := ⟨bstep R4.out.1 hb7, R4.out.2.below hb7⟩; clear hb7))
      go_ret2
      exact ⟨by rw [HE.out]; rfl, R5.out.1⟩
end Go.Proofs.Ytmpbhmmhdllkhaa
