/- The model's root of a long number. -/
import Derived.Test.YtghblaphkbcgpaaDoorSQ0
import Derived.Test.YtghblaphkbcgpaaDoorR2
import Derived.Test.YtghblaphkbcgpaaDoorHM2
namespace Go.Proofs.YtghblaphkbcgpaaDoor
open Go.RowKit

theorem shl_one (i : Nat) (hi : i ≤ 97) (W : World) : Calls Tryd.prog 11 #[.slice (some ⟨W.heap.size, 0, none⟩) 1 1, .int .i64 (i : Int)] (W.alloc (.cells #[.int .u32 1] 50)) fun e w' => Below (W.alloc (.cells #[.int .u32 1] 50)).heap.size (W.alloc (.cells #[.int .u32 1] 50)) w' ∧ ∃ v', e = .returned v' ∧ Nt w' v' 8 (2 ^ i) := by
  have h := shl_at (nt_one W) (by omega) (i : Int) (by omega) (by omega)
  refine h.mono ?_
  rintro e w' ⟨hb, v', he, hv⟩
  refine ⟨hb, v', he, ?_⟩
  rw [Nat.one_mul, Int.toNat_natCast] at hv
  refine hv.fit ?_
  have h2 := Nat.pow_le_pow_right (show 0 < 2 by decide) hi
  refine Nat.lt_of_le_of_lt h2 ?_
  show (2 : Nat) ^ 97 < (2 ^ 32) ^ 8
  rw [← Nat.pow_mul]
  exact Nat.pow_lt_pow_right (by decide) (by decide)

theorem nt_nil (w : World) : Nt (w.alloc (.cells #[] 50)) (.slice (some ⟨w.heap.size, 0, none⟩) 0 0) 0 0 := ⟨0, Nat.le_refl _, (hol_empty w).zero, Or.inl rfl⟩

theorem sq_small {r N : Nat} (h : r * r ≤ N) (hN : N < 2 ^ 192) : r < 2 ^ 96 := sq_lt (Nat.lt_of_le_of_lt h (by
  rw [← Nat.pow_add]
  exact hN))

theorem room8 {r P : Nat} (h1 : r < 2 ^ 96) (h2 : P ≤ 2 ^ 96) : r + P < 4294967296 ^ 8 := by
  have h3 : r + P < 2 ^ 97 := by
    rw [Nat.pow_succ 2 96]
    generalize 2 ^ 96 = Q at *
    omega
  refine Nat.lt_of_lt_of_le h3 ?_
  show (2 : Nat) ^ 97 ≤ (2 ^ 32) ^ 8
  rw [← Nat.pow_mul]
  exact Nat.pow_le_pow_right (by decide) (by decide)

theorem cmp_le0 {a b : Nat} (h : a ≤ b) : ∃ k : Int, cmpOf a b = k ∧ k ≤ 0 := by
  unfold cmpOf
  by_cases h1 : a < b
  · exact ⟨-1, by rw [if_pos h1], by omega⟩
  · exact ⟨0, by rw [if_neg h1, if_pos (by omega)], by omega⟩

theorem cmp_gt0 {a b : Nat} (h : ¬ a ≤ b) : ∃ k : Int, cmpOf a b = k ∧ 0 < k := by
  unfold cmpOf
  exact ⟨1, by rw [if_neg (by omega), if_neg (by omega)], by omega⟩

theorem cmp_eq0 (a b : Nat) : ∃ k : Int, cmpOf a b = k ∧ (k == 0) = decide (a = b) := by
  unfold cmpOf
  rcases Nat.lt_trichotomy a b with h | h | h
  · exact ⟨-1, by rw [if_pos h], by rw [decide_eq_false (by omega)]; rfl⟩
  · exact ⟨0, by rw [if_neg (by omega), if_pos h], by rw [decide_eq_true h]; rfl⟩
  · exact ⟨1, by rw [if_neg (by omega), if_neg (by omega)], by rw [decide_eq_false (by omega)]; rfl⟩

theorem bst2 {w w1 w2 : World} (h1 : Below w.heap.size w w1) (h2 : Below w1.heap.size w1 w2) : Below w.heap.size w w2 := h1.trans (h2.mono h1.size)

set_option maxHeartbeats 8000000 in
theorem sroot_any {w : World} {v : Value} {N : Nat} (hv : Nt w v 20 N) (hN0 : 0 < N) (hN : N < 2 ^ 192) :
    Calls Tryd.prog 10 #[v] w fun e w' => Below w.heap.size w w' ∧ ∃ u r, e = .returned (.tuple #[u, .bool (decide (r * r = N))]) ∧ Nt w' u 20 r ∧ Isq N r := by
  have HN : Hid (N < 2 ^ 192) := hN
  have HV : Hid (Nt w v 20 N) := hv
  obtain ⟨L, hL⟩ : ∃ L, blen N = L := ⟨_, rfl⟩
  have hb := blen_pos hN0
  have hL192 : L ≤ 192 := by rw [← hL]; exact blen_le (N := N) (L := 192) hN
  have HL : Hid (N < 2 ^ L) := by rw [← hL]; exact hb.2.2
  have i0 : ∀ W, Nt W v 20 N → Calls Tryd.prog 22 #[v] W fun e w' => e = .returned (.int .i64 (L : Int)) ∧ w' = W := fun W h => by have := bits_at h (by omega); rw [hL] at this; exact this
  clear hv hN hL hb
  go_enter Tryd.func10, Tryd.ntmps10
  go_wp2_with (go_at_call 22; refine (i0 _ (HV.out.below (below_one _))).mono ?_; rintro e w' ⟨rfl, hw⟩; obtain rfl := hw.symm)
  go_loopw [4, 5, 6] (fun rv i _ wr => ∃ (j r : Nat) (z : Int), i = .int .i64 z ∧ Hid (z = (j : Int) - 1) ∧ j ≤ 97 ∧ Hid (Below w.heap.size w wr ∧ Nt wr rv 20 r ∧ r * r ≤ N ∧ N < (r + 2 ^ j) * (r + 2 ^ j))) (fun _ i _ _ => (intOf i + 1).toNat)
  case atStart =>
    refine ⟨L / 2 + 1, 0, (L : Int) / 2, rfl, by show (L : Int) / 2 = ((L / 2 + 1 : Nat) : Int) - 1; omega, by omega, below_one _, (nt_nil w).mono (by omega), by omega, ?_⟩
    rw [Nat.zero_add, ← Nat.pow_add]
    exact Nat.lt_of_lt_of_le HL.out (Nat.pow_le_pow_right (by decide) (by omega))
  case round =>
    obtain ⟨j, r, z, rfl, hz, hj, hcur⟩ := hrel
    have hrs := sq_small hcur.out.2.2.1 HN.out
    by_cases h1 : 1 ≤ j
    · obtain ⟨i, hi⟩ : ∃ i, j = i + 1 := ⟨j - 1, by omega⟩
      obtain rfl : z = (i : Int) := by have := hz.out; omega
      subst hi
      have hp : 2 ^ i ≤ 2 ^ 96 := Nat.pow_le_pow_right (by decide) (by omega)
      obtain ⟨x, hx⟩ : ∃ x, x = r + 2 ^ i := ⟨_, rfl⟩
      have hx2 : x = r + 2 ^ i := hx
      have hxs : x < 4294967296 ^ 8 := by
        rw [hx2]
        exact room8 hrs hp
      have A1 : ∀ W rv vv, Nt W rv 20 r → Nt W vv 8 (2 ^ i) → Calls Tryd.prog 23 #[rv, vv] W fun e w' => Below W.heap.size W w' ∧ ∃ v', e = .returned v' ∧ Nt w' v' 8 x := fun W rv vv h1 h2 => (add_any (m := 20) h1 (h2.mono (by omega)) (by omega)).mono fun e w' ⟨hb, v', he, hv'⟩ => ⟨hb, v', he, by rw [← hx] at hv'; exact hv'.fit hxs⟩
      have M1 : ∀ W xv, Nt W xv 8 x → Calls Tryd.prog 25 #[xv, xv] W fun e w' => Below W.heap.size W w' ∧ ∃ v', e = .returned v' ∧ Nt w' v' 17 (x * x) := fun W xv h => mul_any h h (by omega)
      have C1 : ∀ W mv, Nt W mv 17 (x * x) → Nt W v 20 N → Calls Tryd.prog 24 #[mv, v] W fun e w' => e = .returned (.int .i64 (cmpOf (x * x) N)) ∧ Below W.heap.size W w' := fun W mv h1 h2 => cmp_any (h1.mono (by omega)) h2 (by omega)
      have S1 := fun W => shl_one i (by omega) W
      have HX : Hid (x = r + 2 ^ i) := hx2
      have HC : Hid _ := hcur
      clear hx hx2 hxs hp hrs
      clear hz
      by_cases hle : x * x ≤ N
      · obtain ⟨k, hk, hk0⟩ := cmp_le0 hle
        rw [hk] at C1
        have HLE : Hid (x * x ≤ N) := hle
        clear hle hk
        go_wp2_with (first
          | (go_at_call 11; refine (S1 _).mono ?_; rintro e w1 ⟨hb, sv, rfl, hsv⟩; have BW : Hid (Below w.heap.size w w1) := bst2 (bst2 HC.out.1 (below_one _)) hb; have FS : Hid (Nt w1 sv 8 (2 ^ i)) := hsv; have FR : Hid _ := (HC.out.2.1.below (below_one _)).below hb; clear hb hsv)
          | (go_at_call 23; refine (A1 _ _ _ FR.out FS.out).mono ?_; rintro e w2 ⟨hb, xv, rfl, hxv⟩; have FX : Hid (Nt w2 xv 8 x) := hxv; have FR : Hid _ := Nt.below FR.out hb; have BW : Hid (Below w.heap.size w w2) := bst2 BW.out hb; clear hb hxv)
          | (go_at_call 25; refine (M1 _ _ FX.out).mono ?_; rintro e w3 ⟨hb, mv, rfl, hm⟩; have FM : Hid (Nt w3 mv 17 (x * x)) := hm; have FX : Hid (Nt w3 xv 8 x) := FX.out.below hb; have FR : Hid _ := Nt.below FR.out hb; have BW : Hid (Below w.heap.size w w3) := bst2 BW.out hb; have FV : Hid (Nt w3 v 20 N) := HV.out.below BW.out; clear hb hm)
          | (go_at_call 24; refine (C1 _ _ FM.out FV.out).mono ?_; rintro e w4 ⟨rfl, hb⟩; have FX : Hid (Nt w4 xv 8 x) := FX.out.below hb; have FR : Hid _ := Nt.below FR.out hb; have BW : Hid (Below w.heap.size w w4) := bst2 BW.out hb; clear hb))
        go_roundw
        case rel =>
          refine ⟨i, x, (i : Int) - 1, by first | rfl | go_num, rfl, by omega, BW.out, FX.out.mono (by omega), HLE.out, ?_⟩
          have h2 := HC.out.2.2.2
          rw [HX.out] at *
          rwa [show r + 2 ^ i + 2 ^ i = r + 2 ^ (i + 1) by rw [Nat.pow_succ]; omega]
        case measure => simp [intOf]
      · obtain ⟨k, hk, hk0⟩ := cmp_gt0 hle
        rw [hk] at C1
        have HLE : Hid (¬ x * x ≤ N) := hle
        clear hle hk
        go_wp2_with (first
          | (go_at_call 11; refine (S1 _).mono ?_; rintro e w1 ⟨hb, sv, rfl, hsv⟩; have BW : Hid (Below w.heap.size w w1) := bst2 (bst2 HC.out.1 (below_one _)) hb; have FS : Hid (Nt w1 sv 8 (2 ^ i)) := hsv; have FR : Hid _ := (HC.out.2.1.below (below_one _)).below hb; clear hb hsv)
          | (go_at_call 23; refine (A1 _ _ _ FR.out FS.out).mono ?_; rintro e w2 ⟨hb, xv, rfl, hxv⟩; have FX : Hid (Nt w2 xv 8 x) := hxv; have FR : Hid _ := Nt.below FR.out hb; have BW : Hid (Below w.heap.size w w2) := bst2 BW.out hb; clear hb hxv)
          | (go_at_call 25; refine (M1 _ _ FX.out).mono ?_; rintro e w3 ⟨hb, mv, rfl, hm⟩; have FM : Hid (Nt w3 mv 17 (x * x)) := hm; have FX : Hid (Nt w3 xv 8 x) := FX.out.below hb; have FR : Hid _ := Nt.below FR.out hb; have BW : Hid (Below w.heap.size w w3) := bst2 BW.out hb; have FV : Hid (Nt w3 v 20 N) := HV.out.below BW.out; clear hb hm)
          | (go_at_call 24; refine (C1 _ _ FM.out FV.out).mono ?_; rintro e w4 ⟨rfl, hb⟩; have FX : Hid (Nt w4 xv 8 x) := FX.out.below hb; have FR : Hid _ := Nt.below FR.out hb; have BW : Hid (Below w.heap.size w w4) := bst2 BW.out hb; clear hb))
        go_roundw
        case rel =>
          refine ⟨i, r, (i : Int) - 1, by first | rfl | go_num, rfl, by omega, BW.out, FR.out, HC.out.2.2.1, ?_⟩
          have h2 := HLE.out
          rw [HX.out] at h2
          omega
        case measure => simp [intOf]
    · obtain rfl : j = 0 := by omega
      obtain rfl : z = -1 := by have := hz.out; omega
      obtain ⟨k, hk, hk0⟩ := cmp_eq0 (r * r) N
      have M1 : ∀ W xv, Nt W xv 20 r → Calls Tryd.prog 25 #[xv, xv] W fun e w' => Below W.heap.size W w' ∧ ∃ v', e = .returned v' ∧ Nt w' v' 41 (r * r) := fun W xv h => mul_any h h (by omega)
      have C1 : ∀ W mv, Nt W mv 41 (r * r) → Nt W v 20 N → Calls Tryd.prog 24 #[mv, v] W fun e w' => e = .returned (.int .i64 (cmpOf (r * r) N)) ∧ Below W.heap.size W w' := fun W mv h1 h2 => cmp_any h1 (h2.mono (by omega)) (by omega)
      rw [hk] at C1
      clear hk hrs
      obtain ⟨dd, hdd⟩ : ∃ dd, dd = decide (r * r = N) := ⟨_, rfl⟩
      rw [← hdd] at hk0
      have HDD : Hid (dd = decide (r * r = N)) := hdd
      clear hdd
      go_wp2_with (first
        | (go_at_call 25; refine (M1 _ _ hcur.out.2.1).mono ?_; rintro e w3 ⟨hb, mv, rfl, hm⟩; have FM : Hid (Nt w3 mv 41 (r * r)) := hm; have FR : Hid _ := hcur.out.2.1.below hb; have FV : Hid (Nt w3 v 20 N) := HV.out.below (bst2 hcur.out.1 hb); have BW : Hid (Below w.heap.size w w3) := bst2 hcur.out.1 hb; clear hb hm)
        | (go_at_call 24; refine (C1 _ _ FM.out FV.out).mono ?_; rintro e w4 ⟨rfl, hb⟩; have FR4 : Hid _ := Nt.below FR.out hb; have BW4 : Hid (Below w.heap.size w w4) := bst2 BW.out hb; clear hb))
      go_ret2
      refine ⟨BW4.out, _, r, by rw [← HDD.out]; rfl, FR4.out, hcur.out.2.2.1, ?_⟩
      have h2 := hcur.out.2.2.2
      rwa [Nat.pow_zero] at h2
end Go.Proofs.YtghblaphkbcgpaaDoor
