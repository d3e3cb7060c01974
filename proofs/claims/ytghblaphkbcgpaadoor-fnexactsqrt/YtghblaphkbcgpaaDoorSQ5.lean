/- The model's Sqrt. -/
import Derived.Test.YtghblaphkbcgpaaDoorSQ2
import Derived.Test.YtghblaphkbcgpaaDoorHM5
import Derived.Test.YtghblaphkbcgpaaDoorM7
namespace Go.Proofs.YtghblaphkbcgpaaDoor
open Go.RowKit

theorem lu_one (x : Int) (W : World) (C : Nat) (hC : W.heap.size = C) : Lu (W.alloc (.cells #[.int .u64 x] 22)) (.slice (some ⟨C, 0, none⟩) 1 1) 1 (fun _ => x) := by
  subst hC
  refine ⟨W.heap.size, 1, rfl, by simp, fun k hk => ?_⟩
  match k, hk with
  | 0, _ => simp

theorem ssqrt_bad (f mode x : Int) (w : World)
    (hA0 : ∀ W v, Lu W v 1 (fun _ => x) → Calls Tryd.prog 6 #[.int .i64 f, .int .i64 mode, v] W fun e w' => e = .returned (.bool false) ∧ w' = W) :
    Calls Tryd.prog 4 #[.int .i64 f, .int .i64 mode, .int .u64 x] w fun e w' => e = .returned (.tuple #[.int .u64 0, .int .i64 0]) ∧ Below w.heap.size w w' := by
  have hA1 := hA0 _ _ (lu_one x w w.heap.size rfl)
  clear hA0
  go_enter Tryd.func4, Tryd.ntmps4
  go_wp2_with (go_at_call 6; refine hA1.mono ?_; rintro e w' ⟨rfl, hw⟩; obtain rfl := hw.symm)
  go_ret2
  exact ⟨rfl, below_one _⟩

theorem ssqrt_nan (f mode x pl fl : Int) (w : World)
    (hA0 : ∀ W v, Lu W v 1 (fun _ => x) → Calls Tryd.prog 6 #[.int .i64 f, .int .i64 mode, v] W fun e w' => e = .returned (.bool true) ∧ w' = W)
    (hN0 : ∀ W v, Lu W v 1 (fun _ => x) → Calls Tryd.prog 7 #[.int .i64 f, v] W fun e w' => e = .returned (.tuple #[.int .u64 pl, .int .i64 fl, .bool true]) ∧ Below W.heap.size W w') :
    Calls Tryd.prog 4 #[.int .i64 f, .int .i64 mode, .int .u64 x] w fun e w' => e = .returned (.tuple #[.int .u64 pl, .int .i64 fl]) ∧ Below w.heap.size w w' := by
  have hA1 := hA0 _ _ (lu_one x w w.heap.size rfl)
  have hN1 := hN0 _ _ (lu_one x (w.alloc (.cells #[.int .u64 x] 22)) (w.heap.size + 1) (by simp))
  clear hA0 hN0
  go_enter Tryd.func4, Tryd.ntmps4
  go_wp2_with (first | (go_at_call 6; refine hA1.mono ?_; rintro e w' ⟨rfl, hw⟩; obtain rfl := hw.symm) | (go_at_call 7; refine hN1.mono ?_; rintro e w1 ⟨rfl, hb1⟩))
  go_ret2
  exact ⟨rfl, bstep (below_two _ _) hb1⟩

theorem ssqrt_zero (f mode x pl fl E M : Int) (n : Bool) (w : World)
    (hA0 : ∀ W v, Lu W v 1 (fun _ => x) → Calls Tryd.prog 6 #[.int .i64 f, .int .i64 mode, v] W fun e w' => e = .returned (.bool true) ∧ w' = W)
    (hN0 : ∀ W v, Lu W v 1 (fun _ => x) → Calls Tryd.prog 7 #[.int .i64 f, v] W fun e w' => e = .returned (.tuple #[.int .u64 pl, .int .i64 fl, .bool false]) ∧ Below W.heap.size W w')
    (hU : ∀ W, Calls Tryd.prog 8 #[.int .i64 f, .int .u64 x] W fun e w' => e = .returned (.agg #[.int .i64 0, .bool n, .int .i64 E, .int .u64 M]) ∧ Below W.heap.size W w') :
    Calls Tryd.prog 4 #[.int .i64 f, .int .i64 mode, .int .u64 x] w fun e w' => e = .returned (.tuple #[.int .u64 x, .int .i64 0]) ∧ Below w.heap.size w w' := by
  have hA1 := hA0 _ _ (lu_one x w w.heap.size rfl)
  have hN1 := hN0 _ _ (lu_one x (w.alloc (.cells #[.int .u64 x] 22)) (w.heap.size + 1) (by simp))
  clear hA0 hN0
  go_enter Tryd.func4, Tryd.ntmps4
  go_wp2_with (first | (go_at_call 6; refine hA1.mono ?_; rintro e w' ⟨rfl, hw⟩; obtain rfl := hw.symm) | (go_at_call 7; refine hN1.mono ?_; rintro e w1 ⟨rfl, hb1⟩; have B1 : Hid (Below w.heap.size w w1) := bstep (below_two _ _) hb1; clear hb1) | (go_at_call 8; refine (hU _).mono ?_; rintro e w2 ⟨rfl, hb2⟩; have B2 : Hid (Below w.heap.size w w2) := bstep B1.out hb2; clear hb2))
  go_ret2
  exact ⟨rfl, by first | exact B2.out | exact B2.out.alloc B2.out.size _⟩

theorem ssqrt_neg {f wd p t S D h q : Int} (hF : Frm f wd p t S D h q) (mode x pl fl K E M : Int) (hK : (K == 0) = false) (w : World)
    (hA0 : ∀ W v, Lu W v 1 (fun _ => x) → Calls Tryd.prog 6 #[.int .i64 f, .int .i64 mode, v] W fun e w' => e = .returned (.bool true) ∧ w' = W)
    (hN0 : ∀ W v, Lu W v 1 (fun _ => x) → Calls Tryd.prog 7 #[.int .i64 f, v] W fun e w' => e = .returned (.tuple #[.int .u64 pl, .int .i64 fl, .bool false]) ∧ Below W.heap.size W w')
    (hU : ∀ W, Calls Tryd.prog 8 #[.int .i64 f, .int .u64 x] W fun e w' => e = .returned (.agg #[.int .i64 K, .bool true, .int .i64 E, .int .u64 M]) ∧ Below W.heap.size W w') :
    Calls Tryd.prog 4 #[.int .i64 f, .int .i64 mode, .int .u64 x] w fun e w' => e = .returned (.tuple #[.int .u64 ((2 * t + 1) * h + h / 2), .int .i64 16]) ∧ Below w.heap.size w w' := by
  have hP := fun W => l1Plain_any hF W
  obtain ⟨pv, hpv⟩ : ∃ pv, pv = (2 * t + 1) * h + h / 2 := ⟨_, rfl⟩
  rw [← hpv] at hP ⊢
  clear hpv hF
  have hA1 := hA0 _ _ (lu_one x w w.heap.size rfl)
  have hN1 := hN0 _ _ (lu_one x (w.alloc (.cells #[.int .u64 x] 22)) (w.heap.size + 1) (by simp))
  clear hA0 hN0
  go_enter Tryd.func4, Tryd.ntmps4
  go_wp2_with (first | (go_at_call 6; refine hA1.mono ?_; rintro e w' ⟨rfl, hw⟩; obtain rfl := hw.symm) | (go_at_call 7; refine hN1.mono ?_; rintro e w1 ⟨rfl, hb1⟩; have B1 : Hid (Below w.heap.size w w1) := bstep (below_two _ _) hb1; clear hb1) | (go_at_call 8; refine (hU _).mono ?_; rintro e w2 ⟨rfl, hb2⟩; have B2 : Hid (Below w.heap.size w w2) := bstep B1.out hb2; clear hb2) | (go_at_call 9; refine (hP _).mono ?_; rintro e w' ⟨rfl, hw⟩; obtain rfl := hw.symm))
  go_ret2
  exact ⟨rfl, by first | exact B2.out | exact B2.out.alloc B2.out.size _⟩

theorem ssqrt_inf (f mode x pl fl E M : Int) (w : World)
    (hA0 : ∀ W v, Lu W v 1 (fun _ => x) → Calls Tryd.prog 6 #[.int .i64 f, .int .i64 mode, v] W fun e w' => e = .returned (.bool true) ∧ w' = W)
    (hN0 : ∀ W v, Lu W v 1 (fun _ => x) → Calls Tryd.prog 7 #[.int .i64 f, v] W fun e w' => e = .returned (.tuple #[.int .u64 pl, .int .i64 fl, .bool false]) ∧ Below W.heap.size W w')
    (hU : ∀ W, Calls Tryd.prog 8 #[.int .i64 f, .int .u64 x] W fun e w' => e = .returned (.agg #[.int .i64 2, .bool false, .int .i64 E, .int .u64 M]) ∧ Below W.heap.size W w') :
    Calls Tryd.prog 4 #[.int .i64 f, .int .i64 mode, .int .u64 x] w fun e w' => e = .returned (.tuple #[.int .u64 x, .int .i64 0]) ∧ Below w.heap.size w w' := by
  have hA1 := hA0 _ _ (lu_one x w w.heap.size rfl)
  have hN1 := hN0 _ _ (lu_one x (w.alloc (.cells #[.int .u64 x] 22)) (w.heap.size + 1) (by simp))
  clear hA0 hN0
  go_enter Tryd.func4, Tryd.ntmps4
  go_wp2_with (first | (go_at_call 6; refine hA1.mono ?_; rintro e w' ⟨rfl, hw⟩; obtain rfl := hw.symm) | (go_at_call 7; refine hN1.mono ?_; rintro e w1 ⟨rfl, hb1⟩; have B1 : Hid (Below w.heap.size w w1) := bstep (below_two _ _) hb1; clear hb1) | (go_at_call 8; refine (hU _).mono ?_; rintro e w2 ⟨rfl, hb2⟩; have B2 : Hid (Below w.heap.size w w2) := bstep B1.out hb2; clear hb2))
  go_ret2
  exact ⟨rfl, by first | exact B2.out | exact B2.out.alloc B2.out.size _⟩

theorem room20 {M s : Nat} (h1 : M < 2 ^ 53) (h2 : s ≤ 131) : M * 2 ^ s < 2 ^ 192 := by
  have h3 : 2 ^ s ≤ 2 ^ 131 := Nat.pow_le_pow_right (by decide) h2
  have h4 : M * 2 ^ s < 2 ^ 53 * 2 ^ 131 := Nat.lt_of_le_of_lt (Nat.mul_le_mul_left _ h3) (Nat.mul_lt_mul_of_pos_right h1 (Nat.pow_pos (by decide)))
  rw [← Nat.pow_add] at h4
  exact Nat.lt_trans h4 (Nat.pow_lt_pow_right (by decide) (by decide))

theorem pow_room {a b c N : Nat} (h : N < 2 ^ a) (hab : a < b * c) : N < (2 ^ b) ^ c := by
  rw [← Nat.pow_mul]
  exact Nat.lt_trans h (Nat.pow_lt_pow_right (by decide) hab)

theorem room20b {N : Nat} (h : N < 2 ^ 192) : N < 4294967296 ^ 20 := pow_room (a := 192) (b := 32) (c := 20) h (by decide)

theorem shl_nat {w : World} {v : Value} {M : Nat} (hv : Nt w v 2 M) (hM : M < 2 ^ 53) (s : Nat) (hs : s ≤ 131) : Calls Tryd.prog 11 #[v, .int .i64 (s : Int)] w fun e w' => Below w.heap.size w w' ∧ ∃ v', e = .returned v' ∧ Nt w' v' 20 (M * 2 ^ s) := by
  have h := shl_at hv (by omega) (s : Int) (by omega) (by omega)
  refine h.mono ?_
  rintro e w' ⟨hb, v', he, hv'⟩
  rw [Int.toNat_natCast] at hv'
  exact ⟨hb, v', he, hv'.fit (room20b (room20 hM hs))⟩

set_option maxHeartbeats 4000000 in
theorem ssqrt_even {f wd p t S D h q : Int} (hF : Frm f wd p t S D h q) (mode x pl fl E E4 : Int) (M r : Nat) (hM0 : 0 < M) (hM : M < 2 ^ 53) (hE0 : -1074 ≤ E) (hE1 : E ≤ 2000) (hE4 : E - 130 = 2 * E4) (hr : Isq (M * 2 ^ 130) r) (w : World)
    (hA0 : ∀ W v, Lu W v 1 (fun _ => x) → Calls Tryd.prog 6 #[.int .i64 f, .int .i64 mode, v] W fun e w' => e = .returned (.bool true) ∧ w' = W)
    (hN0 : ∀ W v, Lu W v 1 (fun _ => x) → Calls Tryd.prog 7 #[.int .i64 f, v] W fun e w' => e = .returned (.tuple #[.int .u64 pl, .int .i64 fl, .bool false]) ∧ Below W.heap.size W w')
    (hU : ∀ W, Calls Tryd.prog 8 #[.int .i64 f, .int .u64 x] W fun e w' => e = .returned (.agg #[.int .i64 1, .bool false, .int .i64 E, .int .u64 (M : Int)]) ∧ Below W.heap.size W w') :
    Calls Tryd.prog 4 #[.int .i64 f, .int .i64 mode, .int .u64 x] w fun e w' => e = .returned (.tuple #[.int .u64 (rndV p t h S mode E4 false r (!decide (r * r = M * 2 ^ 130))), .int .i64 (rndF p t h mode E4 false r (!decide (r * r = M * 2 ^ 130)))]) ∧ Below w.heap.size w w' := by
  have hr0 : 0 < r := by
    rcases Nat.eq_zero_or_pos r with h0 | h0
    · subst h0
      have := hr.2
      have h3 := Nat.mul_pos hM0 (Nat.pow_pos (n := 130) (show 0 < 2 by decide))
      omega
    · exact h0
  obtain ⟨N, hN⟩ : ∃ N, N = M * 2 ^ 130 := ⟨_, rfl⟩
  have hNp : 0 < N := by rw [hN]; exact Nat.mul_pos hM0 (Nat.pow_pos (by decide))
  have hN2 : N < 2 ^ 192 := by rw [hN]; exact room20 hM (by decide)
  have n1 : ∀ W, Calls Tryd.prog 12 #[.int .u64 (M : Int)] W fun e w' => Below W.heap.size W w' ∧ ∃ v, e = .returned v ∧ Nt w' v 2 M := fun W => nat_any M (Nat.lt_trans hM (by decide)) W
  have s1 : ∀ W v, Nt W v 2 M → Calls Tryd.prog 11 #[v, .int .i64 130] W fun e w' => Below W.heap.size W w' ∧ ∃ v', e = .returned v' ∧ Nt w' v' 20 N := fun W v hv => by rw [hN]; exact shl_nat hv hM 130 (by decide)
  obtain ⟨dd, hdd⟩ : ∃ dd, dd = decide (r * r = N) := ⟨_, rfl⟩
  have r1 : ∀ W v, Nt W v 20 N → Calls Tryd.prog 10 #[v] W fun e w' => Below W.heap.size W w' ∧ ∃ u, e = .returned (.tuple #[u, .bool dd]) ∧ Nt w' u 20 r := fun W v hv => (sroot_any hv hNp hN2).mono fun e w' ⟨hb, u, r', he, hu, hi⟩ => by
    rw [hN] at hi
    obtain rfl := isq_uniq hi hr
    rw [hdd]
    exact ⟨hb, u, he, hu⟩
  obtain ⟨V, hV⟩ : ∃ V, V = rndV p t h S mode E4 false r (!dd) := ⟨_, rfl⟩
  obtain ⟨G, hG⟩ : ∃ G, G = rndF p t h mode E4 false r (!dd) := ⟨_, rfl⟩
  have q1 : ∀ W v, Nt W v 20 r → Calls Tryd.prog 13 #[.int .i64 f, .int .i64 mode, .bool false, v, .int .i64 E4, .bool (!dd)] W fun e w' => e = .returned (.tuple #[.int .u64 V, .int .i64 G]) ∧ Below W.heap.size W w' := fun W v hv => by
    rw [hV, hG]
    exact round_any hF mode E4 false (!dd) hv hr0 (by decide) (by omega) (by omega)
  rw [← hN, ← hdd, ← hV, ← hG]
  have ht : (E - 130).tmod 2 = 0 := by rw [hE4]; exact Int.mul_tmod_right _ _
  have hd : (E - 130).tdiv 2 = E4 := by rw [hE4]; exact Int.mul_tdiv_cancel_left _ (by decide)
  have hE4b : -1000 ≤ E4 ∧ E4 ≤ 1000 := by omega
  clear hE4
  have hA1 := hA0 _ _ (lu_one x w w.heap.size rfl)
  have hN1 := hN0 _ _ (lu_one x (w.alloc (.cells #[.int .u64 x] 22)) (w.heap.size + 1) (by simp))
  clear hA0 hN0
  clear hr hr0 hM0 hM hN hNp hN2 hdd hV hG hF
  go_enter Tryd.func4, Tryd.ntmps4
  go_wp2_with (first | (go_at_call 6; refine hA1.mono ?_; rintro e w' ⟨rfl, hw⟩; obtain rfl := hw.symm) | (go_at_call 7; refine hN1.mono ?_; rintro e w1 ⟨rfl, hb1⟩; have B1 : Hid (Below w.heap.size w w1) := bstep (below_two _ _) hb1; clear hb1) | (go_at_call 8; refine (hU _).mono ?_; rintro e w2 ⟨rfl, hb2⟩; have B2 : Hid (Below w.heap.size w w2) := bstep B1.out hb2; clear hb2) | (go_at_call 12; refine (n1 _).mono ?_; rintro e w3 ⟨hb, v3, rfl, hv⟩; have F3 : Hid (Nt w3 v3 2 M) := hv; have B3 : Hid (Below w.heap.size w w3) := (by first | exact bstep B2.out hb | exact bstep (B2.out.alloc B2.out.size _) hb); have c3 : w3.cell? ⟨w2.heap.size, 2, none⟩ = some (.int .i64 E) := (hb.cell (p := ⟨w2.heap.size, 2, none⟩) (by simp)).trans (by simp); clear hb hv) | (go_at_call 11; refine (s1 _ _ F3.out).mono ?_; rintro e w4 ⟨hb, v4, rfl, hv⟩; have F4 : Hid (Nt w4 v4 20 N) := hv; have B4 : Hid (Below w.heap.size w w4) := bstep B3.out hb; have c4 : w4.cell? ⟨w2.heap.size, 2, none⟩ = some (.int .i64 E) := (hb.cell (World.block_lt_of_cell? _ _ c3)).trans c3; clear hb hv c3) | (go_at_call 10; refine (r1 _ _ F4.out).mono ?_; rintro e w5 ⟨hb, v5, rfl, hv⟩; have F5 : Hid (Nt w5 v5 20 r) := hv; have B5 : Hid (Below w.heap.size w w5) := bstep B4.out hb; have c5 : w5.cell? ⟨w2.heap.size, 2, none⟩ = some (.int .i64 E) := (hb.cell (World.block_lt_of_cell? _ _ c4)).trans c4; clear hb hv c4) | (go_at_call 13; refine (q1 _ _ F5.out).mono ?_; rintro e w6 ⟨rfl, hb⟩; have B6 : Hid (Below w.heap.size w w6) := bstep B5.out hb; clear hb))
  go_ret2
  exact ⟨rfl, B6.out⟩

set_option maxHeartbeats 4000000 in
theorem ssqrt_odd {f wd p t S D h q : Int} (hF : Frm f wd p t S D h q) (mode x pl fl E E4 : Int) (M r : Nat) (hM0 : 0 < M) (hM : M < 2 ^ 53) (hE0 : -1074 ≤ E) (hE1 : E ≤ 2000) (hE4 : E - 131 = 2 * E4) (hr : Isq (M * 2 ^ 131) r) (w : World)
    (hA0 : ∀ W v, Lu W v 1 (fun _ => x) → Calls Tryd.prog 6 #[.int .i64 f, .int .i64 mode, v] W fun e w' => e = .returned (.bool true) ∧ w' = W)
    (hN0 : ∀ W v, Lu W v 1 (fun _ => x) → Calls Tryd.prog 7 #[.int .i64 f, v] W fun e w' => e = .returned (.tuple #[.int .u64 pl, .int .i64 fl, .bool false]) ∧ Below W.heap.size W w')
    (hU : ∀ W, Calls Tryd.prog 8 #[.int .i64 f, .int .u64 x] W fun e w' => e = .returned (.agg #[.int .i64 1, .bool false, .int .i64 E, .int .u64 (M : Int)]) ∧ Below W.heap.size W w') :
    Calls Tryd.prog 4 #[.int .i64 f, .int .i64 mode, .int .u64 x] w fun e w' => e = .returned (.tuple #[.int .u64 (rndV p t h S mode E4 false r (!decide (r * r = M * 2 ^ 131))), .int .i64 (rndF p t h mode E4 false r (!decide (r * r = M * 2 ^ 131)))]) ∧ Below w.heap.size w w' := by
  have hr0 : 0 < r := by
    rcases Nat.eq_zero_or_pos r with h0 | h0
    · subst h0
      have := hr.2
      have h3 := Nat.mul_pos hM0 (Nat.pow_pos (n := 131) (show 0 < 2 by decide))
      omega
    · exact h0
  obtain ⟨N, hN⟩ : ∃ N, N = M * 2 ^ 131 := ⟨_, rfl⟩
  have hNp : 0 < N := by rw [hN]; exact Nat.mul_pos hM0 (Nat.pow_pos (by decide))
  have hN2 : N < 2 ^ 192 := by rw [hN]; exact room20 hM (by decide)
  have n1 : ∀ W, Calls Tryd.prog 12 #[.int .u64 (M : Int)] W fun e w' => Below W.heap.size W w' ∧ ∃ v, e = .returned v ∧ Nt w' v 2 M := fun W => nat_any M (Nat.lt_trans hM (by decide)) W
  have s1 : ∀ W v, Nt W v 2 M → Calls Tryd.prog 11 #[v, .int .i64 131] W fun e w' => Below W.heap.size W w' ∧ ∃ v', e = .returned v' ∧ Nt w' v' 20 N := fun W v hv => by rw [hN]; exact shl_nat hv hM 131 (by decide)
  obtain ⟨dd, hdd⟩ : ∃ dd, dd = decide (r * r = N) := ⟨_, rfl⟩
  have r1 : ∀ W v, Nt W v 20 N → Calls Tryd.prog 10 #[v] W fun e w' => Below W.heap.size W w' ∧ ∃ u, e = .returned (.tuple #[u, .bool dd]) ∧ Nt w' u 20 r := fun W v hv => (sroot_any hv hNp hN2).mono fun e w' ⟨hb, u, r', he, hu, hi⟩ => by
    rw [hN] at hi
    obtain rfl := isq_uniq hi hr
    rw [hdd]
    exact ⟨hb, u, he, hu⟩
  obtain ⟨V, hV⟩ : ∃ V, V = rndV p t h S mode E4 false r (!dd) := ⟨_, rfl⟩
  obtain ⟨G, hG⟩ : ∃ G, G = rndF p t h mode E4 false r (!dd) := ⟨_, rfl⟩
  have q1 : ∀ W v, Nt W v 20 r → Calls Tryd.prog 13 #[.int .i64 f, .int .i64 mode, .bool false, v, .int .i64 E4, .bool (!dd)] W fun e w' => e = .returned (.tuple #[.int .u64 V, .int .i64 G]) ∧ Below W.heap.size W w' := fun W v hv => by
    rw [hV, hG]
    exact round_any hF mode E4 false (!dd) hv hr0 (by decide) (by omega) (by omega)
  rw [← hN, ← hdd, ← hV, ← hG]
  have ht : ((E - 130).tmod 2 == 0) = false := by
    rw [beq_eq_false_iff_ne]
    intro h0
    have h1 := Int.mul_tdiv_add_tmod (E - 130) 2
    omega
  have hd : (E - 131).tdiv 2 = E4 := by rw [hE4]; exact Int.mul_tdiv_cancel_left _ (by decide)
  have hE4b : -1000 ≤ E4 ∧ E4 ≤ 1000 := by omega
  clear hE4
  have hA1 := hA0 _ _ (lu_one x w w.heap.size rfl)
  have hN1 := hN0 _ _ (lu_one x (w.alloc (.cells #[.int .u64 x] 22)) (w.heap.size + 1) (by simp))
  clear hA0 hN0
  clear hr hr0 hM0 hM hN hNp hN2 hdd hV hG hF
  go_enter Tryd.func4, Tryd.ntmps4
  go_wp2_with (first | (go_at_call 6; refine hA1.mono ?_; rintro e w' ⟨rfl, hw⟩; obtain rfl := hw.symm) | (go_at_call 7; refine hN1.mono ?_; rintro e w1 ⟨rfl, hb1⟩; have B1 : Hid (Below w.heap.size w w1) := bstep (below_two _ _) hb1; clear hb1) | (go_at_call 8; refine (hU _).mono ?_; rintro e w2 ⟨rfl, hb2⟩; have B2 : Hid (Below w.heap.size w w2) := bstep B1.out hb2; clear hb2) | (go_at_call 12; refine (n1 _).mono ?_; rintro e w3 ⟨hb, v3, rfl, hv⟩; have F3 : Hid (Nt w3 v3 2 M) := hv; have B3 : Hid (Below w.heap.size w w3) := (by first | exact bstep B2.out hb | exact bstep (B2.out.alloc B2.out.size _) hb); have c3 : w3.cell? ⟨w2.heap.size, 2, none⟩ = some (.int .i64 E) := (hb.cell (p := ⟨w2.heap.size, 2, none⟩) (by simp)).trans (by simp); clear hb hv) | (go_at_call 11; refine (s1 _ _ F3.out).mono ?_; rintro e w4 ⟨hb, v4, rfl, hv⟩; have F4 : Hid (Nt w4 v4 20 N) := hv; have B4 : Hid (Below w.heap.size w w4) := bstep B3.out hb; have c4 : w4.cell? ⟨w2.heap.size, 2, none⟩ = some (.int .i64 E) := (hb.cell (World.block_lt_of_cell? _ _ c3)).trans c3; clear hb hv c3) | (go_at_call 10; refine (r1 _ _ F4.out).mono ?_; rintro e w5 ⟨hb, v5, rfl, hv⟩; have F5 : Hid (Nt w5 v5 20 r) := hv; have B5 : Hid (Below w.heap.size w w5) := bstep B4.out hb; have c5 : w5.cell? ⟨w2.heap.size, 2, none⟩ = some (.int .i64 E) := (hb.cell (World.block_lt_of_cell? _ _ c4)).trans c4; clear hb hv c4) | (go_at_call 13; refine (q1 _ _ F5.out).mono ?_; rintro e w6 ⟨rfl, hb⟩; have B6 : Hid (Below w.heap.size w w6) := bstep B5.out hb; clear hb))
  go_ret2
  exact ⟨rfl, B6.out⟩

end Go.Proofs.YtghblaphkbcgpaaDoor
