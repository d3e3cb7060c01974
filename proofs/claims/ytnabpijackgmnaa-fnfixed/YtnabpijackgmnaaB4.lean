/- DotFix: the program's steps. -/
import Derived.Test.YtnabpijackgmnaaB3
import Derived.Test.YtnabpijackgmnaaI1
namespace Go.Proofs.Ytnabpijackgmnaa
open Go.RowKit

/-- The clip of a word, as a value. -/
abbrev Cv (P : Int) : Value := .func (.func 44) #[.agg #[.int .i64 (-P), .int .i64 (P - 1)]] #[]

set_option maxHeartbeats 2000000 in
theorem step40 {w : World} {g1 g2 b1 off1 b2 off2 n m cap1 cap2 k : Nat} {S x y : Int} (hk : k < n) (hk2 : k < m)
    (h1 : w.cell? ⟨g1, 0, none⟩ = some (.slice (some ⟨b1, off1, none⟩) n cap1)) (h2 : w.cell? ⟨g2, 0, none⟩ = some (.slice (some ⟨b2, off2, none⟩) m cap2))
    (c1 : w.cell? ⟨b1, off1 + k, none⟩ = some (.int .i64 x)) (c2 : w.cell? ⟨b2, off2 + k, none⟩ = some (.int .i64 y))
    (hm : -70368744177664 ≤ x * y ∧ x * y ≤ 70368744177664) (hS : -70368744177664000 ≤ S ∧ S ≤ 70368744177664000) :
    Calls Try.prog 48 #[.int .i64 S, .int .i64 k, .pointer (some ⟨g1, 0, none⟩), .pointer (some ⟨g2, 0, none⟩)] w fun e w' => e = .returned (.int .i64 (S + x * y)) ∧ Below w.heap.size w w' := by
  go_enter Try.func48, Try.ntmps48
  go_wp2_with (go_quiet (fail))
  go_ret
  exact ⟨rfl, below_drewN (Below.refl _ _) _⟩

set_option maxHeartbeats 4000000 in
theorem step39 {w : World} {g0 g1 g2 g3 g4 b1 off1 b2 off2 n m cap1 cap2 k : Nat} {S x y f c P : Int} (hk : k < n) (hk2 : k < m)
    (h0 : w.cell? ⟨g0, 0, none⟩ = some (Cv P)) (h1 : w.cell? ⟨g1, 0, none⟩ = some (.slice (some ⟨b1, off1, none⟩) n cap1)) (h2 : w.cell? ⟨g2, 0, none⟩ = some (.slice (some ⟨b2, off2, none⟩) m cap2))
    (h3 : w.cell? ⟨g3, 0, none⟩ = some (.int .i64 f)) (h4 : w.cell? ⟨g4, 0, none⟩ = some (.int .i64 c))
    (c1 : w.cell? ⟨b1, off1 + k, none⟩ = some (.int .i64 x)) (c2 : w.cell? ⟨b2, off2 + k, none⟩ = some (.int .i64 y))
    (hm : -70368744177664 ≤ x * y ∧ x * y ≤ 70368744177664) (hS : -8388608 ≤ S ∧ S ≤ 8388608) (hP : 1 ≤ P) (hP2 : P ≤ 8388608) :
    Calls Try.prog 47 #[.int .i64 S, .int .i64 k, .pointer (some ⟨g0, 0, none⟩), .pointer (some ⟨g1, 0, none⟩), .pointer (some ⟨g2, 0, none⟩), .pointer (some ⟨g3, 0, none⟩), .pointer (some ⟨g4, 0, none⟩)] w fun e w' => e = .returned (.int .i64 (clp (S + clp (shV (x * y) f c) P) P)) ∧ Below w.heap.size w w' := by
  have keep : ∀ X, Below w.heap.size w X → ∀ (a : Addr) (v : Value), w.cell? a = some v → X.cell? a = some v := fun X hX a v h => (hX.cell (World.block_lt_of_cell? w _ h)).trans h
  have ra : ∀ X, Below w.heap.size w X → X.cell? ⟨g0, 0, none⟩ = some (Cv P) ∧ X.cell? ⟨g1, 0, none⟩ = some (.slice (some ⟨b1, off1, none⟩) n cap1) ∧ X.cell? ⟨g2, 0, none⟩ = some (.slice (some ⟨b2, off2, none⟩) m cap2) ∧ X.cell? ⟨g3, 0, none⟩ = some (.int .i64 f) ∧ X.cell? ⟨g4, 0, none⟩ = some (.int .i64 c) ∧ X.cell? ⟨b1, off1 + k, none⟩ = some (.int .i64 x) ∧ X.cell? ⟨b2, off2 + k, none⟩ = some (.int .i64 y) :=
    fun X hX => ⟨keep X hX _ _ h0, keep X hX _ _ h1, keep X hX _ _ h2, keep X hX _ _ h3, keep X hX _ _ h4, keep X hX _ _ c1, keep X hX _ _ c2⟩
  clear h0 h1 h2 h3 h4 c1 c2 keep
  have i4 := iShift_any (x * y) f c
  have i5 := clip_any P (shV (x * y) f c) hP
  have i6 := clip_any P (S + clp (shV (x * y) f c) P) hP
  have r2 := clp_bounds (x := shV (x * y) f c) hP
  generalize clp (shV (x * y) f c) P = Y at i5 i6 r2 ⊢
  generalize clp (S + Y) P = Z at i6 ⊢
  generalize shV (x * y) f c = U at i4 i5
  have l0 : Below w.heap.size w w.drew := (Below.refl _ _).drew
  go_enter Try.func47, Try.ntmps47
  go_upto_region 1 with fail
  refine wp_region_any (by kernel_rfl) ?_
  change wpAny _ _ _ _ _ _ _ (World.drew _)
  refine wpI_any (I := fun X => Below w.heap.size w X) _ _ _ _ ?_
  refine wpI_take (i := 0) (v := ?_) rfl (by kernel_rfl) (by kernel_rfl) (by kernel_rfl) (fun _ _ _ h => h) ⟨by rfl, ?_⟩ ?_
  rotate_left
  · intro X hI; obtain ⟨q0, q1, q2, q3, q4, q5, q6⟩ := ra X hI; go_simp; try go_bits
    with_reducible rfl
  refine wpI_take (i := 1) (v := ?_) rfl (by kernel_rfl) (by kernel_rfl) (by kernel_rfl) (fun _ _ _ h => h) ⟨by rfl, ?_⟩ ?_
  rotate_left
  · intro X hI; go_simp; try go_bits
    with_reducible rfl
  refine wpI_take (i := 2) (v := ?_) rfl (by kernel_rfl) (by kernel_rfl) (by kernel_rfl) (fun _ _ _ h => h) ⟨by rfl, ?_⟩ ?_
  rotate_left
  · intro X hI; obtain ⟨q0, q1, q2, q3, q4, q5, q6⟩ := ra X hI; go_simp; try go_bits
    with_reducible rfl
  refine wpI_take (i := 3) (v := ?_) rfl (by kernel_rfl) (by kernel_rfl) (by kernel_rfl) (fun _ _ _ h => h) ⟨by rfl, ?_⟩ ?_
  rotate_left
  · intro X hI; obtain ⟨q0, q1, q2, q3, q4, q5, q6⟩ := ra X hI; go_simp; try go_bits
    with_reducible rfl
  refine wpI_take (i := 4) (v := ?_) rfl (by kernel_rfl) (by kernel_rfl) (by kernel_rfl) (fun _ _ _ h => h) ⟨by rfl, ?_⟩ ?_
  rotate_left
  · intro X hI; go_simp; try go_bits
    with_reducible rfl
  refine wpI_take (i := 5) (v := ?_) rfl (by kernel_rfl) (by kernel_rfl) (by kernel_rfl) (fun _ _ _ h => h) ⟨by rfl, ?_⟩ ?_
  rotate_left
  · intro X hI; go_simp; try go_bits
    with_reducible rfl
  refine wpI_take (i := 6) (v := ?_) rfl (by kernel_rfl) (by kernel_rfl) (by kernel_rfl) (fun _ _ _ h => h) ⟨by rfl, ?_⟩ ?_
  rotate_left
  · intro X hI; obtain ⟨q0, q1, q2, q3, q4, q5, q6⟩ := ra X hI; go_simp; try go_bits
    with_reducible rfl
  refine wpI_take (i := 7) (v := ?_) rfl (by kernel_rfl) (by kernel_rfl) (by kernel_rfl) (fun _ _ _ h => h) ⟨by rfl, ?_⟩ ?_
  rotate_left
  · intro X hI; obtain ⟨q0, q1, q2, q3, q4, q5, q6⟩ := ra X hI; go_simp; try go_bits
    with_reducible rfl
  refine wpI_take (i := 8) (v := ?_) rfl (by kernel_rfl) (by kernel_rfl) (by kernel_rfl) (fun _ _ _ h => h) ⟨by rfl, ?_⟩ ?_
  rotate_left
  · intro X hI; go_simp; try go_bits
    with_reducible rfl
  refine wpI_take (i := 9) (v := ?_) rfl (by kernel_rfl) (by kernel_rfl) (by kernel_rfl) (fun _ _ _ h => h) ⟨by rfl, ?_⟩ ?_
  rotate_left
  · intro X hI; go_simp; try go_bits
    with_reducible rfl
  refine wpI_take (i := 10) (v := ?_) rfl (by kernel_rfl) (by kernel_rfl) (by kernel_rfl) (fun _ _ _ h => h) ⟨by rfl, ?_⟩ ?_
  rotate_left
  · intro X hI; obtain ⟨q0, q1, q2, q3, q4, q5, q6⟩ := ra X hI; go_simp; try go_bits
    with_reducible rfl
  refine wpI_take (i := 11) (v := ?_) rfl (by kernel_rfl) (by kernel_rfl) (by kernel_rfl) (fun _ _ _ h => h) ⟨by rfl, ?_⟩ ?_
  rotate_left
  · intro X hI; go_simp; try go_bits
    with_reducible rfl
  refine wpI_take (i := 12) (v := ?_) rfl (by kernel_rfl) (by kernel_rfl) (by kernel_rfl) (fun _ _ _ h => h) ⟨by rfl, ?_⟩ ?_
  rotate_left
  · intro X hI; obtain ⟨q0, q1, q2, q3, q4, q5, q6⟩ := ra X hI; go_simp; try go_bits
    with_reducible rfl
  refine wpI_take (i := 13) (v := ?_) rfl (by kernel_rfl) (by kernel_rfl) (by kernel_rfl) (fun _ _ _ h => h) ⟨by rfl, ?_⟩ ?_
  rotate_left
  · intro X hI; obtain ⟨q0, q1, q2, q3, q4, q5, q6⟩ := ra X hI; go_simp; try go_bits
    with_reducible rfl
  refine wpI_only (i := 14) rfl (by kernel_rfl) l0 (by rfl) ?_
  intro K hK
  go_simp
  go_wp2_with (go_at_call 13; (with_reducible refine (i4 _).mono ?_); rintro e w' ⟨rfl, hw⟩; obtain rfl := hw.symm)
  refine wpI_only (i := 15) rfl (by kernel_rfl) l0 (by rfl) ?_
  intro K hK
  go_simp
  go_wp2_with (go_at_call 44; (with_reducible refine (i5 _).mono ?_); rintro e x1 ⟨rfl, hb1⟩; have l1 := bstep l0 hb1)
  refine wpI_only (i := 16) rfl (by kernel_rfl) l1 (by rfl) ?_
  intro K hK
  go_simp
  try go_bits
  refine hK _ _ ?_
  refine wpI_only (i := 17) rfl (by kernel_rfl) l1 (by rfl) ?_
  intro K hK
  go_simp
  go_wp2_with (go_at_call 44; (with_reducible refine (i6 _).mono ?_); rintro e x2 ⟨rfl, hb2⟩; have l2 := bstep l1 hb2)
  refine wpI_only (i := 18) rfl (by kernel_rfl) l2 (by rfl) ?_
  intro K hK
  go_simp
  refine hK _ _ ?_
  refine wpI_done l2 (by kernel_rfl) ?_ _
  go_wp2
  go_ret
  exact ⟨rfl, l2⟩

set_option maxHeartbeats 1000000 in
theorem over39 {w : World} {n : Nat} (hn : n ≤ 512) (c0 c1 c2 c3 c4 : Value) (F : Nat → Int)
    (hst : ∀ k, k < n → ∀ W, Below w.heap.size w W → Calls Try.prog 47 #[.int .i64 (F k), .int .i64 k, c0, c1, c2, c3, c4] W fun e w' => e = .returned (.int .i64 (F (k + 1))) ∧ Below W.heap.size W w') :
    Calls Try.prog 46 #[.int .i64 n, .int .i64 (F 0), .func (.func 47) #[] #[c0, c1, c2, c3, c4]] w fun e w' => e = .returned (.int .i64 (F n)) ∧ Below w.heap.size w w' := by
  have HST : Hid _ := hst
  clear hst
  go_enter Try.func46, Try.ntmps46
  go_wp2
  go_loopw [1, 7, 9] (fun s _ i wr => ∃ k : Nat, i = .int .i64 k ∧ s = .int .i64 (F k) ∧ k ≤ n ∧ Hid (Below w.heap.size w wr)) (fun _ _ i _ => n - (intOf i).toNat)
  case atStart => exact ⟨0, rfl, rfl, by omega, Below.refl _ _⟩
  case round =>
    obtain ⟨k, rfl, rfl, hk, hrel⟩ := hrel
    by_cases h1 : k < n
    · have hc := HST.out k h1 wr hrel.out
      go_wp2_with (go_at_call 47; refine hc.mono ?_; rintro e w1 ⟨rfl, hb1⟩)
      go_roundw
      case rel => exact ⟨k + 1, by go_num, rfl, by omega, bstep hrel.out hb1⟩
      case measure => simp [intOf]; omega
    · obtain rfl : k = n := by omega
      go_wp2
      go_ret
      exact ⟨rfl, hrel.out⟩

set_option maxHeartbeats 1000000 in
theorem over40 {w : World} {n : Nat} (hn : n ≤ 512) (c0 c1 : Value) (F : Nat → Int)
    (hst : ∀ k, k < n → ∀ W, Below w.heap.size w W → Calls Try.prog 48 #[.int .i64 (F k), .int .i64 k, c0, c1] W fun e w' => e = .returned (.int .i64 (F (k + 1))) ∧ Below W.heap.size W w') :
    Calls Try.prog 46 #[.int .i64 n, .int .i64 (F 0), .func (.func 48) #[] #[c0, c1]] w fun e w' => e = .returned (.int .i64 (F n)) ∧ Below w.heap.size w w' := by
  have HST : Hid _ := hst
  clear hst
  go_enter Try.func46, Try.ntmps46
  go_wp2
  go_loopw [1, 7, 9] (fun s _ i wr => ∃ k : Nat, i = .int .i64 k ∧ s = .int .i64 (F k) ∧ k ≤ n ∧ Hid (Below w.heap.size w wr)) (fun _ _ i _ => n - (intOf i).toNat)
  case atStart => exact ⟨0, rfl, rfl, by omega, Below.refl _ _⟩
  case round =>
    obtain ⟨k, rfl, rfl, hk, hrel⟩ := hrel
    by_cases h1 : k < n
    · have hc := HST.out k h1 wr hrel.out
      go_wp2_with (go_at_call 48; refine hc.mono ?_; rintro e w1 ⟨rfl, hb1⟩)
      go_roundw
      case rel => exact ⟨k + 1, by go_num, rfl, by omega, bstep hrel.out hb1⟩
      case measure => simp [intOf]; omega
    · obtain rfl : k = n := by omega
      go_wp2
      go_ret
      exact ⟨rfl, hrel.out⟩
end Go.Proofs.Ytnabpijackgmnaa
