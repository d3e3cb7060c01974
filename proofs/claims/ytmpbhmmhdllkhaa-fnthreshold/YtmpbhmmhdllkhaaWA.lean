/- Ways, both sides. -/
import Derived.Test.YtmpbhmmhdllkhaaAP
import Derived.Test.YtmpbhmmhdllkhaaWM
import Derived.Test.YtmpbhmmhdllkhaaI1
namespace Go.Proofs.Ytmpbhmmhdllkhaa
open Go.RowKit

/-- A row of the triangle. -/
def cbi (n k : Nat) : Int := (cb n k : Int)

theorem one_own (w : World) (x : Int) : (w.alloc (.cells #[.int .i64 x] 3)).ownsRow w.heap.size 3 1 (.slice (some ⟨w.heap.size, 0, none⟩) 1 1) 1 [.int .i64 x] :=
  World.ownsRow_lit (base := w.heap.size) (e := 3) (size := 1) w #[.int .i64 x] 1 (Nat.le_refl _) (by decide) rfl

theorem coins_any (x : Int) (w : World) : Calls Try.prog 11 #[.int .i64 x] w fun e w' => e = .returned (.bool (decide (0 ≤ x ∧ x ≤ 60))) ∧ w' = w := by
  go_enter Try.func11, Try.ntmps11
  by_cases h : 0 ≤ x
  · by_cases h1 : x ≤ 60
    · go_wp2
      go_ret
      exact ⟨by simp [h, h1], rfl⟩
    · go_wp2
      go_ret
      exact ⟨by simp [h1], rfl⟩
  · go_wp2
    go_ret
    exact ⟨by simp; omega, rfl⟩

theorem tdiv_nat (p k q : Nat) (h : p / (k + 1) = q) : Int.tdiv (p : Int) ((k : Int) + 1) = (q : Int) := by
  rw [← h]
  exact (Int.ofNat_tdiv p (k + 1)).symm

set_option maxHeartbeats 4000000 in
theorem iWays_good (n : Nat) (t : Int) (h : n ≤ 60) (ht : -9223372036854775808 ≤ t ∧ t ≤ 9223372036854775807) (w : World) : Calls Try.prog 8 #[.int .i64 (n : Int), .int .i64 t] w fun e w' => e = .returned (.int .i64 (wys n t : Int)) ∧ w' = w := by
  have i1 := coins_any (n : Int)
  rw [decide_eq_true (show 0 ≤ (n : Int) ∧ (n : Int) ≤ 60 by omega)] at i1
  have h2 := two60 h
  go_enter Try.func8, Try.ntmps8
  go_wp2_with (first | (go_at_call 11; (with_reducible refine (i1 _).mono ?_); rintro e w' ⟨rfl, hw⟩; obtain rfl := hw.symm))
  go_loopw [5, 6, 7, 13] (fun a l _ i wr => ∃ k A C : Nat, i = .int .i64 k ∧ k ≤ n + 1 ∧ a = .int .i64 A ∧ l = .int .i64 C ∧ wr = w ∧ Hid (A = wv n t k ∧ C = cb n k)) (fun _ _ _ i _ => n + 1 - (intOf i).toNat)
  case atStart => exact ⟨0, 0, 1, rfl, by omega, rfl, rfl, rfl, rfl, (cb_zero n).symm⟩
  case round =>
    obtain ⟨k, A, C, rfl, hk, rfl, rfl, rfl, hrel⟩ := hrel
    have hA : A ≤ 1152921504606846976 := by rw [hrel.out.1]; exact Nat.le_trans (wv_le n t hk) h2
    have hC : C ≤ 118264581564861424 := by rw [hrel.out.2]; exact cb_le h k
    by_cases h1 : k < n + 1
    · by_cases h3 : t ≤ (n : Int) - 2 * (k : Int)
      · obtain ⟨p, hp⟩ : ∃ p : Nat, p = C * (n - k) := ⟨_, rfl⟩
        have hp1 : p ≤ 118264581564861424 * 60 := by rw [hp]; exact Nat.mul_le_mul hC (by omega)
        have e1 : (C : Int) * ((n : Int) - (k : Int)) = (p : Int) := by rw [hp, Int.natCast_mul, Int.natCast_sub (by omega)]
        have e2 := tdiv_nat p k (cb n (k + 1)) (by rw [hp, hrel.out.2]; exact cb_next n k)
        obtain ⟨q, hq⟩ : ∃ q, q = cb n (k + 1) := ⟨_, rfl⟩
        rw [← hq] at e2
        have HQ : Hid (q = cb n (k + 1)) := hq
        have hq2 : q ≤ 118264581564861424 := by rw [hq]; exact cb_le h (k + 1)
        have HW : Hid (A + C = wv n t (k + 1)) := by show A + C = _; rw [wv_step h3, ← hrel.out.1, ← hrel.out.2]
        clear hrel hp hq
        go_wp2
        go_roundw
        case rel => exact ⟨k + 1, A + C, q, by go_num, by omega, by go_num, by go_num, by trivial, HW.out, HQ.out⟩
        case measure => simp [intOf]; omega
      · have HF : Hid (A = wys n t) := hrel.out.1.trans (wv_stop hk (fun _ => by omega)).symm
        clear hrel
        go_wp2
        go_ret
        exact ⟨by rw [HF.out]; rfl, rfl⟩
    · have HF : Hid (A = wys n t) := hrel.out.1.trans (wv_stop hk (fun _ => by omega)).symm
      clear hrel
      go_wp2
      go_ret
      exact ⟨by rw [HF.out]; rfl, rfl⟩

theorem iWays_bad (n t : Int) (h : ¬ (0 ≤ n ∧ n ≤ 60)) (w : World) : Calls Try.prog 8 #[.int .i64 n, .int .i64 t] w fun e w' => e = .returned (.int .i64 0) ∧ w' = w := by
  have i1 := coins_any n
  rw [decide_eq_false h] at i1
  clear h
  go_enter Try.func8, Try.ntmps8
  go_wp2_with (first | (go_at_call 11; (with_reducible refine (i1 _).mono ?_); rintro e w' ⟨rfl, hw⟩; obtain rfl := hw.symm))
  go_ret
  exact ⟨rfl, rfl⟩

theorem sWays_bad (n t : Int) (h : ¬ (0 ≤ n ∧ n ≤ 60)) (w : World) : Calls Try.prog 19 #[.int .i64 n, .int .i64 t] w fun e w' => e = .returned (.int .i64 0) ∧ Below w.heap.size w w' := by
  have i1 := in_any n 0 60
  rw [decide_eq_false h] at i1
  clear h
  go_enter Try.func19, Try.ntmps19
  go_wp2_with (first | (go_at_call 14; (with_reducible refine (i1 _).mono ?_); rintro e w' ⟨rfl, hw⟩; obtain rfl := hw.symm))
  go_ret
  exact ⟨rfl, Below.refl _ _⟩

/-- The last part of the model's Ways: the sum. -/
abbrev SmR (w : World) (n : Nat) (wr : World) (o : Value) (i : Nat) : Prop := wr.ownsRow w.heap.size 3 1 o (i + 1) (ils (cbi i) (i + 1)) ∧ Below w.heap.size w wr ∧ i ≤ n

theorem cbi_next {i k : Nat} (h : 1 ≤ k) : cbi (i + 1) k = cbi i (k - 1) + cbi i k := by
  obtain ⟨j, rfl⟩ : ∃ j, k = j + 1 := ⟨k - 1, by omega⟩
  show ((cb (i + 1) (j + 1) : Nat) : Int) = ((cb i (j + 1 - 1) : Nat) : Int) + ((cb i (j + 1) : Nat) : Int)
  rw [cb_succ, Nat.add_sub_cancel, Int.natCast_add]

theorem cbi_in {i : Nat} (h : i ≤ 60) (k : Nat) : 0 ≤ cbi i k ∧ cbi i k ≤ 118264581564861424 := by
  have := cb_le h k
  unfold cbi
  omega

set_option maxHeartbeats 8000000 in
theorem sWays_good (n : Nat) (t : Int) (h : n ≤ 60) (ht : -9223372036854775808 ≤ t ∧ t ≤ 9223372036854775807) (w : World) : Calls Try.prog 19 #[.int .i64 (n : Int), .int .i64 t] w fun e w' => e = .returned (.int .i64 (wys n t : Int)) ∧ Below w.heap.size w w' := by
  obtain ⟨i0, hi, hz0, hz1, hz2⟩ := info_parts Try.info3
  have i1 := in_any (n : Int) 0 60
  rw [decide_eq_true (show 0 ≤ (n : Int) ∧ (n : Int) ≤ 60 by omega)] at i1
  have h2 := two60 h
  have OW : Hid ((w.alloc (.cells #[.int .i64 1] 3)).ownsRow w.heap.size 3 1 (.slice (some ⟨w.heap.size, 0, none⟩) 1 1) 1 (ils (cbi 0) 1)) := one_own w 1
  have BL : Hid (Below w.heap.size w (w.alloc (.cells #[.int .i64 1] 3))) := below_one _ _
  go_enter Try.func19, Try.ntmps19
  go_wp2_with (first | (go_at_call 14; (with_reducible refine (i1 _).mono ?_); rintro e w' ⟨rfl, hw⟩; obtain rfl := hw.symm))
  clear i1
  generalize w.alloc (.cells #[.int .i64 1] 3) = W at *
  go_loopw [5, 6, 7, 8] (fun o i _ _ wr => ∃ k : Nat, i = .int .i64 k ∧ k ≤ n ∧ Hid (wr.ownsRow w.heap.size 3 1 o (k + 1) (ils (cbi k) (k + 1)) ∧ Below w.heap.size w wr)) (fun _ i _ _ _ => n - (intOf i).toNat)
  case atStart => exact ⟨0, rfl, by omega, OW.out, BL.out⟩
  case round =>
    obtain ⟨i, rfl, hin, hrel⟩ := hrel
    have HR : Hid (wr.ownsRow w.heap.size 3 1 u5 (i + 1) (ils (cbi i) (i + 1))) := hrel.out.1
    have HB : Hid (Below w.heap.size w wr) := hrel.out.2
    obtain ⟨ao, cap, rfl, hcap, hc⟩ := il_of_own hrel.out.1
    obtain ⟨b, off, rfl, hlt, hcell⟩ := hc (by omega)
    have HC : Hid (b < wr.heap.size ∧ ∀ k, k < i + 1 → wr.cell? ⟨b, off + k, none⟩ = some (.int .i64 (cbi i k))) := ⟨hlt, hcell⟩
    clear hc hcell hlt hrel
    by_cases h1 : i < n
    · have OX : Hid ((wr.alloc (.cells #[.int .i64 1] 3)).ownsRow wr.heap.size 3 1 (.slice (some ⟨wr.heap.size, 0, none⟩) 1 1) 1 (ils (cbi (i + 1)) 1)) := one_own wr 1
      have BX : Hid (Below wr.heap.size wr (wr.alloc (.cells #[.int .i64 1] 3))) := below_one _ _
      go_upto_region 9 with fail
      generalize wr.alloc (.cells #[.int .i64 1] 3) = X at *
      go_loopw [7, 8] (fun o j wx => ∃ k : Nat, j = .int .i64 k ∧ 1 ≤ k ∧ k ≤ i + 1 ∧ Hid (wx.ownsRow wr.heap.size 3 1 o k (ils (cbi (i + 1)) k) ∧ Below wr.heap.size wr wx)) (fun _ j _ => i + 1 - (intOf j).toNat)
      case atStart => exact ⟨1, rfl, by omega, by omega, OX.out, BX.out⟩
      case round =>
        rename World => V
        obtain ⟨k, rfl, hk0, hk, hrel⟩ := hrel
        by_cases h3 : k < i + 1
        · have d1 := (hrel.out.2.cell (p := ⟨b, off + (k - 1), none⟩) HC.out.1).trans (HC.out.2 (k - 1) (by omega))
          have d2 := (hrel.out.2.cell (p := ⟨b, off + k, none⟩) HC.out.1).trans (HC.out.2 k h3)
          have f1 := cbi_in (i := i) (by omega) (k - 1)
          have f2 := cbi_in (i := i) (by omega) k
          have f3 := cbi_next (i := i) hk0
          obtain ⟨x, hx⟩ : ∃ x, x = cbi i (k - 1) := ⟨_, rfl⟩
          obtain ⟨y, hy⟩ : ∃ y, y = cbi i k := ⟨_, rfl⟩
          rw [← hx] at d1 f1 f3
          rw [← hy] at d2 f2 f3
          have XX : Hid (cbi i (k - 1) = x ∧ cbi i k = y) := ⟨hx.symm, hy.symm⟩
          clear hx hy
          have F3 : Hid (cbi (i + 1) k = x + y) := f3
          clear f3
          have e3 : off + ((k : Int) - 1).toNat = off + (k - 1) := by omega
          have hb3 : Below V.heap.size V (V.alloc (.cells #[.int .i64 (x + y)] 3)).drew := (below_one V _).drew
          have HO3 : Hid ((V.alloc (.cells #[.int .i64 (x + y)] 3)).drew.ownsRow wr.heap.size 3 1 u7 k (ils (cbi (i + 1)) k)) := own_below hrel.out.1 hb3
          have HB3 : Hid (Below wr.heap.size wr (V.alloc (.cells #[.int .i64 (x + y)] 3)).drew) := bstep hrel.out.2 hb3
          have keep : ∀ (X : World) (a : Addr) (v : Value), Below V.heap.size V X → V.cell? a = some v → X.cell? a = some v := fun X a v hX h => (hX.cell (World.block_lt_of_cell? _ _ h)).trans h
          have l0 : V.drew.cell? ⟨b, off + (k - 1), none⟩ = some (.int .i64 x) ∧ V.drew.cell? ⟨b, off + k, none⟩ = some (.int .i64 y) := ⟨d1, d2⟩
          have l1 : (V.alloc (.cells #[.int .i64 (x + y)] 3)).drew.cell? ⟨b, off + (k - 1), none⟩ = some (.int .i64 x) ∧ (V.alloc (.cells #[.int .i64 (x + y)] 3)).drew.cell? ⟨b, off + k, none⟩ = some (.int .i64 y) := ⟨keep _ _ _ hb3 d1, keep _ _ _ hb3 d2⟩
          have LL : ∀ (Y : World), Below wr.heap.size wr Y → ∀ (j : Nat) (z : Int), j < i + 1 → cbi i j = z → Y.cell? ⟨b, off + j, none⟩ = some (.int .i64 z) := fun Y hY j z hj hz => by rw [← hz]; exact (hY.cell (p := ⟨b, off + j, none⟩) HC.out.1).trans (HC.out.2 j hj)
          have LH : Hid _ := LL
          clear keep hb3 d1 d2
          clear LL
          have HV : Hid (V.ownsRow wr.heap.size 3 1 u7 k (ils (cbi (i + 1)) k)) := hrel.out.1
          clear hrel
          go_upto_region 11 with fail
          refine wp_region_any (by kernel_rfl) ?_
          change wpAny _ _ _ _ _ _ _ (World.drew _)
          refine wpI_any (I := fun X => X.cell? ⟨b, off + (k - 1), none⟩ = some (.int .i64 x) ∧ X.cell? ⟨b, off + k, none⟩ = some (.int .i64 y)) _ _ _ _ ?_
          refine wpI_take (i := 0) (v := ?_) rfl (by kernel_rfl) (by kernel_rfl) (by kernel_rfl) (fun _ _ _ h => h) ⟨by rfl, ?_⟩ ?_
          rotate_left
          · intro X hI; go_simp; try go_bits
            try rw [if_pos (by omega)]
            try with_reducible rfl
          refine wpI_take (i := 1) (v := ?_) rfl (by kernel_rfl) (by kernel_rfl) (by kernel_rfl) (fun _ _ _ h => h) ⟨by rfl, ?_⟩ ?_
          rotate_left
          · intro X hI; go_simp; try go_bits
            try rw [if_pos (by omega)]
            try with_reducible rfl
          refine wpI_take (i := 2) (v := ?_) rfl (by kernel_rfl) (by kernel_rfl) (by kernel_rfl) (fun _ _ _ h => h) ⟨by rfl, ?_⟩ ?_
          rotate_left
          · intro X hI; go_simp; try go_bits
            try rw [if_pos (by omega)]
            try with_reducible rfl
          refine wpI_take (i := 3) (v := ?_) rfl (by kernel_rfl) (by kernel_rfl) (by kernel_rfl) (fun _ _ _ h => h) ⟨by rfl, ?_⟩ ?_
          rotate_left
          · intro X hI; go_simp; try go_bits
            try rw [if_pos (by omega)]
            try with_reducible rfl
          refine wpI_take (i := 4) (v := ?_) rfl (by kernel_rfl) (by kernel_rfl) (by kernel_rfl) (fun _ _ _ h => h) ⟨by rfl, ?_⟩ ?_
          rotate_left
          · intro X hI; go_simp; try go_bits
            try rw [if_pos (by omega)]
            try with_reducible rfl
          refine wpI_take (i := 5) (v := ?_) rfl (by kernel_rfl) (by kernel_rfl) (by kernel_rfl) (fun _ _ _ h => h) ⟨by rfl, ?_⟩ ?_
          rotate_left
          · intro X hI; obtain ⟨q1, q2⟩ := hI; go_simp; try go_bits
            try rw [if_pos (by omega)]
            try with_reducible rfl
          refine wpI_take (i := 6) (v := ?_) rfl (by kernel_rfl) (by kernel_rfl) (by kernel_rfl) (fun _ _ _ h => h) ⟨by rfl, ?_⟩ ?_
          rotate_left
          · intro X hI; go_simp; try go_bits
            try rw [if_pos (by omega)]
            try with_reducible rfl
          refine wpI_take (i := 7) (v := ?_) rfl (by kernel_rfl) (by kernel_rfl) (by kernel_rfl) (fun _ _ _ h => h) ⟨by rfl, ?_⟩ ?_
          rotate_left
          · intro X hI; go_simp; try go_bits
            try rw [if_pos (by omega)]
            try with_reducible rfl
          refine wpI_take (i := 8) (v := ?_) rfl (by kernel_rfl) (by kernel_rfl) (by kernel_rfl) (fun _ _ _ h => h) ⟨by rfl, ?_⟩ ?_
          rotate_left
          · intro X hI; go_simp; try go_bits
            try rw [if_pos (by omega)]
            try with_reducible rfl
          refine wpI_take (i := 9) (v := ?_) rfl (by kernel_rfl) (by kernel_rfl) (by kernel_rfl) (fun _ _ _ h => h) ⟨by rfl, ?_⟩ ?_
          rotate_left
          · intro X hI; obtain ⟨q1, q2⟩ := hI; go_simp; try go_bits
            try rw [if_pos (by omega)]
            try with_reducible rfl
          refine wpI_take (i := 10) (v := ?_) rfl (by kernel_rfl) (by kernel_rfl) (by kernel_rfl) (fun _ _ _ h => h) ⟨by rfl, ?_⟩ ?_
          rotate_left
          · intro X hI; go_simp; try go_bits
            try rw [if_pos (by omega)]
            try with_reducible rfl
          refine wpI_only (i := 11) rfl (by kernel_rfl) l0 (by rfl) ?_
          intro K hK
          go_simp
          try go_bits
          refine hK _ _ ?_
          refine wpI_only (i := 12) rfl (by kernel_rfl) l1 (by rfl) ?_
          intro K hK
          refine wp_app _ _ _ 33 rfl wr.heap.size 3 i0 (.int .i64 0) 1 8 Try.underlying33 hi hz0 hz1 hz2 rfl (by decide) _ _ _ rfl HO3.out ⟨V.heap.size, 0, none⟩ 1 1 [.int .i64 (x + y)] rfl rfl (fun j u h => one_new V _ 3 j u h) (by simp [Value.oneCell']) (by unfold maxLen; omega) (by omega) HB3.out.size (by decide) ?_
          intro v' w4 hown' hgrow hkeep
          have HB4 : Hid (Below wr.heap.size wr w4) := grown_below HB3.out (Nat.le_refl _) HO3.out hgrow
          have l2 : w4.cell? ⟨b, off + (k - 1), none⟩ = some (.int .i64 x) ∧ w4.cell? ⟨b, off + k, none⟩ = some (.int .i64 y) := ⟨LH.out w4 HB4.out (k - 1) x (by omega) XX.out.1, LH.out w4 HB4.out k y (by omega) XX.out.2⟩
          rw [← F3.out, ← ils_snoc (cbi (i + 1)) k] at hown'
          have HO4 : Hid (w4.ownsRow wr.heap.size 3 1 v' (k + 1) (ils (cbi (i + 1)) (k + 1))) := hown'
          clear hown' hgrow hkeep
          refine hK _ _ ?_
          refine wpI_only (i := 13) rfl (by kernel_rfl) l2 (by rfl) ?_
          intro K hK
          go_simp
          try go_bits
          refine hK _ _ ?_
          refine wpI_done l2 (by kernel_rfl) ?_ _
          go_wp2
          go_roundw
          case rel => exact ⟨k + 1, by go_num, by omega, by omega, HO4.out, HB4.out⟩
          case measure => simp [intOf]; omega
        · obtain rfl : i + 1 = k := by omega
          have hb3 := below_one V (.cells #[.int .i64 1] 3)
          have HO3 := own_below hrel.out.1 hb3
          have HB3 := bstep hrel.out.2 hb3
          clear hb3 hrel
          go_wp2_with (first | (at_builtin; refine wpList_append_own _ rfl _ _ 33 rfl wr.heap.size 3 i0 (.int .i64 0) 1 8 Try.underlying33 hi hz0 hz1 hz2 rfl (by decide) _ _ _ rfl HO3 ⟨V.heap.size, 0, none⟩ 1 1 [.int .i64 1] rfl rfl (one_new _ _ _) (by simp [Value.oneCell']) (by unfold maxLen; omega) (by omega) HB3.size ?_))
          intro v' w4 hown' hgrow _
          have HB4 : Hid (Below wr.heap.size wr w4) := grown_below HB3 (Nat.le_refl _) HO3 hgrow
          have e4 : cbi (i + 1) (i + 1) = 1 := by show ((cb (i + 1) (i + 1) : Nat) : Int) = 1; rw [cb_self]; rfl
          rw [← e4, ← ils_snoc (cbi (i + 1)) (i + 1)] at hown'
          have HO4 : Hid (w4.ownsRow w.heap.size 3 1 v' (i + 1 + 1) (ils (cbi (i + 1)) (i + 1 + 1))) := own_base hown' HB.out.size
          have HB5 : Hid (Below w.heap.size w w4) := bstep HB.out HB4.out
          clear hown' hgrow HB3 HO3 e4
          go_wp2
          go_roundw
          case rel => exact ⟨i + 1, by go_num, by omega, HO4.out, HB5.out⟩
          case measure => simp [intOf]; omega
    · obtain rfl : n = i := by omega
      go_upto_region 15 with fail
      go_loopw [9, 10] (fun a j wx => ∃ k A : Nat, j = .int .i64 k ∧ k ≤ n + 1 ∧ a = .int .i64 A ∧ wx = wr ∧ Hid (A = sv n t k)) (fun _ j _ => n + 1 - (intOf j).toNat)
      case atStart => exact ⟨0, 0, rfl, by omega, rfl, rfl, rfl⟩
      case round =>
        obtain ⟨k, A, rfl, hk, rfl, rfl, hrel⟩ := hrel
        have hA : A ≤ 1152921504606846976 := by rw [hrel.out]; exact Nat.le_trans (sv_le n t hk) h2
        by_cases h1 : k < n + 1
        · by_cases h3 : t ≤ 2 * (k : Int) - (n : Int)
          · have c := HC.out.2 k h1
            have hC := cb_le h k
            have HW : Hid (A + cb n k = sv n t (k + 1)) := by show A + cb n k = _; rw [sv_step h3, ← hrel.out]
            unfold cbi at c
            generalize cb n k = C at c hC HW
            clear hrel
            go_wp2
            go_roundw
            case rel => exact ⟨k + 1, A + C, by go_num, by omega, by go_num, by trivial, HW.out⟩
            case measure => simp [intOf]; omega
          · have HW : Hid (A = sv n t (k + 1)) := by show A = _; rw [sv_pass h3, ← hrel.out]
            clear hrel
            go_wp2
            go_roundw
            case rel => exact ⟨k + 1, A, by go_num, by omega, rfl, by trivial, HW.out⟩
            case measure => simp [intOf]; omega
        · obtain rfl : k = n + 1 := by omega
          have HF : Hid (A = wys n t) := hrel.out.trans (sv_wys n t)
          clear hrel
          go_wp2
          go_ret
          exact ⟨by rw [HF.out]; rfl, HB.out⟩
end Go.Proofs.Ytmpbhmmhdllkhaa
