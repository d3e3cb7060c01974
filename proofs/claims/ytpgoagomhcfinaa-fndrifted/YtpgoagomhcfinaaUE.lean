/- Rates: Drift, both sides. -/
import Derived.Test.YtpgoagomhcfinaaUD
namespace Go.Proofs.Ytpgoagomhcfinaa
open Go.RowKit

/-- A part. -/
abbrev Prt (b : Int) : Prop := 1 ≤ b ∧ b ≤ 1000000

theorem iPrt_any (x : Int) (w : World) : Calls Try.prog 19 #[.int .i64 x] w fun e w' => e = .returned (.bool (decide (Prt x))) ∧ w' = w := by
  go_enter Try.func19, Try.ntmps19
  by_cases h : 1 ≤ x
  · by_cases h1 : x ≤ 1000000
    · go_wp2
      go_ret
      exact ⟨by simp [h, h1], rfl⟩
    · go_wp2
      go_ret
      exact ⟨by simp [h1], rfl⟩
  · go_wp2
    go_ret
    exact ⟨by simp; omega, rfl⟩

/-- Good for Drift, but for its length. -/
abbrev GDr (n : Nat) (xs : Nat → Int) (a d s : Int) : Prop := Sig n xs ∧ Prt a ∧ Prt d ∧ 0 ≤ s ∧ s ≤ d - 1

/-- What Drift tells. -/
def drF (n : Nat) (xs : Nat → Int) (a d s : Int) (j : Nat) : Int := atV n xs (s + a * (j : Int)) d

theorem dr_step (s a : Int) (j : Nat) : s + a * (j : Int) + a = s + a * ((j + 1 : Nat) : Int) := by
  rw [Int.natCast_add, Int.mul_add]
  omega

set_option maxHeartbeats 4000000 in
theorem iDrift_run {w : World} {v : Value} {n : Nat} {xs : Nat → Int} {a d s : Int} (hv : Il w v n xs) (h : GDr n xs a d s) {K : Nat} (hK : K ≤ 512) (h2 : ∀ j : Nat, j < K → s + a * (j : Int) ≤ d * ((n : Int) - 1)) (h3 : ¬ s + a * (K : Int) ≤ d * ((n : Int) - 1)) :
    Calls Try.prog 8 #[v, .int .i64 a, .int .i64 d, .int .i64 s] w fun e w' => Pst w w' e K (drF n xs a d s) true := by
  obtain ⟨i0, hi, hz0, hz1, hz2⟩ := info_parts Try.info3
  obtain ⟨g1, g2, g3, g4, g5⟩ := h
  have h5 := g1.1
  have i1 := iSig_any hv (by omega)
  rw [decide_eq_true g1] at i1
  have i2 := iPrt_any a
  rw [decide_eq_true g2] at i2
  have i3 := iPrt_any d
  rw [decide_eq_true g3] at i3
  have lb := mul_in (a := (n : Int) - 1) (b := d) (A := 512) (B := 1000000) (by omega) (by omega) (by omega)
  rw [Int.mul_comm ((n : Int) - 1)] at lb
  obtain ⟨L, hL⟩ : ∃ L : Int, L = d * ((n : Int) - 1) := ⟨_, rfl⟩
  have HL : Hid (L = d * ((n : Int) - 1)) := hL
  have e0 : d * ((n : Int) - 1) = L := hL.symm
  rw [e0] at lb h2 h3
  have H2 : Hid (∀ j : Nat, j < K → s + a * (j : Int) ≤ L) := h2
  have HS : Hid (∀ k, k < n → Smp (xs k)) := g1.2
  have HV : Hid (Il w v n xs) := hv
  have OW : Hid ((w.alloc (.cells #[] 3)).ownsRow w.heap.size 3 1 (.slice (some ⟨w.heap.size, 0, none⟩) 0 0) 0 (ils (drF n xs a d s) 0)) := own_empty w 3 1
  have BL : Hid (Below w.heap.size w (w.alloc (.cells #[] 3))) := below_one _ _
  obtain ⟨ao, cap, rfl, hcap, hc⟩ := hv
  clear hc g1 h2 hL
  go_enter Try.func8, Try.ntmps8
  go_wp2_with (first
    | (go_at_call 18; (with_reducible refine (i1).mono ?_); rintro e w' ⟨rfl, hw⟩; obtain rfl := hw.symm)
    | (go_at_call 19; (with_reducible refine (i2 _).mono ?_); rintro e w' ⟨rfl, hw⟩; obtain rfl := hw.symm)
    | (go_at_call 19; (with_reducible refine (i3 _).mono ?_); rintro e w' ⟨rfl, hw⟩; obtain rfl := hw.symm))
  generalize w.alloc (.cells #[] 3) = W at *
  go_loopw [10, 11] (fun o i wr => ∃ j : Nat, ∃ T : Int, i = .int .i64 T ∧ j ≤ K ∧ Hid (T = s + a * (j : Int) ∧ (j < 512 ∨ True) ∧ wr.ownsRow w.heap.size 3 1 o j (ils (drF n xs a d s) j) ∧ Below w.heap.size w wr)) (fun _ i _ => (L + 1 - intOf i).toNat)
  case atStart => exact ⟨0, s, rfl, by omega, by omega, .inl (by omega), OW.out, BL.out⟩
  case round =>
    obtain ⟨j, T, rfl, hj, hrel⟩ := hrel
    have HT : Hid (T = s + a * (j : Int)) := hrel.out.1
    have hT0 := mul_in (a := (j : Int)) (b := a) (A := 512) (B := 1000000) (by omega) (by omega) (by omega)
    rw [Int.mul_comm (j : Int)] at hT0
    have hT : -1000000000 ≤ T ∧ T ≤ 1000000000 := by have := HT.out; omega
    clear hT0
    have HR : Hid (wr.ownsRow w.heap.size 3 1 u10 j (ils (drF n xs a d s) j) ∧ Below w.heap.size w wr) := hrel.out.2.2
    obtain ⟨so, sc, rfl, hsc, hcs⟩ := il_of_own hrel.out.2.2.1
    clear hcs hrel
    by_cases h1 : T ≤ L
    · have hj2 : j < K := by
        rcases Nat.lt_or_ge j K with h | h
        · exact h
        · obtain rfl : K = j := by omega
          have := HT.out; omega
      have i6 := betw_any (HV.out.below HR.out.2) h5 HS.out hT g3 (by rw [← HL.out]; exact h1)
      have hz : atV n xs T d = drF n xs a d s j := by rw [HT.out]; rfl
      rw [hz] at i6
      generalize hz2 : drF n xs a d s j = z at i6 hz
      have HZ : Hid (drF n xs a d s j = z) := hz2
      clear hz hz2
      go_wp2_with (first
        | (go_at_call 20; (with_reducible refine i6.mono ?_); rintro e w1 ⟨rfl, hb1⟩; have HO3 := own_below (own_below HR.out.1 hb1) (below_one w1 (.cells #[.int .i64 z] 3)); have HB3 := bstep (bstep HR.out.2 hb1) (below_one w1 (.cells #[.int .i64 z] 3)); clear hb1)
        | (at_builtin; refine wpList_append_own _ rfl _ _ 24 rfl w.heap.size 3 i0 (.int .i64 0) 1 8 Try.underlying24 hi hz0 hz1 hz2 rfl (by decide) _ _ _ rfl HO3 ⟨w1.heap.size, 0, none⟩ 1 1 [.int .i64 z] rfl rfl (one_new _ _ _) (by simp [Value.oneCell']) (by unfold maxLen; omega) (by omega) HB3.size ?_))
      intro v' w4 hown' hgrow _
      have HB4 : Hid (Below w.heap.size w w4) := grown_below HB3 (Nat.le_refl _) HO3 hgrow
      rw [← HZ.out, ← ils_snoc (drF n xs a d s) j] at hown'
      have HO4 : Hid (w4.ownsRow w.heap.size 3 1 v' (j + 1) (ils (drF n xs a d s) (j + 1))) := hown'
      clear hown' hgrow HB3 HO3
      go_wp2
      go_roundw
      case rel => exact ⟨j + 1, T + a, rfl, by omega, by rw [HT.out]; exact dr_step s a j, .inr trivial, HO4.out, HB4.out⟩
      case measure => simp [intOf]; omega
    · obtain rfl : K = j := by
        rcases Nat.lt_or_ge j K with h | h
        · exact absurd (by rw [HT.out]; exact H2.out j h) h1
        · omega
      go_wp2
      go_ret2
      exact ⟨_, rfl, HR.out.1, HR.out.2⟩

set_option maxHeartbeats 4000000 in
theorem iDrift_long {w : World} {v : Value} {n : Nat} {xs : Nat → Int} {a d s : Int} (hv : Il w v n xs) (h : GDr n xs a d s) (h2 : ∀ j : Nat, j ≤ 512 → s + a * (j : Int) ≤ d * ((n : Int) - 1)) (ys : Nat → Int) :
    Calls Try.prog 8 #[v, .int .i64 a, .int .i64 d, .int .i64 s] w fun e w' => Pst w w' e 0 ys false := by
  obtain ⟨i0, hi, hz0, hz1, hz2⟩ := info_parts Try.info3
  obtain ⟨g1, g2, g3, g4, g5⟩ := h
  have h5 := g1.1
  have i1 := iSig_any hv (by omega)
  rw [decide_eq_true g1] at i1
  have i2 := iPrt_any a
  rw [decide_eq_true g2] at i2
  have i3 := iPrt_any d
  rw [decide_eq_true g3] at i3
  have lb := mul_in (a := (n : Int) - 1) (b := d) (A := 512) (B := 1000000) (by omega) (by omega) (by omega)
  rw [Int.mul_comm ((n : Int) - 1)] at lb
  obtain ⟨L, hL⟩ : ∃ L : Int, L = d * ((n : Int) - 1) := ⟨_, rfl⟩
  have HL : Hid (L = d * ((n : Int) - 1)) := hL
  have e0 : d * ((n : Int) - 1) = L := hL.symm
  rw [e0] at lb h2
  have H2 : Hid (∀ j : Nat, j ≤ 512 → s + a * (j : Int) ≤ L) := h2
  have HS : Hid (∀ k, k < n → Smp (xs k)) := g1.2
  have HV : Hid (Il w v n xs) := hv
  have OW : Hid ((w.alloc (.cells #[] 3)).ownsRow w.heap.size 3 1 (.slice (some ⟨w.heap.size, 0, none⟩) 0 0) 0 (ils (drF n xs a d s) 0)) := own_empty w 3 1
  have BL : Hid (Below w.heap.size w (w.alloc (.cells #[] 3))) := below_one _ _
  obtain ⟨ao, cap, rfl, hcap, hc⟩ := hv
  clear hc g1 h2 hL
  go_enter Try.func8, Try.ntmps8
  go_wp2_with (first
    | (go_at_call 18; (with_reducible refine (i1).mono ?_); rintro e w' ⟨rfl, hw⟩; obtain rfl := hw.symm)
    | (go_at_call 19; (with_reducible refine (i2 _).mono ?_); rintro e w' ⟨rfl, hw⟩; obtain rfl := hw.symm)
    | (go_at_call 19; (with_reducible refine (i3 _).mono ?_); rintro e w' ⟨rfl, hw⟩; obtain rfl := hw.symm))
  generalize w.alloc (.cells #[] 3) = W at *
  go_loopw [10, 11] (fun o i wr => ∃ j : Nat, ∃ T : Int, i = .int .i64 T ∧ j ≤ 512 ∧ Hid (T = s + a * (j : Int) ∧ (j < 512 ∨ True) ∧ wr.ownsRow w.heap.size 3 1 o j (ils (drF n xs a d s) j) ∧ Below w.heap.size w wr)) (fun _ i _ => (L + 1 - intOf i).toNat)
  case atStart => exact ⟨0, s, rfl, by omega, by omega, .inl (by omega), OW.out, BL.out⟩
  case round =>
    obtain ⟨j, T, rfl, hj, hrel⟩ := hrel
    have HT : Hid (T = s + a * (j : Int)) := hrel.out.1
    have hT0 := mul_in (a := (j : Int)) (b := a) (A := 512) (B := 1000000) (by omega) (by omega) (by omega)
    rw [Int.mul_comm (j : Int)] at hT0
    have hT : -1000000000 ≤ T ∧ T ≤ 1000000000 := by have := HT.out; omega
    clear hT0
    have HR : Hid (wr.ownsRow w.heap.size 3 1 u10 j (ils (drF n xs a d s) j) ∧ Below w.heap.size w wr) := hrel.out.2.2
    obtain ⟨so, sc, rfl, hsc, hcs⟩ := il_of_own hrel.out.2.2.1
    clear hcs hrel
    have h1 : T ≤ L := by rw [HT.out]; exact H2.out j (by omega)
    by_cases hj2 : j < 512
    · have i6 := betw_any (HV.out.below HR.out.2) h5 HS.out hT g3 (by rw [← HL.out]; exact h1)
      have hz : atV n xs T d = drF n xs a d s j := by rw [HT.out]; rfl
      rw [hz] at i6
      generalize hz2 : drF n xs a d s j = z at i6 hz
      have HZ : Hid (drF n xs a d s j = z) := hz2
      clear hz hz2
      go_wp2_with (first
        | (go_at_call 20; (with_reducible refine i6.mono ?_); rintro e w1 ⟨rfl, hb1⟩; have HO3 := own_below (own_below HR.out.1 hb1) (below_one w1 (.cells #[.int .i64 z] 3)); have HB3 := bstep (bstep HR.out.2 hb1) (below_one w1 (.cells #[.int .i64 z] 3)); clear hb1)
        | (at_builtin; refine wpList_append_own _ rfl _ _ 24 rfl w.heap.size 3 i0 (.int .i64 0) 1 8 Try.underlying24 hi hz0 hz1 hz2 rfl (by decide) _ _ _ rfl HO3 ⟨w1.heap.size, 0, none⟩ 1 1 [.int .i64 z] rfl rfl (one_new _ _ _) (by simp [Value.oneCell']) (by unfold maxLen; omega) (by omega) HB3.size ?_))
      intro v' w4 hown' hgrow _
      have HB4 : Hid (Below w.heap.size w w4) := grown_below HB3 (Nat.le_refl _) HO3 hgrow
      rw [← HZ.out, ← ils_snoc (drF n xs a d s) j] at hown'
      have HO4 : Hid (w4.ownsRow w.heap.size 3 1 v' (j + 1) (ils (drF n xs a d s) (j + 1))) := hown'
      clear hown' hgrow HB3 HO3
      go_wp2
      go_roundw
      case rel => exact ⟨j + 1, T + a, rfl, by omega, by rw [HT.out]; exact dr_step s a j, .inr trivial, HO4.out, HB4.out⟩
      case measure => simp [intOf]; omega
    · obtain rfl : j = 512 := by omega
      have BW : Hid (Below w.heap.size w wr) := HR.out.2
      have HE : Hid ((wr.alloc (.cells #[] 3)).ownsRow w.heap.size 3 1 (.slice (some ⟨wr.heap.size, 0, none⟩) 0 0) 0 (ils ys 0) ∧ Below w.heap.size w (wr.alloc (.cells #[] 3))) := ⟨own_base (own_empty wr 3 1) HR.out.2.size, bstep HR.out.2 (below_one _ _)⟩
      clear HR
      go_wp2
      go_ret2
      exact ⟨_, rfl, HE.out.1, HE.out.2⟩

set_option maxHeartbeats 2000000 in
theorem iDrift_bad {w : World} {v : Value} {n : Nat} {xs : Nat → Int} {a d s : Int} (hv : Il w v n xs) (hn : n ≤ 1048576) (h : ¬ GDr n xs a d s) (ys : Nat → Int) :
    Calls Try.prog 8 #[v, .int .i64 a, .int .i64 d, .int .i64 s] w fun e w' => Pst w w' e 0 ys false := by
  have i1 := iSig_any hv hn
  have i2 := iPrt_any a
  have i3 := iPrt_any d
  obtain ⟨ao, cap, rfl, hcap, hc⟩ := hv
  clear hc
  by_cases c1 : Sig n xs
  · rw [decide_eq_true c1] at i1
    by_cases c2 : Prt a
    · rw [decide_eq_true c2] at i2
      by_cases c3 : Prt d
      · rw [decide_eq_true c3] at i3
        by_cases c4 : 0 ≤ s
        · skip
          have c5 : ¬ (s ≤ d - 1) := fun c5 => h ⟨c1, c2, c3, c4, c5⟩
          clear h c1
          go_enter Try.func8, Try.ntmps8
          go_wp2_with (first | (go_at_call 18; (with_reducible refine (i1).mono ?_); rintro e w' ⟨rfl, hw⟩; obtain rfl := hw.symm) | (go_at_call 19; (with_reducible refine (i2 _).mono ?_); rintro e w' ⟨rfl, hw⟩; obtain rfl := hw.symm) | (go_at_call 19; (with_reducible refine (i3 _).mono ?_); rintro e w' ⟨rfl, hw⟩; obtain rfl := hw.symm))
          go_ret2
          exact ⟨_, rfl, own_empty w 3 1, below_one _ _⟩
        · skip
          clear h c1
          go_enter Try.func8, Try.ntmps8
          go_wp2_with (first | (go_at_call 18; (with_reducible refine (i1).mono ?_); rintro e w' ⟨rfl, hw⟩; obtain rfl := hw.symm) | (go_at_call 19; (with_reducible refine (i2 _).mono ?_); rintro e w' ⟨rfl, hw⟩; obtain rfl := hw.symm) | (go_at_call 19; (with_reducible refine (i3 _).mono ?_); rintro e w' ⟨rfl, hw⟩; obtain rfl := hw.symm))
          go_ret2
          exact ⟨_, rfl, own_empty w 3 1, below_one _ _⟩
      · rw [decide_eq_false c3] at i3
        clear h c1
        go_enter Try.func8, Try.ntmps8
        go_wp2_with (first | (go_at_call 18; (with_reducible refine (i1).mono ?_); rintro e w' ⟨rfl, hw⟩; obtain rfl := hw.symm) | (go_at_call 19; (with_reducible refine (i2 _).mono ?_); rintro e w' ⟨rfl, hw⟩; obtain rfl := hw.symm) | (go_at_call 19; (with_reducible refine (i3 _).mono ?_); rintro e w' ⟨rfl, hw⟩; obtain rfl := hw.symm))
        go_ret2
        exact ⟨_, rfl, own_empty w 3 1, below_one _ _⟩
    · rw [decide_eq_false c2] at i2
      clear h c1
      clear i3
      go_enter Try.func8, Try.ntmps8
      go_wp2_with (first | (go_at_call 18; (with_reducible refine (i1).mono ?_); rintro e w' ⟨rfl, hw⟩; obtain rfl := hw.symm) | (go_at_call 19; (with_reducible refine (i2 _).mono ?_); rintro e w' ⟨rfl, hw⟩; obtain rfl := hw.symm))
      go_ret2
      exact ⟨_, rfl, own_empty w 3 1, below_one _ _⟩
  · rw [decide_eq_false c1] at i1
    clear h c1
    clear i2 i3
    go_enter Try.func8, Try.ntmps8
    go_wp2_with (first | (go_at_call 18; (with_reducible refine (i1).mono ?_); rintro e w' ⟨rfl, hw⟩; obtain rfl := hw.symm))
    go_ret2
    exact ⟨_, rfl, own_empty w 3 1, below_one _ _⟩
end Go.Proofs.Ytpgoagomhcfinaa
