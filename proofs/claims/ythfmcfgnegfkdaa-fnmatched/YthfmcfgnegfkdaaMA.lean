/- Matches in plain numbers; where they are; the model. -/
import Derived.Test.YthfmcfgnegfkdaaWA
import Derived.Test.YthfmcfgnegfkdaaMK
namespace Go.Proofs.Ythfmcfgnegfkdaa
open Go.RowKit

/-- What is told: a list in memory of the call's own, and a bool. -/
def Pst (w w' : World) (e : Ending) (N : Nat) (ys : Nat → Int) (ok : Bool) : Prop := ∃ u, e = .returned (.tuple #[u, .bool ok]) ∧ w'.ownsRow w.heap.size 3 1 u N (ils ys N) ∧ Below w.heap.size w w'

/-- A match at place i, as far as the number k. -/
def dsm (ps xs : Nat → Int) (i : Nat) : Nat → Int
  | 0 => 0
  | k + 1 => dsm ps xs i k + ps k * xs (i + k)

theorem mul_tap {a b : Int} (ha : -1000000 ≤ a ∧ a ≤ 1000000) (hb : -1000000 ≤ b ∧ b ≤ 1000000) : -1000000000000 ≤ a * b ∧ a * b ≤ 1000000000000 := by
  have h1 : a.natAbs * b.natAbs ≤ 1000000 * 1000000 := Nat.mul_le_mul (by omega) (by omega)
  rw [← Int.natAbs_mul] at h1
  omega

theorem dsm_in {ps xs : Nat → Int} {n m i : Nat} (hp : Wth 1000000 m ps) (hx : Wth 1000000 n xs) : ∀ k, k ≤ m → i + k ≤ n → -1000000000000 * (k : Int) ≤ dsm ps xs i k ∧ dsm ps xs i k ≤ 1000000000000 * (k : Int)
  | 0, _, _ => by simp [dsm]
  | k + 1, h1, h2 => by
    have h3 := dsm_in hp hx (i := i) k (by omega) (by omega)
    have h4 := mul_tap (hp k (by omega)) (hx (i + k) (by omega))
    rw [dsm]
    omega

/-- Numbers that can be taps. -/
abbrev Mod (n : Nat) (xs : Nat → Int) : Prop := Sig n xs ∧ Wth 1000000 n xs

/-- A list and a pattern that fits into it. -/
abbrev GM (n : Nat) (xs : Nat → Int) (m : Nat) (ps : Nat → Int) : Prop := Mod n xs ∧ Mod m ps ∧ 1 ≤ m ∧ m ≤ n

theorem modest_any {w : World} {v : Value} {n : Nat} {xs : Nat → Int} (hv : Il w v n xs) (hn : n ≤ 1048576) : Calls Try.prog 26 #[v] w fun e w' => e = .returned (.bool (decide (Mod n xs))) ∧ w' = w := by
  have i1 := iSig_any hv hn
  have i2 := iWth_any (M := 1000000) hv hn (by omega)
  obtain ⟨d, hd⟩ : ∃ d, d = decide (Mod n xs) := ⟨_, rfl⟩
  rw [← hd]
  obtain ⟨ao, cap, rfl, hcap, hc⟩ := hv
  clear hc
  by_cases h1 : Sig n xs
  · rw [decide_eq_true h1] at i1
    by_cases h2 : Wth 1000000 n xs
    · rw [decide_eq_true h2] at i2
      obtain rfl : d = true := by rw [hd]; exact decide_eq_true ⟨h1, h2⟩
      clear hd h1 h2
      go_enter Try.func26, Try.ntmps26
      go_wp2_with (first | (go_at_call 21; (with_reducible refine (i1).mono ?_); rintro e w' ⟨rfl, hw⟩; obtain rfl := hw.symm) | (go_at_call 32; (with_reducible refine (i2).mono ?_); rintro e w' ⟨rfl, hw⟩; obtain rfl := hw.symm))
      go_ret
      exact ⟨rfl, rfl⟩
    · rw [decide_eq_false h2] at i2
      obtain rfl : d = false := by rw [hd]; exact decide_eq_false (fun h => h2 h.2)
      clear hd h1 h2
      go_enter Try.func26, Try.ntmps26
      go_wp2_with (first | (go_at_call 21; (with_reducible refine (i1).mono ?_); rintro e w' ⟨rfl, hw⟩; obtain rfl := hw.symm) | (go_at_call 32; (with_reducible refine (i2).mono ?_); rintro e w' ⟨rfl, hw⟩; obtain rfl := hw.symm))
      go_ret
      exact ⟨rfl, rfl⟩
  · rw [decide_eq_false h1] at i1
    obtain rfl : d = false := by rw [hd]; exact decide_eq_false (fun h => h1 h.1)
    clear hd h1
    go_enter Try.func26, Try.ntmps26
    go_wp2_with (first | (go_at_call 21; (with_reducible refine (i1).mono ?_); rintro e w' ⟨rfl, hw⟩; obtain rfl := hw.symm) | (go_at_call 32; (with_reducible refine (i2).mono ?_); rintro e w' ⟨rfl, hw⟩; obtain rfl := hw.symm))
    go_ret
    exact ⟨rfl, rfl⟩

set_option maxHeartbeats 2000000 in
theorem places_any {w : World} {v u : Value} {n m : Nat} {xs ps : Nat → Int} (hv : Il w v n xs) (hu : Il w u m ps) (hn : n ≤ 1048576) (hm : m ≤ 1048576) : Calls Try.prog 16 #[v, u] w fun e w' => e = .returned (.bool (decide (GM n xs m ps))) ∧ w' = w := by
  have i1 := modest_any hv hn
  have i2 := modest_any hu hm
  obtain ⟨d, hd⟩ : ∃ d, d = decide (GM n xs m ps) := ⟨_, rfl⟩
  rw [← hd]
  obtain ⟨ao, cap, rfl, hcap, hc⟩ := hv
  obtain ⟨bo, cap2, rfl, hcap2, hc2⟩ := hu
  clear hc hc2
  by_cases h1 : Mod n xs
  · rw [decide_eq_true h1] at i1
    by_cases h2 : Mod m ps
    · rw [decide_eq_true h2] at i2
      by_cases h3 : 1 ≤ m
      · by_cases h4 : m ≤ n
        · obtain rfl : d = true := by rw [hd]; exact decide_eq_true ⟨h1, h2, h3, h4⟩
          clear hd
          go_enter Try.func16, Try.ntmps16
          go_wp2_with (first | (go_at_call 26; (with_reducible refine (i1).mono ?_); rintro e w' ⟨rfl, hw⟩; obtain rfl := hw.symm) | (go_at_call 26; (with_reducible refine (i2).mono ?_); rintro e w' ⟨rfl, hw⟩; obtain rfl := hw.symm))
          go_ret
          exact ⟨rfl, rfl⟩
        · obtain rfl : d = false := by rw [hd]; exact decide_eq_false (fun h => h4 h.2.2.2)
          clear hd
          go_enter Try.func16, Try.ntmps16
          go_wp2_with (first | (go_at_call 26; (with_reducible refine (i1).mono ?_); rintro e w' ⟨rfl, hw⟩; obtain rfl := hw.symm) | (go_at_call 26; (with_reducible refine (i2).mono ?_); rintro e w' ⟨rfl, hw⟩; obtain rfl := hw.symm))
          go_ret
          exact ⟨rfl, rfl⟩
      · obtain rfl : d = false := by rw [hd]; exact decide_eq_false (fun h => h3 h.2.2.1)
        clear hd
        go_enter Try.func16, Try.ntmps16
        go_wp2_with (first | (go_at_call 26; (with_reducible refine (i1).mono ?_); rintro e w' ⟨rfl, hw⟩; obtain rfl := hw.symm) | (go_at_call 26; (with_reducible refine (i2).mono ?_); rintro e w' ⟨rfl, hw⟩; obtain rfl := hw.symm))
        go_ret
        exact ⟨rfl, rfl⟩
    · rw [decide_eq_false h2] at i2
      obtain rfl : d = false := by rw [hd]; exact decide_eq_false (fun h => h2 h.2.1)
      clear hd
      go_enter Try.func16, Try.ntmps16
      go_wp2_with (first | (go_at_call 26; (with_reducible refine (i1).mono ?_); rintro e w' ⟨rfl, hw⟩; obtain rfl := hw.symm) | (go_at_call 26; (with_reducible refine (i2).mono ?_); rintro e w' ⟨rfl, hw⟩; obtain rfl := hw.symm))
      go_ret
      exact ⟨rfl, rfl⟩
  · rw [decide_eq_false h1] at i1
    obtain rfl : d = false := by rw [hd]; exact decide_eq_false (fun h => h1 h.1)
    clear hd
    go_enter Try.func16, Try.ntmps16
    go_wp2_with (first | (go_at_call 26; (with_reducible refine (i1).mono ?_); rintro e w' ⟨rfl, hw⟩; obtain rfl := hw.symm) | (go_at_call 26; (with_reducible refine (i2).mono ?_); rintro e w' ⟨rfl, hw⟩; obtain rfl := hw.symm))
    go_ret
    exact ⟨rfl, rfl⟩

set_option maxHeartbeats 8000000 in
theorem sMatch_good {w : World} {v u : Value} {n m : Nat} {xs ps : Nat → Int} (hv : Il w v n xs) (hu : Il w u m ps) (h : GM n xs m ps) :
    Calls Try.prog 7 #[v, u] w fun e w' => Pst w w' e (n - m + 1) (fun i => dsm ps xs i m) true := by
  obtain ⟨i0, hi, hz0, hz1, hz2⟩ := info_parts Try.info3
  obtain ⟨⟨h1, h2⟩, ⟨h3, h4⟩, h5, h6⟩ := h
  have h7 := h1.1
  have hb0 := below_one w (.cells #[] 3)
  have i1 := sSig_any (hv.below hb0) (by omega)
  rw [decide_eq_true h1] at i1
  have i2 := sSig_any (hu.below hb0) (by omega)
  rw [decide_eq_true h3] at i2
  have i3 := sWth_any (M := 1000000) (hv.below hb0) (by omega) (by omega)
  rw [decide_eq_true h2] at i3
  have i4 := sWth_any (M := 1000000) (hu.below hb0) (by omega) (by omega)
  rw [decide_eq_true h4] at i4
  have HX : Hid (Wth 1000000 n xs) := h2
  have HQ : Hid (Wth 1000000 m ps) := h4
  have OW : Hid ((w.alloc (.cells #[] 3)).ownsRow w.heap.size 3 1 (.slice (some ⟨w.heap.size, 0, none⟩) 0 0) 0 (ils (fun i => dsm ps xs i m) 0)) := own_empty w 3 1
  have BL : Hid (Below w.heap.size w (w.alloc (.cells #[] 3))) := hb0
  obtain ⟨ao, cap, rfl, hcap, hc⟩ := hv
  have HC : Hid (0 < n → ∃ b off, ao = some ⟨b, off, none⟩ ∧ b < w.heap.size ∧ ∀ k, k < n → w.cell? ⟨b, off + k, none⟩ = some (.int .i64 (xs k))) := hc
  obtain ⟨bo, cap2, rfl, hcap2, hc2⟩ := hu
  have HC2 : Hid (0 < m → ∃ b off, bo = some ⟨b, off, none⟩ ∧ b < w.heap.size ∧ ∀ k, k < m → w.cell? ⟨b, off + k, none⟩ = some (.int .i64 (ps k))) := hc2
  clear hc hc2 h1 h2 h3 h4 hb0
  have e0 : ((m : Int) == 0) = false := by simp; omega
  have e1 : decide ((n : Int) < (m : Int)) = false := by simp; omega
  have e2 : (m == 0) = false := by simp; omega
  have e3 : decide (n < m) = false := by simp; omega
  go_enter Try.func7, Try.ntmps7
  go_wp2_with (first | (go_at_call 18; (with_reducible refine (i1).mono ?_); rintro e w' ⟨rfl, hw⟩; obtain rfl := hw.symm) | (go_at_call 18; (with_reducible refine (i2).mono ?_); rintro e w' ⟨rfl, hw⟩; obtain rfl := hw.symm) | (go_at_call 19; (with_reducible refine (i3).mono ?_); rintro e w' ⟨rfl, hw⟩; obtain rfl := hw.symm) | (go_at_call 19; (with_reducible refine (i4).mono ?_); rintro e w' ⟨rfl, hw⟩; obtain rfl := hw.symm))
  clear i1 i2 i3 i4 e0 e1 e2 e3
  generalize w.alloc (.cells #[] 3) = W at *
  go_loopw [6, 7, 8, 9] (fun o i _ _ wr => ∃ k : Nat, i = .int .i64 k ∧ k + m ≤ n + 1 ∧ Hid (wr.ownsRow w.heap.size 3 1 o k (ils (fun i => dsm ps xs i m) k) ∧ Below w.heap.size w wr)) (fun _ i _ _ _ => n + 1 - (intOf i).toNat)
  case atStart => exact ⟨0, rfl, by omega, OW.out, BL.out⟩
  case round =>
    obtain ⟨i, rfl, hin, hrel⟩ := hrel
    by_cases h1 : i + m ≤ n
    · obtain ⟨b, off, rfl, hlt, hcell⟩ := HC.out (by omega)
      obtain ⟨b2, off2, rfl, hlt2, hcell2⟩ := HC2.out (by omega)
      have CX : Hid (b < w.heap.size ∧ ∀ k, k < n → w.cell? ⟨b, off + k, none⟩ = some (.int .i64 (xs k))) := ⟨hlt, hcell⟩
      have CP : Hid (b2 < w.heap.size ∧ ∀ k, k < m → w.cell? ⟨b2, off2 + k, none⟩ = some (.int .i64 (ps k))) := ⟨hlt2, hcell2⟩
      clear hlt hcell hlt2 hcell2
      have RR : Hid (wr.ownsRow w.heap.size 3 1 u6 i (ils (fun i => dsm ps xs i m) i)) := hrel.out.1
      have RB : Hid (Below w.heap.size w wr) := hrel.out.2
      clear hrel
      go_upto_region 9 with fail
      go_loopw [8, 9] (fun s j wx => ∃ (k : Nat) (z : Int), j = .int .i64 k ∧ s = .int .i64 z ∧ k ≤ m ∧ Hid (z = dsm ps xs i k ∧ Below wr.heap.size wr wx)) (fun _ j _ => m - (intOf j).toNat)
      case atStart => exact ⟨0, 0, rfl, rfl, by omega, rfl, Below.refl _ _⟩
      case round =>
        rename World => V
        obtain ⟨k, z, rfl, rfl, hk, hrel⟩ := hrel
        have BV : Hid (Below w.heap.size w V) := bstep RB.out hrel.out.2
        by_cases h3 : k < m
        · have d1 := (BV.out.cell (p := ⟨b2, off2 + k, none⟩) CP.out.1).trans (CP.out.2 k h3)
          have d2 := (BV.out.cell (p := ⟨b, off + (i + k), none⟩) CX.out.1).trans (CX.out.2 (i + k) (by omega))
          have e3 : off + ((i : Int) + (k : Int)).toNat = off + (i + k) := by omega
          have f1 := dsm_in HQ.out HX.out (i := i) k (by omega) (by omega)
          have f2 := mul_tap (HQ.out k h3) (HX.out (i + k) (by omega))
          rw [← hrel.out.1] at f1
          have FN : Hid (dsm ps xs i (k + 1) = z + ps k * xs (i + k)) := by show dsm ps xs i (k + 1) = _; rw [dsm, ← hrel.out.1]
          have HB : Hid (Below wr.heap.size wr V) := hrel.out.2
          obtain ⟨x, hx⟩ : ∃ x, x = xs (i + k) := ⟨_, rfl⟩
          obtain ⟨y, hy⟩ : ∃ y, y = ps k := ⟨_, rfl⟩
          rw [← hx] at d2 f2 FN
          rw [← hy] at d1 f2 FN
          clear hrel hx hy
          obtain ⟨t, ht⟩ : ∃ t, y * x = t := ⟨_, rfl⟩
          rw [ht] at f2 FN
          go_wp2_with (go_quiet (fail))
          go_roundw
          case rel => exact ⟨k + 1, z + t, by go_num, rfl, by omega, FN.out.symm, below_drewN HB.out _⟩
          case measure => simp [intOf]; omega
        · obtain rfl : m = k := by omega
          have ZE : Hid (z = dsm ps xs i m) := hrel.out.1
          have hb3 := below_one V (.cells #[.int .i64 z] 3)
          have HO3 := own_below (own_below RR.out hrel.out.2) hb3
          have HB3 := bstep BV.out hb3
          clear hb3 hrel
          go_wp2_with (first | (at_builtin; refine wpList_append_own _ rfl _ _ 24 rfl w.heap.size 3 i0 (.int .i64 0) 1 8 Try.underlying24 hi hz0 hz1 hz2 rfl (by decide) _ _ _ rfl HO3 ⟨V.heap.size, 0, none⟩ 1 1 [.int .i64 z] rfl rfl (one_new _ _ _) (by simp [Value.oneCell']) (by unfold maxLen; omega) (by omega) HB3.size ?_))
          intro v' w4 hown' hgrow _
          have HB4 : Hid (Below w.heap.size w w4) := grown_below HB3 (Nat.le_refl _) HO3 hgrow
          rw [ZE.out, ← ils_snoc (fun i => dsm ps xs i m) i] at hown'
          have HO4 : Hid (w4.ownsRow w.heap.size 3 1 v' (i + 1) (ils (fun i => dsm ps xs i m) (i + 1))) := hown'
          clear hown' hgrow HB3 HO3
          go_wp2
          go_roundw
          case rel => exact ⟨i + 1, by go_num, by omega, HO4.out, HB4.out⟩
          case measure => simp [intOf]; omega
    · have e : i = n - m + 1 := by omega
      have HF : Hid (wr.ownsRow w.heap.size 3 1 u6 (n - m + 1) (ils (fun i => dsm ps xs i m) (n - m + 1)) ∧ Below w.heap.size w wr) := by
        show _ ∧ _
        rw [← e]; exact hrel.out
      clear hrel e
      go_wp2
      go_ret2
      exact ⟨_, rfl, HF.out⟩

set_option maxHeartbeats 8000000 in
theorem sMatch_bad {w : World} {v u : Value} {n m : Nat} {xs ps : Nat → Int} (hv : Il w v n xs) (hu : Il w u m ps) (hn : n ≤ 1048576) (hm : m ≤ 1048576) (h : ¬ GM n xs m ps) (ys : Nat → Int) :
    Calls Try.prog 7 #[v, u] w fun e w' => Pst w w' e 0 ys false := by
  have hb0 := below_one w (.cells #[] 3)
  have i1 := sSig_any (hv.below hb0) hn
  have i2 := sSig_any (hu.below hb0) hm
  have i3 := sWth_any (M := 1000000) (hv.below hb0) hn (by omega)
  have i4 := sWth_any (M := 1000000) (hu.below hb0) hm (by omega)
  have OW : Hid ((w.alloc (.cells #[] 3)).ownsRow w.heap.size 3 1 (.slice (some ⟨w.heap.size, 0, none⟩) 0 0) 0 (ils ys 0)) := own_empty w 3 1
  have BL : Hid (Below w.heap.size w (w.alloc (.cells #[] 3))) := hb0
  obtain ⟨ao, cap, rfl, hcap, hc⟩ := hv
  obtain ⟨bo, cap2, rfl, hcap2, hc2⟩ := hu
  clear hc hc2 hb0
  by_cases h1 : Sig n xs
  · rw [decide_eq_true h1] at i1
    by_cases h2 : Sig m ps
    · rw [decide_eq_true h2] at i2
      by_cases h5 : m = 0
      · subst h5
        clear h
        go_enter Try.func7, Try.ntmps7
        go_wp2_with (first | (go_at_call 18; (with_reducible refine (i1).mono ?_); rintro e w' ⟨rfl, hw⟩; obtain rfl := hw.symm) | (go_at_call 18; (with_reducible refine (i2).mono ?_); rintro e w' ⟨rfl, hw⟩; obtain rfl := hw.symm) | (go_at_call 19; (with_reducible refine (i3).mono ?_); rintro e w' ⟨rfl, hw⟩; obtain rfl := hw.symm) | (go_at_call 19; (with_reducible refine (i4).mono ?_); rintro e w' ⟨rfl, hw⟩; obtain rfl := hw.symm))
        go_ret2
        exact ⟨_, rfl, OW.out, BL.out⟩
      · by_cases h6 : n < m
        · clear h
          go_enter Try.func7, Try.ntmps7
          go_wp2_with (first | (go_at_call 18; (with_reducible refine (i1).mono ?_); rintro e w' ⟨rfl, hw⟩; obtain rfl := hw.symm) | (go_at_call 18; (with_reducible refine (i2).mono ?_); rintro e w' ⟨rfl, hw⟩; obtain rfl := hw.symm) | (go_at_call 19; (with_reducible refine (i3).mono ?_); rintro e w' ⟨rfl, hw⟩; obtain rfl := hw.symm) | (go_at_call 19; (with_reducible refine (i4).mono ?_); rintro e w' ⟨rfl, hw⟩; obtain rfl := hw.symm))
          go_ret2
          exact ⟨_, rfl, OW.out, BL.out⟩
        · by_cases h3 : Wth 1000000 n xs
          · rw [decide_eq_true h3] at i3
            rw [decide_eq_false (fun h4 => h ⟨⟨h1, h3⟩, ⟨h2, h4⟩, by omega, by omega⟩)] at i4
            clear h
            go_enter Try.func7, Try.ntmps7
            go_wp2_with (first | (go_at_call 18; (with_reducible refine (i1).mono ?_); rintro e w' ⟨rfl, hw⟩; obtain rfl := hw.symm) | (go_at_call 18; (with_reducible refine (i2).mono ?_); rintro e w' ⟨rfl, hw⟩; obtain rfl := hw.symm) | (go_at_call 19; (with_reducible refine (i3).mono ?_); rintro e w' ⟨rfl, hw⟩; obtain rfl := hw.symm) | (go_at_call 19; (with_reducible refine (i4).mono ?_); rintro e w' ⟨rfl, hw⟩; obtain rfl := hw.symm))
            go_ret2
            exact ⟨_, rfl, OW.out, BL.out⟩
          · rw [decide_eq_false h3] at i3
            clear h
            go_enter Try.func7, Try.ntmps7
            go_wp2_with (first | (go_at_call 18; (with_reducible refine (i1).mono ?_); rintro e w' ⟨rfl, hw⟩; obtain rfl := hw.symm) | (go_at_call 18; (with_reducible refine (i2).mono ?_); rintro e w' ⟨rfl, hw⟩; obtain rfl := hw.symm) | (go_at_call 19; (with_reducible refine (i3).mono ?_); rintro e w' ⟨rfl, hw⟩; obtain rfl := hw.symm) | (go_at_call 19; (with_reducible refine (i4).mono ?_); rintro e w' ⟨rfl, hw⟩; obtain rfl := hw.symm))
            go_ret2
            exact ⟨_, rfl, OW.out, BL.out⟩
    · rw [decide_eq_false h2] at i2
      clear h
      go_enter Try.func7, Try.ntmps7
      go_wp2_with (first | (go_at_call 18; (with_reducible refine (i1).mono ?_); rintro e w' ⟨rfl, hw⟩; obtain rfl := hw.symm) | (go_at_call 18; (with_reducible refine (i2).mono ?_); rintro e w' ⟨rfl, hw⟩; obtain rfl := hw.symm) | (go_at_call 19; (with_reducible refine (i3).mono ?_); rintro e w' ⟨rfl, hw⟩; obtain rfl := hw.symm) | (go_at_call 19; (with_reducible refine (i4).mono ?_); rintro e w' ⟨rfl, hw⟩; obtain rfl := hw.symm))
      go_ret2
      exact ⟨_, rfl, OW.out, BL.out⟩
  · rw [decide_eq_false h1] at i1
    clear h
    go_enter Try.func7, Try.ntmps7
    go_wp2_with (first | (go_at_call 18; (with_reducible refine (i1).mono ?_); rintro e w' ⟨rfl, hw⟩; obtain rfl := hw.symm) | (go_at_call 18; (with_reducible refine (i2).mono ?_); rintro e w' ⟨rfl, hw⟩; obtain rfl := hw.symm) | (go_at_call 19; (with_reducible refine (i3).mono ?_); rintro e w' ⟨rfl, hw⟩; obtain rfl := hw.symm) | (go_at_call 19; (with_reducible refine (i4).mono ?_); rintro e w' ⟨rfl, hw⟩; obtain rfl := hw.symm))
    go_ret2
    exact ⟨_, rfl, OW.out, BL.out⟩
end Go.Proofs.Ythfmcfgnegfkdaa
