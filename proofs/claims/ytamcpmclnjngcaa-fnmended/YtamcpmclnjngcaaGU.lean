/- The signs of a word, by the document. -/
import Derived.Test.YtamcpmclnjngcaaGS
import Derived.Test.YtamcpmclnjngcaaAW
namespace Go.Proofs.Ytamcpmclnjngcaa
open Go.RowKit

set_option maxRecDepth 20000 in
set_option maxHeartbeats 1000000 in
theorem sPow_any {k : Nat} (hk : k ≤ 100000) (w : World) : Calls Try.prog 46 #[.int .i64 (k : Int)] w fun e w' => e = .returned (.int .i64 ((gpw k : Nat) : Int)) ∧ w' = w := by
  obtain ⟨z, hz9⟩ : ∃ z, z = gpw k := ⟨_, rfl⟩
  have HZ : Hid (z = gpw (k % 255)) := by rw [hz9]; exact (gpw_mod k).symm
  rw [← hz9]
  clear hz9
  obtain ⟨r, hr⟩ : ∃ r, r = k % 255 := ⟨_, rfl⟩
  rw [← hr] at HZ
  have e1 : (k : Int) % 255 = (r : Int) := by omega
  have e2 : (k : Int).tmod 255 = (r : Int) := by rw [Int.tmod_eq_emod_of_nonneg (by omega)]; omega
  clear hr
  go_enter Try.func46, Try.ntmps46
  go_wp2
  go_loopw [3, 4] (fun pv iv wr => ∃ i p : Nat, iv = .int .i64 (i : Int) ∧ pv = .int .i64 (p : Int) ∧ i ≤ r ∧ p < 256 ∧ wr = w ∧ Hid (p = gpw i)) (fun _ iv _ => r - (intOf iv).toNat)
  case atStart => exact ⟨0, 1, rfl, rfl, by omega, by omega, rfl, rfl⟩
  case round =>
    obtain ⟨i, p, rfl, rfl, hi, hp, rfl, hrel⟩ := hrel
    by_cases h1 : i < r
    · have i1 : ∀ w, Calls Try.prog 19 #[.int .i64 (p : Int), .int .i64 2] w fun e w' => e = .returned (.int .i64 ((gm p 2 : Nat) : Int)) ∧ w' = w := sMul_yes (b := 2) hp (by omega)
      have HN : Hid (gm p 2 = gpw (i + 1)) := by rw [hrel.out, gpw_succ]; exact rfl
      have hg := gm_lt hp 2
      generalize gm p 2 = q at *
      clear hrel
      go_wp2_with (first | (go_at_call 19; (with_reducible refine (i1 _).mono ?_); rintro e w' ⟨rfl, hw⟩; obtain rfl := hw.symm))
      go_roundw
      case rel => exact ⟨i + 1, q, by go_num, rfl, by omega, hg, by trivial, HN.out⟩
      case measure => simp [intOf]; omega
    · obtain rfl : r = i := by omega
      obtain rfl : p = z := hrel.out.trans HZ.out.symm
      go_wp2
      go_ret
      exact ⟨rfl, rfl⟩

theorem sMend_any (t : Int) (w : World) : Calls Try.prog 44 #[.int .i64 t] w fun e w' => e = .returned (.bool (decide (1 ≤ t ∧ t ≤ 8))) ∧ w' = w := by
  have i1 := in_any t 1 8
  generalize decide (1 ≤ t ∧ t ≤ 8) = d at *
  go_enter Try.func44, Try.ntmps44
  go_wp2_with (first | (go_at_call 45; (with_reducible refine (i1 _).mono ?_); rintro e w' ⟨rfl, hw⟩; obtain rfl := hw.symm))
  go_ret
  exact ⟨rfl, rfl⟩

theorem sWord_any {w : World} {v : Value} {n : Nat} {xs : Nat → Int} {t : Int} (hv : Bl w v n xs) : Calls Try.prog 37 #[v, .int .i64 t] w fun e w' => e = .returned (.bool (decide (Bk (n : Int) t))) ∧ w' = w := by
  have i1 := sMend_any t
  obtain ⟨ao, cap, rfl, hcap, hc⟩ := hv
  clear hc
  obtain ⟨d, hd⟩ : ∃ d, d = decide (Bk (n : Int) t) := ⟨_, rfl⟩
  rw [← hd]
  have HD : Hid (d = decide (Bk (n : Int) t)) := hd
  clear hd
  by_cases h1 : 1 ≤ t ∧ t ≤ 8
  · rw [decide_eq_true h1] at i1
    have i2 := in_any (n : Int) (2 * t + 1) 255
    obtain ⟨x, hx⟩ : ∃ x, x = decide (2 * t + 1 ≤ (n : Int) ∧ (n : Int) ≤ 255) := ⟨_, rfl⟩
    rw [← hx] at i2
    have HX : Hid (x = decide (2 * t + 1 ≤ (n : Int) ∧ (n : Int) ≤ 255)) := hx
    clear hx
    go_enter Try.func37, Try.ntmps37
    go_wp2_with (first | (go_at_call 44; (with_reducible refine (i1 _).mono ?_); rintro e w' ⟨rfl, hw⟩; obtain rfl := hw.symm) | (go_at_call 45; (with_reducible refine (i2 _).mono ?_); rintro e w' ⟨rfl, hw⟩; obtain rfl := hw.symm))
    go_ret
    refine ⟨congrArg (fun z => Ending.returned (.bool z)) ?_, rfl⟩
    rw [HD.out, HX.out]
    exact decide_eq_decide.2 ⟨fun h => ⟨h1, by omega, by omega⟩, fun h => by have := h.2; omega⟩
  · rw [decide_eq_false h1] at i1
    have H1 : Hid (¬ (1 ≤ t ∧ t ≤ 8)) := h1
    clear h1
    go_enter Try.func37, Try.ntmps37
    go_wp2_with (first | (go_at_call 44; (with_reducible refine (i1 _).mono ?_); rintro e w' ⟨rfl, hw⟩; obtain rfl := hw.symm))
    go_ret
    refine ⟨congrArg (fun z => Ending.returned (.bool z)) ?_, rfl⟩
    rw [HD.out]
    exact (decide_eq_false (fun h => H1.out h.1)).symm

def syi (n : Nat) (g : Nat → Nat) (j : Nat) : Int := ((syn n g j : Nat) : Int)

/-- No sign up to j is other than 0. -/
def cln (n : Nat) (g : Nat → Nat) : Nat → Bool
  | 0 => true
  | j + 1 => cln n g j && decide (syn n g j = 0)
theorem cln_iff (n : Nat) (g : Nat → Nat) : ∀ j, cln n g j = true ↔ ∀ i, i < j → syn n g i = 0
  | 0 => ⟨fun _ i hi => by omega, fun _ => rfl⟩
  | j + 1 => by
    rw [cln, Bool.and_eq_true, cln_iff n g j, decide_eq_true_iff]
    refine ⟨fun h i hi => ?_, fun h => ⟨fun i hi => h i (by omega), h j (by omega)⟩⟩
    by_cases e : i = j
    · subst e; exact h.2
    · exact h.1 i (by omega)

set_option maxRecDepth 20000 in
set_option maxHeartbeats 4000000 in
theorem signs_any {w : World} {v : Value} {n t : Nat} {xs : Nat → Int} (hv : Bl w v n xs) (hb : Byt n xs) (hn : n ≤ 1048576) (ht : t ≤ 8) : Calls Try.prog 38 #[v, .int .i64 (t : Int)] w fun e w' => ∃ u, e = .returned (.tuple #[u, .bool (cln n (nb n xs) (2 * t))]) ∧ w'.ownsRow w.heap.size 3 1 u (2 * t) (ils (syi n (nb n xs)) (2 * t)) ∧ Below w.heap.size w w' := by
  obtain ⟨i0, hi, hz0, hz1, hz2⟩ := info_parts Try.info3
  have HY : Hid (Byt n xs) := hb
  have HG : Hid (∀ k, nb n xs k < 256) := nb_lt hb
  obtain ⟨R, hR⟩ : ∃ R, R = cln n (nb n xs) (2 * t) := ⟨_, rfl⟩
  rw [← hR]
  have HR : Hid (R = cln n (nb n xs) (2 * t)) := hR
  clear hR
  have OW : Hid ((w.alloc (.cells #[] 3)).ownsRow w.heap.size 3 1 (.slice (some ⟨w.heap.size, 0, none⟩) 0 0) 0 (ils (syi n (nb n xs)) 0)) := own_empty w 3 1
  have BL : Hid (Below w.heap.size w (w.alloc (.cells #[] 3))) := below_one _ _
  obtain ⟨ao, cap, rfl, hcap, hc⟩ := hv
  have HC : Hid (0 < n → ∃ b off, ao = some ⟨b, off, none⟩ ∧ b < w.heap.size ∧ ∀ k, k < n → w.cell? ⟨b, off + k, none⟩ = some (.int .u8 (xs k))) := hc
  clear hc hb
  go_enter Try.func38, Try.ntmps38
  go_wp2
  generalize w.alloc (.cells #[] 3) = W at *
  go_loopw [6, 7, 8, 9, 10, 11] (fun o cl iv _ _ _ wr => ∃ j : Nat, ∃ d : Bool, iv = .int .i64 (j : Int) ∧ cl = .bool d ∧ j ≤ 2 * t ∧ Hid (d = cln n (nb n xs) j ∧ wr.ownsRow w.heap.size 3 1 o j (ils (syi n (nb n xs)) j) ∧ Below w.heap.size w wr)) (fun _ _ iv _ _ _ _ => 2 * t - (intOf iv).toNat)
  case atStart => exact ⟨0, true, rfl, rfl, by omega, rfl, OW.out, BL.out⟩
  case round =>
    obtain ⟨j, d, rfl, rfl, hj, hrel⟩ := hrel
    by_cases h1 : j < 2 * t
    · have i1 := sPow_any (k := j) (by omega)
      have hp := gpw_lt j
      obtain ⟨p, hp9⟩ : ∃ p, p = gpw j := ⟨_, rfl⟩
      rw [← hp9] at i1 hp
      have HP : Hid (p = gpw j) := hp9
      have HO : Hid _ := hrel.out.2.1
      have HB : Hid (Below w.heap.size w wr) := hrel.out.2.2
      have HD : Hid (d = cln n (nb n xs) j) := hrel.out.1
      clear hp9 hrel
      go_wp2_with (first | (go_at_call 46; (with_reducible refine (i1 _).mono ?_); rintro e w' ⟨rfl, hw⟩; obtain rfl := hw.symm))
      clear i1
      go_loopw [10, 11] (fun sv iv wq => ∃ i s : Nat, iv = .int .i64 (i : Int) ∧ sv = .int .i64 (s : Int) ∧ i ≤ n ∧ s < 256 ∧ Hid (s = hz (nb n xs) p i ∧ Below wr.heap.size wr wq)) (fun _ iv _ => n - (intOf iv).toNat)
      case atStart => exact ⟨0, 0, rfl, rfl, by omega, by omega, rfl, Below.refl _ _⟩
      case round =>
        obtain ⟨i, s, rfl, rfl, hi9, hs, hrel⟩ := hrel
        by_cases h2 : i < n
        · obtain ⟨b, off, rfl, hlt, hcell⟩ := HC.out (by omega)
          have c := ((bstep HB.out hrel.out.2).cell (p := ⟨b, off + i, none⟩) hlt).trans (hcell i h2)
          rw [nb_at HY.out h2] at c
          have i2 := sMul_yes hs hp
          have hg := gm_lt hs p
          have hy := nb_lt HY.out i
          have HN : Hid (gm s p ^^^ nb n xs i = hz (nb n xs) p (i + 1)) := by rw [hrel.out.1]; exact rfl
          have HB2 : Hid _ := hrel.out.2
          generalize gm s p = q at *
          generalize nb n xs i = y at *
          have xo := xor_nat (a := q) (b := y) (by omega) (by omega)
          have hl := xor_lt8 hg hy
          generalize (q ^^^ y) = r at *
          clear hrel hcell
          go_wp2_with (go_quiet ((go_at_call 19; with_reducible exact Calls.quiet_of_same (i2 _))))
          go_roundw
          case rel => exact ⟨i + 1, r, by go_num, rfl, by omega, hl, HN.out, below_drewN HB2.out _⟩
          case measure => simp [intOf]; omega
        · obtain rfl : n = i := by omega
          have HS : Hid (s = syn n (nb n xs) j) := by unfold syn; rw [← HP.out]; exact hrel.out.1
          have HO2 := own_below HO.out hrel.out.2
          have HB2 := bstep HB.out hrel.out.2
          have HZ : Hid ((s : Int) = (syi n (nb n xs)) j) := by show (s : Int) = _; rw [HS.out]; rfl
          clear hrel HO HB
          by_cases h3 : s = 0
          · have HD2 : Hid (d = cln n (nb n xs) (j + 1)) := by show d = _; rw [cln, ← HD.out, ← HS.out, decide_eq_true h3, Bool.and_true]
            have h4 : ((s : Int) == 0) = true := by rw [h3]; rfl
            clear h3
            cases d with
            | true =>
              have hb3 := below_one wr (.cells #[.int .i64 (s : Int)] 3)
              have HO3 := own_below HO2 hb3
              have HB3 := bstep HB2 hb3
              clear hb3
              go_wp2_with (first | (at_builtin; refine wpList_append_own _ rfl _ _ 24 rfl w.heap.size 3 i0 (.int .i64 0) 1 8 Try.underlying24 hi hz0 hz1 hz2 rfl (by decide) _ _ _ rfl HO3 ⟨wr.heap.size, 0, none⟩ 1 1 [.int .i64 (s : Int)] rfl rfl (one_new _ _ _) (by simp [Value.oneCell']) (by unfold maxLen; omega) (by omega) HB3.size ?_))
              intro v' w4 hown' hgrow _
              have HB4 : Hid (Below w.heap.size w w4) := grown_below HB3 (Nat.le_refl _) HO3 hgrow
              rw [show Value.int .i64 (s : Int) = .int .i64 (syi n (nb n xs) j) from congrArg _ HZ.out, ← ils_snoc (syi n (nb n xs)) j] at hown'
              have HO4 : Hid (w4.ownsRow w.heap.size 3 1 v' (j + 1) (ils (syi n (nb n xs)) (j + 1))) := hown'
              clear hown' hgrow HB3 HO3
              go_wp2
              go_roundw
              case rel => exact ⟨j + 1, true, by go_num, rfl, by omega, HD2.out, HO4.out, HB4.out⟩
              case measure => simp [intOf]; omega
            | false =>
              have hb3 := below_one wr (.cells #[.int .i64 (s : Int)] 3)
              have HO3 := own_below HO2 hb3
              have HB3 := bstep HB2 hb3
              clear hb3
              go_wp2_with (first | (at_builtin; refine wpList_append_own _ rfl _ _ 24 rfl w.heap.size 3 i0 (.int .i64 0) 1 8 Try.underlying24 hi hz0 hz1 hz2 rfl (by decide) _ _ _ rfl HO3 ⟨wr.heap.size, 0, none⟩ 1 1 [.int .i64 (s : Int)] rfl rfl (one_new _ _ _) (by simp [Value.oneCell']) (by unfold maxLen; omega) (by omega) HB3.size ?_))
              intro v' w4 hown' hgrow _
              have HB4 : Hid (Below w.heap.size w w4) := grown_below HB3 (Nat.le_refl _) HO3 hgrow
              rw [show Value.int .i64 (s : Int) = .int .i64 (syi n (nb n xs) j) from congrArg _ HZ.out, ← ils_snoc (syi n (nb n xs)) j] at hown'
              have HO4 : Hid (w4.ownsRow w.heap.size 3 1 v' (j + 1) (ils (syi n (nb n xs)) (j + 1))) := hown'
              clear hown' hgrow HB3 HO3
              go_wp2
              go_roundw
              case rel => exact ⟨j + 1, false, by go_num, rfl, by omega, HD2.out, HO4.out, HB4.out⟩
              case measure => simp [intOf]; omega
          · have HD2 : Hid (false = cln n (nb n xs) (j + 1)) := by show false = _; rw [cln, ← HS.out, decide_eq_false h3, Bool.and_false]
            have h4 : ((s : Int) == 0) = false := by simp only [beq_eq_false_iff_ne]; omega
            clear h3
            cases d with
            | true =>
              have hb3 := below_one wr (.cells #[.int .i64 (s : Int)] 3)
              have HO3 := own_below HO2 hb3
              have HB3 := bstep HB2 hb3
              clear hb3
              go_wp2_with (first | (at_builtin; refine wpList_append_own _ rfl _ _ 24 rfl w.heap.size 3 i0 (.int .i64 0) 1 8 Try.underlying24 hi hz0 hz1 hz2 rfl (by decide) _ _ _ rfl HO3 ⟨wr.heap.size, 0, none⟩ 1 1 [.int .i64 (s : Int)] rfl rfl (one_new _ _ _) (by simp [Value.oneCell']) (by unfold maxLen; omega) (by omega) HB3.size ?_))
              intro v' w4 hown' hgrow _
              have HB4 : Hid (Below w.heap.size w w4) := grown_below HB3 (Nat.le_refl _) HO3 hgrow
              rw [show Value.int .i64 (s : Int) = .int .i64 (syi n (nb n xs) j) from congrArg _ HZ.out, ← ils_snoc (syi n (nb n xs)) j] at hown'
              have HO4 : Hid (w4.ownsRow w.heap.size 3 1 v' (j + 1) (ils (syi n (nb n xs)) (j + 1))) := hown'
              clear hown' hgrow HB3 HO3
              go_wp2
              go_roundw
              case rel => exact ⟨j + 1, false, by go_num, rfl, by omega, HD2.out, HO4.out, HB4.out⟩
              case measure => simp [intOf]; omega
            | false =>
              have hb3 := below_one wr (.cells #[.int .i64 (s : Int)] 3)
              have HO3 := own_below HO2 hb3
              have HB3 := bstep HB2 hb3
              clear hb3
              go_wp2_with (first | (at_builtin; refine wpList_append_own _ rfl _ _ 24 rfl w.heap.size 3 i0 (.int .i64 0) 1 8 Try.underlying24 hi hz0 hz1 hz2 rfl (by decide) _ _ _ rfl HO3 ⟨wr.heap.size, 0, none⟩ 1 1 [.int .i64 (s : Int)] rfl rfl (one_new _ _ _) (by simp [Value.oneCell']) (by unfold maxLen; omega) (by omega) HB3.size ?_))
              intro v' w4 hown' hgrow _
              have HB4 : Hid (Below w.heap.size w w4) := grown_below HB3 (Nat.le_refl _) HO3 hgrow
              rw [show Value.int .i64 (s : Int) = .int .i64 (syi n (nb n xs) j) from congrArg _ HZ.out, ← ils_snoc (syi n (nb n xs)) j] at hown'
              have HO4 : Hid (w4.ownsRow w.heap.size 3 1 v' (j + 1) (ils (syi n (nb n xs)) (j + 1))) := hown'
              clear hown' hgrow HB3 HO3
              go_wp2
              go_roundw
              case rel => exact ⟨j + 1, false, by go_num, rfl, by omega, HD2.out, HO4.out, HB4.out⟩
              case measure => simp [intOf]; omega
    · obtain rfl : j = 2 * t := by omega
      obtain rfl : d = R := hrel.out.1.trans HR.out.symm
      go_wp2
      go_ret2
      exact ⟨_, rfl, hrel.out.2.1, hrel.out.2.2⟩
end Go.Proofs.Ytamcpmclnjngcaa
