/- Tone. -/
import Derived.Test.YtkfmmabamiommaaW4
import Derived.Test.YtkfmmabamiommaaW6
namespace Go.Proofs.Ytkfmmabamiommaa
open Go.RowKit

/-- What is told: a list in memory of the call's own, and a bool. -/
def Pst (w w' : World) (e : Ending) (N : Nat) (ys : Nat → Int) (ok : Bool) : Prop := ∃ u, e = .returned (.tuple #[u, .bool ok]) ∧ w'.ownsRow w.heap.size 3 1 u N (ils ys N) ∧ Below w.heap.size w w'

/-- Good for Tone. -/
abbrev GT (st ph sz n : Int) : Prop := (0 ≤ n ∧ n ≤ 512) ∧ (0 ≤ sz ∧ sz ≤ 1000000000) ∧ Smp st ∧ Smp ph

/-- A sample of a tone. -/
def tnv (st ph sz : Int) (k : Nat) : Int := rdV (sz * cosv (ph + k * st)) 1073741824

set_option maxRecDepth 20000 in
set_option maxHeartbeats 2000000 in
theorem sTone_good {st ph sz : Int} {n : Nat} (hg : GT st ph sz n) (w : World) : Calls Try.prog 13 #[.int .i64 st, .int .i64 ph, .int .i64 sz, .int .i64 n] w fun e w' => Pst w w' e n (tnv st ph sz) true := by
  obtain ⟨i0, hi, hz0, hz1, hz2⟩ := info_parts Try.info3
  obtain ⟨⟨hn0, hn1⟩, hsz, hst, hph⟩ := hg
  have i1 := in_any n 0 512
  have i2 := in_any sz 0 1000000000
  have i3 := sSmp_any st
  have i4 := sSmp_any ph
  rw [decide_eq_true ⟨hn0, hn1⟩] at i1
  rw [decide_eq_true hsz] at i2
  rw [decide_eq_true hst] at i3
  rw [decide_eq_true hph] at i4
  have i5 := all_own
  go_enter Try.func13, Try.ntmps13
  go_wp2_with (first | (go_at_call 30; (with_reducible refine (i1 _).mono ?_); rintro e w' ⟨rfl, hw⟩; obtain rfl := hw.symm) | (go_at_call 30; (with_reducible refine (i2 _).mono ?_); rintro e w' ⟨rfl, hw⟩; obtain rfl := hw.symm) | (go_at_call 31; (with_reducible refine (i3 _).mono ?_); rintro e w' ⟨rfl, hw⟩; obtain rfl := hw.symm) | (go_at_call 31; (with_reducible refine (i4 _).mono ?_); rintro e w' ⟨rfl, hw⟩; obtain rfl := hw.symm) | (go_at_call 26; (refine (i5 _).mono ?_); rintro e w1 ⟨v1, rfl, hv1, hb1⟩; have F1 : Hid (w1.ownsRow w.heap.size 3 1 v1 65 (ils ct 65)) := own_base hv1 (by simp); have A1 : Hid (Apart v1 (.slice (some ⟨w.heap.size, 0, none⟩) 0 0)) := apart_base hv1 (g := w.heap.size) rfl (by simp); have O1 : Hid (w1.ownsRow w.heap.size 3 1 (.slice (some ⟨w.heap.size, 0, none⟩) 0 0) 0 []) := own_below (own_empty w 3 1) hb1; have B1 : Hid (Below w.heap.size w w1) := bstep (below_one _ _) hb1; clear hv1 hb1))
  go_loopw [10, 12] (fun o i wr => ∃ k : Nat, i = .int .i64 k ∧ k ≤ n ∧ Hid (wr.ownsRow w.heap.size 3 1 o k (ils (tnv st ph sz) k) ∧ Below w.heap.size w wr ∧ wr.ownsRow w.heap.size 3 1 v1 65 (ils ct 65) ∧ Apart v1 o)) (fun _ i _ => n - (intOf i).toNat)
  case atStart => exact ⟨0, rfl, by omega, O1.out, B1.out, F1.out, A1.out⟩
  case round =>
    obtain ⟨k, rfl, hk, hrel⟩ := hrel
    by_cases h1 : k < n
    · have hb3 := below_one wr (.cells #[.int .i64 (tnv st ph sz k)] 3)
      have HO3 := own_below hrel.out.1 hb3
      have HB3 := bstep hrel.out.2.1 hb3
      have HF3 := own_below hrel.out.2.2.1 hb3
      clear hb3
      have IL := il_of_own hrel.out.2.2.1
      have m1 := mul_bounds (x := (k : Int)) (c := st) (A := 512) (B := 1000000000) (by decide) ⟨by omega, by omega⟩ hst
      have i6 := at_any IL (ph + k * st)
      have m2 := mul_bounds (x := sz) (c := cosv (ph + k * st)) (A := 1000000000) (B := 1073741824) (by decide) ⟨by omega, by omega⟩ (cosv_bounds _)
      have i7 := sRound_any (sz * cosv (ph + k * st)) 1073741824
      have e7 : rdV (sz * cosv (ph + k * st)) 1073741824 = tnv st ph sz k := rfl
      rw [e7] at i7
      clear e7
      generalize cosv (ph + k * st) = c at i6 i7 m2
      clear IL
      go_wp2_with (first | (go_at_call 25; (with_reducible refine (i6).mono ?_); rintro e w' ⟨rfl, hw⟩; obtain rfl := hw.symm) | (go_at_call 32; (with_reducible refine (i7 _).mono ?_); rintro e w' ⟨rfl, hw⟩; obtain rfl := hw.symm) | (at_builtin; refine wpList_app _ rfl _ _ 24 rfl w.heap.size 3 i0 (.int .i64 0) 1 8 Try.underlying24 hi hz0 hz1 hz2 rfl (by decide) _ _ _ rfl HO3 ⟨wr.heap.size, 0, none⟩ 1 1 [.int .i64 (tnv st ph sz k)] rfl rfl (one_new _ _ _) (by simp [Value.oneCell']) (by unfold maxLen; omega) (by omega) HB3.size (by decide) ?_))
      intro v' w4 hown' hgrow hkeep
      have HA4 : Hid (Apart v1 v') := apart_app HF3 hrel.out.2.2.2 (hkeep.elim (fun h => .inl h) (fun h => .inr (by simpa using h.1)))
      have HF4 : Hid (w4.ownsRow w.heap.size 3 1 v1 65 (ils ct 65)) := World.ownsRow.kept HF3 hgrow hrel.out.2.2.2
      have HB4 : Hid (Below w.heap.size w w4) := grown_below HB3 (Nat.le_refl _) HO3 hgrow
      rw [← ils_snoc (tnv st ph sz) k] at hown'
      have HO4 : Hid (w4.ownsRow w.heap.size 3 1 v' (k + 1) (ils (tnv st ph sz) (k + 1))) := hown'
      clear hown' hgrow HB3 HO3 HF3 hkeep
      go_wp2
      go_roundw
      case rel => exact ⟨k + 1, by go_num, by omega, HO4.out, HB4.out, HF4.out, HA4.out⟩
      case measure => simp [intOf]; omega
    · obtain rfl : k = n := by omega
      go_wp2
      go_ret2
      exact ⟨_, rfl, hrel.out.1, hrel.out.2.1⟩

set_option maxRecDepth 20000 in
set_option maxHeartbeats 2000000 in
theorem iTone_good {st ph sz : Int} {n : Nat} (hg : GT st ph sz n) (w : World) : Calls Try.prog 14 #[.int .i64 st, .int .i64 ph, .int .i64 sz, .int .i64 n] w fun e w' => Pst w w' e n (tnv st ph sz) true := by
  obtain ⟨i0, hi, hz0, hz1, hz2⟩ := info_parts Try.info3
  obtain ⟨⟨hn0, hn1⟩, hsz, hst, hph⟩ := hg
  have i3 := iSmp_any st
  have i4 := iSmp_any ph
  rw [decide_eq_true hst] at i3
  rw [decide_eq_true hph] at i4
  have hn2 : n ≤ 512 := by omega
  obtain ⟨w1, hm, hrow, hgr⟩ := run_makeSlice_full (P := Try.prog) w w.heap.size 24 3 i0 (.int .i64 0) 1 Try.underlying24 hi hz0 hz1 .i64 .i64 n (by omega) (by rw [hz2]; omega) (by unfold maxLen; omega) (Nat.le_refl _)
  have hbl : Below w.heap.size w w1 := (Below.refl _ _).grown hgr (Nat.le_refl _) (fun _ h => by cases h)
  generalize hL : (madeCells (Value.int .i64 0).cells (n * 1)).toList = L at hrow
  have hLn : L.length = n := by rw [← hL, Array.length_toList, size_madeCells, Nat.mul_one]
  clear hL hgr hi hz0 hz1 hz2
  have HR : Hid (w1.ownsRow w.heap.size 3 1 (.slice (some ⟨w.heap.size, 0, none⟩) n n) n L) := hrow
  have HB : Hid (Below w.heap.size w w1) := hbl
  clear hrow hbl
  go_enter Try.func14, Try.ntmps14
  go_wp2_with (first | (go_at_call 33; (with_reducible refine (i3 _).mono ?_); rintro e w' ⟨rfl, hw⟩; obtain rfl := hw.symm) | (go_at_call 33; (with_reducible refine (i4 _).mono ?_); rintro e w' ⟨rfl, hw⟩; obtain rfl := hw.symm))
  go_loopw [11, 40] (fun _ i wr => ∃ k : Nat, i = .int .i64 k ∧ k ≤ n ∧ Hid (wr.ownsRow w.heap.size 3 1 (.slice (some ⟨w.heap.size, 0, none⟩) n n) n (ils (tnv st ph sz) k ++ L.drop k) ∧ Below w.heap.size w wr)) (fun _ i _ => n - (intOf i).toNat)
  case atStart => exact ⟨0, rfl, by omega, HR.out, HB.out⟩
  case round =>
    obtain ⟨k, rfl, hk, hrel⟩ := hrel
    by_cases h1 : k < n
    · have HR2 : Hid (wr.ownsRow w.heap.size 3 1 (.slice (some ⟨w.heap.size, 0, none⟩) n n) n (ils (tnv st ph sz) k ++ L.drop k)) := hrel.out.1
      have HB2 : Hid (Below w.heap.size w wr) := hrel.out.2
      clear hrel
      have m1 := mul_bounds (x := (k : Int)) (c := st) (A := 512) (B := 1000000000) (by decide) ⟨by omega, by omega⟩ hst
      have i6 := iCos_any (ph + k * st)
      have m2 := mul_bounds (x := sz) (c := cosv (ph + k * st)) (A := 1000000000) (B := 1073741824) (by decide) ⟨by omega, by omega⟩ (cosv_bounds _)
      have i7 := iRound_any (sz * cosv (ph + k * st)) 1073741824
      have e7 : rdV (sz * cosv (ph + k * st)) 1073741824 = tnv st ph sz k := rfl
      rw [e7] at i7
      clear e7
      generalize cosv (ph + k * st) = c at i6 i7 m2
      go_wp2_with (first | (go_at_call 10; (with_reducible refine (i6 _).mono ?_); rintro e w2 ⟨rfl, hb2⟩; have O3 : Hid (w2.ownsRow w.heap.size 3 1 (.slice (some ⟨w.heap.size, 0, none⟩) n n) n (ils (tnv st ph sz) k ++ L.drop k)) := own_below HR2.out hb2; have B3 : Hid (Below w.heap.size w w2) := bstep HB2.out hb2; clear hb2) | (go_at_call 34; (with_reducible refine (i7 _).mono ?_); rintro e w3 ⟨rfl, hb3⟩; have O4 : Hid (w3.ownsRow w.heap.size 3 1 (.slice (some ⟨w.heap.size, 0, none⟩) n n) n (ils (tnv st ph sz) k ++ L.drop k)) := own_below O3.out hb3; have B4 : Hid (Below w.heap.size w w3) := bstep B3.out hb3; clear hb3; have hfz := O4.out.frozenAt k; have hst := O4.out.stored k (.int .i64 (tnv st ph sz k)); have hce := O4.out.cellAt k (by omega); rw [List.getElem?_append_right (by rw [ils_length]; exact Nat.le_refl _), ils_length, Nat.sub_self, List.getElem?_drop, Nat.add_zero, List.getElem?_eq_getElem (by omega)] at hce; rw [ils_set (tnv st ph sz) k L (by omega)] at hst; have HS : Hid _ := hst; clear hst; generalize L[k]'(by omega) = u at hce))
      go_roundw
      case rel => exact ⟨k + 1, by go_num, by omega, HS.out.1, B4.out.setCell (Nat.le_refl _) _⟩
      case measure => simp [intOf]; omega
    · obtain rfl : n = k := by omega
      obtain ⟨hrow, hbl⟩ := hrel.out
      rw [List.drop_eq_nil_of_le (by omega), List.append_nil] at hrow
      have HR2 : Hid (wr.ownsRow w.heap.size 3 1 (.slice (some ⟨w.heap.size, 0, none⟩) n n) n (ils (tnv st ph sz) n)) := hrow
      clear hrow hrel
      go_wp2
      go_ret2
      exact ⟨_, rfl, HR2.out, hbl⟩

set_option maxRecDepth 20000 in
set_option maxHeartbeats 1000000 in
theorem sTone_bad {st ph sz n : Int} (hg : ¬ GT st ph sz n) (w : World) : Calls Try.prog 13 #[.int .i64 st, .int .i64 ph, .int .i64 sz, .int .i64 n] w fun e w' => ∀ zs, Pst w w' e 0 zs false := by
  refine Calls.mono (R := fun e w' => Pst w w' e 0 (fun _ => 0) false) ?_ (fun e w' h zs => h)
  have i1 := in_any n 0 512
  have i2 := in_any sz 0 1000000000
  have i3 := sSmp_any st
  have i4 := sSmp_any ph
  by_cases h1 : 0 ≤ n ∧ n ≤ 512
  · rw [decide_eq_true h1] at i1
    by_cases h2 : 0 ≤ sz ∧ sz ≤ 1000000000
    · rw [decide_eq_true h2] at i2
      by_cases h3 : Smp st
      · rw [decide_eq_true h3] at i3
        have h4 : ¬ Smp ph := fun h => hg ⟨h1, h2, h3, h⟩
        rw [decide_eq_false h4] at i4
        clear h1 h2 h3 h4 hg
        go_enter Try.func13, Try.ntmps13
        go_wp2_with (first | (go_at_call 30; (with_reducible refine (i1 _).mono ?_); rintro e w' ⟨rfl, hw⟩; obtain rfl := hw.symm) | (go_at_call 30; (with_reducible refine (i2 _).mono ?_); rintro e w' ⟨rfl, hw⟩; obtain rfl := hw.symm) | (go_at_call 31; (with_reducible refine (i3 _).mono ?_); rintro e w' ⟨rfl, hw⟩; obtain rfl := hw.symm) | (go_at_call 31; (with_reducible refine (i4 _).mono ?_); rintro e w' ⟨rfl, hw⟩; obtain rfl := hw.symm))
        go_ret2
        exact ⟨_, rfl, own_empty w 3 1, below_one _ _⟩
      · rw [decide_eq_false h3] at i3
        clear h1 h2 h3 hg i4
        go_enter Try.func13, Try.ntmps13
        go_wp2_with (first | (go_at_call 30; (with_reducible refine (i1 _).mono ?_); rintro e w' ⟨rfl, hw⟩; obtain rfl := hw.symm) | (go_at_call 30; (with_reducible refine (i2 _).mono ?_); rintro e w' ⟨rfl, hw⟩; obtain rfl := hw.symm) | (go_at_call 31; (with_reducible refine (i3 _).mono ?_); rintro e w' ⟨rfl, hw⟩; obtain rfl := hw.symm) | (go_at_call 31; (with_reducible refine (i4 _).mono ?_); rintro e w' ⟨rfl, hw⟩; obtain rfl := hw.symm))
        go_ret2
        exact ⟨_, rfl, own_empty w 3 1, below_one _ _⟩
    · rw [decide_eq_false h2] at i2
      clear h1 h2 hg i3 i4
      go_enter Try.func13, Try.ntmps13
      go_wp2_with (first | (go_at_call 30; (with_reducible refine (i1 _).mono ?_); rintro e w' ⟨rfl, hw⟩; obtain rfl := hw.symm) | (go_at_call 30; (with_reducible refine (i2 _).mono ?_); rintro e w' ⟨rfl, hw⟩; obtain rfl := hw.symm) | (go_at_call 31; (with_reducible refine (i3 _).mono ?_); rintro e w' ⟨rfl, hw⟩; obtain rfl := hw.symm) | (go_at_call 31; (with_reducible refine (i4 _).mono ?_); rintro e w' ⟨rfl, hw⟩; obtain rfl := hw.symm))
      go_ret2
      exact ⟨_, rfl, own_empty w 3 1, below_one _ _⟩
  · rw [decide_eq_false h1] at i1
    clear h1 hg i2 i3 i4
    go_enter Try.func13, Try.ntmps13
    go_wp2_with (first | (go_at_call 30; (with_reducible refine (i1 _).mono ?_); rintro e w' ⟨rfl, hw⟩; obtain rfl := hw.symm) | (go_at_call 30; (with_reducible refine (i2 _).mono ?_); rintro e w' ⟨rfl, hw⟩; obtain rfl := hw.symm) | (go_at_call 31; (with_reducible refine (i3 _).mono ?_); rintro e w' ⟨rfl, hw⟩; obtain rfl := hw.symm) | (go_at_call 31; (with_reducible refine (i4 _).mono ?_); rintro e w' ⟨rfl, hw⟩; obtain rfl := hw.symm))
    go_ret2
    exact ⟨_, rfl, own_empty w 3 1, below_one _ _⟩
set_option maxRecDepth 20000 in
set_option maxHeartbeats 1000000 in
theorem iTone_bad {st ph sz n : Int} (hg : ¬ GT st ph sz n) (w : World) : Calls Try.prog 14 #[.int .i64 st, .int .i64 ph, .int .i64 sz, .int .i64 n] w fun e w' => ∀ zs, Pst w w' e 0 zs false := by
  refine Calls.mono (R := fun e w' => Pst w w' e 0 (fun _ => 0) false) ?_ (fun e w' h zs => h)
  have i3 := iSmp_any st
  have i4 := iSmp_any ph
  by_cases h0 : n < 0
  · clear hg i3 i4
    go_enter Try.func14, Try.ntmps14
    go_wp2_with (first | (go_at_call 33; (with_reducible refine (i3 _).mono ?_); rintro e w' ⟨rfl, hw⟩; obtain rfl := hw.symm) | (go_at_call 33; (with_reducible refine (i4 _).mono ?_); rintro e w' ⟨rfl, hw⟩; obtain rfl := hw.symm))
    go_ret2
    exact ⟨_, rfl, own_empty w 3 1, below_one _ _⟩
  by_cases h1 : 512 < n
  · clear hg i3 i4
    go_enter Try.func14, Try.ntmps14
    go_wp2_with (first | (go_at_call 33; (with_reducible refine (i3 _).mono ?_); rintro e w' ⟨rfl, hw⟩; obtain rfl := hw.symm) | (go_at_call 33; (with_reducible refine (i4 _).mono ?_); rintro e w' ⟨rfl, hw⟩; obtain rfl := hw.symm))
    go_ret2
    exact ⟨_, rfl, own_empty w 3 1, below_one _ _⟩
  by_cases h2 : sz < 0
  · clear hg i3 i4
    go_enter Try.func14, Try.ntmps14
    go_wp2_with (first | (go_at_call 33; (with_reducible refine (i3 _).mono ?_); rintro e w' ⟨rfl, hw⟩; obtain rfl := hw.symm) | (go_at_call 33; (with_reducible refine (i4 _).mono ?_); rintro e w' ⟨rfl, hw⟩; obtain rfl := hw.symm))
    go_ret2
    exact ⟨_, rfl, own_empty w 3 1, below_one _ _⟩
  by_cases h3 : 1000000000 < sz
  · clear hg i3 i4
    go_enter Try.func14, Try.ntmps14
    go_wp2_with (first | (go_at_call 33; (with_reducible refine (i3 _).mono ?_); rintro e w' ⟨rfl, hw⟩; obtain rfl := hw.symm) | (go_at_call 33; (with_reducible refine (i4 _).mono ?_); rintro e w' ⟨rfl, hw⟩; obtain rfl := hw.symm))
    go_ret2
    exact ⟨_, rfl, own_empty w 3 1, below_one _ _⟩
  by_cases h4 : Smp st
  · rw [decide_eq_true h4] at i3
    have h5 : ¬ Smp ph := fun h => hg ⟨⟨by omega, by omega⟩, ⟨by omega, by omega⟩, h4, h⟩
    rw [decide_eq_false h5] at i4
    clear h4 h5 hg
    go_enter Try.func14, Try.ntmps14
    go_wp2_with (first | (go_at_call 33; (with_reducible refine (i3 _).mono ?_); rintro e w' ⟨rfl, hw⟩; obtain rfl := hw.symm) | (go_at_call 33; (with_reducible refine (i4 _).mono ?_); rintro e w' ⟨rfl, hw⟩; obtain rfl := hw.symm))
    go_ret2
    exact ⟨_, rfl, own_empty w 3 1, below_one _ _⟩
  · rw [decide_eq_false h4] at i3
    clear h4 hg i4
    go_enter Try.func14, Try.ntmps14
    go_wp2_with (first | (go_at_call 33; (with_reducible refine (i3 _).mono ?_); rintro e w' ⟨rfl, hw⟩; obtain rfl := hw.symm) | (go_at_call 33; (with_reducible refine (i4 _).mono ?_); rintro e w' ⟨rfl, hw⟩; obtain rfl := hw.symm))
    go_ret2
    exact ⟨_, rfl, own_empty w 3 1, below_one _ _⟩
set_option maxHeartbeats 4000000 in
theorem tone_of {w : World} {st ph sz n : Int} (N : Nat) (hN : N ≤ 1048576) (zs : Nat → Int) (ok : Bool)
    (hs : ∀ W, Calls Try.prog 13 #[.int .i64 st, .int .i64 ph, .int .i64 sz, .int .i64 n] W fun e w' => Pst W w' e N zs ok)
    (hi : ∀ W, Calls Try.prog 14 #[.int .i64 st, .int .i64 ph, .int .i64 sz, .int .i64 n] W fun e w' => Pst W w' e N zs ok) :
    Calls Try.prog 5 #[.int .i64 st, .int .i64 ph, .int .i64 sz, .int .i64 n] w fun e w' => e = .returned (.bool true) ∧ Below w.heap.size w w' := by
  have HS : Hid (∀ W, Calls Try.prog 13 #[.int .i64 st, .int .i64 ph, .int .i64 sz, .int .i64 n] W fun e w' => Pst W w' e N zs ok) := hs
  have HI : Hid (∀ W, Calls Try.prog 14 #[.int .i64 st, .int .i64 ph, .int .i64 sz, .int .i64 n] W fun e w' => Pst W w' e N zs ok) := hi
  clear hs hi
  go_enter Try.func5, Try.ntmps5
  go_wp2_with (first
    | (go_at_call 13; (fail_if_success have := M1); refine (HS.out _).mono ?_; rintro e w1 ⟨u0, rfl, ho1, hb1⟩; have M1 : Hid True := trivial; have FW : Hid (Il w1 u0 N zs) := il_of_own ho1; have B1 : Hid (Below w.heap.size w w1) := hb1; clear ho1 hb1)
    | (go_at_call 14; have Z := M1; (fail_if_success have := M2); refine (HI.out _).mono ?_; rintro e w2 ⟨g0, rfl, ho2, hb2⟩; have M2 : Hid True := trivial; have OG : Hid (w2.ownsRow w1.heap.size 3 1 g0 N (ils zs N)) := ho2; have B2 : Hid (Below w.heap.size w w2) := bstep B1.out hb2; have D2 : Hid (Below w1.heap.size w1 w2) := hb2; clear ho2 hb2)
    | (go_at_call 15; have Z := M2; (fail_if_success have := M3); refine (eq_yes (il_of_own OG.out) (Il.below FW.out D2.out) hN).mono ?_; rintro e w3 ⟨rfl, hb3⟩; have M3 : Hid True := trivial; have OG3 : Hid (w3.ownsRow w1.heap.size 3 1 g0 N (ils zs N)) := own_below OG.out hb3; have B3 : Hid (Below w.heap.size w w3) := bstep B2.out hb3; have D3 : Hid (Below w1.heap.size w1 w3) := bstep D2.out hb3; clear hb3)
    | (go_at_call 16; have Z := M3; (fail_if_success have := M4); refine (marked (B := w1.heap.size) (n := N) (v := g0) (f := zs) OG3.out D3.out.size hN).mono ?_; rintro e w4 ⟨rfl, hm4, gg, hgg, _, hon⟩; have M4 : Hid True := trivial; have MG : Hid (w4.ownsRow w1.heap.size 3 1 g0 N (ils mks N)) := hm4; have B4 : Hid (Below w.heap.size w w4) := Below.only B3.out hon (Nat.le_trans B1.out.size hgg); have D4 : Hid (Below w1.heap.size w1 w4) := Below.only D3.out hon hgg; clear hon hgg hm4)
    | (go_at_call 17; have Z := M4; (fail_if_success have := M5); refine (held MG.out hN).mono ?_; rintro e w' ⟨rfl, hw⟩; obtain rfl := hw.symm; have M5 : Hid True := trivial)
    | (go_at_call 14; have Z := M5; (fail_if_success have := M6); refine (HI.out _).mono ?_; rintro e w6 ⟨h0, rfl, ho6, hb6⟩; have M6 : Hid True := trivial; have OH : Hid (w6.ownsRow w4.heap.size 3 1 h0 N (ils zs N)) := ho6; have MG6 : Hid (w6.ownsRow w1.heap.size 3 1 g0 N (ils mks N)) := own_below MG.out hb6; have B6 : Hid (Below w.heap.size w w6) := bstep B4.out hb6; have D6 : Hid (Below w1.heap.size w1 w6) := bstep D4.out hb6; clear ho6 hb6)
    | (go_at_call 15; have Z := M6; (fail_if_success have := M7); refine (eq_yes (il_of_own OH.out) (Il.below FW.out D6.out) hN).mono ?_; rintro e w7 ⟨rfl, hb7⟩; have M7 : Hid True := trivial; have MG7 : Hid (w7.ownsRow w1.heap.size 3 1 g0 N (ils mks N)) := own_below MG6.out hb7; have B7 : Hid (Below w.heap.size w w7) := bstep B6.out hb7; clear hb7)
    | (go_at_call 17; have Z := M7; (fail_if_success have := M8); refine (held MG7.out hN).mono ?_; rintro e w' ⟨rfl, hw⟩; obtain rfl := hw.symm; have M8 : Hid True := trivial))
  go_ret
  exact ⟨rfl, B7.out⟩

theorem walk_tone (st ph sz n : Int) (w : World) : Calls Try.prog 5 #[.int .i64 st, .int .i64 ph, .int .i64 sz, .int .i64 n] w fun e w' => e = .returned (.bool true) ∧ Below w.heap.size w w' := by
  by_cases hg : GT st ph sz n
  · obtain ⟨m, rfl⟩ := Int.eq_ofNat_of_zero_le hg.1.1
    exact tone_of m (by have := hg.1.2; omega) (tnv st ph sz) true (fun W => sTone_good hg W) (fun W => iTone_good hg W)
  · exact tone_of 0 (by omega) (fun _ => 0) false (fun W => (sTone_bad hg W).mono fun e w' h => h _) (fun W => (iTone_bad hg W).mono fun e w' h => h _)
end Go.Proofs.Ytkfmmabamiommaa
