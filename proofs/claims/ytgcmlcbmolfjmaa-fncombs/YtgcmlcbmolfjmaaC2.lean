/- Ramp and Steps. -/
import Derived.Test.YtgcmlcbmolfjmaaC1
namespace Go.Proofs.Ytgcmlcbmolfjmaa
open Go.RowKit

/-- What is told: a list in memory of the call's own, and a bool. -/
def Prm (w w' : World) (e : Ending) (N : Nat) (ys : Nat → Int) (ok : Bool) : Prop := ∃ u, e = .returned (.tuple #[u, .bool ok]) ∧ w'.ownsRow w.heap.size 3 1 u N (ils ys N) ∧ Below w.heap.size w w'

/-- The sum of the first k. -/
def rsum (xs : Nat → Int) : Nat → Int
  | 0 => 0
  | k + 1 => rsum xs k + xs k

theorem rsum_bounds {xs : Nat → Int} {n : Nat} (h : ∀ k, k < n → Smp (xs k)) : ∀ k, k ≤ n → -1000000000 * (k : Int) ≤ rsum xs k ∧ rsum xs k ≤ 1000000000 * (k : Int)
  | 0, _ => by simp [rsum]
  | k + 1, hk => by
    have h1 := rsum_bounds h k (by omega)
    have h2 := h k (by omega)
    unfold rsum
    omega

/-- Good for Ramp. -/
abbrev GR (n : Nat) (xs : Nat → Int) : Prop := Sig n xs ∧ ∀ k, k < n → Smp (rsum xs (k + 1))

set_option maxHeartbeats 2000000 in
theorem sRamp_any {w : World} {v : Value} {n : Nat} {xs : Nat → Int} (hv : Il w v n xs) (hn : n ≤ 1048576) (N : Nat) (ys : Nat → Int) (ok : Bool)
    (hg : GR n xs → N = n ∧ ys = (fun k => rsum xs (k + 1)) ∧ ok = true) (hb : ¬ GR n xs → N = 0 ∧ ok = false) :
    Calls Try.prog 9 #[v] w fun e w' => Prm w w' e N ys ok := by
  obtain ⟨i0, hi, hz0, hz1, hz2⟩ := info_parts Try.info3
  have HG : Hid (GR n xs → N = n ∧ ys = (fun k => rsum xs (k + 1)) ∧ ok = true) := hg
  have HB : Hid (¬ GR n xs → N = 0 ∧ ok = false) := hb
  clear hg hb
  have hv1 := hv.below (below_one w (.cells #[] 3))
  have i1 := sSig_any hv1 hn
  clear hv1
  obtain ⟨ao, cap, rfl, hcap, hc⟩ := hv
  have HC : Hid (0 < n → ∃ b off, ao = some ⟨b, off, none⟩ ∧ b < w.heap.size ∧ ∀ k, k < n → w.cell? ⟨b, off + k, none⟩ = some (.int .i64 (xs k))) := hc
  clear hc
  by_cases hs : Sig n xs
  · rw [decide_eq_true hs] at i1
    have hrb := fun k hk => rsum_bounds hs.2 k hk
    have h512 := hs.1
    have HSg : Hid _ := hs
    have HR : Hid _ := hrb
    clear hs hrb
    go_enter Try.func9, Try.ntmps9
    go_wp2_with (first | (go_at_call 20; (with_reducible refine (i1).mono ?_); rintro e w' ⟨rfl, hw⟩; obtain rfl := hw.symm))
    go_loopw [4, 5, 6] (fun o s i wr => ∃ k : Nat, i = .int .i64 k ∧ s = .int .i64 (rsum xs k) ∧ k ≤ n ∧ Hid (wr.ownsRow w.heap.size 3 1 o k (ils (fun k => rsum xs (k + 1)) k) ∧ Below w.heap.size w wr ∧ ∀ j, j < k → Smp (rsum xs (j + 1)))) (fun _ _ i _ => n - (intOf i).toNat)
    case atStart => exact ⟨0, rfl, rfl, by omega, own_empty w 3 1, below_one _ _, fun j hj => by omega⟩
    case round =>
      obtain ⟨k, rfl, rfl, hk, hrel⟩ := hrel
      by_cases h1 : k < n
      · obtain ⟨b, off, rfl, hlt, hcell⟩ := HC.out (by omega)
        have c : wr.cell? ⟨b, off + k, none⟩ = some (.int .i64 (xs k)) := (hrel.out.2.1.cell (p := ⟨b, off + k, none⟩) hlt).trans (hcell k h1)
        clear hcell
        have r1 := HR.out k (by omega)
        have r2 := HR.out (k + 1) (by omega)
        have e1 : rsum xs k + xs k = rsum xs (k + 1) := rfl
        have i2 := sSmp_any (rsum xs (k + 1))
        by_cases hs1 : Smp (rsum xs (k + 1))
        · have HS1 : Hid _ := hs1
          rw [decide_eq_true hs1] at i2
          clear hs1
          have hb3 := below_one wr (.cells #[.int .i64 (rsum xs (k + 1))] 3)
          have HO3 := own_below hrel.out.1 hb3
          have HB3 := bstep hrel.out.2.1 hb3
          clear hb3
          go_wp2_with (first | (go_at_call 21; (with_reducible refine (i2 _).mono ?_); rintro e w' ⟨rfl, hw⟩; obtain rfl := hw.symm) | (at_builtin; refine wpList_append_own _ rfl _ _ 24 rfl w.heap.size 3 i0 (.int .i64 0) 1 8 Try.underlying24 hi hz0 hz1 hz2 rfl (by decide) _ _ _ rfl HO3 ⟨wr.heap.size, 0, none⟩ 1 1 [.int .i64 (rsum xs (k + 1))] rfl rfl (one_new _ _ _) (by simp [Value.oneCell']) (by unfold maxLen; omega) (by omega) HB3.size ?_))
          intro v' w4 hown' hgrow _
          have HB4 : Hid _ := grown_below HB3 (Nat.le_refl _) HO3 hgrow
          rw [← ils_snoc (fun k => rsum xs (k + 1)) k] at hown'
          have HO4 : Hid _ := hown'
          clear hown' hgrow HB3 HO3
          go_wp2
          go_roundw
          case rel =>
            refine ⟨k + 1, by go_num, rfl, by omega, HO4.out, HB4.out, fun j hj => ?_⟩
            by_cases hjk : j = k
            · subst hjk; exact HS1.out
            · exact hrel.out.2.2 j (by omega)
          case measure => simp [intOf]; omega
        · have HS1 : Hid _ := hs1
          rw [decide_eq_false hs1] at i2
          clear hs1
          have ho := own_base (own_empty wr 3 1) hrel.out.2.1.size
          have hb3 := bstep hrel.out.2.1 (below_one wr (.cells #[] 3))
          have HO : Hid ((wr.alloc (.cells #[] 3)).ownsRow w.heap.size 3 1 (.slice (some ⟨wr.heap.size, 0, none⟩) 0 0) 0 []) := ho
          have HB3 : Hid _ := hb3
          clear ho hb3
          obtain ⟨rfl, rfl⟩ := HB.out (fun h => HS1.out (h.2 k h1))
          go_wp2_with (first | (go_at_call 21; (with_reducible refine (i2 _).mono ?_); rintro e w' ⟨rfl, hw⟩; obtain rfl := hw.symm))
          go_ret2
          exact ⟨_, rfl, HO.out, HB3.out⟩
      · obtain rfl : k = n := by omega
        obtain ⟨rfl, rfl, rfl⟩ := HG.out ⟨HSg.out, hrel.out.2.2⟩
        go_wp2
        go_ret2
        exact ⟨_, rfl, hrel.out.1, hrel.out.2.1⟩
  · rw [decide_eq_false hs] at i1
    obtain ⟨rfl, rfl⟩ := HB.out (fun h => hs h.1)
    clear hs
    go_enter Try.func9, Try.ntmps9
    go_wp2_with (first | (go_at_call 20; (with_reducible refine (i1).mono ?_); rintro e w' ⟨rfl, hw⟩; obtain rfl := hw.symm))
    go_ret2
    exact ⟨_, rfl, own_empty w 3 1, below_one _ _⟩

set_option maxHeartbeats 1000000 in
theorem only_yes {w : World} {v : Value} {n : Nat} {xs : Nat → Int} (hv : Il w v n xs) (hs : Sig n xs) : Calls Try.prog 19 #[v] w fun e w' => e = .returned (.tuple #[v, .bool true]) ∧ w' = w := by
  have i1 := iSig_any hv (Nat.le_trans hs.1 (by omega))
  rw [decide_eq_true hs] at i1
  obtain ⟨ao, cap, rfl, hcap, hc⟩ := hv
  clear hc hs
  go_enter Try.func19, Try.ntmps19
  go_wp2_with (first | (go_at_call 13; (with_reducible refine (i1).mono ?_); rintro e w' ⟨rfl, hw⟩; obtain rfl := hw.symm))
  go_ret2
  exact ⟨rfl, rfl⟩

set_option maxHeartbeats 1000000 in
theorem only_no {w : World} {v : Value} {n : Nat} {xs : Nat → Int} (hv : Il w v n xs) (hn : n ≤ 1048576) (hs : ¬ Sig n xs) : Calls Try.prog 19 #[v] w fun e w' => ∃ u, e = .returned (.tuple #[u, .bool false]) ∧ w'.ownsRow w.heap.size 3 1 u 0 [] ∧ Below w.heap.size w w' := by
  have i1 := iSig_any hv hn
  rw [decide_eq_false hs] at i1
  obtain ⟨ao, cap, rfl, hcap, hc⟩ := hv
  clear hc hs
  go_enter Try.func19, Try.ntmps19
  go_wp2_with (first | (go_at_call 13; (with_reducible refine (i1).mono ?_); rintro e w' ⟨rfl, hw⟩; obtain rfl := hw.symm))
  go_ret2
  exact ⟨_, rfl, own_empty w 3 1, below_one _ _⟩

set_option maxHeartbeats 2000000 in
theorem iRamp_any {w : World} {v : Value} {n : Nat} {xs : Nat → Int} (hv : Il w v n xs) (hn : n ≤ 1048576) (N : Nat) (ys : Nat → Int) (ok : Bool)
    (hg : GR n xs → N = n ∧ ys = (fun k => rsum xs (k + 1)) ∧ ok = true) (hb : ¬ GR n xs → N = 0 ∧ ok = false) :
    Calls Try.prog 8 #[v] w fun e w' => Prm w w' e N ys ok := by
  obtain ⟨i0, hi, hz0, hz1, hz2⟩ := info_parts Try.info3
  have HG : Hid (GR n xs → N = n ∧ ys = (fun k => rsum xs (k + 1)) ∧ ok = true) := hg
  have HB : Hid (¬ GR n xs → N = 0 ∧ ok = false) := hb
  clear hg hb
  have i1 := iSig_any hv hn
  obtain ⟨ao, cap, rfl, hcap, hc⟩ := hv
  have HC : Hid (0 < n → ∃ b off, ao = some ⟨b, off, none⟩ ∧ b < w.heap.size ∧ ∀ k, k < n → w.cell? ⟨b, off + k, none⟩ = some (.int .i64 (xs k))) := hc
  clear hc
  by_cases hs : Sig n xs
  · rw [decide_eq_true hs] at i1
    have hrb := fun k hk => rsum_bounds hs.2 k hk
    have h512 := hs.1
    have HSg : Hid _ := hs
    have HR : Hid _ := hrb
    clear hs hrb
    go_enter Try.func8, Try.ntmps8
    go_wp2_with (first | (go_at_call 13; (with_reducible refine (i1).mono ?_); rintro e w' ⟨rfl, hw⟩; obtain rfl := hw.symm))
    go_loopw [4, 5, 7, 15] (fun o s _ i wr => ∃ k : Nat, i = .int .i64 k ∧ s = .int .i64 (rsum xs k) ∧ k ≤ n ∧ Hid (wr.ownsRow w.heap.size 3 1 o k (ils (fun k => rsum xs (k + 1)) k) ∧ Below w.heap.size w wr)) (fun _ _ _ i _ => n - (intOf i).toNat)
    case atStart => exact ⟨0, rfl, rfl, by omega, own_empty w 3 1, below_one _ _⟩
    case round =>
      obtain ⟨k, rfl, rfl, hk, hrel⟩ := hrel
      by_cases h1 : k < n
      · obtain ⟨b, off, rfl, hlt, hcell⟩ := HC.out (by omega)
        have c : wr.cell? ⟨b, off + k, none⟩ = some (.int .i64 (xs k)) := (hrel.out.2.cell (p := ⟨b, off + k, none⟩) hlt).trans (hcell k h1)
        clear hcell
        have r1 := HR.out k (by omega)
        have r2 := HR.out (k + 1) (by omega)
        have e1 : rsum xs k + xs k = rsum xs (k + 1) := rfl
        have hb3 := below_one wr (.cells #[.int .i64 (rsum xs (k + 1))] 3)
        have HO3 := own_below hrel.out.1 hb3
        have HB3 := bstep hrel.out.2 hb3
        clear hb3
        go_wp2_with (first | (at_builtin; refine wpList_append_own _ rfl _ _ 24 rfl w.heap.size 3 i0 (.int .i64 0) 1 8 Try.underlying24 hi hz0 hz1 hz2 rfl (by decide) _ _ _ rfl HO3 ⟨wr.heap.size, 0, none⟩ 1 1 [.int .i64 (rsum xs (k + 1))] rfl rfl (one_new _ _ _) (by simp [Value.oneCell']) (by unfold maxLen; omega) (by omega) HB3.size ?_))
        intro v' w4 hown' hgrow _
        have HB4 : Hid _ := grown_below HB3 (Nat.le_refl _) HO3 hgrow
        rw [← ils_snoc (fun k => rsum xs (k + 1)) k] at hown'
        have HO4 : Hid _ := hown'
        clear hown' hgrow HB3 HO3
        go_wp2
        go_roundw
        case rel => exact ⟨k + 1, by go_num, rfl, by omega, HO4.out, HB4.out⟩
        case measure => simp [intOf]; omega
      · obtain rfl : k = n := by omega
        have il := il_of_own hrel.out.1
        by_cases hall : Sig k (fun k => rsum xs (k + 1))
        · have i2 := only_yes il hall
          obtain ⟨rfl, rfl, rfl⟩ := HG.out ⟨HSg.out, hall.2⟩
          clear il hall
          go_wp2_with (first | (go_at_call 19; (with_reducible refine (i2).mono ?_); rintro e w' ⟨rfl, hw⟩; obtain rfl := hw.symm))
          go_ret2
          exact ⟨_, rfl, hrel.out.1, hrel.out.2⟩
        · have i2 := only_no il hn hall
          obtain ⟨rfl, rfl⟩ := HB.out (fun h => hall ⟨h.1.1, h.2⟩)
          clear il hall
          go_wp2_with (go_at_call 19; (with_reducible refine (i2).mono ?_); rintro e w3 ⟨u, rfl, ho3, hb3⟩; have O3 : Hid (w3.ownsRow wr.heap.size 3 1 u 0 []) := ho3; clear ho3)
          go_ret2
          exact ⟨_, rfl, own_base O3.out hrel.out.2.size, bstep hrel.out.2 hb3⟩
  · rw [decide_eq_false hs] at i1
    obtain ⟨rfl, rfl⟩ := HB.out (fun h => hs h.1)
    clear hs
    go_enter Try.func8, Try.ntmps8
    go_wp2_with (first | (go_at_call 13; (with_reducible refine (i1).mono ?_); rintro e w' ⟨rfl, hw⟩; obtain rfl := hw.symm))
    go_ret2
    exact ⟨_, rfl, own_empty w 3 1, below_one _ _⟩

/-- The one ahead. -/
def prv (xs : Nat → Int) : Nat → Int
  | 0 => 0
  | k + 1 => xs k

/-- A step. -/
def stp (xs : Nat → Int) (k : Nat) : Int := xs k - prv xs k

theorem prv_bounds {xs : Nat → Int} {n : Nat} (h : ∀ k, k < n → Smp (xs k)) : ∀ k, k ≤ n → Smp (prv xs k)
  | 0, _ => ⟨by show (-1000000000 : Int) ≤ 0; omega, by show (0 : Int) ≤ 1000000000; omega⟩
  | k + 1, hk => h k (by omega)

/-- Good for Steps. -/
abbrev GS (n : Nat) (xs : Nat → Int) : Prop := Sig n xs ∧ ∀ k, k < n → Smp (stp xs k)

end Go.Proofs.Ytgcmlcbmolfjmaa
