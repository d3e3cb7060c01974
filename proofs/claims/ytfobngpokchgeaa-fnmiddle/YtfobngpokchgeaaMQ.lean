/- Middles: the program's Middle. -/
import Derived.Test.YtfobngpokchgeaaMP
namespace Go.Proofs.Ytfobngpokchgeaa
open Go.RowKit

def Pst (w w' : World) (e : Ending) (N : Nat) (ys : Nat → Int) (ok : Bool) : Prop := ∃ u, e = .returned (.tuple #[u, .bool ok]) ∧ w'.ownsRow w.heap.size 3 1 u N (ils ys N) ∧ Below w.heap.size w w'

/-- What Middle takes. -/
abbrev GM (n : Nat) (xs : Nat → Int) (r : Int) : Prop := Sig n xs ∧ (1 ≤ r ∧ r ≤ 31) ∧ r % 2 ≠ 0

/-- The middle around i. -/
def mdl (n : Nat) (xs : Nat → Int) (h i : Nat) : Int := srt (2 * h + 1) (nr n xs i h) h

set_option maxHeartbeats 4000000 in
theorem iMdl_good {w : World} {v : Value} {n h m : Nat} {xs : Nat → Int} (hv : Il w v n xs) (hx : Sig n xs) (hh : h ≤ 15) (hm : m = 2 * h + 1) :
    Calls Try.prog 6 #[v, .int .i64 (m : Int)] w fun e w' => Pst w w' e n (mdl n xs h) true := by
  obtain ⟨i0, hi', hz0, hz1, hz2⟩ := info_parts Try.info3
  have h512 := hx.1
  have i1 := iSig_any hv (by omega)
  rw [decide_eq_true hx] at i1
  have m1 : 1 ≤ m := by omega
  have m2 : m ≤ 31 := by omega
  have e4 : (m : Int).tmod 2 = 1 := by rw [Int.tmod_eq_emod_of_nonneg (by omega)]; omega
  have e5 : (m : Int) % 2 = 1 := by omega
  have HV : Hid (Il w v n xs) := hv
  have HM : Hid (m = 2 * h + 1) := hm
  obtain ⟨ao, cap, rfl, hcap, _⟩ := hv
  clear hm hx
  go_enter Try.func6, Try.ntmps6
  go_wp2_with (first
    | (go_at_call 13; (with_reducible refine i1.mono ?_); rintro e w' ⟨rfl, hw⟩; obtain rfl := hw.symm)
    | (at_make; refine wpList_make_full _ rfl _ _ 24 rfl w.heap.size 3 i0 (.int .i64 0) 1 Try.underlying24 hi' hz0 hz1 .i64 .i64 _ _ n rfl rfl (by omega) (by omega) (by rw [hz2]; omega) (by unfold maxLen; omega) (Nat.le_refl _) ?_; intro w1 hown hgrow; have HB1 : Hid (Below w.heap.size w w1) := (Below.refl _ _).grown hgrow (Nat.le_refl _) (fun _ h => by cases h); rw [mmade_ils] at hown; have HI1 : Hid (w1.ownsRow w.heap.size 3 1 (.slice (some ⟨w.heap.size, 0, none⟩) n n) n (ils (upz (mdl n xs h) 0) n)) := (by rw [upz_zero]; exact hown); clear hown hgrow))
  go_loopw [7, 30] (fun _ iv wr => ∃ k : Nat, iv = .int .i64 k ∧ k ≤ n ∧ Hid (wr.ownsRow w.heap.size 3 1 (.slice (some ⟨w.heap.size, 0, none⟩) n n) n (ils (upz (mdl n xs h) k) n) ∧ Below w.heap.size w wr)) (fun _ iv _ => n - (intOf iv).toNat)
  case atStart => exact ⟨0, rfl, by omega, HI1.out, HB1.out⟩
  case round =>
    obtain ⟨k, rfl, hk, hrel⟩ := hrel
    by_cases h1 : k < n
    · have iN := iMid_any (HV.out.below hrel.out.2) h512 h1 hh HM.out
      rw [show srt m (nr n xs k h) h = mdl n xs h k by rw [HM.out]; rfl] at iN
      have HR : Hid _ := hrel.out
      clear hrel
      go_wp2_with (first
        | (go_at_call 14; refine iN.mono ?_; rintro e w3 ⟨rfl, q4⟩; have r3 := own_below HR.out.1 q4; have hfz := r3.frozenAt k; have hce := r3.cellAt k (by omega); rw [ils_get h1] at hce; have hst := (r3.stored k (.int .i64 (mdl n xs h k))).1; rw [upz_put] at hst; have OP : Hid ((w3.setCell ⟨w.heap.size, k, none⟩ (.int .i64 (mdl n xs h k))).ownsRow w.heap.size 3 1 (.slice (some ⟨w.heap.size, 0, none⟩) n n) n (ils (upz (mdl n xs h) (k + 1)) n) ∧ Below w.heap.size w (w3.setCell ⟨w.heap.size, k, none⟩ (.int .i64 (mdl n xs h k)))) := ⟨hst, (bstep HR.out.2 q4).setCell (p := ⟨w.heap.size, k, none⟩) (Nat.le_refl _) (.int .i64 (mdl n xs h k))⟩; clear hst r3 q4))
      go_roundw
      case rel => exact ⟨k + 1, by go_num, by omega, OP.out⟩
      case measure => simp [intOf]; omega
    · obtain rfl : k = n := by omega
      have HR : Hid (wr.ownsRow w.heap.size 3 1 (.slice (some ⟨w.heap.size, 0, none⟩) k k) k (ils (mdl k xs h) k)) := by have := hrel.out.1; rw [upz_full] at this; exact this
      have HB : Hid (Below w.heap.size w wr) := hrel.out.2
      clear hrel
      go_wp2
      go_ret2
      exact ⟨_, rfl, HR.out, HB.out⟩

set_option maxHeartbeats 2000000 in
theorem iMdl_bad {w : World} {v : Value} {n : Nat} {r : Int} {xs : Nat → Int} (hv : Il w v n xs) (hn : n ≤ 1048576) (h : ¬ GM n xs r) (ys : Nat → Int) :
    Calls Try.prog 6 #[v, .int .i64 r] w fun e w' => Pst w w' e 0 ys false := by
  have i1 := iSig_any hv hn
  obtain ⟨ao, cap, rfl, hcap, hc⟩ := hv
  clear hc
  by_cases hx : Sig n xs
  · rw [decide_eq_true hx] at i1
    have h' : ¬ ((1 ≤ r ∧ r ≤ 31) ∧ r % 2 ≠ 0) := fun e => h ⟨hx, e⟩
    clear h hx
    by_cases r1 : 1 ≤ r
    · by_cases r2 : r ≤ 31
      · have e5 : r % 2 = 0 := by omega
        have e4 : r.tmod 2 = 0 := by rw [Int.tmod_eq_emod_of_nonneg (by omega)]; omega
        clear h'
        go_enter Try.func6, Try.ntmps6
        go_wp2_with (first
          | (go_at_call 13; (with_reducible refine i1.mono ?_); rintro e w' ⟨rfl, hw⟩; obtain rfl := hw.symm))
        go_ret2
        exact ⟨_, rfl, own_empty w 3 1, below_one _ _⟩
      · clear h'
        go_enter Try.func6, Try.ntmps6
        go_wp2_with (first
          | (go_at_call 13; (with_reducible refine i1.mono ?_); rintro e w' ⟨rfl, hw⟩; obtain rfl := hw.symm))
        go_ret2
        exact ⟨_, rfl, own_empty w 3 1, below_one _ _⟩
    · clear h'
      go_enter Try.func6, Try.ntmps6
      go_wp2_with (first
        | (go_at_call 13; (with_reducible refine i1.mono ?_); rintro e w' ⟨rfl, hw⟩; obtain rfl := hw.symm))
      go_ret2
      exact ⟨_, rfl, own_empty w 3 1, below_one _ _⟩
  · rw [decide_eq_false hx] at i1
    clear h hx
    go_enter Try.func6, Try.ntmps6
    go_wp2_with (first
      | (go_at_call 13; (with_reducible refine i1.mono ?_); rintro e w' ⟨rfl, hw⟩; obtain rfl := hw.symm))
    go_ret2
    exact ⟨_, rfl, own_empty w 3 1, below_one _ _⟩
end Go.Proofs.Ytfobngpokchgeaa
