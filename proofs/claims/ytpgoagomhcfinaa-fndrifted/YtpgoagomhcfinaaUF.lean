/- Rates: Delay, both sides. -/
import Derived.Test.YtpgoagomhcfinaaUE
namespace Go.Proofs.Ytpgoagomhcfinaa
open Go.RowKit

/-- Good for Delay. -/
abbrev GDl (n : Nat) (xs : Nat → Int) (a d : Int) : Prop := Sig n xs ∧ (0 ≤ a ∧ a ≤ 1000000) ∧ Prt d

/-- What Delay tells. -/
def dlF (n : Nat) (xs : Nat → Int) (a d : Int) (j : Nat) : Int := atV n xs ((j : Int) * d - a) d

theorem dl_le {j n : Nat} {d a : Int} (h : j < n) (hd : 1 ≤ d) (ha : 0 ≤ a) : (j : Int) * d - a ≤ d * ((n : Int) - 1) := by
  have := Int.mul_le_mul_of_nonneg_right (show (j : Int) ≤ (n : Int) - 1 by omega) (show 0 ≤ d by omega)
  rw [Int.mul_comm d]
  omega

/-- The first k put. -/
def upz (f : Nat → Int) (k j : Nat) : Int := if j < k then f j else 0

theorem upz_zero (f : Nat → Int) : upz f 0 = fun _ => 0 := by
  funext j
  unfold upz
  rw [if_neg (by omega)]

theorem upz_put {f : Nat → Int} {k : Nat} {y : Int} (hy : f k = y) : (fun i => if i = k then y else upz f k i) = upz f (k + 1) := by
  funext i
  show (if i = k then y else upz f k i) = upz f (k + 1) i
  unfold upz
  by_cases h : i = k
  · subst h; rw [if_pos rfl, if_pos (by omega)]; exact hy.symm
  · rw [if_neg h]
    by_cases h2 : i < k
    · rw [if_pos h2, if_pos (by omega)]
    · rw [if_neg h2, if_neg (by omega)]

theorem upz_all (f : Nat → Int) (n : Nat) : ils (upz f n) n = ils f n := ils_congr fun k hk => by unfold upz; rw [if_pos hk]

set_option maxHeartbeats 4000000 in
theorem iDelay_good {w : World} {v : Value} {n : Nat} {xs : Nat → Int} {a d : Int} (hv : Il w v n xs) (h : GDl n xs a d) :
    Calls Try.prog 10 #[v, .int .i64 a, .int .i64 d] w fun e w' => Pst w w' e n (dlF n xs a d) true := by
  obtain ⟨i0, hi, hz0, hz1, hz2⟩ := info_parts Try.info3
  obtain ⟨g1, g2, g3⟩ := h
  have h5 := g1.1
  have i1 := iSig_any hv (by omega)
  rw [decide_eq_true g1] at i1
  have i3 := iPrt_any d
  rw [decide_eq_true g3] at i3
  have hr := mkd_run w (k := n) (by omega)
  have OW : Hid ((mkd w n).ownsRow w.heap.size 3 1 (.slice (some ⟨w.heap.size, 0, none⟩) n n) n (ils (upz (dlF n xs a d) 0) n)) := by
    rw [upz_zero]; exact mkd_own w (by omega) (Nat.le_refl _)
  have BL : Hid (Below w.heap.size w (mkd w n)) := mkd_below _ _
  have HS : Hid (∀ k, k < n → Smp (xs k)) := g1.2
  have HV : Hid (Il w v n xs) := hv
  obtain ⟨ao, cap, rfl, hcap, hc⟩ := hv
  clear hc g1
  go_enter Try.func10, Try.ntmps10
  go_wp2_with (first
    | (go_at_call 18; (with_reducible refine (i1).mono ?_); rintro e w' ⟨rfl, hw⟩; obtain rfl := hw.symm)
    | (go_at_call 19; (with_reducible refine (i3 _).mono ?_); rintro e w' ⟨rfl, hw⟩; obtain rfl := hw.symm))
  clear hr
  generalize mkd w n = W at *
  go_loopw [9, 32] (fun _ i wr => ∃ k : Nat, i = .int .i64 k ∧ k ≤ n ∧ Hid (wr.ownsRow w.heap.size 3 1 (.slice (some ⟨w.heap.size, 0, none⟩) n n) n (ils (upz (dlF n xs a d) k) n) ∧ Below w.heap.size w wr)) (fun _ i _ => n - (intOf i).toNat)
  case atStart => exact ⟨0, rfl, by omega, OW.out, BL.out⟩
  case round =>
    obtain ⟨k, rfl, hk, HR⟩ := hrel
    by_cases h1 : k < n
    · have hT0 := mul_in (a := (k : Int)) (b := d) (A := 512) (B := 1000000) (by omega) (by omega) (by omega)
      obtain ⟨T, hT⟩ : ∃ T : Int, T = (k : Int) * d - a := ⟨_, rfl⟩
      have i6 := betw_any (HV.out.below HR.out.2) h5 HS.out (t := T) (den := d) (by omega) g3 (by rw [hT]; exact dl_le h1 g3.1 g2.1)
      have hz : atV n xs T d = dlF n xs a d k := by rw [hT]; rfl
      rw [hz, hT] at i6
      generalize hz2 : dlF n xs a d k = z at i6 hz
      have HZ : Hid (dlF n xs a d k = z) := hz2
      clear hz hz2 hT
      go_wp2_with (first
        | (go_at_call 20; (with_reducible refine i6.mono ?_); rintro e w1 ⟨rfl, hb1⟩; have hrow := own_below HR.out.1 hb1; have hfz := hrow.frozenAt k; have hce := hrow.cellAt k (by omega); rw [ils_get h1] at hce; have hst := (hrow.stored k (.int .i64 z)).1; rw [ils_put, upz_put HZ.out] at hst; have OP : Hid ((w1.setCell ⟨w.heap.size, k, none⟩ (.int .i64 z)).ownsRow w.heap.size 3 1 (.slice (some ⟨w.heap.size, 0, none⟩) n n) n (ils (upz (dlF n xs a d) (k + 1)) n) ∧ Below w.heap.size w (w1.setCell ⟨w.heap.size, k, none⟩ (.int .i64 z))) := ⟨hst, (bstep HR.out.2 hb1).setCell (p := ⟨w.heap.size, k, none⟩) (Nat.le_refl _) (.int .i64 z)⟩; clear hst hrow hb1))
      go_roundw
      case rel => exact ⟨k + 1, by go_num, by omega, OP.out⟩
      case measure => simp [intOf]; omega
    · obtain rfl : n = k := by omega
      have HF : Hid (wr.ownsRow w.heap.size 3 1 (.slice (some ⟨w.heap.size, 0, none⟩) n n) n (ils (dlF n xs a d) n)) := by
        rw [← upz_all]; exact HR.out.1
      go_wp2
      go_ret2
      exact ⟨_, rfl, HF.out, HR.out.2⟩

set_option maxHeartbeats 2000000 in
theorem iDelay_bad {w : World} {v : Value} {n : Nat} {xs : Nat → Int} {a d : Int} (hv : Il w v n xs) (hn : n ≤ 1048576) (h : ¬ GDl n xs a d) (ys : Nat → Int) :
    Calls Try.prog 10 #[v, .int .i64 a, .int .i64 d] w fun e w' => Pst w w' e 0 ys false := by
  have i1 := iSig_any hv hn
  have i4 := iPrt_any d
  obtain ⟨ao, cap, rfl, hcap, hc⟩ := hv
  clear hc
  by_cases c1 : Sig n xs
  · rw [decide_eq_true c1] at i1
    by_cases c2 : 0 ≤ a
    · skip
      by_cases c3 : a ≤ 1000000
      · skip
        rw [decide_eq_false (fun c4 => h ⟨c1, ⟨c2, c3⟩, c4⟩)] at i4
        clear h c1
        go_enter Try.func10, Try.ntmps10
        go_wp2_with (first | (go_at_call 18; (with_reducible refine (i1).mono ?_); rintro e w' ⟨rfl, hw⟩; obtain rfl := hw.symm) | (go_at_call 19; (with_reducible refine (i4 _).mono ?_); rintro e w' ⟨rfl, hw⟩; obtain rfl := hw.symm))
        go_ret2
        exact ⟨_, rfl, own_empty w 3 1, below_one _ _⟩
      · skip
        clear h c1
        clear i4
        go_enter Try.func10, Try.ntmps10
        go_wp2_with (first | (go_at_call 18; (with_reducible refine (i1).mono ?_); rintro e w' ⟨rfl, hw⟩; obtain rfl := hw.symm))
        go_ret2
        exact ⟨_, rfl, own_empty w 3 1, below_one _ _⟩
    · skip
      clear h c1
      clear i4
      go_enter Try.func10, Try.ntmps10
      go_wp2_with (first | (go_at_call 18; (with_reducible refine (i1).mono ?_); rintro e w' ⟨rfl, hw⟩; obtain rfl := hw.symm))
      go_ret2
      exact ⟨_, rfl, own_empty w 3 1, below_one _ _⟩
  · rw [decide_eq_false c1] at i1
    clear h c1
    clear i4
    go_enter Try.func10, Try.ntmps10
    go_wp2_with (first | (go_at_call 18; (with_reducible refine (i1).mono ?_); rintro e w' ⟨rfl, hw⟩; obtain rfl := hw.symm))
    go_ret2
    exact ⟨_, rfl, own_empty w 3 1, below_one _ _⟩
end Go.Proofs.Ytpgoagomhcfinaa
