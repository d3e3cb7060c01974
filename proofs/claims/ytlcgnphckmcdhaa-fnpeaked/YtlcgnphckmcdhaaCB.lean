/- Counts, both sides. -/
import Derived.Test.YtlcgnphckmcdhaaCA
namespace Go.Proofs.Ytlcgnphckmcdhaa
open Go.RowKit

theorem fi_le (cs : Nat → Int) (x : Int) (m : Nat) : fi cs x m ≤ m := by
  induction m with
  | zero => exact Nat.le_refl _
  | succ m ih =>
    rw [fi]
    split <;> omega

set_option maxHeartbeats 4000000 in
theorem iCt_good {w : World} {v u : Value} {n m : Nat} {xs cs : Nat → Int} (hv : Il w v n xs) (hu : Il w u m cs) (h : Sig n xs) (h2 : Cts m cs) :
    Calls Try.prog 8 #[v, u] w fun e w' => Pst w w' e (m + 1) (cnt cs m xs n) true := by
  have h5 := h.1
  have h6 := h2.1
  have HSM : Hid (∀ k, k < n → Smp (xs k)) := h.2
  have HU : Hid (Il w u m cs) := hu
  have HT : Hid (Cts m cs) := h2
  have i1 := iSig_any hv (by omega)
  rw [decide_eq_true h] at i1
  have i2 := cuts_any hu (by omega)
  rw [decide_eq_true h2] at i2
  obtain ⟨M, hM⟩ : ∃ M : Nat, M = m + 1 := ⟨_, rfl⟩
  have e0 : (m : Int) + 1 = (M : Int) := by omega
  have hM1 : m < M := by omega
  have hM2 : M ≤ 101 := by omega
  rw [← hM]
  clear hM
  obtain ⟨ao, cap, rfl, hcap, hc⟩ := hv
  have HC : Hid (0 < n → ∃ b off, ao = some ⟨b, off, none⟩ ∧ b < w.heap.size ∧ ∀ k, k < n → w.cell? ⟨b, off + k, none⟩ = some (.int .i64 (xs k))) := hc
  obtain ⟨bo, cap2, rfl, hcap2, hc2⟩ := hu
  clear hc hc2 h h2
  go_enter Try.func8, Try.ntmps8
  go_wp2_with (first
    | (go_at_call 13; (with_reducible refine i1.mono ?_); rintro e w' ⟨rfl, hw⟩; obtain rfl := hw.symm)
    | (go_at_call 15; (with_reducible refine i2.mono ?_); rintro e w1 ⟨rfl, hb⟩; have B1 : Hid (Below w.heap.size w w1) := hb; clear hb; have hr := mkd_run w1 (k := M) (by omega); have OW : Hid ((mkd w1 M).ownsRow w.heap.size 3 1 (.slice (some ⟨w1.heap.size, 0, none⟩) M M) M (ils (cnt cs m xs 0) M)) := mkd_own w1 (by omega) B1.out.size; have B2 : Hid (Below w.heap.size w (mkd w1 M)) := B1.out.trans ((mkd_below w1 M).mono B1.out.size)))
  clear hr i1 i2
  have GG : Hid (w.heap.size ≤ w1.heap.size) := B1.out.size
  generalize mkd w1 M = W at *
  generalize w1.heap.size = G at *
  go_loopw [8, 24] (fun _ i wr => ∃ k : Nat, i = .int .i64 k ∧ k ≤ n ∧ Hid (wr.ownsRow w.heap.size 3 1 (.slice (some ⟨G, 0, none⟩) M M) M (ils (cnt cs m xs k) M) ∧ Below w.heap.size w wr)) (fun _ i _ => n - (intOf i).toNat)
  case atStart => exact ⟨0, rfl, by omega, OW.out, B2.out⟩
  case round =>
    obtain ⟨k, rfl, hk, hrel⟩ := hrel
    by_cases h1 : k < n
    · obtain ⟨b, off, rfl, hlt, hcell⟩ := HC.out (by omega)
      have c := (hrel.out.2.cell (p := ⟨b, off + k, none⟩) hlt).trans (hcell k h1)
      have hsm := HSM.out k h1
      have i3 := sints_any (x := xs k) (HU.out.below hrel.out.2) HT.out
      have hp := fi_le cs (xs k) m
      obtain ⟨p, hpe⟩ : ∃ p, p = fi cs (xs k) m := ⟨_, rfl⟩
      rw [← hpe] at i3 hp
      have HP : Hid (fi cs (xs k) m = p) := hpe.symm
      have hci := cnt_in cs m xs k p
      clear hpe hcell
      generalize xs k = x at c hsm i3
      go_wp2_with (first
        | (go_at_call 16; (with_reducible refine i3.mono ?_); rintro e w2 ⟨rfl, hb⟩; have hrow := own_below hrel.out.1 hb; have B3 : Hid (Below w.heap.size w w2) := bstep hrel.out.2 hb; have c2 := hrow.cellAt p (by omega); rw [ils_get (by omega)] at c2; have fz := hrow.frozenAt p; have hst := (hrow.stored p (.int .i64 (cnt cs m xs k p + 1))).1; rw [cnt_put HP.out] at hst; have OP : Hid _ := hst; clear hst hrow hb))
      go_roundw
      case rel => exact ⟨k + 1, by go_num, by omega, OP.out, B3.out.setCell (p := ⟨G, p, none⟩) GG.out _⟩
      case measure => simp [intOf]; omega
    · obtain rfl : n = k := by omega
      go_wp2
      go_ret2
      exact ⟨_, rfl, hrel.out⟩

set_option maxHeartbeats 4000000 in
theorem iCt_bad {w : World} {v u : Value} {n m : Nat} {xs cs : Nat → Int} (hv : Il w v n xs) (hu : Il w u m cs) (hn : n ≤ 1048576) (hm : m ≤ 1048576) (h : ¬ (Sig n xs ∧ Cts m cs)) (ys : Nat → Int) :
    Calls Try.prog 8 #[v, u] w fun e w' => Pst w w' e 0 ys false := by
  have i1 := iSig_any hv hn
  have i2 := cuts_any hu hm
  have OW : ∀ W : World, Below w.heap.size w W → (W.alloc (.cells #[] 3)).ownsRow w.heap.size 3 1 (.slice (some ⟨W.heap.size, 0, none⟩) 0 0) 0 (ils ys 0) ∧ Below w.heap.size w (W.alloc (.cells #[] 3)) := fun W hW => ⟨own_base (own_empty W 3 1) hW.size, bstep hW (below_one _ _)⟩
  have OH : Hid _ := OW
  clear OW
  obtain ⟨ao, cap, rfl, hcap, hc⟩ := hv
  obtain ⟨bo, cap2, rfl, hcap2, hc2⟩ := hu
  clear hc hc2
  by_cases h1 : Sig n xs
  · rw [decide_eq_true h1] at i1
    rw [decide_eq_false (fun h3 => h ⟨h1, h3⟩)] at i2
    clear h h1
    go_enter Try.func8, Try.ntmps8
    go_wp2_with (first
      | (go_at_call 13; (with_reducible refine i1.mono ?_); rintro e w' ⟨rfl, hw⟩; obtain rfl := hw.symm)
      | (go_at_call 15; (with_reducible refine i2.mono ?_); rintro e w1 ⟨rfl, hb⟩; have B1 : Hid (Below w.heap.size w w1) := hb; clear hb))
    go_ret2
    exact ⟨_, rfl, OH.out _ B1.out⟩
  · rw [decide_eq_false h1] at i1
    clear h h1
    go_enter Try.func8, Try.ntmps8
    go_wp2_with (first
      | (go_at_call 13; (with_reducible refine i1.mono ?_); rintro e w' ⟨rfl, hw⟩; obtain rfl := hw.symm))
    go_ret2
    exact ⟨_, rfl, OH.out _ (Below.refl _ _)⟩
end Go.Proofs.Ytlcgnphckmcdhaa
