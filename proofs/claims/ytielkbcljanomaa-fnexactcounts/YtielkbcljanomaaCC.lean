/- Counts: the model. -/
import Derived.Test.YtielkbcljanomaaCB
namespace Go.Proofs.Ytielkbcljanomaa
open Go.RowKit

set_option maxHeartbeats 8000000 in
theorem sCt_good {w : World} {v u : Value} {n m : Nat} {xs cs : Nat → Int} (hv : Il w v n xs) (hu : Il w u m cs) (h : Sig n xs) (h2 : Cts m cs) :
    Calls Try.prog 4 #[v, u] w fun e w' => Pst w w' e (m + 1) (cnt cs m xs n) true := by
  have h5 := h.1
  have h6 := h2.1
  have HT : Hid (Cts m cs) := h2
  have i1 := sSig_any hv (by omega)
  rw [decide_eq_true h] at i1
  obtain ⟨M, hM⟩ : ∃ M : Nat, M = m + 1 := ⟨_, rfl⟩
  have e0 : (m : Int) + 1 = (M : Int) := by omega
  have hM1 : m < M := by omega
  have hM2 : M ≤ 101 := by omega
  rw [← hM]
  clear hM
  obtain ⟨ao, cap, rfl, hcap, hc⟩ := hv
  have HC : Hid (0 < n → ∃ b off, ao = some ⟨b, off, none⟩ ∧ b < w.heap.size ∧ ∀ k, k < n → w.cell? ⟨b, off + k, none⟩ = some (.int .i64 (xs k))) := hc
  obtain ⟨bo, cap2, rfl, hcap2, hc2⟩ := hu
  have HC2 : Hid (0 < m → ∃ b off, bo = some ⟨b, off, none⟩ ∧ b < w.heap.size ∧ ∀ k, k < m → w.cell? ⟨b, off + k, none⟩ = some (.int .i64 (cs k))) := hc2
  clear hc hc2 h h2
  go_enter Try.func4, Try.ntmps4
  go_wp2_with (first
    | (go_at_call 10; (with_reducible refine i1.mono ?_); rintro e w' ⟨rfl, hw⟩; obtain rfl := hw.symm))
  clear i1
  go_loopw [6] (fun i wr => ∃ k : Nat, i = .int .i64 k ∧ 1 ≤ k ∧ Hid ((k ≤ m ∨ k = 1) ∧ Below w.heap.size w wr)) (fun i _ => m + 1 - (intOf i).toNat)
  case atStart => exact ⟨1, rfl, by omega, .inr rfl, Below.refl _ _⟩
  case round =>
    obtain ⟨k, rfl, hk, hal⟩ := hrel
    have hk2 := hal.out.1
    have hk3 : k ≤ 101 := by omega
    clear hk2
    by_cases h1 : k < m
    · obtain ⟨b, off, rfl, hlt, hcell⟩ := HC2.out (by omega)
      have c := (hal.out.2.cell (p := ⟨b, off + k, none⟩) hlt).trans (hcell k h1)
      have c2 := (hal.out.2.cell (p := ⟨b, off + (k - 1), none⟩) hlt).trans (hcell (k - 1) (by omega))
      have e3 : off + ((k : Int) - 1).toNat = off + (k - 1) := by omega
      clear hcell
      have hs := HT.out.2 k h1 (by omega)
      go_wp2_with (go_quiet (fail))
      go_roundw
      case rel => exact ⟨k + 1, by go_num, by omega, .inl (by omega), below_drewN hal.out.2 _⟩
      case measure => simp [intOf]; omega
    · have hr := mkd_run wr (k := M) (by omega)
      have OW : Hid ((mkd wr M).ownsRow w.heap.size 3 1 (.slice (some ⟨wr.heap.size, 0, none⟩) M M) M (ils (cnt cs m xs 0) M)) := mkd_own wr (by omega) hal.out.2.size
      have B2 : Hid (Below w.heap.size w (mkd wr M)) := hal.out.2.trans ((mkd_below wr M).mono hal.out.2.size)
      have GG : Hid (w.heap.size ≤ wr.heap.size) := hal.out.2.size
      clear hal
      go_upto_region 10 with fail
      clear hr
      generalize mkd wr M = W at *
      generalize wr.heap.size = G at *
      go_loopw [8, 9] (fun i _ wx => ∃ k : Nat, i = .int .i64 k ∧ k ≤ n ∧ Hid (wx.ownsRow w.heap.size 3 1 (.slice (some ⟨G, 0, none⟩) M M) M (ils (cnt cs m xs k) M) ∧ Below w.heap.size w wx)) (fun i _ _ => n - (intOf i).toNat)
      case atStart => exact ⟨0, rfl, by omega, OW.out, B2.out⟩
      case round =>
        rename World => V
        obtain ⟨i, rfl, hi, hrel⟩ := hrel
        by_cases h3 : i < n
        · obtain ⟨b, off, rfl, hlt, hcell⟩ := HC.out (by omega)
          have HX : Hid (b < w.heap.size ∧ w.cell? ⟨b, off + i, none⟩ = some (.int .i64 (xs i))) := ⟨hlt, hcell i h3⟩
          clear hlt hcell
          have hp := fi_le cs (xs i) m
          obtain ⟨p, hpe⟩ : ∃ p, p = fi cs (xs i) m := ⟨_, rfl⟩
          rw [← hpe] at hp
          have HP : Hid (fi cs (xs i) m = p) := hpe.symm
          clear hpe
          have hrl := hrel
          clear hrel
          go_upto_region 13 with fail
          go_loopw [9] (fun j wy => ∃ q : Nat, j = .int .i64 q ∧ q ≤ m ∧ Hid (Below V.heap.size V wy ∧ ∀ k, k < q → cs k ≤ xs i)) (fun j _ => m - (intOf j).toNat)
          case atStart => exact ⟨0, rfl, by omega, Below.refl _ _, fun k hk => by omega⟩
          case round =>
            rename World => Y
            obtain ⟨q, rfl, hq, hin⟩ := hrel
            have c := ((hin.out.1.cell (p := ⟨b, off + i, none⟩) (Nat.lt_of_lt_of_le HX.out.1 hrl.out.2.size)).trans (hrl.out.2.cell (p := ⟨b, off + i, none⟩) HX.out.1)).trans HX.out.2
            obtain ⟨x, hx⟩ : ∃ x, x = xs i := ⟨_, rfl⟩
            rw [← hx] at c
            have XX : Hid (x = xs i) := hx
            clear hx
            by_cases h4 : q < m
            · obtain ⟨b2, off2, rfl, hlt2, hcell2⟩ := HC2.out (by omega)
              have c2 := ((hin.out.1.cell (p := ⟨b2, off2 + q, none⟩) (Nat.lt_of_lt_of_le hlt2 hrl.out.2.size)).trans (hrl.out.2.cell (p := ⟨b2, off2 + q, none⟩) hlt2)).trans (hcell2 q h4)
              clear hcell2
              by_cases h5 : cs q ≤ x
              · have HQ : Hid (cs q ≤ x) := h5
                go_wp2_with (go_quiet (fail))
                go_roundw
                case rel =>
                  refine ⟨q + 1, by go_num, by omega, below_drewN hin.out.1 _, fun k hk => ?_⟩
                  by_cases e : k = q
                  · subst e; rw [← XX.out]; exact HQ.out
                  · exact hin.out.2 k (by omega)
                case measure => simp [intOf]; omega
              · have HF : fi cs (xs i) m = q := fi_of hq hin.out.2 (fun _ => by rw [← XX.out]; omega)
                obtain rfl : p = q := HP.out.symm.trans HF
                clear HF
                have hb6 : Below V.heap.size V Y := hin.out.1
                have hrow := own_below hrl.out.1 hb6
                have B3 : Hid (Below w.heap.size w Y) := bstep hrl.out.2 hb6
                have RW : Hid (Y.ownsRow w.heap.size 3 1 (.slice (some ⟨G, 0, none⟩) M M) M (ils (cnt cs m xs i) M)) := hrow
                have hci := cnt_in cs m xs i p
                clear hrow hb6 hin
                go_upto_region 15 with (go_quiet (fail))
                rename Nat => nq
                have hrow := own_below RW.out (below_drewN (Below.refl Y.heap.size Y) nq)
                have B4 : Hid (Below w.heap.size w (Y.drewN nq)) := below_drewN B3.out nq
                generalize Y.drewN nq = Z at *
                have c2 := hrow.cellAt p (by omega)
                rw [ils_get (by omega)] at c2
                have fz := hrow.frozenAt p
                have hst := (hrow.stored p (.int .i64 (cnt cs m xs i p + 1))).1
                rw [cnt_put HP.out] at hst
                have OP : Hid _ := hst
                clear hst hrow
                go_wp2
                go_roundw
                case rel => exact ⟨i + 1, by go_num, by omega, OP.out, B4.out.setCell (p := ⟨G, p, none⟩) GG.out _⟩
                case measure => simp [intOf]; omega
            · obtain rfl : m = q := by omega
              have HF : fi cs (xs i) m = m := fi_of hq hin.out.2 (fun h => by omega)
              obtain rfl : m = p := (HP.out.symm.trans HF).symm
              clear HF
              have hb6 : Below V.heap.size V Y := hin.out.1
              have hrow := own_below hrl.out.1 hb6
              have B3 : Hid (Below w.heap.size w Y) := bstep hrl.out.2 hb6
              have RW : Hid (Y.ownsRow w.heap.size 3 1 (.slice (some ⟨G, 0, none⟩) M M) M (ils (cnt cs m xs i) M)) := hrow
              have hci := cnt_in cs m xs i m
              clear hrow hb6 hin
              go_upto_region 15 with (go_quiet (fail))
              rename Nat => nq
              have hrow := own_below RW.out (below_drewN (Below.refl Y.heap.size Y) nq)
              have B4 : Hid (Below w.heap.size w (Y.drewN nq)) := below_drewN B3.out nq
              generalize Y.drewN nq = Z at *
              have c2 := hrow.cellAt m (by omega)
              rw [ils_get (by omega)] at c2
              have fz := hrow.frozenAt m
              have hst := (hrow.stored m (.int .i64 (cnt cs m xs i m + 1))).1
              rw [cnt_put HP.out] at hst
              have OP : Hid _ := hst
              clear hst hrow
              go_wp2
              go_roundw
              case rel => exact ⟨i + 1, by go_num, by omega, OP.out, B4.out.setCell (p := ⟨G, m, none⟩) GG.out _⟩
              case measure => simp [intOf]; omega
        · obtain rfl : n = i := by omega
          go_wp2
          go_ret2
          exact ⟨_, rfl, hrel.out⟩
end Go.Proofs.Ytielkbcljanomaa
