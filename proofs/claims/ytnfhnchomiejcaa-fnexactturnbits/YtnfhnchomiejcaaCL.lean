/- Checks, of the model. -/
import Derived.Test.YtnfhnchomiejcaaCK
namespace Go.Proofs.Ytnfhnchomiejcaa
open Go.RowKit

set_option maxHeartbeats 4000000 in
theorem sChecks_any {w : World} {v : Value} {M : Nat} {ms : Nat → Nat} {X : Nat → Nat → Int} {n : Int} (hv : Ipp w v M ms X) (hM : M ≤ 1048576) (hms : ∀ k, k < M → ms k ≤ 1048576) : Calls Try.prog 16 #[v, .int .i64 n] w fun e w' => e = .returned (.bool (yb (Cks M ms X n))) ∧ Below w.heap.size w w' := by
  obtain ⟨ao, cap, rfl, hcap, hc⟩ := hv
  have HC : Hid (0 < M → ∃ b off, ∃ R : Nat → Value, ao = some ⟨b, off, none⟩ ∧ b < w.heap.size ∧ ∀ k, k < M → w.cell? ⟨b, off + k, none⟩ = some (R k) ∧ Il w (R k) (ms k) (X k)) := hc
  have HMS : Hid (∀ k, k < M → ms k ≤ 1048576) := hms
  clear hc hms
  obtain ⟨d, hd⟩ : ∃ d, d = yb (Cks M ms X n) := ⟨_, rfl⟩
  rw [← hd]
  have HD : Hid (d = yb (Cks M ms X n)) := hd
  clear hd
  have i1 := in_any n 1 128
  by_cases g1 : 1 ≤ n ∧ n ≤ 128
  · rw [decide_eq_true g1] at i1
    by_cases g3 : M ≤ 64
    · have d3 : decide ((64 : Int) < (M : Int)) = false := by simp; omega
      go_enter Try.func16, Try.ntmps16
      go_wp2_with (first | (go_at_call 38; (with_reducible refine (i1 _).mono ?_); rintro e w' ⟨rfl, hw⟩; obtain rfl := hw.symm))
      clear i1
      go_loopw [5, 6] (fun i _ wr => ∃ k : Nat, i = .int .i64 k ∧ k ≤ M ∧ Hid (Below w.heap.size w wr ∧ ∀ j, j < k → Chk (ms j) (X j) n)) (fun i _ _ => M - (intOf i).toNat)
      case atStart => exact ⟨0, rfl, by omega, Below.refl _ _, fun j hj => by omega⟩
      case round =>
        obtain ⟨k, rfl, hk, hal⟩ := hrel
        by_cases h1 : k < M
        · obtain ⟨b, off, R, rfl, hlt, hcell⟩ := HC.out (by omega)
          obtain ⟨c0, hil⟩ := hcell k h1
          have hm := HMS.out k h1
          obtain ⟨m, em⟩ : ∃ m, m = ms k := ⟨_, rfl⟩
          rw [← em] at hil hm
          have EM : Hid (m = ms k) := em
          obtain ⟨qa, qc, hq, hqc, hqq⟩ := hil
          rw [hq] at c0
          have CC : Hid (∀ W, Below w.heap.size w W → W.cell? ⟨b, off + k, none⟩ = some (.slice qa m qc)) := fun W hW => (hW.cell (p := ⟨b, off + k, none⟩) hlt).trans c0
          have c := CC.out wr hal.out.1
          have HQ : Hid (0 < m → ∃ b off, qa = some ⟨b, off, none⟩ ∧ b < w.heap.size ∧ ∀ j, j < m → w.cell? ⟨b, off + j, none⟩ = some (.int .i64 (X k j))) := hqq
          clear hcell hqq hq c0 em
          have i2 := in_any (m : Int) 2 16
          by_cases hs : 2 ≤ m ∧ m ≤ 16
          · rw [decide_eq_true (by omega)] at i2
            go_wp2_with (first | (go_at_call 38; (with_reducible refine (i2 _).mono ?_); rintro e w' ⟨rfl, hw⟩; obtain rfl := hw.symm))
            clear i2 c
            go_loopw [6] (fun i w2 => ∃ q : Nat, i = .int .i64 q ∧ q ≤ m ∧ Hid (Below w.heap.size w w2 ∧ Plc q (X k) n)) (fun i _ => m - (intOf i).toNat)
            case atStart => exact ⟨0, rfl, by omega, hal.out.1, plc_zero _ _⟩
            case round =>
              obtain ⟨q, rfl, hq, hpl⟩ := hrel
              have c := CC.out _ hpl.out.1
              by_cases h2 : q < m
              · obtain ⟨b2, off2, rfl, hlt2, hcell2⟩ := HQ.out (by omega)
                have c2 := (hpl.out.1.cell (p := ⟨b2, off2 + q, none⟩) hlt2).trans (hcell2 q h2)
                obtain ⟨x, hx⟩ : ∃ x, x = X k q := ⟨_, rfl⟩
                rw [← hx] at c2
                have HX : Hid (x = X k q) := hx
                clear hx
                have i3 := in_any x 0 (n - 1)
                rcases Nat.eq_zero_or_pos q with h0 | h0
                · clear hcell2
                  have dq : decide ((0 : Int) < (q : Int)) = false := by simp; omega
                  have dq2 : decide (0 < q) = false := by simp; omega
                  have dq3 : ¬ 0 < q := by omega
                  have HE : Hid (q = 0) := h0
                  clear h0
                  by_cases hg : 0 ≤ x ∧ x ≤ n - 1
                  · rw [decide_eq_true hg] at i3
                    have HP : Hid (Plc (q + 1) (X k) n) := plc_next hpl.out.2 (by rw [← HX.out, HE.out]; show -1 < x; omega) (by rw [← HX.out]; omega)
                    go_wp2_with (go_quiet ((go_at_call 38; with_reducible exact Calls.quiet_of_same (i3 _))))
                    go_roundw
                    case rel => exact ⟨q + 1, by go_num, by omega, below_drewN hpl.out.1 _, HP.out⟩
                    case measure => simp [intOf]; omega
                  · rw [decide_eq_false hg] at i3
                    have HP : Hid (¬ Plc m (X k) n) := plc_bad h2 (fun z => hg (by have z1 := z.1; have z2 := z.2; rw [← HX.out] at z1 z2; rw [HE.out] at z1; have z3 : -1 < x := z1; omega))
                    go_wp2_with (go_quiet ((go_at_call 38; with_reducible exact Calls.quiet_of_same (i3 _))))
                    go_ret
                    exact retbb (by rw [HD.out]; exact (yb_no (fun z => HP.out (by rw [EM.out]; exact (z.2 k h1).2))).symm) (below_drewN hpl.out.1 _)
                · obtain ⟨q, rfl⟩ : ∃ p, q = p + 1 := ⟨q - 1, by omega⟩
                  clear h0
                  have c3 := (hpl.out.1.cell (p := ⟨b2, off2 + q, none⟩) hlt2).trans (hcell2 q (by omega))
                  obtain ⟨y, hy⟩ : ∃ y, y = X k q := ⟨_, rfl⟩
                  rw [← hy] at c3
                  have HY : Hid (y = X k q) := hy
                  have hy0 : 0 ≤ y := by rw [hy]; exact (hpl.out.2.lim q (by omega)).1
                  clear hy hcell2
                  have dq : decide ((0 : Int) < ((q + 1 : Nat) : Int)) = true := by simp
                  by_cases hg : 0 ≤ x ∧ x ≤ n - 1
                  · rw [decide_eq_true hg] at i3
                    by_cases hg2 : y < x
                    · have HP : Hid (Plc (q + 1 + 1) (X k) n) := plc_next hpl.out.2 (by show X k q < _; rw [← HX.out, ← HY.out]; exact hg2) (by rw [← HX.out]; omega)
                      go_wp2_with (go_quiet ((go_at_call 38; with_reducible exact Calls.quiet_of_same (i3 _))))
                      go_roundw
                      case rel => exact ⟨q + 1 + 1, by go_num, by omega, below_drewN hpl.out.1 _, HP.out⟩
                      case measure => simp [intOf]; omega
                    · have HP : Hid (¬ Plc m (X k) n) := plc_bad h2 (fun z => hg2 (by have := z.1; show y < x; rw [HX.out, HY.out]; exact this))
                      go_wp2_with (go_quiet ((go_at_call 38; with_reducible exact Calls.quiet_of_same (i3 _))))
                      go_ret
                      exact retbb (by rw [HD.out]; exact (yb_no (fun z => HP.out (by rw [EM.out]; exact (z.2 k h1).2))).symm) (below_drewN hpl.out.1 _)
                  · rw [decide_eq_false hg] at i3
                    have HP : Hid (¬ Plc m (X k) n) := fun z => hg (by have := z.lim (q + 1) h2; rw [← HX.out] at this; omega)
                    go_wp2_with (go_quiet ((go_at_call 38; with_reducible exact Calls.quiet_of_same (i3 _))))
                    go_ret
                    exact retbb (by rw [HD.out]; exact (yb_no (fun z => HP.out (by rw [EM.out]; exact (z.2 k h1).2))).symm) (below_drewN hpl.out.1 _)
              · obtain rfl : q = m := by omega
                go_wp2
                go_roundw
                case rel =>
                  refine ⟨k + 1, by go_num, by omega, hpl.out.1, fun j hj => ?_⟩
                  by_cases hjk : j = k
                  · subst hjk; rw [← EM.out]; exact ⟨hs, hpl.out.2⟩
                  · exact hal.out.2 j (by omega)
                case measure => simp [intOf]; omega
          · rw [decide_eq_false (by omega)] at i2
            go_wp2_with (first | (go_at_call 38; (with_reducible refine (i2 _).mono ?_); rintro e w' ⟨rfl, hw⟩; obtain rfl := hw.symm))
            go_ret
            exact retbb (by rw [HD.out]; exact (yb_no (fun z => hs (by rw [EM.out]; exact (z.2 k h1).1))).symm) hal.out.1
        · obtain rfl : k = M := by omega
          go_wp2
          go_ret
          exact retbb (by rw [HD.out]; exact (yb_yes ⟨⟨g1, g3⟩, hal.out.2⟩).symm) hal.out.1
    · have d3 : decide ((64 : Int) < (M : Int)) = true := by simp; omega
      go_enter Try.func16, Try.ntmps16
      go_wp2_with (first | (go_at_call 38; (with_reducible refine (i1 _).mono ?_); rintro e w' ⟨rfl, hw⟩; obtain rfl := hw.symm))
      go_ret
      exact retbb (by rw [HD.out]; exact (yb_no (fun q => g3 q.1.2)).symm) (Below.refl _ _)
  · rw [decide_eq_false g1] at i1
    go_enter Try.func16, Try.ntmps16
    go_wp2_with (first | (go_at_call 38; (with_reducible refine (i1 _).mono ?_); rintro e w' ⟨rfl, hw⟩; obtain rfl := hw.symm))
    go_ret
    exact retbb (by rw [HD.out]; exact (yb_no (fun q => g1 q.1.1)).symm) (Below.refl _ _)
end Go.Proofs.Ytnfhnchomiejcaa
