/- WiresOk of both sides. -/
import Derived.Test.YtlccicbgepfbbaaWD
namespace Go.Proofs.Ytlccicbgepfbbaa
open Go.RowKit

instance (n : Int) (k : Nat) (ss : Nat → Wr) : Decidable (Wok n k ss) := by unfold Wok; infer_instance

theorem all_snoc {P : Nat → Prop} {k : Nat} (h : ∀ q, q < k → P q) (h1 : P k) : ∀ q, q < k + 1 → P q := fun q hq => by
  by_cases e : q = k
  · rw [e]; exact h1
  · exact h q (by omega)

set_option maxHeartbeats 8000000 in
theorem iWok_any {w : World} {v : Value} {k : Nat} {ss : Nat → Wr} (n : Int) (hv : Il5 w v k ss) (hk : k ≤ 1048576) :
    Calls Try.prog 31 #[.int .i64 n, v] w fun e w' => e = .returned (.bool (decide (Wok n k ss))) ∧ Below w.heap.size w w' := by
  obtain ⟨m, hm⟩ : ∃ m, m = k := ⟨_, rfl⟩
  obtain ⟨ao, cap, rfl, hcap, hc⟩ := hv
  rw [← hm] at hc hk hcap ⊢
  clear hm
  have HC : Hid (0 < m → ∃ b off, ao = some ⟨b, off, none⟩ ∧ b < w.heap.size ∧ ∀ k, k < m → w.cell? ⟨b, off + k * 5, none⟩ = some (.int .i64 (ss k).fr) ∧ w.cell? ⟨b, off + k * 5 + 1, none⟩ = some (.int .i64 (ss k).to) ∧ w.cell? ⟨b, off + k * 5 + 2, none⟩ = some (.int .i64 (ss k).gi) ∧ w.cell? ⟨b, off + k * 5 + 3, none⟩ = some (.int .i64 (ss k).ta) ∧ w.cell? ⟨b, off + k * 5 + 4, none⟩ = some (.int .i64 (ss k).ha)) := hc
  clear hc
  have i0 := count_any n 20 w
  by_cases hn : 1 ≤ n ∧ n ≤ 20
  · rw [decide_eq_true hn] at i0
    have HN : Hid (1 ≤ n ∧ n ≤ 20) := hn
    by_cases h40 : m ≤ 40
    · obtain ⟨d, hd⟩ : ∃ d, d = decide (Wok n m ss) := ⟨_, rfl⟩
      rw [← hd]
      have HD : Hid (d = decide (Wok n m ss)) := hd
      clear hd
      go_enter Try.func31, Try.ntmps31
      go_wp2_with (first
        | (go_at_call 62; (with_reducible refine i0.mono ?_); rintro e w' ⟨rfl, hw⟩; obtain rfl := hw.symm))
      clear i0
      go_loopw [17] (fun i wr => ∃ k : Nat, i = .int .i64 k ∧ k ≤ m ∧ Hid (Below w.heap.size w wr ∧ ∀ q, q < k → Wgd n (ss q))) (fun i _ => m - (intOf i).toNat)
      case atStart => exact ⟨0, rfl, by omega, Below.refl _ _, fun q hq => by omega⟩
      case round =>
        obtain ⟨k, rfl, hk2, hrel⟩ := hrel
        by_cases h1 : k < m
        · have HBL : Hid (Below w.heap.size w wr) := hrel.out.1
          have HQ : Hid (∀ q, q < k → Wgd n (ss q)) := hrel.out.2
          clear hrel
          obtain ⟨b, off, rfl, hlt, hcell⟩ := HC.out (by omega)
          have hb := HBL.out
          obtain ⟨c0, c1, c2, c3, c4⟩ := hcell k h1
          obtain ⟨c0, c1, c2, c3, c4⟩ : wr.cell? ⟨b, off + k * 5, none⟩ = some (.int .i64 (ss k).fr) ∧ wr.cell? ⟨b, off + k * 5 + 1, none⟩ = some (.int .i64 (ss k).to) ∧ wr.cell? ⟨b, off + k * 5 + 2, none⟩ = some (.int .i64 (ss k).gi) ∧ wr.cell? ⟨b, off + k * 5 + 3, none⟩ = some (.int .i64 (ss k).ta) ∧ wr.cell? ⟨b, off + k * 5 + 4, none⟩ = some (.int .i64 (ss k).ha) := ⟨(hb.cell (p := ⟨b, off + k * 5, none⟩) hlt).trans c0, (hb.cell (p := ⟨b, off + k * 5 + 1, none⟩) hlt).trans c1, (hb.cell (p := ⟨b, off + k * 5 + 2, none⟩) hlt).trans c2, (hb.cell (p := ⟨b, off + k * 5 + 3, none⟩) hlt).trans c3, (hb.cell (p := ⟨b, off + k * 5 + 4, none⟩) hlt).trans c4⟩
          clear hcell hlt hb
          by_cases hg : Wgd n (ss k)
          · have ig := iwire_any n (ss k) HN.out ((ss k).w wr)
            rw [decide_eq_true hg] at ig
            have HG : Hid (Wgd n (ss k)) := hg
            clear hg
            go_wp2_with (first
              | (go_at_call 63; (with_reducible refine ig.mono ?_); rintro e w2 ⟨rfl, hb2⟩; have B2 : Hid (Below w.heap.size w w2) := bstep (bstep HBL.out (below_one _ _)) hb2; clear hb2))
            go_roundw
            case rel => exact ⟨k + 1, by go_num, by omega, B2.out, all_snoc HQ.out HG.out⟩
            case measure => simp [intOf]; omega
          · have ig := iwire_any n (ss k) HN.out ((ss k).w wr)
            rw [decide_eq_false hg] at ig
            have HG : Hid (¬ Wgd n (ss k)) := hg
            clear hg
            go_wp2_with (first
              | (go_at_call 63; (with_reducible refine ig.mono ?_); rintro e w2 ⟨rfl, hb2⟩; have B2 : Hid (Below w.heap.size w w2) := bstep (bstep HBL.out (below_one _ _)) hb2; clear hb2))
            go_ret
            rw [HD.out, show decide (Wok n m ss) = false from decide_eq_false (fun h => HG.out (h.2.2 k h1))]
            exact ⟨rfl, B2.out⟩
        · obtain rfl : k = m := by omega
          have HB : Hid (Below w.heap.size w wr ∧ ∀ q, q < k → Wgd n (ss q)) := hrel
          clear hrel
          go_wp2
          go_ret
          rw [HD.out, show decide (Wok n k ss) = true from decide_eq_true ⟨HN.out, h40, HB.out.2⟩]
          exact ⟨rfl, HB.out.1⟩
    · rw [show decide (Wok n m ss) = false from decide_eq_false (fun h => h40 h.2.1)]
      go_enter Try.func31, Try.ntmps31
      go_wp2_with (first
        | (go_at_call 62; (with_reducible refine i0.mono ?_); rintro e w' ⟨rfl, hw⟩; obtain rfl := hw.symm))
      go_ret
      exact ⟨rfl, Below.refl _ _⟩
  · rw [decide_eq_false hn] at i0
    rw [show decide (Wok n m ss) = false from decide_eq_false (fun h => hn h.1)]
    go_enter Try.func31, Try.ntmps31
    go_wp2_with (first
      | (go_at_call 62; (with_reducible refine i0.mono ?_); rintro e w' ⟨rfl, hw⟩; obtain rfl := hw.symm))
    go_ret
    exact ⟨rfl, Below.refl _ _⟩

set_option maxHeartbeats 8000000 in
theorem sWok_any {w : World} {v : Value} {k : Nat} {ss : Nat → Wr} (n : Int) (hv : Il5 w v k ss) (hk : k ≤ 1048576) :
    Calls Try.prog 29 #[.int .i64 n, v] w fun e w' => e = .returned (.bool (decide (Wok n k ss))) ∧ Below w.heap.size w w' := by
  obtain ⟨m, hm⟩ : ∃ m, m = k := ⟨_, rfl⟩
  obtain ⟨ao, cap, rfl, hcap, hc⟩ := hv
  rw [← hm] at hc hk hcap ⊢
  clear hm
  have HC : Hid (0 < m → ∃ b off, ao = some ⟨b, off, none⟩ ∧ b < w.heap.size ∧ ∀ k, k < m → w.cell? ⟨b, off + k * 5, none⟩ = some (.int .i64 (ss k).fr) ∧ w.cell? ⟨b, off + k * 5 + 1, none⟩ = some (.int .i64 (ss k).to) ∧ w.cell? ⟨b, off + k * 5 + 2, none⟩ = some (.int .i64 (ss k).gi) ∧ w.cell? ⟨b, off + k * 5 + 3, none⟩ = some (.int .i64 (ss k).ta) ∧ w.cell? ⟨b, off + k * 5 + 4, none⟩ = some (.int .i64 (ss k).ha)) := hc
  clear hc
  have i0 := in_one n 1 20 w
  by_cases hn : 1 ≤ n ∧ n ≤ 20
  · rw [decide_eq_true hn] at i0
    have HN : Hid (1 ≤ n ∧ n ≤ 20) := hn
    by_cases h40 : m ≤ 40
    · obtain ⟨d, hd⟩ : ∃ d, d = decide (Wok n m ss) := ⟨_, rfl⟩
      rw [← hd]
      have HD : Hid (d = decide (Wok n m ss)) := hd
      clear hd
      go_enter Try.func29, Try.ntmps29
      go_wp2_with (first
        | (go_at_call 60; (with_reducible refine i0.mono ?_); rintro e w' ⟨rfl, hw⟩; obtain rfl := hw.symm))
      clear i0
      go_loopw [5] (fun i wr => ∃ k : Nat, i = .int .i64 k ∧ k ≤ m ∧ Hid (Below w.heap.size w wr ∧ ∀ q, q < k → Wgd n (ss q))) (fun i _ => m - (intOf i).toNat)
      case atStart => exact ⟨0, rfl, by omega, Below.refl _ _, fun q hq => by omega⟩
      case round =>
        obtain ⟨k, rfl, hk2, hrel⟩ := hrel
        by_cases h1 : k < m
        · have HBL : Hid (Below w.heap.size w wr) := hrel.out.1
          have HQ : Hid (∀ q, q < k → Wgd n (ss q)) := hrel.out.2
          clear hrel
          obtain ⟨b, off, rfl, hlt, hcell⟩ := HC.out (by omega)
          have hb := HBL.out
          obtain ⟨c0, c1, c2, c3, c4⟩ := hcell k h1
          obtain ⟨c0, c1, c2, c3, c4⟩ : wr.cell? ⟨b, off + k * 5, none⟩ = some (.int .i64 (ss k).fr) ∧ wr.cell? ⟨b, off + k * 5 + 1, none⟩ = some (.int .i64 (ss k).to) ∧ wr.cell? ⟨b, off + k * 5 + 2, none⟩ = some (.int .i64 (ss k).gi) ∧ wr.cell? ⟨b, off + k * 5 + 3, none⟩ = some (.int .i64 (ss k).ta) ∧ wr.cell? ⟨b, off + k * 5 + 4, none⟩ = some (.int .i64 (ss k).ha) := ⟨(hb.cell (p := ⟨b, off + k * 5, none⟩) hlt).trans c0, (hb.cell (p := ⟨b, off + k * 5 + 1, none⟩) hlt).trans c1, (hb.cell (p := ⟨b, off + k * 5 + 2, none⟩) hlt).trans c2, (hb.cell (p := ⟨b, off + k * 5 + 3, none⟩) hlt).trans c3, (hb.cell (p := ⟨b, off + k * 5 + 4, none⟩) hlt).trans c4⟩
          clear hcell hlt hb
          have BW : Hid (Below w.heap.size w ((ss k).w wr)) := bstep HBL.out (below_one _ _)
          have k0 := in_one (ss k).fr 0 (n - 1) ((ss k).w wr)
          have k1 := in_one (ss k).to 0 (n - 1) ((ss k).w wr)
          have k2 := in_one (ss k).gi 1 64 ((ss k).w wr)
          have k3 := in_one (ss k).ta 1 64 ((ss k).w wr)
          have k4 := in_one (ss k).ha 0 1000 ((ss k).w wr)
          by_cases g0 : 0 ≤ (ss k).fr ∧ (ss k).fr ≤ n - 1
          · rw [decide_eq_true g0] at k0
            by_cases g1 : 0 ≤ (ss k).to ∧ (ss k).to ≤ n - 1
            · rw [decide_eq_true g1] at k1
              by_cases g2 : 1 ≤ (ss k).gi ∧ (ss k).gi ≤ 64
              · rw [decide_eq_true g2] at k2
                by_cases g3 : 1 ≤ (ss k).ta ∧ (ss k).ta ≤ 64
                · rw [decide_eq_true g3] at k3
                  by_cases g4 : 0 ≤ (ss k).ha ∧ (ss k).ha ≤ 1000
                  · rw [decide_eq_true g4] at k4
                    have HG : Hid (Wgd n (ss k)) := ⟨g0, g1, g2, g3, g4⟩
                    go_wp2_with (first
                        | (go_at_call 60; (with_reducible refine k0.mono ?_); rintro e w' ⟨rfl, hw⟩; obtain rfl := hw.symm; clear k0)
                        | (go_at_call 60; (with_reducible refine k1.mono ?_); rintro e w' ⟨rfl, hw⟩; obtain rfl := hw.symm; clear k1)
                        | (go_at_call 60; (with_reducible refine k2.mono ?_); rintro e w' ⟨rfl, hw⟩; obtain rfl := hw.symm; clear k2)
                        | (go_at_call 60; (with_reducible refine k3.mono ?_); rintro e w' ⟨rfl, hw⟩; obtain rfl := hw.symm; clear k3)
                        | (go_at_call 60; (with_reducible refine k4.mono ?_); rintro e w' ⟨rfl, hw⟩; obtain rfl := hw.symm; clear k4))
                    go_roundw
                    case rel => exact ⟨k + 1, by go_num, by omega, BW.out, all_snoc HQ.out HG.out⟩
                    case measure => simp [intOf]; omega
                  · rw [decide_eq_false g4] at k4
                    have HG : Hid (¬ Wgd n (ss k)) := fun h => g4 h.2.2.2.2
                    go_wp2_with (first
                        | (go_at_call 60; (with_reducible refine k0.mono ?_); rintro e w' ⟨rfl, hw⟩; obtain rfl := hw.symm; clear k0)
                        | (go_at_call 60; (with_reducible refine k1.mono ?_); rintro e w' ⟨rfl, hw⟩; obtain rfl := hw.symm; clear k1)
                        | (go_at_call 60; (with_reducible refine k2.mono ?_); rintro e w' ⟨rfl, hw⟩; obtain rfl := hw.symm; clear k2)
                        | (go_at_call 60; (with_reducible refine k3.mono ?_); rintro e w' ⟨rfl, hw⟩; obtain rfl := hw.symm; clear k3)
                        | (go_at_call 60; (with_reducible refine k4.mono ?_); rintro e w' ⟨rfl, hw⟩; obtain rfl := hw.symm; clear k4))
                    go_ret
                    rw [HD.out, show decide (Wok n m ss) = false from decide_eq_false (fun h => HG.out (h.2.2 k h1))]
                    exact ⟨rfl, BW.out⟩
                · rw [decide_eq_false g3] at k3
                  have HG : Hid (¬ Wgd n (ss k)) := fun h => g3 h.2.2.2.1
                  go_wp2_with (first
                      | (go_at_call 60; (with_reducible refine k0.mono ?_); rintro e w' ⟨rfl, hw⟩; obtain rfl := hw.symm; clear k0)
                      | (go_at_call 60; (with_reducible refine k1.mono ?_); rintro e w' ⟨rfl, hw⟩; obtain rfl := hw.symm; clear k1)
                      | (go_at_call 60; (with_reducible refine k2.mono ?_); rintro e w' ⟨rfl, hw⟩; obtain rfl := hw.symm; clear k2)
                      | (go_at_call 60; (with_reducible refine k3.mono ?_); rintro e w' ⟨rfl, hw⟩; obtain rfl := hw.symm; clear k3))
                  go_ret
                  rw [HD.out, show decide (Wok n m ss) = false from decide_eq_false (fun h => HG.out (h.2.2 k h1))]
                  exact ⟨rfl, BW.out⟩
              · rw [decide_eq_false g2] at k2
                have HG : Hid (¬ Wgd n (ss k)) := fun h => g2 h.2.2.1
                go_wp2_with (first
                    | (go_at_call 60; (with_reducible refine k0.mono ?_); rintro e w' ⟨rfl, hw⟩; obtain rfl := hw.symm; clear k0)
                    | (go_at_call 60; (with_reducible refine k1.mono ?_); rintro e w' ⟨rfl, hw⟩; obtain rfl := hw.symm; clear k1)
                    | (go_at_call 60; (with_reducible refine k2.mono ?_); rintro e w' ⟨rfl, hw⟩; obtain rfl := hw.symm; clear k2))
                go_ret
                rw [HD.out, show decide (Wok n m ss) = false from decide_eq_false (fun h => HG.out (h.2.2 k h1))]
                exact ⟨rfl, BW.out⟩
            · rw [decide_eq_false g1] at k1
              have HG : Hid (¬ Wgd n (ss k)) := fun h => g1 h.2.1
              go_wp2_with (first
                  | (go_at_call 60; (with_reducible refine k0.mono ?_); rintro e w' ⟨rfl, hw⟩; obtain rfl := hw.symm; clear k0)
                  | (go_at_call 60; (with_reducible refine k1.mono ?_); rintro e w' ⟨rfl, hw⟩; obtain rfl := hw.symm; clear k1))
              go_ret
              rw [HD.out, show decide (Wok n m ss) = false from decide_eq_false (fun h => HG.out (h.2.2 k h1))]
              exact ⟨rfl, BW.out⟩
          · rw [decide_eq_false g0] at k0
            have HG : Hid (¬ Wgd n (ss k)) := fun h => g0 h.1
            go_wp2_with (first
                | (go_at_call 60; (with_reducible refine k0.mono ?_); rintro e w' ⟨rfl, hw⟩; obtain rfl := hw.symm; clear k0))
            go_ret
            rw [HD.out, show decide (Wok n m ss) = false from decide_eq_false (fun h => HG.out (h.2.2 k h1))]
            exact ⟨rfl, BW.out⟩
        · obtain rfl : k = m := by omega
          have HB : Hid (Below w.heap.size w wr ∧ ∀ q, q < k → Wgd n (ss q)) := hrel
          clear hrel
          go_wp2
          go_ret
          rw [HD.out, show decide (Wok n k ss) = true from decide_eq_true ⟨HN.out, h40, HB.out.2⟩]
          exact ⟨rfl, HB.out.1⟩
    · rw [show decide (Wok n m ss) = false from decide_eq_false (fun h => h40 h.2.1)]
      go_enter Try.func29, Try.ntmps29
      go_wp2_with (first
        | (go_at_call 60; (with_reducible refine i0.mono ?_); rintro e w' ⟨rfl, hw⟩; obtain rfl := hw.symm))
      go_ret
      exact ⟨rfl, Below.refl _ _⟩
  · rw [decide_eq_false hn] at i0
    rw [show decide (Wok n m ss) = false from decide_eq_false (fun h => hn h.1)]
    go_enter Try.func29, Try.ntmps29
    go_wp2_with (first
      | (go_at_call 60; (with_reducible refine i0.mono ?_); rintro e w' ⟨rfl, hw⟩; obtain rfl := hw.symm))
    go_ret
    exact ⟨rfl, Below.refl _ _⟩
end Go.Proofs.Ytlccicbgepfbbaa
