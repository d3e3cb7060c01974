/- Middles: the model's l10Sorted. -/
import Derived.Test.YtfobngpokchgeaaMN
namespace Go.Proofs.Ytfobngpokchgeaa
open Go.RowKit

set_option maxHeartbeats 2000000 in
theorem sSorted_any {w : World} {v : Value} {n B : Nat} {xs : Nat → Int} (hv : w.ownsRow B 3 1 v n (ils xs n)) (h0 : 0 < n) (hn : n ≤ 64) :
    Calls Try.prog 18 #[v] w fun e w' => ∃ u, e = .returned u ∧ w'.ownsRow w.heap.size 3 1 u n (ils (srt n xs) n) ∧ Below w.heap.size w w' := by
  have HV : Hid ((w.alloc (.cells #[] 3)).ownsRow B 3 1 v n (ils xs n)) := own_below hv (below_one _ _)
  have HE : Hid ((w.alloc (.cells #[] 3)).ownsRow w.heap.size 3 1 (.slice (some ⟨w.heap.size, 0, none⟩) 0 0) 0 []) := own_empty w 3 1
  have BE : Hid (Below w.heap.size w (w.alloc (.cells #[] 3))) := below_one _ _
  obtain ⟨ao, cap, rfl, hcap, hc⟩ := il_of_own hv
  clear hc hv
  go_enter Try.func18, Try.ntmps18
  go_wp2_with (first
    | (at_builtin; refine wpList_appo rfl _ _ rfl w.heap.size B _ _ _ _ _ _ rfl rfl HE.out HV.out (by omega) BE.out.size ?_))
  intro u w1 ho hg
  have HO : Hid (w1.ownsRow w.heap.size 3 1 u n (ils xs n) ∧ Below w.heap.size w w1) := ⟨by simpa using ho, grown_below BE.out (Nat.le_refl _) HE.out hg⟩
  clear ho hg HE BE HV
  obtain ⟨g, gc, rfl, hgc⟩ : ∃ g gc, u = .slice (some ⟨g, 0, none⟩) n gc ∧ n ≤ gc := by
    rcases HO.out.1.2 with ⟨_, e⟩ | ⟨g, gc, cur, e, _, _, e2, _⟩
    · omega
    · exact ⟨g, gc, e, e2⟩
  have hgl : w.heap.size ≤ g := by
    have := World.ownsRow.lt HO.out.1 g rfl
    omega
  go_wp2
  go_loopw [4, 5, 6] (fun i _ _ wr => ∃ (j : Nat) (f : Nat → Int), i = .int .i64 j ∧ 1 ≤ j ∧ j ≤ n ∧ Hid (wr.ownsRow w.heap.size 3 1 (.slice (some ⟨g, 0, none⟩) n gc) n (ils f n) ∧ Ord f j ∧ (ofF f n).Perm (ofF xs n) ∧ Below w.heap.size w wr)) (fun i _ _ _ => n - (intOf i).toNat)
  case atStart => exact ⟨1, xs, rfl, by omega, by omega, HO.out.1, fun a b _ _ => by omega, List.Perm.refl _, HO.out.2⟩
  case round =>
    obtain ⟨j, f, rfl, hj1, hj2, hrel⟩ := hrel
    by_cases h1 : j < n
    · have HF : Hid (wr.ownsRow w.heap.size 3 1 (.slice (some ⟨g, 0, none⟩) n gc) n (ils f n) ∧ Odr f j j ∧ (ofF f n).Perm (ofF xs n) ∧ Below w.heap.size w wr) := ⟨hrel.out.1, Odr.start hrel.out.2.1, hrel.out.2.2.1, hrel.out.2.2.2⟩
      clear hrel
      go_wp2
      go_loopw [5, 6] (fun i _ wr => ∃ (k : Nat) (f : Nat → Int), i = .int .i64 k ∧ k ≤ j ∧ Hid (wr.ownsRow w.heap.size 3 1 (.slice (some ⟨g, 0, none⟩) n gc) n (ils f n) ∧ Odr f j k ∧ (ofF f n).Perm (ofF xs n) ∧ Below w.heap.size w wr)) (fun i _ _ => (intOf i).toNat)
      case atStart => exact ⟨j, f, rfl, by omega, HF.out⟩
      case round =>
        obtain ⟨k, f', rfl, hk, hrel⟩ := hrel
        by_cases h2 : 0 < k
        · obtain ⟨q, rfl⟩ : ∃ q, k = q + 1 := ⟨k - 1, by omega⟩
          have hrow := hrel.out.1
          have c1 := hrow.cellAt q (by omega)
          have c2 := hrow.cellAt (q + 1) (by omega)
          have z1 := hrow.frozenAt q
          have z2 := hrow.frozenAt (q + 1)
          rw [ils_get (by omega)] at c1 c2
          have ek : ((q : Int) + 1) - 1 = (q : Int) := by omega
          by_cases h3 : f' (q + 1) < f' q
          · have HREL : Hid (wr.ownsRow w.heap.size 3 1 (.slice (some ⟨g, 0, none⟩) n gc) n (ils f' n) ∧ Odr f' j (q + 1) ∧ (ofF f' n).Perm (ofF xs n) ∧ Below w.heap.size w wr) := hrel.out
            clear hrow hrel
            go_upto_region 8 with (go_quiet (fail))
            have r2 := own_below HREL.out.1 (below_drewN (Below.refl _ _) nq)
            have b2 := below_drewN HREL.out.2.2.2 nq
            have H2 : Hid (Odr f' j (q + 1) ∧ (ofF f' n).Perm (ofF xs n)) := ⟨HREL.out.2.1, HREL.out.2.2.1⟩
            clear c1 c2 z1 z2 HREL
            generalize wr.drewN nq = W at *
            have c1 := r2.cellAt q (by omega)
            have c2 := r2.cellAt (q + 1) (by omega)
            have z2 := r2.frozenAt (q + 1)
            rw [ils_get (by omega)] at c1 c2
            have st := (r2.stored (q + 1) (.int .i64 (f' q))).1
            have z3 := st.frozenAt q
            have c3 := st.cellAt q (by omega)
            rw [List.getElem?_set_ne (by omega), ils_get (by omega)] at c3
            have st2 := (st.stored q (.int .i64 (f' (q + 1)))).1
            have esw := swp_put f' n (q + 1) (by omega)
            rw [show q + 1 - 1 = q by omega] at esw
            rw [esw] at st2
            clear esw
            have OP : Hid (((W.setCell ⟨g, q + 1, none⟩ (.int .i64 (f' q))).setCell ⟨g, q, none⟩ (.int .i64 (f' (q + 1)))).ownsRow w.heap.size 3 1 (.slice (some ⟨g, 0, none⟩) n gc) n (ils (swp f' (q + 1)) n) ∧ Odr (swp f' (q + 1)) j q ∧ (ofF (swp f' (q + 1)) n).Perm (ofF xs n) ∧ Below w.heap.size w ((W.setCell ⟨g, q + 1, none⟩ (.int .i64 (f' q))).setCell ⟨g, q, none⟩ (.int .i64 (f' (q + 1))))) := ⟨st2, H2.out.1.swap (by omega) hk (by rw [show q + 1 - 1 = q by omega]; omega), (swp_perm f' (by omega) (by omega)).trans H2.out.2, (b2.setCell (p := ⟨g, q + 1, none⟩) hgl _).setCell (p := ⟨g, q, none⟩) hgl _⟩
            clear st st2 r2 b2
            go_wp2
            go_roundw
            case rel => exact ⟨q, swp f' (q + 1), by go_num, by omega, OP.out⟩
            case measure => simp [intOf]
          · have OS : Hid (Ord f' (j + 1)) := hrel.out.2.1.stop hk (.inr (by rw [show q + 1 - 1 = q by omega]; omega))
            clear hrow
            go_wp2_with (go_quiet (fail))
            go_roundw
            case rel => exact ⟨j + 1, f', by go_num, by omega, by omega, own_below hrel.out.1 (below_drewN (Below.refl _ _) _), OS.out, hrel.out.2.2.1, below_drewN hrel.out.2.2.2 _⟩
            case measure => simp [intOf]; omega
        · have OS : Hid (Ord f' (j + 1)) := hrel.out.2.1.stop hk (.inl (by omega))
          obtain rfl : k = 0 := by omega
          go_wp2_with (go_quiet (fail))
          go_roundw
          case rel => exact ⟨j + 1, f', by go_num, by omega, by omega, own_below hrel.out.1 (below_drewN (Below.refl _ _) _), OS.out, hrel.out.2.2.1, below_drewN hrel.out.2.2.2 _⟩
          case measure => simp [intOf]; omega
    · obtain rfl : j = n := by omega
      have HF : Hid (wr.ownsRow w.heap.size 3 1 (.slice (some ⟨g, 0, none⟩) j gc) j (ils (srt j xs) j) ∧ Below w.heap.size w wr) := by
        refine ⟨?_, hrel.out.2.2.2⟩
        rw [← ils_congr (srt_of hrel.out.2.1 hrel.out.2.2.1)]
        exact hrel.out.1
      clear hrel
      go_wp2
      go_ret
      exact ⟨_, rfl, HF.out.1, HF.out.2⟩
end Go.Proofs.Ytfobngpokchgeaa
