/- Fire of both sides. -/
import Derived.Test.YtlccicbgepfbbaaWI
namespace Go.Proofs.Ytlccicbgepfbbaa
open Go.RowKit

/-- What lies there behind j of an order. -/
def fh (ss : Nat → Wr) (o : Nat → Int) : Nat → Nat → Int
  | 0 => hav ss
  | j + 1 => frd ss (o j) (fh ss o j)

/-- Whether the j-th of an order can fire. -/
def Fok (n : Int) (m : Nat) (ss : Nat → Wr) (o : Nat → Int) (j : Nat) : Prop := (0 ≤ o j ∧ o j ≤ n - 1) ∧ Can m ss (fh ss o j) (o j)
instance (n : Int) (m : Nat) (ss : Nat → Wr) (o : Nat → Int) (j : Nat) : Decidable (Fok n m ss o j) := by unfold Fok; infer_instance

theorem fh_bounds {n : Int} {m : Nat} {ss : Nat → Wr} {o : Nat → Int} (h : Wok n m ss) : ∀ j, (∀ q, q < j → Fok n m ss o q) → ∀ i, i < m → 0 ≤ fh ss o j i ∧ fh ss o j i ≤ 1000 + 64 * (j : Int)
  | 0, _, i, hi => by
    have := (h.2.2 i hi).2.2.2.2
    unfold fh hav
    omega
  | j + 1, hq, i, hi => by
    have ih := fh_bounds h j (fun q hj => hq q (by omega)) i hi
    have hc := (hq j (by omega)).2 i hi
    have hw := h.2.2 i hi
    have h3 := hw.2.2.1
    have h4 := hw.2.2.2.1
    show 0 ≤ frd ss (o j) (fh ss o j) i ∧ frd ss (o j) (fh ss o j) i ≤ _
    unfold frd stp1 stp2
    by_cases h1 : (ss i).to = o j
    · have := hc h1
      rw [if_pos h1]
      split <;> omega
    · rw [if_neg h1]
      split <;> omega

theorem fh_fit {n : Int} {m : Nat} {ss : Nat → Wr} {o : Nat → Int} (h : Wok n m ss) {j : Nat} (hj : j ≤ 2000) (hq : ∀ q, q < j → Fok n m ss o q) : Fit m ss (fh ss o j) := fun i hi => by
  have h1 := fh_bounds h j hq i hi
  have h2 := h.2.2 i hi
  exact ⟨by omega, h2.2.2.1, h2.2.2.2.1⟩

theorem fit_nt {m : Nat} {ss : Nat → Wr} {h : Nat → Int} (hf : Fit m ss h) : Fit m (nt ss h) (hav (nt ss h)) := hf

theorem nt_self (ss : Nat → Wr) : nt ss (hav ss) = ss := rfl

/-- Where an order stops. -/
theorem stops (P : Nat → Prop) : ∀ N : Nat, ∃ J, J ≤ N ∧ (∀ q, q < J → P q) ∧ (J < N → ¬ P J)
  | 0 => ⟨0, Nat.le_refl _, fun q hq => by omega, fun h => by omega⟩
  | N + 1 => by
    obtain ⟨J, h1, h2, h3⟩ := stops P N
    by_cases hJ : J < N
    · exact ⟨J, by omega, h2, fun _ => h3 hJ⟩
    · by_cases hP : P J
      · exact ⟨J + 1, by omega, all_snoc h2 hP, fun h => by omega⟩
      · exact ⟨J, by omega, h2, fun _ => hP⟩

/-- What is told: a list in memory of the call's own, and an int. -/
def Pfi (w w' : World) (e : Ending) (N : Nat) (ys : Nat → Int) (c : Int) : Prop := ∃ u, e = .returned (.tuple #[u, .int .i64 c]) ∧ w'.ownsRow w.heap.size 3 1 u N (ils ys N) ∧ Below w.heap.size w w'

theorem nil_own (w : World) (ys : Nat → Int) : (w.alloc (.cells #[] 3)).ownsRow w.heap.size 3 1 (.slice (some ⟨w.heap.size, 0, none⟩) 0 0) 0 (ils ys 0) := own_empty w 3 1

theorem below_kd {B : Nat} {w0 w w' : World} {u : Value} {xs : List Value} {n s : Nat} {e : TypeId} (hb : Below B w0 w) (h : Kd (fun x => u.ownBlock = some x) w w') (hB : B ≤ w.heap.size) (ho : w.ownsRow B e s u n xs) : Below B w0 w' :=
  Kd.below hb h hB fun g hg => (World.ownsRow.lt ho g hg).1

set_option maxHeartbeats 4000000 in
theorem sFire_bad {w : World} {v u : Value} {m N : Nat} {ss : Nat → Wr} {o : Nat → Int} (n : Int) (hv : Ow w v m ss) (hu : Il w u N o) (hm : m ≤ 1048576) (h : ¬ (Wok n m ss ∧ N ≤ 2000)) (ys : Nat → Int) :
    Calls Try.prog 37 #[.int .i64 n, v, u] w fun e w' => Pfi w w' e 0 ys (-2) := by
  have i1 := sWok_any n hv.il5 hm
  obtain ⟨ao, cap, rfl, hcap, hc⟩ := hu
  clear hc
  by_cases hw : Wok n m ss
  · have hN : ¬ N ≤ 2000 := fun x => h ⟨hw, x⟩
    rw [decide_eq_true hw] at i1
    clear h hw
    go_enter Try.func37, Try.ntmps37
    go_wp2_with (go_at_call 29; (with_reducible refine i1.mono ?_); rintro e w2 ⟨rfl, hb⟩; have BX : Hid (Below w.heap.size w w2) := hb; clear hb)
    go_ret2
    exact ⟨_, rfl, own_base (nil_own w2 ys) BX.out.size, bstep BX.out (below_one _ _)⟩
  · rw [decide_eq_false hw] at i1
    clear h hw
    go_enter Try.func37, Try.ntmps37
    go_wp2_with (go_at_call 29; (with_reducible refine i1.mono ?_); rintro e w2 ⟨rfl, hb⟩; have BX : Hid (Below w.heap.size w w2) := hb; clear hb)
    go_ret2
    exact ⟨_, rfl, own_base (nil_own w2 ys) BX.out.size, bstep BX.out (below_one _ _)⟩

set_option maxHeartbeats 8000000 in
theorem sFire_good {w : World} {v u : Value} {m N J : Nat} {ss : Nat → Wr} {o : Nat → Int} (n c : Int) (hv : Ow w v m ss) (hu : Il w u N o) (hw : Wok n m ss) (hN : N ≤ 2000) (hJ : J ≤ N) (hq : ∀ q, q < J → Fok n m ss o q) (hst : J < N → ¬ Fok n m ss o J) (hc : c = if J < N then (J : Int) else -1) :
    Calls Try.prog 37 #[.int .i64 n, v, u] w fun e w' => Pfi w w' e m (fh ss o J) c := by
  have h40 := hw.2.1
  have hm : m ≤ 1048576 := by omega
  have hn20 := hw.1
  have i1 := sWok_any n hv.il5 hm
  rw [decide_eq_true hw] at i1
  have HW : Hid (Wok n m ss) := hw
  have HV : Hid (Ow w v m ss) := hv
  have HQ : Hid (∀ q, q < J → Fok n m ss o q) := hq
  have HS : Hid (J < N → ¬ Fok n m ss o J) := hst
  have HCC : Hid (c = if J < N then (J : Int) else -1) := hc
  obtain ⟨ao, cap, rfl, hcap, hcl⟩ := hu
  have HC : Hid (0 < N → ∃ b off, ao = some ⟨b, off, none⟩ ∧ b < w.heap.size ∧ ∀ k, k < N → w.cell? ⟨b, off + k, none⟩ = some (.int .i64 (o k))) := hcl
  clear hcl hw hq hst hc
  go_enter Try.func37, Try.ntmps37
  go_wp2_with (first
    | (go_at_call 29; (with_reducible refine i1.mono ?_); rintro e V ⟨rfl, hb⟩; have BX : Hid (Below w.heap.size w V) := hb; clear hb)
    | (go_at_call 46; (with_reducible refine (sHave_any (hv.below BX.out).il5 hm).mono ?_); rintro e V2 ⟨x, rfl, ho, hb⟩; have O0 : Hid (V2.ownsRow V.heap.size 3 1 x m (ils (fh ss o 0) m)) := ho; have B0 : Hid (Below V.heap.size V V2) := hb; clear hb ho))
  clear i1
  have HV2 : Hid (Ow V v m ss) := HV.out.below BX.out
  go_loopw [9] (fun i wr => ∃ k : Nat, i = .int .i64 k ∧ k ≤ J ∧ Hid (wr.ownsRow V.heap.size 3 1 x m (ils (fh ss o k) m) ∧ Below V.heap.size V wr)) (fun i _ => N - (intOf i).toNat)
  case atStart => exact ⟨0, rfl, by omega, O0.out, B0.out⟩
  case round =>
    obtain ⟨k, rfl, hk, hrel⟩ := hrel
    have HO : Hid (wr.ownsRow V.heap.size 3 1 x m (ils (fh ss o k) m)) := hrel.out.1
    have BK : Hid (Below V.heap.size V wr) := hrel.out.2
    clear hrel
    by_cases h1 : k < N
    · have BW : Hid (Below w.heap.size w wr) := bstep BX.out BK.out
      obtain ⟨b, off, rfl, hlt, hcell⟩ := HC.out (by omega)
      have c0 := (BW.out.cell (p := ⟨b, off + k, none⟩) hlt).trans (hcell k h1)
      have HLT : Hid (b < w.heap.size) := hlt
      have HCE : Hid (w.cell? ⟨b, off + k, none⟩ = some (.int .i64 (o k))) := hcell k h1
      clear hcell hlt
      have ib := in_one (o k) 0 (n - 1) wr
      by_cases h2 : k < J
      · have HFK := HQ.out k h2
        rw [decide_eq_true HFK.1] at ib
        have HCN : Hid (Can m ss (fh ss o k) (o k)) := HFK.2
        have HFI : Hid (Fit m ss (fh ss o k)) := fh_fit HW.out (by omega) fun q hq => HQ.out q (by omega)
        clear HFK
        go_wp2_with (first
          | (go_at_call 60; (with_reducible refine ib.mono ?_); rintro e w' ⟨rfl, hw⟩; obtain rfl := hw.symm)
          | (go_at_call 47; (with_reducible refine (sCan_any (o k) (HV.out.below (BX.out.trans (BK.out.mono BX.out.size))).il5 (il_of_own HO.out) hm).mono ?_); rw [show decide (Can m ss (fh ss o k) (o k)) = true from decide_eq_true HCN.out]; rintro e W1 ⟨rfl, hb⟩; have HO1 : Hid (W1.ownsRow V.heap.size 3 1 x m (ils (fh ss o k) m)) := own_below HO.out hb; have BK1 : Hid (Below V.heap.size V W1) := BK.out.trans (hb.mono BK.out.size); have c9 : W1.cell? ⟨b, off + k, none⟩ = some (.int .i64 (o k)) := ((bstep BX.out BK1.out).cell (p := ⟨b, off + k, none⟩) HLT.out).trans HCE.out; clear hb)
          | (go_at_call 48; (with_reducible refine (sFire_any (o k) HV2.out.il5 BK1.out HO1.out HFI.out hm).mono ?_); rintro e W2 ⟨rfl, h5, h6⟩; have HO2 : Hid (W2.ownsRow V.heap.size 3 1 x m (ils (fh ss o (k + 1)) m)) := h5; have BK2 : Hid (Below V.heap.size V W2) := below_kd BK1.out h6 BK1.out.size HO1.out; clear h5 h6))
        go_roundw
        case rel => exact ⟨k + 1, by go_num, by omega, HO2.out, BK2.out⟩
        case measure => simp [intOf]; omega
      · obtain rfl : k = J := by omega
        have HNO := HS.out h1
        have HE : Hid (c = (k : Int)) := by show c = _; rw [HCC.out, if_pos h1]
        by_cases h3 : 0 ≤ o k ∧ o k ≤ n - 1
        · rw [decide_eq_true h3] at ib
          have HCN : Hid (¬ Can m ss (fh ss o k) (o k)) := fun x => HNO ⟨h3, x⟩
          clear HNO h3
          go_wp2_with (first
            | (go_at_call 60; (with_reducible refine ib.mono ?_); rintro e w' ⟨rfl, hw⟩; obtain rfl := hw.symm)
            | (go_at_call 47; (with_reducible refine (sCan_any (o k) (HV.out.below (BX.out.trans (BK.out.mono BX.out.size))).il5 (il_of_own HO.out) hm).mono ?_); rw [show decide (Can m ss (fh ss o k) (o k)) = false from decide_eq_false HCN.out]; rintro e W1 ⟨rfl, hb⟩; have HO1 : Hid (W1.ownsRow V.heap.size 3 1 x m (ils (fh ss o k) m)) := own_below HO.out hb; have BK1 : Hid (Below V.heap.size V W1) := BK.out.trans (hb.mono BK.out.size); have c9 : W1.cell? ⟨b, off + k, none⟩ = some (.int .i64 (o k)) := ((bstep BX.out BK1.out).cell (p := ⟨b, off + k, none⟩) HLT.out).trans HCE.out; clear hb))
          go_ret2
          rw [show ((k : Int) : Int) = c from by rw [HE.out]]
          exact ⟨_, rfl, own_base HO1.out BX.out.size, bstep BX.out BK1.out⟩
        · rw [decide_eq_false h3] at ib
          clear HNO h3
          go_wp2_with (first
            | (go_at_call 60; (with_reducible refine ib.mono ?_); rintro e w' ⟨rfl, hw⟩; obtain rfl := hw.symm))
          go_ret2
          rw [show ((k : Int) : Int) = c from by rw [HE.out]]
          exact ⟨_, rfl, own_base HO.out BX.out.size, bstep BX.out BK.out⟩
    · obtain rfl : k = N := by omega
      obtain rfl : k = J := by omega
      have HE : Hid (c = -1) := by show c = _; rw [HCC.out, if_neg h1]
      go_wp2
      go_ret2
      rw [show (-1 : Int) = c from by rw [HE.out]]
      exact ⟨_, rfl, own_base HO.out BX.out.size, bstep BX.out BK.out⟩

set_option maxHeartbeats 4000000 in
theorem iFire_bad {w : World} {v u : Value} {m N : Nat} {ss : Nat → Wr} {o : Nat → Int} (n : Int) (hv : Ow w v m ss) (hu : Il w u N o) (hm : m ≤ 1048576) (h : ¬ (Wok n m ss ∧ N ≤ 2000)) (ys : Nat → Int) :
    Calls Try.prog 16 #[.int .i64 n, v, u] w fun e w' => Pfi w w' e 0 ys (-2) := by
  have i1 := iWok_any n hv.il5 hm
  obtain ⟨ao, cap, rfl, hcap, hc⟩ := hu
  clear hc
  by_cases hw : Wok n m ss
  · have hN : ¬ N ≤ 2000 := fun x => h ⟨hw, x⟩
    rw [decide_eq_true hw] at i1
    clear h hw
    go_enter Try.func16, Try.ntmps16
    go_wp2_with (go_at_call 31; (with_reducible refine i1.mono ?_); rintro e w2 ⟨rfl, hb⟩; have BX : Hid (Below w.heap.size w w2) := hb; clear hb)
    go_ret2
    exact ⟨_, rfl, own_base (nil_own w2 ys) BX.out.size, bstep BX.out (below_one _ _)⟩
  · rw [decide_eq_false hw] at i1
    clear h hw
    go_enter Try.func16, Try.ntmps16
    go_wp2_with (go_at_call 31; (with_reducible refine i1.mono ?_); rintro e w2 ⟨rfl, hb⟩; have BX : Hid (Below w.heap.size w w2) := hb; clear hb)
    go_ret2
    exact ⟨_, rfl, own_base (nil_own w2 ys) BX.out.size, bstep BX.out (below_one _ _)⟩

set_option maxHeartbeats 8000000 in
theorem iFire_good {w : World} {v u : Value} {m N J : Nat} {ss : Nat → Wr} {o : Nat → Int} (n c : Int) (hv : Ow w v m ss) (hu : Il w u N o) (hw : Wok n m ss) (hN : N ≤ 2000) (hJ : J ≤ N) (hq : ∀ q, q < J → Fok n m ss o q) (hst : J < N → ¬ Fok n m ss o J) (hc : c = if J < N then (J : Int) else -1) :
    Calls Try.prog 16 #[.int .i64 n, v, u] w fun e w' => Pfi w w' e m (fh ss o J) c := by
  have h40 := hw.2.1
  have hm : m ≤ 1048576 := by omega
  have hn20 := hw.1
  have i1 := iWok_any n hv.il5 hm
  rw [decide_eq_true hw] at i1
  have HW : Hid (Wok n m ss) := hw
  have HV : Hid (Ow w v m ss) := hv
  have HQ : Hid (∀ q, q < J → Fok n m ss o q) := hq
  have HS : Hid (J < N → ¬ Fok n m ss o J) := hst
  have HCC : Hid (c = if J < N then (J : Int) else -1) := hc
  obtain ⟨ao, cap, rfl, hcap, hcl⟩ := hu
  have HC : Hid (0 < N → ∃ b off, ao = some ⟨b, off, none⟩ ∧ b < w.heap.size ∧ ∀ k, k < N → w.cell? ⟨b, off + k, none⟩ = some (.int .i64 (o k))) := hcl
  clear hcl hw hq hst hc
  go_enter Try.func16, Try.ntmps16
  go_wp2_with (first
    | (go_at_call 31; (with_reducible refine i1.mono ?_); rintro e V ⟨rfl, hb⟩; have BX : Hid (Below w.heap.size w V) := hb; clear hb)
    | (go_at_call 49; (with_reducible refine (newNet_any (hv.below BX.out) hm).mono ?_); rintro e V2 ⟨x, rfl, ho, hb⟩; have O0 : Hid (V2.ownsRow V.heap.size 31 5 x m (ils (zs (nt ss (fh ss o 0))) (m * 5))) := ho; have B0 : Hid (Below V.heap.size V V2) := hb; clear hb ho))
  clear i1
  have HV2 : Hid (Ow V v m ss) := HV.out.below BX.out
  go_loopw [9, 10, 25] (fun _ _ i wr => ∃ k : Nat, i = .int .i64 k ∧ k ≤ J ∧ Hid (wr.ownsRow V.heap.size 31 5 x m (ils (zs (nt ss (fh ss o k))) (m * 5)) ∧ Below V.heap.size V wr)) (fun _ _ i _ => N - (intOf i).toNat)
  case atStart => exact ⟨0, rfl, by omega, O0.out, B0.out⟩
  case round =>
    obtain ⟨k, rfl, hk, hrel⟩ := hrel
    have HO : Hid (wr.ownsRow V.heap.size 31 5 x m (ils (zs (nt ss (fh ss o k))) (m * 5))) := hrel.out.1
    have BK : Hid (Below V.heap.size V wr) := hrel.out.2
    clear hrel
    by_cases h1 : k < N
    · have BW : Hid (Below w.heap.size w wr) := bstep BX.out BK.out
      obtain ⟨b, off, rfl, hlt, hcell⟩ := HC.out (by omega)
      have c0 := (BW.out.cell (p := ⟨b, off + k, none⟩) hlt).trans (hcell k h1)
      have HLT : Hid (b < w.heap.size) := hlt
      have HCE : Hid (w.cell? ⟨b, off + k, none⟩ = some (.int .i64 (o k))) := hcell k h1
      clear hcell hlt
      have ib := block_any n (o k) hn20 wr
      by_cases h2 : k < J
      · have HFK := HQ.out k h2
        rw [decide_eq_true HFK.1] at ib
        have HCN : Hid (Can m ss (fh ss o k) (o k)) := HFK.2
        have HFI : Hid (Fit m ss (fh ss o k)) := fh_fit HW.out (by omega) fun q hq => HQ.out q (by omega)
        clear HFK
        go_wp2_with (first
          | (go_at_call 50; (with_reducible refine ib.mono ?_); rintro e w' ⟨rfl, hw⟩; obtain rfl := hw.symm)
          | (go_at_call 51; (with_reducible refine (iCan_any (o k) (il5_of_own HO.out) hm).mono ?_); rw [show decide (Can m (nt ss (fh ss o k)) (hav (nt ss (fh ss o k))) (o k)) = true from decide_eq_true HCN.out]; rintro e W1 ⟨rfl, hb⟩; have HO1 : Hid (W1.ownsRow V.heap.size 31 5 x m (ils (zs (nt ss (fh ss o k))) (m * 5))) := own_below HO.out hb; have BK1 : Hid (Below V.heap.size V W1) := BK.out.trans (hb.mono BK.out.size); clear hb)
          | (go_at_call 53; (with_reducible refine (iFire_any (o k) HO1.out (fit_nt HFI.out) hm).mono ?_); rintro e W2 ⟨rfl, h5, h6⟩; have HO2 : Hid (W2.ownsRow V.heap.size 31 5 x m (ils (zs (nt ss (fh ss o (k + 1)))) (m * 5))) := h5; have BK2 : Hid (Below V.heap.size V W2) := below_kd BK1.out h6 BK1.out.size HO1.out; clear h5 h6))
        go_roundw
        case rel => exact ⟨k + 1, by go_num, by omega, HO2.out, BK2.out⟩
        case measure => simp [intOf]; omega
      · obtain rfl : k = J := by omega
        have HNO := HS.out h1
        have HE : Hid (c = (k : Int)) := by show c = _; rw [HCC.out, if_pos h1]
        by_cases h3 : 0 ≤ o k ∧ o k ≤ n - 1
        · rw [decide_eq_true h3] at ib
          have HCN : Hid (¬ Can m ss (fh ss o k) (o k)) := fun x => HNO ⟨h3, x⟩
          clear HNO h3
          go_wp2_with (first
            | (go_at_call 50; (with_reducible refine ib.mono ?_); rintro e w' ⟨rfl, hw⟩; obtain rfl := hw.symm)
            | (go_at_call 51; (with_reducible refine (iCan_any (o k) (il5_of_own HO.out) hm).mono ?_); rw [show decide (Can m (nt ss (fh ss o k)) (hav (nt ss (fh ss o k))) (o k)) = false from decide_eq_false HCN.out]; rintro e W1 ⟨rfl, hb⟩; have HO1 : Hid (W1.ownsRow V.heap.size 31 5 x m (ils (zs (nt ss (fh ss o k))) (m * 5))) := own_below HO.out hb; have BK1 : Hid (Below V.heap.size V W1) := BK.out.trans (hb.mono BK.out.size); clear hb)
            | (go_at_call 52; (with_reducible refine (iLie_any (il5_of_own HO1.out) hm).mono ?_); rintro e W3 ⟨y, rfl, h5, h6⟩; have R3 : Hid (W3.ownsRow W1.heap.size 3 1 y m (ils (fh ss o k) m)) := h5; have B3 : Hid (Below W1.heap.size W1 W3) := h6; clear h5 h6))
          go_ret2
          rw [show ((k : Int) : Int) = c from by rw [HE.out]]
          exact ⟨_, rfl, own_base R3.out (Nat.le_trans BX.out.size BK1.out.size), bstep (bstep BX.out BK1.out) B3.out⟩
        · rw [decide_eq_false h3] at ib
          clear HNO h3
          go_wp2_with (first
            | (go_at_call 50; (with_reducible refine ib.mono ?_); rintro e w' ⟨rfl, hw⟩; obtain rfl := hw.symm)
            | (go_at_call 52; (with_reducible refine (iLie_any (il5_of_own HO.out) hm).mono ?_); rintro e W3 ⟨y, rfl, h5, h6⟩; have R3 : Hid (W3.ownsRow wr.heap.size 3 1 y m (ils (fh ss o k) m)) := h5; have B3 : Hid (Below wr.heap.size wr W3) := h6; clear h5 h6))
          go_ret2
          rw [show ((k : Int) : Int) = c from by rw [HE.out]]
          exact ⟨_, rfl, own_base R3.out (Nat.le_trans BX.out.size BK.out.size), bstep (bstep BX.out BK.out) B3.out⟩
    · obtain rfl : k = N := by omega
      obtain rfl : k = J := by omega
      have HE : Hid (c = -1) := by show c = _; rw [HCC.out, if_neg h1]
      go_wp2_with (first
        | (go_at_call 52; (with_reducible refine (iLie_any (il5_of_own HO.out) hm).mono ?_); rintro e W3 ⟨y, rfl, h5, h6⟩; have R3 : Hid (W3.ownsRow wr.heap.size 3 1 y m (ils (fh ss o k) m)) := h5; have B3 : Hid (Below wr.heap.size wr W3) := h6; clear h5 h6))
      go_ret2
      rw [show (-1 : Int) = c from by rw [HE.out]]
      exact ⟨_, rfl, own_base R3.out (Nat.le_trans BX.out.size BK.out.size), bstep (bstep BX.out BK.out) B3.out⟩
end Go.Proofs.Ytlccicbgepfbbaa
