/- The worst bits turned. -/
import Derived.Test.YtnfhnchomiejcaaTA
namespace Go.Proofs.Ytnfhnchomiejcaa
open Go.RowKit

theorem ct2_put {Y f : Nat → Int} {k p n : Nat} (hp : p = (Y k).toNat) : ils (fun i => if i = p then ct2 Y f k p + 1 else ct2 Y f k i) n = ils (ct2 Y f (k + 1)) n := by
  refine ils_congr fun i _ => ?_
  show _ = if i = (Y k).toNat then ct2 Y f k i + 1 else ct2 Y f k i
  rw [← hp]
  by_cases e : i = p
  · rw [if_pos e, if_pos e, e]
  · rw [if_neg e, if_neg e]

set_option maxRecDepth 20000 in
set_option maxHeartbeats 4000000 in
theorem turnWorst_any {w : World} {v u l : Value} {M n N : Nat} {ms : Nat → Nat} {X : Nat → Nat → Int} {xs L : Nat → Int} (hv : Ipp w v M ms X) (hk : Cks M ms X (n : Int)) (hu : Il w u n xs) (hb : ∀ k, k < n → Bit (xs k)) (hl : Il w l N L) (hN : N ≤ 64) (hL : ∀ k, k < N → 0 ≤ L k ∧ L k < (M : Int)) :
    Calls Try.prog 44 #[v, u, l] w fun e w' => Pcr w w' e n (trn (ct ms X L N) (mx (ct ms X L N) n) xs) := by
  obtain ⟨i0, hi, hz0, hz1, hz2⟩ := info_parts Try.info3
  have hn := hk.1.1
  have hM := hk.1.2
  have HCK : Hid (∀ k, k < M → Chk (ms k) (X k) (n : Int)) := hk.2
  have HBT : Hid (∀ k, k < n → Bit (xs k)) := hb
  have HLL : Hid (∀ k, k < N → 0 ≤ L k ∧ L k < (M : Int)) := hL
  have hr := mkd_run w (k := n) (by omega)
  have OW : Hid ((mkd w n).ownsRow w.heap.size 3 1 (.slice (some ⟨w.heap.size, 0, none⟩) n n) n (ils (ct ms X L 0) n)) := mkd_own w (by omega) (Nat.le_refl _)
  have BL : Hid (Below w.heap.size w (mkd w n)) := mkd_below _ _
  have HLIM : Hid (∀ i, i ≤ N → ∀ p, 0 ≤ ct ms X L i p ∧ ct ms X L i p ≤ 16 * (i : Int)) := ct_lim (fun i hi' => (hk.2 _ (by have := hL i hi'; omega)).1.2)
  obtain ⟨ao, cap, rfl, hcap, hc⟩ := hv
  obtain ⟨bo, cap2, rfl, hcap2, hc2⟩ := hu
  obtain ⟨fo, cap3, rfl, hcap3, hc3⟩ := hl
  have HC : Hid (0 < M → ∃ b off, ∃ R : Nat → Value, ao = some ⟨b, off, none⟩ ∧ b < w.heap.size ∧ ∀ k, k < M → w.cell? ⟨b, off + k, none⟩ = some (R k) ∧ Il w (R k) (ms k) (X k)) := hc
  have HU : Hid (0 < n → ∃ b off, bo = some ⟨b, off, none⟩ ∧ b < w.heap.size ∧ ∀ k, k < n → w.cell? ⟨b, off + k, none⟩ = some (.int .i64 (xs k))) := hc2
  have HF : Hid (0 < N → ∃ b off, fo = some ⟨b, off, none⟩ ∧ b < w.heap.size ∧ ∀ k, k < N → w.cell? ⟨b, off + k, none⟩ = some (.int .i64 (L k))) := hc3
  clear hc hc2 hc3 hk hb hL
  obtain ⟨f, hf⟩ : ∃ f, f = ct ms X L N := ⟨_, rfl⟩
  rw [← hf]
  obtain ⟨z, hz⟩ : ∃ z, z = mx f n := ⟨_, rfl⟩
  rw [← hz]
  have HFE : Hid (f = ct ms X L N) := hf
  have HZE : Hid (z = mx f n) := hz
  clear hf hz
  go_enter Try.func44, Try.ntmps44
  go_wp2
  clear hr
  generalize mkd w n = W0 at *
  go_loopw [9, 11, 21, 30] (fun _ _ i _ wr => ∃ k : Nat, i = .int .i64 k ∧ k ≤ N ∧ Hid (wr.ownsRow w.heap.size 3 1 (.slice (some ⟨w.heap.size, 0, none⟩) n n) n (ils (ct ms X L k) n) ∧ Below w.heap.size w wr)) (fun _ _ i _ _ => N - (intOf i).toNat)
  case atStart => exact ⟨0, rfl, by omega, OW.out, BL.out⟩
  case round =>
    obtain ⟨k, rfl, hk, HRL⟩ := hrel
    by_cases h1 : k < N
    · obtain ⟨b3, off3, rfl, hlt3, hcell3⟩ := HF.out (by omega)
      have c3 := (HRL.out.2.cell (p := ⟨b3, off3 + k, none⟩) hlt3).trans (hcell3 k h1)
      have hlk := HLL.out k h1
      obtain ⟨t, ht⟩ : ∃ t : Nat, L k = (t : Int) := ⟨(L k).toNat, by omega⟩
      have htM : t < M := by omega
      rw [ht] at c3
      have HT : Hid ((L k).toNat = t) := by show (L k).toNat = t; omega
      obtain ⟨b, off, R, rfl, hlt, hcell⟩ := HC.out (by omega)
      obtain ⟨c0, hil⟩ := hcell t htM
      have hck := HCK.out t htM
      obtain ⟨m, em⟩ : ∃ m, m = ms t := ⟨_, rfl⟩
      rw [← em] at hil hck
      have hm2 := hck.1
      have HPL : Hid (Plc m (X t) (n : Int)) := hck.2
      have EM : Hid (m = ms t) := em
      obtain ⟨qa, qc, hq, hqc, hqq⟩ := hil
      rw [hq] at c0
      have c := (HRL.out.2.cell (p := ⟨b, off + t, none⟩) hlt).trans c0
      have HQ : Hid (0 < m → ∃ b off, qa = some ⟨b, off, none⟩ ∧ b < w.heap.size ∧ ∀ j, j < m → w.cell? ⟨b, off + j, none⟩ = some (.int .i64 (X t j))) := hqq
      have HCL : Hid (∀ p, 0 ≤ ct ms X L k p ∧ ct ms X L k p ≤ 1024) := fun p => by have := HLIM.out k hk p; omega
      have ES : Hid (ct2 (X t) (ct ms X L k) m = ct ms X L (k + 1)) := by show _ = ct2 (X (L k).toNat) (ct ms X L k) (ms (L k).toNat); rw [HT.out, EM.out]
      clear hcell hqq hq c0 em hck hcell3 ht hlk
      go_wp2
      go_loopw [11, 30] (fun _ j wi => ∃ q : Nat, j = .int .i64 q ∧ q ≤ m ∧ Hid (wi.ownsRow w.heap.size 3 1 (.slice (some ⟨w.heap.size, 0, none⟩) n n) n (ils (ct2 (X t) (ct ms X L k) q) n) ∧ Below w.heap.size w wi)) (fun _ j _ => m - (intOf j).toNat)
      case atStart => exact ⟨0, rfl, by omega, HRL.out.1, HRL.out.2⟩
      case round =>
        obtain ⟨q, rfl, hq, HIN⟩ := hrel
        by_cases h2 : q < m
        · obtain ⟨b2, off2, rfl, hlt2, hcell2⟩ := HQ.out (by omega)
          have hpl := HPL.out.lim q h2
          obtain ⟨p, hp⟩ : ∃ p : Nat, X t q = (p : Int) := ⟨(X t q).toNat, by omega⟩
          have c2 := (HIN.out.2.cell (p := ⟨b2, off2 + q, none⟩) hlt2).trans (hcell2 q h2)
          have hpn : p < n := by omega
          rw [hp] at c2
          have HP : Hid (p = (X t q).toNat) := by show p = _; omega
          have hrow := HIN.out.1
          have HB2 : Hid (Below w.heap.size w wr) := HIN.out.2
          have c4 := hrow.cellAt p (by omega)
          rw [ils_get hpn] at c4
          have fz := hrow.frozenAt p
          have hst := (hrow.stored p (.int .i64 (ct2 (X t) (ct ms X L k) q p + 1))).1
          rw [ils_put, ct2_put HP.out] at hst
          have HST : Hid _ := hst
          have hlim := ct2_lim (Y := X t) HCL.out q p
          obtain ⟨y, hy⟩ : ∃ y, y = ct2 (X t) (ct ms X L k) q p := ⟨_, rfl⟩
          rw [← hy] at c4 hlim HST
          clear hcell2 hpl hp hst hrow hy HIN
          go_wp2
          go_roundw
          case rel => exact ⟨q + 1, by go_num, by omega, HST.out, HB2.out.setCell (Nat.le_refl _) _⟩
          case measure => simp [intOf]; omega
        · obtain rfl : q = m := by omega
          go_wp2
          go_roundw
          case rel => exact ⟨k + 1, by go_num, by omega, by rw [← ES.out]; exact HIN.out.1, HIN.out.2⟩
          case measure => simp [intOf]; omega
    · obtain rfl : k = N := by omega
      have hlim0 := (HLIM.out k (Nat.le_refl _) 0).1
      rw [← HFE.out] at HRL hlim0
      have i1 := max_any (il_of_own HRL.out.1) (by omega) hlim0
      have BB : Hid (Below w.heap.size w wr) := HRL.out.2
      have OF : Hid (wr.ownsRow w.heap.size 3 1 (.slice (some ⟨w.heap.size, 0, none⟩) n n) n (ils f n)) := HRL.out.1
      rw [← HZE.out] at i1
      clear hlim0 HRL HCK HLL HLIM HC HF OW BL HFE HZE
      obtain ⟨W1, rfl⟩ : ∃ W1, W1 = wr := ⟨_, rfl⟩
      have O2 : Hid ((W1.alloc (.cells #[] 3)).ownsRow W1.heap.size 3 1 (.slice (some ⟨W1.heap.size, 0, none⟩) 0 0) 0 (ils (trn f z xs) 0)) := own_empty W1 3 1
      have B2 : Hid (Below W1.heap.size W1 (W1.alloc (.cells #[] 3))) := below_one _ _
      go_wp2_with (go_at_call 53; refine i1.mono ?_; rintro e w' ⟨rfl, hw⟩; obtain rfl := hw.symm)
      clear i1
      generalize W1.alloc (.cells #[] 3) = W2 at *
      go_loopw [13, 14, 15, 47] (fun o _ _ i wi => ∃ q : Nat, i = .int .i64 q ∧ q ≤ n ∧ Hid (wi.ownsRow W1.heap.size 3 1 o q (ils (trn f z xs) q) ∧ Below W1.heap.size W1 wi)) (fun _ _ _ i _ => n - (intOf i).toNat)
      case atStart => exact ⟨0, rfl, by omega, O2.out, B2.out⟩
      case round =>
        obtain ⟨q, rfl, hq, HIN⟩ := hrel
        by_cases h2 : q < n
        · obtain ⟨b5, off5, rfl, hlt5, hcell5⟩ := HU.out (by omega)
          have c5 := ((bstep BB.out (HIN.out.2)).cell (p := ⟨b5, off5 + q, none⟩) hlt5).trans (hcell5 q h2)
          have c6 := (own_below OF.out HIN.out.2).cellAt q (by omega)
          rw [ils_get h2] at c6
          obtain ⟨x, hx⟩ : ∃ x, x = xs q := ⟨_, rfl⟩
          have hxb : 0 ≤ x ∧ x ≤ 1 := by rw [hx]; have := HBT.out q h2; omega
          rw [← hx] at c5
          obtain ⟨y, hy⟩ : ∃ y, y = f q := ⟨_, rfl⟩
          rw [← hy] at c6
          have HO := HIN.out.1
          have HB := HIN.out.2
          by_cases he : y = z
          · have HV : Hid (trn f z xs q = 1 - x) := by show (if f q = z then 1 - xs q else xs q) = _; rw [← hy, if_pos he, hx]
            have hbe : (y == z) = true := by simp [he]
            have hb3 := below_one wr (.cells #[.int .i64 (1 - x)] 3)
            have HO3 := own_below HO hb3
            have HB3 := bstep HB hb3
            clear hb3 HO HB HIN hx hy hcell5
            go_wp2_with (at_builtin; refine wpList_append_own _ rfl _ _ 29 rfl W1.heap.size 3 i0 (.int .i64 0) 1 8 Try.underlying29 hi hz0 hz1 hz2 rfl (by decide) _ _ _ rfl HO3 ⟨wr.heap.size, 0, none⟩ 1 1 [.int .i64 (1 - x)] rfl rfl (one_new _ _ _) (by simp [Value.oneCell']) (by unfold maxLen; omega) (by omega) HB3.size ?_)
            intro v' w4 hown' hgrow _
            have HB4 : Hid (Below W1.heap.size W1 w4) := grown_below HB3 (Nat.le_refl _) HO3 hgrow
            have HO4 : Hid (w4.ownsRow W1.heap.size 3 1 v' (q + 1) (ils (trn f z xs) (q + 1))) := by show World.ownsRow _ _ _ _ _ _ _; rw [ils_snoc, HV.out]; exact hown'
            clear hown' hgrow HB3 HO3
            go_wp2
            go_roundw
            case rel => exact ⟨q + 1, by go_num, by omega, HO4.out, HB4.out⟩
            case measure => simp [intOf]; omega
          · have HV : Hid (trn f z xs q = x) := by show (if f q = z then 1 - xs q else xs q) = _; rw [← hy, if_neg he, hx]
            have hbe : (y == z) = false := by simp [he]
            have hb3 := below_one wr (.cells #[.int .i64 (x)] 3)
            have HO3 := own_below HO hb3
            have HB3 := bstep HB hb3
            clear hb3 HO HB HIN hx hy hcell5
            go_wp2_with (at_builtin; refine wpList_append_own _ rfl _ _ 29 rfl W1.heap.size 3 i0 (.int .i64 0) 1 8 Try.underlying29 hi hz0 hz1 hz2 rfl (by decide) _ _ _ rfl HO3 ⟨wr.heap.size, 0, none⟩ 1 1 [.int .i64 (x)] rfl rfl (one_new _ _ _) (by simp [Value.oneCell']) (by unfold maxLen; omega) (by omega) HB3.size ?_)
            intro v' w4 hown' hgrow _
            have HB4 : Hid (Below W1.heap.size W1 w4) := grown_below HB3 (Nat.le_refl _) HO3 hgrow
            have HO4 : Hid (w4.ownsRow W1.heap.size 3 1 v' (q + 1) (ils (trn f z xs) (q + 1))) := by show World.ownsRow _ _ _ _ _ _ _; rw [ils_snoc, HV.out]; exact hown'
            clear hown' hgrow HB3 HO3
            go_wp2
            go_roundw
            case rel => exact ⟨q + 1, by go_num, by omega, HO4.out, HB4.out⟩
            case measure => simp [intOf]; omega
        · obtain rfl : q = n := by omega
          go_wp2
          go_ret
          exact ⟨_, rfl, own_base HIN.out.1 BB.out.size, bstep BB.out HIN.out.2⟩
end Go.Proofs.Ytnfhnchomiejcaa
