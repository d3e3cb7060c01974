/- TurnBits of the model. -/
import Derived.Test.YtnfhnchomiejcaaTC
namespace Go.Proofs.Ytnfhnchomiejcaa
open Go.RowKit

theorem mx_ct2 {Y f : Nat → Int} {k p n : Nat} (hp : p = (Y k).toNat) (hpn : p < n) (h0 : 0 ≤ ct2 Y f k p) : mx (ct2 Y f (k + 1)) n = if mx (ct2 Y f k) n < ct2 Y f k p + 1 then ct2 Y f k p + 1 else mx (ct2 Y f k) n := by
  rw [← mx_put hpn h0]
  refine mx_congr fun i _ => ?_
  show (if i = (Y k).toNat then ct2 Y f k i + 1 else ct2 Y f k i) = _
  rw [← hp]

/-- Turned up to place q. -/
def trq (f : Nat → Int) (m : Int) (xs : Nat → Int) (q : Nat) : Nat → Int := fun i => if i < q then trn f m xs i else xs i

theorem trq_put {f xs : Nat → Int} {m y : Int} {q n : Nat} (hy : y = trn f m xs q) : ils (fun i => if i = q then y else trq f m xs q i) n = ils (trq f m xs (q + 1)) n := by
  refine ils_congr fun i _ => ?_
  unfold trq
  by_cases e : i = q
  · subst e; rw [if_pos rfl, if_pos (by omega), hy]
  · rw [if_neg e]
    by_cases h : i < q
    · rw [if_pos h, if_pos (by omega)]
    · rw [if_neg h, if_neg (by omega)]

theorem trq_same {f xs : Nat → Int} {m : Int} {q n : Nat} (h : trn f m xs q = xs q) : ils (trq f m xs q) n = ils (trq f m xs (q + 1)) n := by
  refine ils_congr fun i _ => ?_
  unfold trq
  by_cases e : i = q
  · subst e; rw [if_neg (by omega), if_pos (by omega), h]
  · by_cases h2 : i < q
    · rw [if_pos h2, if_pos (by omega)]
    · rw [if_neg h2, if_neg (by omega)]

set_option maxRecDepth 20000 in
set_option maxHeartbeats 4000000 in
theorem sTurn_good {w : World} {v u : Value} {M n R d : Nat} {ms : Nat → Nat} {X : Nat → Nat → Int} {xs : Nat → Int} (hv : Ipp w v M ms X) (hu : Il w u n xs) (hb : Bts n xs) (hk : Cks M ms X (n : Int)) (hR : R ≤ 50) (hd : Std (fun j => fls ms X (itr ms X M n xs j) M) R d) :
    Calls Try.prog 26 #[v, u, .int .i64 (R : Int)] w fun e w' => Pst3 w w' e n (itr ms X M n xs d) (d : Int) (decide ((fls ms X (itr ms X M n xs d) M).length = 0)) := by
  have hn := hk.1.1
  have hM := hk.1.2
  have i1 := sFails_good hv hu hb hk
  have i2 := in_any (R : Int) 0 50
  rw [decide_eq_true (by omega)] at i2
  have HV : Hid (Ipp w v M ms X) := hv
  have HU : Hid (Il w u n xs) := hu
  have HK : Hid (Cks M ms X (n : Int)) := hk
  have HBT : Hid (∀ i k, k < n → Bit (itr ms X M n xs i k)) := itr_bit hb.2
  have HSD : Hid (Std (fun j => fls ms X (itr ms X M n xs j) M) R d) := hd
  have HLEN : Hid (∀ i, (fls ms X (itr ms X M n xs i) M).length ≤ 64) := fun i => by have h1 := fls_len ms X (itr ms X M n xs i) M; omega
  obtain ⟨ok, hok⟩ : ∃ ok, ok = decide ((fls ms X (itr ms X M n xs d) M).length = 0) := ⟨_, rfl⟩
  rw [← hok]
  have HOK : Hid (ok = decide ((fls ms X (itr ms X M n xs d) M).length = 0)) := hok
  obtain ⟨ao, cap, rfl, hcap, hc⟩ := hv
  have HC : Hid (0 < M → ∃ b off, ∃ R : Nat → Value, ao = some ⟨b, off, none⟩ ∧ b < w.heap.size ∧ ∀ k, k < M → w.cell? ⟨b, off + k, none⟩ = some (R k) ∧ Il w (R k) (ms k) (X k)) := hc
  obtain ⟨bo, cap2, rfl, hcap2, -⟩ := hu
  clear hb hk hd hok hc
  go_enter Try.func26, Try.ntmps26
  go_upto_region 5 with (first
    | (go_at_call 20; refine i1.mono ?_; rintro e w1 ⟨l1, rfl, ho1, hb1⟩; have HO1 : Hid (w1.ownsRow w.heap.size 3 1 l1 (fls ms X (itr ms X M n xs 0) M).length (ils (lf (fls ms X (itr ms X M n xs 0) M)) (fls ms X (itr ms X M n xs 0) M).length)) := ho1; have HB1 : Hid (Below w.heap.size w w1) := hb1; have OE : Hid ((w1.alloc (.cells #[] 3)).ownsRow w1.heap.size 3 1 (.slice (some ⟨w1.heap.size, 0, none⟩) 0 0) 0 (ils xs 0)) := own_empty _ 3 1; have BE : Hid (Below w1.heap.size w1 (w1.alloc (.cells #[] 3))) := below_one _ _; have SR : Hid (Il (w1.alloc (.cells #[] 3)) (.slice bo n cap2) n xs) := HU.out.below (bstep hb1 (below_one _ _)); clear ho1 hb1)
    | (go_at_call 38; refine (i2 _).mono ?_; rintro e w' ⟨rfl, hw⟩; obtain rfl := hw.symm)
    | (at_builtin; refine wpList_appi rfl _ _ rfl w1.heap.size _ _ 0 n _ xs rfl rfl OE.out SR.out (by omega) BE.out.size ?_; intro v2 w2 hown' hgrow; have HW2 : Hid (w2.ownsRow w1.heap.size 3 1 v2 n (ils xs n)) := (by have h := hown'; rw [Nat.zero_add] at h; exact h); have HB2 : Hid (Below w1.heap.size w1 w2) := grown_below BE.out (Nat.le_refl _) OE.out hgrow; clear hown' hgrow))
  clear i1 i2 OE BE SR
  obtain ⟨gw, wc, rfl⟩ : ∃ g c, v2 = .slice (some ⟨g, 0, none⟩) n c := by
    rcases HW2.out.2 with ⟨h, h0⟩ | ⟨g, cap, cur, h, _⟩
    · omega
    · exact ⟨g, cap, h⟩
  obtain ⟨B, hBe⟩ : ∃ B, B = w1.heap.size := ⟨_, rfl⟩
  have HBB : Hid (w.heap.size ≤ B) := by show _ ≤ _; rw [hBe]; exact HB1.out.size
  have HWI : Hid (w2.ownsRow B 3 1 (.slice (some ⟨gw, 0, none⟩) n wc) n (ils (itr ms X M n xs 0) n)) := by show World.ownsRow _ _ _ _ _ _ _; rw [hBe]; exact HW2.out
  have HFI : Hid (w2.ownsRow w.heap.size 3 1 l1 (fls ms X (itr ms X M n xs 0) M).length (ils (lf (fls ms X (itr ms X M n xs 0) M)) (fls ms X (itr ms X M n xs 0) M).length)) := own_below HO1.out HB2.out
  have HBI : Hid (Below w.heap.size w w2) := bstep HB1.out HB2.out
  clear hBe HW2 HO1 HB1 HB2
  go_wp2
  go_loopw [9, 12, 13, 14, 15, 16, 17, 18] (fun fl dn _ _ _ _ _ _ wr => ∃ i : Nat, dn = .int .i64 i ∧ i ≤ R ∧ Hid (wr.ownsRow B 3 1 (.slice (some ⟨gw, 0, none⟩) n wc) n (ils (itr ms X M n xs i) n) ∧ wr.ownsRow w.heap.size 3 1 fl (fls ms X (itr ms X M n xs i) M).length (ils (lf (fls ms X (itr ms X M n xs i) M)) (fls ms X (itr ms X M n xs i) M).length) ∧ Below w.heap.size w wr ∧ ∀ j, j < i → fls ms X (itr ms X M n xs j) M ≠ [])) (fun _ dn _ _ _ _ _ _ _ => R - (intOf dn).toNat)
  case atStart => exact ⟨0, rfl, by omega, HWI.out, HFI.out, HBI.out, fun j hj => by omega⟩
  case round =>
    obtain ⟨i, rfl, hi, HRL⟩ := hrel
    have hlen := HLEN.out i
    have HB : Hid (Below w.heap.size w wr) := HRL.out.2.2.1
    have HBAD : Hid (∀ j, j < i → fls ms X (itr ms X M n xs j) M ≠ []) := HRL.out.2.2.2
    have hW := HRL.out.1
    have HFL : Hid (wr.ownsRow w.heap.size 3 1 u9 (fls ms X (itr ms X M n xs i) M).length (ils (lf (fls ms X (itr ms X M n xs i) M)) (fls ms X (itr ms X M n xs i) M).length)) := HRL.out.2.1
    obtain ⟨FF, hFF⟩ : ∃ FF, FF = fls ms X (itr ms X M n xs i) M := ⟨_, rfl⟩
    rw [← hFF] at HFL hlen
    have HFF : Hid (FF = fls ms X (itr ms X M n xs i) M) := hFF
    obtain ⟨N, hN⟩ : ∃ N, N = FF.length := ⟨_, rfl⟩
    rw [← hN] at HFL hlen
    have HN : Hid (N = FF.length) := hN
    rcases Nat.eq_zero_or_pos N with h0 | h0
    · have HE : Hid (i = d) := std_one ⟨hi, HBAD.out, .inl (List.length_eq_zero_iff.1 (by show (fls ms X (itr ms X M n xs i) M).length = 0; rw [← hFF, ← hN]; exact h0))⟩ HSD.out
      have HO : Hid (ok = true) := by show ok = true; rw [HOK.out, ← HE.out, ← hFF, ← hN]; simp [h0]
      have HW : Hid (wr.ownsRow w.heap.size 3 1 (.slice (some ⟨gw, 0, none⟩) n wc) n (ils (itr ms X M n xs i) n)) := own_base hW HBB.out
      obtain ⟨fa, fc, hfl⟩ := own_slice HFL.out
      rw [h0] at hfl
      clear hN HFL HRL hW hFF
      subst hfl
      go_wp2
      go_ret3
      exact ⟨_, retp (congrArg Int.ofNat HE.out) HO.out.symm, by rw [← HE.out]; exact HW.out, HB.out⟩
    · have hnz : FF ≠ [] := fun h => by rw [hN, h] at h0; exact absurd h0 (Nat.lt_irrefl _)
      obtain ⟨fa, fc, hfl⟩ := own_slice HFL.out
      have dN : decide ((0 : Int) < (N : Int)) = true := by simp; omega
      by_cases hlt : i < R
      · have HNZ : Hid ((fls ms X (itr ms X M n xs i) M) ≠ []) := by show _ ≠ _; rw [← hFF]; exact hnz
        have HLL : Hid (∀ k, k < N → 0 ≤ lf FF k ∧ lf FF k < (M : Int)) := by
          have := fls_lim ms X (itr ms X M n xs i) M
          rw [← hFF, ← hN] at this
          exact this
        have HLIM : Hid (∀ j, j ≤ N → ∀ p, 0 ≤ ct ms X (lf FF) j p ∧ ct ms X (lf FF) j p ≤ 16 * (j : Int)) := ct_lim (fun j hj => (HK.out.2 _ (by have := HLL.out j hj; omega)).1.2)
        have hr := mkd_run wr (k := n) (by omega)
        have OW : Hid ((mkd wr n).ownsRow wr.heap.size 3 1 (.slice (some ⟨wr.heap.size, 0, none⟩) n n) n (ils (ct ms X (lf FF) 0) n)) := mkd_own wr (by omega) (Nat.le_refl _)
        have BL : Hid (Below wr.heap.size wr (mkd wr n)) := mkd_below _ _
        have hilf := il_of_own HFL.out
        have HFL0 : Hid (wr.ownsRow w.heap.size 3 1 u9 N (ils (lf FF) N)) := HFL.out
        rw [hfl] at hilf HFL0
        obtain ⟨fo, cap3, efo, hcap3, hc3⟩ := hilf
        have efo1 : fa = fo := by injection efo
        have efo2 : fc = cap3 := by injection efo
        have HF : Hid (0 < N → ∃ b off, fo = some ⟨b, off, none⟩ ∧ b < wr.heap.size ∧ ∀ k, k < N → wr.cell? ⟨b, off + k, none⟩ = some (.int .i64 (lf FF k))) := hc3
        rw [← efo1] at HF
        have HWD0 : Hid (wr.ownsRow B 3 1 (.slice (some ⟨gw, 0, none⟩) n wc) n (ils (itr ms X M n xs i) n)) := hW
        clear hN HFL HRL hnz hW hFF efo efo1 efo2 hc3
        subst hfl
        obtain ⟨W1, rfl⟩ : ∃ W1, W1 = wr := ⟨_, rfl⟩
        go_wp2
        clear hr
        generalize mkd W1 n = W0 at *
        go_loopw [14, 15, 16, 17] (fun mo ix _ _ wr => ∃ (k : Nat) (y : Int), ix = .int .i64 k ∧ mo = .int .i64 y ∧ k ≤ N ∧ Hid (y = mx (ct ms X (lf FF) k) n ∧ wr.ownsRow W1.heap.size 3 1 (.slice (some ⟨W1.heap.size, 0, none⟩) n n) n (ils (ct ms X (lf FF) k) n) ∧ Below W1.heap.size W1 wr)) (fun _ ix _ _ _ => N - (intOf ix).toNat)
        case atStart => exact ⟨0, 0, rfl, rfl, by omega, Int.le_antisymm (mx_ge0 _ _) (mx_le (Int.le_refl _) (fun _ _ => Int.le_refl _)), OW.out, BL.out⟩
        case round =>
          obtain ⟨k, y0, rfl, rfl, hk, HRL⟩ := hrel
          by_cases h1 : k < N
          · obtain ⟨b3, off3, rfl, hlt3, hcell3⟩ := HF.out (by omega)
            have c3 := (HRL.out.2.2.cell (p := ⟨b3, off3 + k, none⟩) hlt3).trans (hcell3 k h1)
            have hlk := HLL.out k h1
            obtain ⟨t, ht⟩ : ∃ t : Nat, lf FF k = (t : Int) := ⟨(lf FF k).toNat, by omega⟩
            have htM : t < M := by omega
            rw [ht] at c3
            have HT : Hid ((lf FF k).toNat = t) := by show (lf FF k).toNat = t; omega
            obtain ⟨b, off, Rr, rfl, hltb, hcell⟩ := HC.out (by omega)
            obtain ⟨c0, hil⟩ := hcell t htM
            have hck := HK.out.2 t htM
            obtain ⟨m, em⟩ : ∃ m, m = ms t := ⟨_, rfl⟩
            rw [← em] at hil hck
            have hm2 := hck.1
            have HPL : Hid (Plc m (X t) (n : Int)) := hck.2
            have EM : Hid (m = ms t) := em
            obtain ⟨qa, qc, hq, hqc, hqq⟩ := hil
            rw [hq] at c0
            have c := ((bstep HB.out HRL.out.2.2).cell (p := ⟨b, off + t, none⟩) hltb).trans c0
            have HQ : Hid (0 < m → ∃ b off, qa = some ⟨b, off, none⟩ ∧ b < w.heap.size ∧ ∀ j, j < m → w.cell? ⟨b, off + j, none⟩ = some (.int .i64 (X t j))) := hqq
            have HCL : Hid (∀ p, 0 ≤ ct ms X (lf FF) k p ∧ ct ms X (lf FF) k p ≤ 1024) := fun p => by have := HLIM.out k hk p; omega
            have ES : Hid (ct2 (X t) (ct ms X (lf FF) k) m = ct ms X (lf FF) (k + 1)) := by show _ = ct2 (X (lf FF k).toNat) (ct ms X (lf FF) k) (ms (lf FF k).toNat); rw [HT.out, EM.out]
            clear hcell hqq hq c0 em hck hcell3 ht hlk
            go_wp2
            go_loopw [14, 17] (fun mo jx wi => ∃ (q : Nat) (y : Int), jx = .int .i64 q ∧ mo = .int .i64 y ∧ q ≤ m ∧ Hid (y = mx (ct2 (X t) (ct ms X (lf FF) k) q) n ∧ wi.ownsRow W1.heap.size 3 1 (.slice (some ⟨W1.heap.size, 0, none⟩) n n) n (ils (ct2 (X t) (ct ms X (lf FF) k) q) n) ∧ Below W1.heap.size W1 wi)) (fun _ jx _ => m - (intOf jx).toNat)
            case atStart => exact ⟨0, y0, rfl, rfl, by omega, HRL.out⟩
            case round =>
              obtain ⟨q, y, rfl, rfl, hq, HIN⟩ := hrel
              by_cases h2 : q < m
              · obtain ⟨b2, off2, rfl, hlt2, hcell2⟩ := HQ.out (by omega)
                have hpl := HPL.out.lim q h2
                obtain ⟨p, hp⟩ : ∃ p : Nat, X t q = (p : Int) := ⟨(X t q).toNat, by omega⟩
                have hpn : p < n := by omega
                have c2 := ((bstep HB.out HIN.out.2.2).cell (p := ⟨b2, off2 + q, none⟩) hlt2).trans (hcell2 q h2)
                rw [hp] at c2
                have HP : Hid (p = (X t q).toNat) := by show p = _; omega
                have hrow := HIN.out.2.1
                have HB2 : Hid (Below W1.heap.size W1 wr) := HIN.out.2.2
                have c4 := hrow.cellAt p (by omega)
                rw [ils_get hpn] at c4
                have fz := hrow.frozenAt p
                have hlim := ct2_lim (Y := X t) HCL.out q p
                have HST0 := (hrow.stored p (.int .i64 (ct2 (X t) (ct ms X (lf FF) k) q p + 1))).1
                rw [ils_put, ct2_put HP.out] at HST0
                have HMX := mx_ct2 (Y := X t) (f := ct ms X (lf FF) k) (k := q) HP.out hpn hlim.1
                rw [← HIN.out.1] at HMX
                obtain ⟨z, hz⟩ : ∃ z, z = ct2 (X t) (ct ms X (lf FF) k) q p := ⟨_, rfl⟩
                rw [← hz] at c4 hlim HST0 HMX
                have HST : Hid ((wr.setCell ⟨W1.heap.size, p, none⟩ (.int .i64 (z + 1))).ownsRow W1.heap.size 3 1 (.slice (some ⟨W1.heap.size, 0, none⟩) n n) n (ils (ct2 (X t) (ct ms X (lf FF) k) (q + 1)) n)) := HST0
                have lw1 : W1.heap.size < wr.heap.size := (World.ownsRow.lt hrow _ rfl).2
                have e1 : (wr.setCell ⟨W1.heap.size, p, none⟩ (.int .i64 (z + 1))).cell? ⟨W1.heap.size, p, none⟩ = some (.int .i64 (z + 1)) := by
                  have hpq : ct2 (X t) (ct ms X (lf FF) k) (q + 1) p = z + 1 := by
                    show (if p = (X t q).toNat then ct2 (X t) (ct ms X (lf FF) k) q p + 1 else ct2 (X t) (ct ms X (lf FF) k) q p) = _
                    rw [if_pos HP.out, hz]
                  have := World.ownsRow.cellAt HST.out p (by omega)
                  rw [ils_get hpn, hpq] at this
                  exact this
                have HBS : Hid (Below W1.heap.size W1 (wr.setCell ⟨W1.heap.size, p, none⟩ (.int .i64 (z + 1)))) := HB2.out.setCell (Nat.le_refl _) _
                have cA := ((bstep HB.out HBS.out).cell (p := ⟨b2, off2 + q, none⟩) hlt2).trans (hcell2 q h2)
                rw [hp] at cA
                have HMX' : Hid (mx (ct2 (X t) (ct ms X (lf FF) k) (q + 1)) n = if y < z + 1 then z + 1 else y) := HMX
                clear hcell2 hpl hp HST0 hrow hz HIN HMX lw1
                go_upto_region 17 with fail
                generalize wr.setCell ⟨W1.heap.size, p, none⟩ (.int .i64 (z + 1)) = W5 at *
                by_cases hgt : y < z + 1
                · have HM2 : Hid (z + 1 = mx (ct2 (X t) (ct ms X (lf FF) k) (q + 1)) n) := by show _ = _; rw [HMX'.out, if_pos hgt]
                  go_wp2
                  go_roundw
                  case rel => exact ⟨q + 1, z + 1, by go_num, rfl, by omega, HM2.out, HST.out, HBS.out⟩
                  case measure => simp [intOf]; omega
                · have HM2 : Hid (y = mx (ct2 (X t) (ct ms X (lf FF) k) (q + 1)) n) := by show _ = _; rw [HMX'.out, if_neg hgt]
                  go_wp2
                  go_roundw
                  case rel => exact ⟨q + 1, y, by go_num, rfl, by omega, HM2.out, HST.out, HBS.out⟩
                  case measure => simp [intOf]; omega
              · obtain rfl : q = m := by omega
                go_wp2
                go_roundw
                case rel => exact ⟨k + 1, y, by go_num, rfl, by omega, by rw [← ES.out]; exact HIN.out⟩
                case measure => simp [intOf]; omega
          · obtain rfl : k = N := by omega
            obtain ⟨f, hf⟩ : ∃ f, f = ct ms X (lf FF) k := ⟨_, rfl⟩
            rw [← hf] at HRL
            have HNX : Hid (trn f (mx f n) (itr ms X M n xs i) = itr ms X M n xs (i + 1)) := by show _ = trn (ct ms X (lf (fls ms X (itr ms X M n xs i) M)) (fls ms X (itr ms X M n xs i) M).length) (mx (ct ms X (lf (fls ms X (itr ms X M n xs i) M)) (fls ms X (itr ms X M n xs i) M).length) n) (itr ms X M n xs i); rw [← HFF.out, ← HN.out, ← hf]
            have HY : Hid (y0 = mx f n) := HRL.out.1
            have HBx : Hid (∀ q, q < n → 0 ≤ itr ms X M n xs i q ∧ itr ms X M n xs i q ≤ 1) := fun q hq => by have := HBT.out i q hq; omega
            rw [← HY.out] at HNX
            have HWc : Hid (wr.ownsRow B 3 1 (.slice (some ⟨gw, 0, none⟩) n wc) n (ils (trq f y0 (itr ms X M n xs i) 0) n)) := own_below HWD0.out HRL.out.2.2
            have HCc : Hid (wr.ownsRow W1.heap.size 3 1 (.slice (some ⟨W1.heap.size, 0, none⟩) n n) n (ils f n)) := HRL.out.2.1
            have HBc : Hid (Below w.heap.size w wr) := bstep HB.out HRL.out.2.2
            have HSZ : Hid (W1.heap.size ≤ wr.heap.size) := HRL.out.2.2.size
            have hgw : B ≤ gw ∧ gw < W1.heap.size := World.ownsRow.lt HWD0.out gw rfl
            have HGW : Hid (B ≤ gw ∧ gw < W1.heap.size) := hgw
            clear hf hgw HRL HLL HLIM HF OW BL
            go_wp2
            go_loopw [18] (fun ix wi => ∃ q : Nat, ix = .int .i64 q ∧ q ≤ n ∧ Hid (wi.ownsRow B 3 1 (.slice (some ⟨gw, 0, none⟩) n wc) n (ils (trq f y0 (itr ms X M n xs i) q) n) ∧ wi.ownsRow W1.heap.size 3 1 (.slice (some ⟨W1.heap.size, 0, none⟩) n n) n (ils f n) ∧ Below w.heap.size w wi ∧ W1.heap.size ≤ wi.heap.size)) (fun ix _ => n - (intOf ix).toNat)
            case atStart => exact ⟨0, rfl, by omega, HWc.out, HCc.out, HBc.out, HSZ.out⟩
            case round =>
              obtain ⟨q, rfl, hq, HIN⟩ := hrel
              by_cases h2 : q < n
              · have hxb := HBx.out q h2
                have hrow := HIN.out.1
                have hcnt := HIN.out.2.1
                have cw := hrow.cellAt q (by omega)
                rw [ils_get h2, show trq f y0 (itr ms X M n xs i) q q = itr ms X M n xs i q from if_neg (Nat.lt_irrefl q)] at cw
                have cc := hcnt.cellAt q (by omega)
                rw [ils_get h2] at cc
                have fz := hrow.frozenAt q
                obtain ⟨x, hx⟩ : ∃ x, x = itr ms X M n xs i q := ⟨_, rfl⟩
                rw [← hx] at cw hxb
                obtain ⟨yf, hyf⟩ : ∃ yf, yf = f q := ⟨_, rfl⟩
                rw [← hyf] at cc
                by_cases he : yf = y0
                · have hbe : (yf == y0) = true := by simp [he]
                  have hst := (hrow.stored q (.int .i64 (1 - x))).1
                  rw [ils_put, trq_put (y := 1 - x) (by show _ = (if f q = y0 then 1 - itr ms X M n xs i q else itr ms X M n xs i q); rw [← hyf, if_pos he, hx])] at hst
                  have HST : Hid _ := hst
                  have HC2 : Hid ((wr.setCell ⟨gw, q, none⟩ (.int .i64 (1 - x))).ownsRow W1.heap.size 3 1 (.slice (some ⟨W1.heap.size, 0, none⟩) n n) n (ils f n)) := own_only hcnt ((Only.refl _ _).put q _) HGW.out.2
                  have HB2 : Hid (Below w.heap.size w (wr.setCell ⟨gw, q, none⟩ (.int .i64 (1 - x)))) := HIN.out.2.2.1.setCell (Nat.le_trans HBB.out HGW.out.1) _
                  have HS2 : Hid (W1.heap.size ≤ (wr.setCell ⟨gw, q, none⟩ (.int .i64 (1 - x))).heap.size) := by show _ ≤ _; simpa [World.setCell] using HIN.out.2.2.2
                  clear hst hrow hcnt HIN hx hyf he
                  go_wp2
                  go_roundw
                  case rel => exact ⟨q + 1, by go_num, by omega, HST.out, HC2.out, HB2.out, HS2.out⟩
                  case measure => simp [intOf]; omega
                · have hbe : (yf == y0) = false := by simp [he]
                  have e3 := trq_same (f := f) (m := y0) (xs := itr ms X M n xs i) (q := q) (n := n) (by show (if f q = y0 then 1 - itr ms X M n xs i q else itr ms X M n xs i q) = _; rw [← hyf, if_neg he])
                  rw [e3] at hrow
                  have HST : Hid _ := hrow
                  clear hrow hcnt hx hyf he e3
                  go_wp2
                  go_roundw
                  case rel => exact ⟨q + 1, by go_num, by omega, HST.out, HIN.out.2.1, HIN.out.2.2.1, HIN.out.2.2.2⟩
                  case measure => simp [intOf]; omega
              · obtain rfl : q = n := by omega
                have hwn := HIN.out.1
                rw [ils_congr (g := itr ms X M q xs (i + 1)) (fun k hk => by show (if k < q then trn f y0 (itr ms X M q xs i) k else itr ms X M q xs i k) = _; rw [if_pos hk, HNX.out])] at hwn
                have HWn : Hid (wr.ownsRow B 3 1 (.slice (some ⟨gw, 0, none⟩) q wc) q (ils (itr ms X M q xs (i + 1)) q)) := hwn
                have HB3 : Hid (Below w.heap.size w wr) := HIN.out.2.2.1
                have i3 := sFails_good (HV.out.below HB3.out) (il_of_own hwn) ⟨by omega, HBT.out (i + 1)⟩ HK.out
                clear hwn HIN
                go_wp2_with (go_at_call 20; refine i3.mono ?_; rintro e w6 ⟨u6, rfl, ho6, hb6⟩; have HF6 : Hid (w6.ownsRow wr.heap.size 3 1 u6 (fls ms X (itr ms X M q xs (i + 1)) M).length (ils (lf (fls ms X (itr ms X M q xs (i + 1)) M)) (fls ms X (itr ms X M q xs (i + 1)) M).length)) := ho6; have HW6 : Hid (w6.ownsRow B 3 1 (.slice (some ⟨gw, 0, none⟩) q wc) q (ils (itr ms X M q xs (i + 1)) q)) := own_below HWn.out hb6; have HB6 : Hid (Below w.heap.size w w6) := bstep HB3.out hb6; clear ho6 hb6)
                go_roundw
                case rel =>
                  refine ⟨i + 1, by go_num, by omega, HW6.out, own_base HF6.out HB3.out.size, HB6.out, fun j hj => ?_⟩
                  · by_cases e : j = i
                    · subst e; exact HNZ.out
                    · exact HBAD.out j (by omega)
                case measure => simp [intOf]; omega
      · have HE : Hid (i = d) := std_one ⟨hi, HBAD.out, .inr (by omega)⟩ HSD.out
        have HO : Hid (ok = false) := by show ok = false; rw [HOK.out, ← HE.out, ← hFF, ← hN]; simp; omega
        have eN : ((N : Int) == 0) = false := by simp; omega
        have HW : Hid (wr.ownsRow w.heap.size 3 1 (.slice (some ⟨gw, 0, none⟩) n wc) n (ils (itr ms X M n xs i) n)) := own_base hW HBB.out
        clear hN HFL HRL hnz hW hFF
        subst hfl
        go_wp2
        go_ret3
        exact ⟨_, retp (congrArg Int.ofNat HE.out) HO.out.symm, by rw [← HE.out]; exact HW.out, HB.out⟩

set_option maxHeartbeats 1000000 in
theorem sTurn_bad {w : World} {v u : Value} {M n : Nat} {R : Int} {ms : Nat → Nat} {X : Nat → Nat → Int} {xs : Nat → Int} (hv : Ipp w v M ms X) (hM : M ≤ 1048576) (hms : ∀ k, k < M → ms k ≤ 1048576) (hu : Il w u n xs) (hn : n ≤ 1048576) (hb : ¬ ((Bts n xs ∧ Cks M ms X (n : Int)) ∧ 0 ≤ R ∧ R ≤ 50)) (ys : Nat → Int) :
    Calls Try.prog 26 #[v, u, .int .i64 R] w fun e w' => Pst3 w w' e 0 ys 0 false := by
  have i2 := in_any R 0 50
  by_cases h1 : Bts n xs ∧ Cks M ms X (n : Int)
  · have i1 := sFails_good hv hu h1.1 h1.2
    rw [decide_eq_false (fun q => hb ⟨h1, q⟩)] at i2
    clear hb h1 hv hu hms
    go_enter Try.func26, Try.ntmps26
    go_wp2_with (first | (go_at_call 20; refine i1.mono ?_; rintro e w1 ⟨l1, rfl, ho1, hb1⟩; have OW : Hid ((w1.alloc (.cells #[] 3)).ownsRow w.heap.size 3 1 (.slice (some ⟨w1.heap.size, 0, none⟩) 0 0) 0 (ils ys 0)) := own_base (own_empty _ 3 1) hb1.size; have BL : Hid (Below w.heap.size w (w1.alloc (.cells #[] 3))) := bstep hb1 (below_one _ _); clear ho1 hb1) | (go_at_call 38; refine (i2 _).mono ?_; rintro e w' ⟨rfl, hw⟩; obtain rfl := hw.symm))
    go_ret3
    exact ⟨_, rfl, OW.out, BL.out⟩
  · have i1 := sFails_bad hv hM hms hu hn h1 ys
    clear hb h1 hv hu hms i2
    go_enter Try.func26, Try.ntmps26
    go_wp2_with (first | (go_at_call 20; refine i1.mono ?_; rintro e w1 ⟨l1, rfl, ho1, hb1⟩; have OW : Hid ((w1.alloc (.cells #[] 3)).ownsRow w.heap.size 3 1 (.slice (some ⟨w1.heap.size, 0, none⟩) 0 0) 0 (ils ys 0)) := own_base (own_empty _ 3 1) hb1.size; have BL : Hid (Below w.heap.size w (w1.alloc (.cells #[] 3))) := bstep hb1 (below_one _ _); clear ho1 hb1))
    go_ret3
    exact ⟨_, rfl, OW.out, BL.out⟩
end Go.Proofs.Ytnfhnchomiejcaa
