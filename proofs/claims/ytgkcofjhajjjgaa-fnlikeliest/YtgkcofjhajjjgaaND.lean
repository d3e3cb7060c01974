/- The likeliest message: the law. -/
import Derived.Test.YtgkcofjhajjjgaaNC
import Derived.Test.YtgkcofjhajjjgaaNB
namespace Go.Proofs.Ytgkcofjhajjjgaa
open Go.RowKit

set_option maxHeartbeats 2000000 in
theorem sameL_yes {w : World} {v u : Value} {n : Nat} {xs ys : Nat → Int} (hv : Il w v n xs) (hu : Il w u n ys) (hn : n ≤ 1048576) (he : ∀ k, k < n → xs k = ys k) :
    Calls Try.prog 14 #[v, u] w fun e w' => e = .returned (.bool true) ∧ Below w.heap.size w w' := by
  obtain ⟨ao, cap, rfl, hcap, hc⟩ := hv
  obtain ⟨bo, cap2, rfl, hcap2, hc2⟩ := hu
  have HC : Hid (0 < n → ∃ b off, ao = some ⟨b, off, none⟩ ∧ b < w.heap.size ∧ ∀ k, k < n → w.cell? ⟨b, off + k, none⟩ = some (.int .i64 (xs k))) := hc
  have HC2 : Hid (0 < n → ∃ b off, bo = some ⟨b, off, none⟩ ∧ b < w.heap.size ∧ ∀ k, k < n → w.cell? ⟨b, off + k, none⟩ = some (.int .i64 (xs k))) := fun h0 => by
    obtain ⟨b, off, h1, h2, h3⟩ := hc2 h0
    exact ⟨b, off, h1, h2, fun k hk => by rw [he k hk]; exact h3 k hk⟩
  clear hc hc2 he
  go_enter Try.func14, Try.ntmps14
  go_wp2
  go_loopw [5] (fun i wr => ∃ k : Nat, i = .int .i64 k ∧ k ≤ n ∧ Hid (Below w.heap.size w wr)) (fun i _ => n - (intOf i).toNat)
  case atStart => exact ⟨0, rfl, by omega, Below.refl _ _⟩
  case round =>
    obtain ⟨k, rfl, hk, hbl⟩ := hrel
    by_cases h1 : k < n
    · obtain ⟨b, off, rfl, hlt, hcell⟩ := HC.out (by omega)
      obtain ⟨b2, off2, rfl, hlt2, hcell2⟩ := HC2.out (by omega)
      have c1 : wr.cell? ⟨b, off + k, none⟩ = some (.int .i64 (xs k)) := (hbl.out.cell (p := ⟨b, off + k, none⟩) hlt).trans (hcell k h1)
      have c2 : wr.cell? ⟨b2, off2 + k, none⟩ = some (.int .i64 (xs k)) := (hbl.out.cell (p := ⟨b2, off2 + k, none⟩) hlt2).trans (hcell2 k h1)
      clear hcell hcell2
      go_wp2_with (go_quiet (fail))
      go_roundw
      case rel => exact ⟨k + 1, by go_num, by omega, below_drewN hbl.out _⟩
      case measure => simp [intOf]; omega
    · obtain rfl : k = n := by omega
      go_wp2
      go_ret
      exact ⟨rfl, hbl.out⟩

/-- A list hurt at its first j places. -/
def hrt (c : Nat → Int) (ps : Nat → Int) : Nat → Nat → Int
  | 0, k => c k
  | j + 1, k => if (k : Int) = ps j then 1 - hrt c ps j k else hrt c ps j k

theorem hrt_bit {c ps : Nat → Int} (hc : ∀ k, Bit (c k)) : ∀ j k, Bit (hrt c ps j k)
  | 0, k => hc k
  | j + 1, k => by
    have := hrt_bit (ps := ps) hc j k
    rw [hrt]
    split
    · unfold Bit at *; omega
    · exact this

theorem hrt_told {c ps : Nat → Int} {N q : Nat} (h : Plc N q ps) {k : Nat} : hrt c ps q k = if ∃ j, j < q ∧ (ps j).toNat = k then 1 - c k else c k := by
  obtain rfl | rfl | rfl : q = 0 ∨ q = 1 ∨ q = 2 := by have := h.1; omega
  · rw [if_neg (fun ⟨j, hj, _⟩ => by omega)]; rfl
  · have h0 := h.2.1 0 (by omega)
    rw [hrt]
    by_cases e : (k : Int) = ps 0
    · rw [if_pos e, if_pos ⟨0, by omega, by omega⟩]; rfl
    · rw [if_neg e, if_neg]
      · rfl
      · rintro ⟨j, hj, hj2⟩
        obtain rfl : j = 0 := by omega
        exact e (by omega)
  · have h0 := h.2.1 0 (by omega)
    have h1 := h.2.1 1 (by omega)
    have hd := h.2.2 rfl
    rw [hrt, hrt]
    by_cases e : (k : Int) = ps 1
    · rw [if_pos e, if_neg (show ¬ (k : Int) = ps 0 from fun e2 => hd (e2.symm.trans e)), if_pos ⟨1, by omega, by omega⟩]; rfl
    · rw [if_neg e]
      by_cases e2 : (k : Int) = ps 0
      · rw [if_pos e2, if_pos ⟨0, by omega, by omega⟩]; rfl
      · rw [if_neg e2, if_neg]
        · rfl
        · rintro ⟨j, hj, hj2⟩
          obtain rfl | rfl : j = 0 ∨ j = 1 := by omega
          · exact e2 (by omega)
          · exact e (by omega)

theorem spd_bit (M a b : Nat) (u : Nat → Nat) (k : Nat) : Bit (spd M a b u k) := by
  unfold spd
  have := par_le (rgg M u (k / 2) &&& (if k % 2 = 0 then a else b))
  unfold Bit
  omega

theorem spd_out (u : Nat → Nat) (k : Nat) : spd 2 7 5 u k = ((out75 u k : Nat) : Int) := rfl

set_option maxRecDepth 20000 in
set_option maxHeartbeats 8000000 in
theorem walk_likeliest {w : World} {a : Option Addr} {len cap : Nat} (hr : Row w a len) (hl : len ≤ 9223372036854775807) : Calls Try.prog 3 #[.slice a len cap] w fun e w' => e = .returned (.bool true) ∧ Below w.heap.size w w' := by
  have hB := big_x (w := w) a len cap hl
  rcases Nat.lt_or_ge 1048576 len with h | h
  · rw [decide_eq_true (by omega)] at hB
    clear hr
    go_enter Try.func3, Try.ntmps3
    go_wp2_with (first | (go_at_call 9; (with_reducible refine (hB).mono ?_); rintro e w' ⟨rfl, hw⟩; obtain rfl := hw.symm))
    go_ret
    exact ⟨rfl, Below.refl _ _⟩
  · rw [decide_eq_false (by omega)] at hB
    have HD : Hid (Calls Try.prog 10 #[.slice a len cap] w fun e w' => ∃ u n ys v q ps, e = .returned (.tuple #[u, v]) ∧ n ≤ 30 ∧ (∀ k, k < n → Bit (ys k)) ∧ Plc (2 * (n + 2)) q ps ∧ Il w' u n ys ∧ Il w' v q ps ∧ Below w.heap.size w w') := dnoisy_x hr h
    clear hr
    go_enter Try.func3, Try.ntmps3
    go_upto_region 4 with (first | (go_at_call 9; (with_reducible refine (hB).mono ?_); rintro e w' ⟨rfl, hw⟩; obtain rfl := hw.symm) | (go_at_call 10; refine HD.out.mono ?_; rintro e w1 ⟨u, n, ys, v, q, ps, rfl, hn, hbt, hpl, hu, hv, hb⟩; have HU : Hid (Il w1 u n ys) := hu; have HV : Hid (Il w1 v q ps) := hv; have HBT : Hid (∀ k, k < n → Bit (ys k)) := hbt; have HPL : Hid (Plc (2 * (n + 2)) q ps) := hpl; have BW : Hid (Below w.heap.size w w1) := hb; clear hu hv hb hbt hpl))
    clear hB HD
    obtain ⟨N, hN⟩ : ∃ N, N = 2 * (n + 2) := ⟨_, rfl⟩
    have HNN : Hid (N = 2 * (n + 2)) := hN
    rw [← hN] at HPL
    have eN : 2 * ((n : Int) + 2) = (N : Int) := by omega
    have hN64 : N ≤ 64 := by omega
    have hq2 : q ≤ 2 := HPL.out.1
    have hCd : Cd (2 : Int) ((7 : Nat) : Int) ((5 : Nat) : Int) := by unfold Cd Mk pw; decide
    have i1 : Calls Try.prog 11 #[.int .i64 2, .int .i64 7, .int .i64 5, u] w1 fun e w' => Pst w1 w' e N (spd 2 7 5 (ub n ys)) true := by
      have := iSpr_good HU.out ⟨by omega, HBT.out⟩ (by omega) hCd
      rw [show (2 : Int).toNat = 2 from rfl, ← hN] at this
      exact this
    obtain ⟨uo, ucp, hu9, hucp, _⟩ := HU.out
    obtain ⟨vo, vcp, hv9, hvcp, _⟩ := HV.out
    subst hu9
    subst hv9
    clear hN hCd
    go_upto_region 7 with (first | (go_at_call 11; (with_reducible refine i1.mono ?_); rintro e w2 ⟨x, rfl, ho, hb⟩; obtain ⟨g, cp, hx⟩ := own_pos ho (by have := HNN.out; omega); subst hx; have HO : Hid (w2.ownsRow w1.heap.size 3 1 (.slice (some ⟨g, 0, none⟩) N cp) N (ils (spd 2 7 5 (ub n ys)) N)) := ho; have B2 : Hid (Below w1.heap.size w1 w2) := hb; clear ho hb))
    clear i1
    go_wp2
    have HCP : Hid (0 < q → ∃ b off, vo = some ⟨b, off, none⟩ ∧ b < w1.heap.size ∧ ∀ k, k < q → w1.cell? ⟨b, off + k, none⟩ = some (.int .i64 (ps k))) := by obtain ⟨_, _, e, _, h9⟩ := HV.out; cases e; exact h9
    go_loopw [7] (fun i wr => ∃ j : Nat, i = .int .i64 (j : Int) ∧ j ≤ q ∧ Hid (wr.ownsRow w1.heap.size 3 1 (.slice (some ⟨g, 0, none⟩) N cp) N (ils (hrt (spd 2 7 5 (ub n ys)) ps j) N) ∧ Below w1.heap.size w1 wr)) (fun i _ => q - (intOf i).toNat)
    case atStart => exact ⟨0, rfl, by omega, HO.out, B2.out⟩
    case round =>
      obtain ⟨j, rfl, hj, hrel⟩ := hrel
      by_cases h1 : j < q
      · obtain ⟨b1, f1, rfl, hl1, hc1⟩ := HCP.out (by omega)
        have c1 := (hrel.out.2.cell (p := ⟨b1, f1 + j, none⟩) hl1).trans (hc1 j h1)
        have hpj := HPL.out.2.1 j h1
        obtain ⟨p, hp⟩ : ∃ p : Nat, ps j = (p : Int) := ⟨(ps j).toNat, by omega⟩
        rw [hp] at c1 hpj
        have hpN : p < N := by omega
        have hrow := hrel.out.1
        have d0 := World.ownsRow.cellAt hrow p (by omega)
        rw [ils_get hpN] at d0
        have z0 := World.ownsRow.frozenAt hrow p
        have hbit := hrt_bit (c := spd 2 7 5 (ub n ys)) (ps := ps) (spd_bit _ _ _ _) j p
        obtain ⟨y, hy⟩ : ∃ y, y = hrt (spd 2 7 5 (ub n ys)) ps j p := ⟨_, rfl⟩
        rw [← hy] at d0 hbit
        have hy2 : 0 ≤ y ∧ y ≤ 1 := by unfold Bit at hbit; omega
        have hst := (World.ownsRow.stored hrow p (.int .i64 (1 - y))).1
        rw [ils_put, show (fun i => if i = p then 1 - y else hrt (spd 2 7 5 (ub n ys)) ps j i) = hrt (spd 2 7 5 (ub n ys)) ps (j + 1) by
          funext i
          rw [hrt, hp]
          by_cases e : i = p
          · subst e; rw [if_pos rfl, if_pos rfl, hy]
          · rw [if_neg e, if_neg (by omega)]] at hst
        have HST : Hid _ := hst
        have HB3 : Hid (Below w1.heap.size w1 (wr.setCell ⟨g, p, none⟩ (.int .i64 (1 - y)))) := hrel.out.2.setCell (p := ⟨g, p, none⟩) (World.ownsRow.lt hrow g rfl).1 _
        clear hrel hrow hst hy hc1 hbit hp
        go_upto_region 10 with (fail)
        go_region
        go_wp2
        go_roundw
        case rel => exact ⟨j + 1, by go_num, by omega, HST.out, HB3.out.drew⟩
        case measure => simp [intOf]; omega
      · obtain rfl : q = j := by omega
        have HR : Hid _ := hrel.out.1
        have B3 : Hid (Below w1.heap.size w1 wr) := hrel.out.2
        have hbits : ∀ k, Bit (hrt (spd 2 7 5 (ub n ys)) ps q k) := hrt_bit (spd_bit _ _ _ _) q
        have i2 := iSof_good (sz := 1) (il_of_own hrel.out.1) ⟨by omega, fun k _ => hbits k⟩ (by omega)
        have HUB : Hid (∀ k, ub n ys k ≤ 1) := ub_le HBT.out
        have hxr : ∀ k, sof 1 (hrt (spd 2 7 5 (ub n ys)) ps q) k = 2 * (((hrt (spd 2 7 5 (ub n ys)) ps q k).toNat : Nat) : Int) - 1 := fun k => by
          unfold sof
          have := hbits k
          unfold Bit at this
          omega
        have HXW : Hid (Wth 100 N (sof 1 (hrt (spd 2 7 5 (ub n ys)) ps q))) := fun k _ => by
          have := hbits k
          rw [hxr k]
          unfold Bit at this
          omega
        have HF : Hid (∀ u, Tr.Op (nx 2) (gg 7 5 (sof 1 (hrt (spd 2 7 5 (ub n ys)) ps q))) (alw n) u (n + 2) 0 → (∀ k, k < n → u k = ub n ys k) ∧ Tr.vl (nx 2) (gg 7 5 (sof 1 (hrt (spd 2 7 5 (ub n ys)) ps q))) u (n + 2) = (N : Int) - 2 * (q : Int)) := fun u hu => by
          have hNN := HNN.out
          have h9 := found (q := q) (c := ub n ys) (r := fun k => (hrt (spd 2 7 5 (ub n ys)) ps q k).toNat) HUB.out (fun k hk => by unfold ub; rw [if_neg (by omega)]) (fun k _ => by have := hbits k; unfold Bit at this; show (hrt (spd 2 7 5 (ub n ys)) ps q k).toNat < 2; omega) (fun k _ => hxr k)
            (sm_hurt (ps := fun j => (ps j).toNat) (fun k => by unfold out75; exact par_le _) hq2 (fun j hj => by have := HPL.out.2.1 j hj; show (ps j).toNat < _; omega) (fun h2 e => by
              have h3 := HPL.out.2.2 h2
              have h4 := HPL.out.2.1 0 (by omega)
              have h5 := HPL.out.2.1 1 (by omega)
              have h6 : (ps 0).toNat = (ps 1).toNat := e
              omega) (fun k _ => by
              show (hrt (spd 2 7 5 (ub n ys)) ps q k).toNat = _
              rw [hrt_told HPL.out, spd_out]
              by_cases e : ∃ j, j < q ∧ (ps j).toNat = k
              · rw [if_pos e, if_pos e]; omega
              · rw [if_neg e, if_neg e]; omega)) hq2 hu
          rw [← hNN] at h9
          exact h9
        have HYS : Hid (∀ k, k < n → ((ub n ys k : Nat) : Int) = ys k) := fun k hk => by
          unfold ub
          rw [if_pos hk]
          have := HBT.out k hk
          unfold Bit at this
          omega
        generalize sof 1 (hrt (spd 2 7 5 (ub n ys)) ps q) = XS at *
        clear hrel hbits hxr HR HPL
        go_wp2_with (first
          | (go_at_call 12; (with_reducible refine i2.mono ?_); rintro e w4 ⟨sv, rfl, ho, hb⟩; have B4 : Hid (Below w1.heap.size w1 w4) := bstep B3.out hb; have i3 : Calls Try.prog 13 #[.int .i64 2, .int .i64 7, .int .i64 5, sv] w4 fun e w' => Pik w4 w' e 2 7 5 n XS := iLik_good (M := 2) (a := 7) (b := 5) (il_of_own ho) (by unfold Cd Mk pw; decide) HNN.out (by omega) HXW.out; clear ho hb)
          | (go_at_call 13; (with_reducible refine i3.mono ?_); rintro e w5 ⟨gv, u9, S9, rfl, hoc, hop, hS, hb⟩; obtain ⟨hf1, hf2⟩ := HF.out u9 hop; rw [hf2] at hS; subst hS; have i4 := sameL_yes (oc_il hoc) (HU.out.below (bstep B4.out hb)) (by omega) (fun k hk => (congrArg (fun z : Nat => (z : Int)) (hf1 k hk)).trans (HYS.out k hk)); have B5 : Hid (Below w1.heap.size w1 w5) := bstep B4.out hb; clear hoc hop hb hf1 hf2)
          | (go_at_call 14; (with_reducible refine i4.mono ?_); rintro e w6 ⟨rfl, hb⟩; have B6 : Hid (Below w1.heap.size w1 w6) := bstep B5.out hb; clear hb))
        go_ret
        exact ⟨rfl, bstep BW.out B6.out⟩
end Go.Proofs.Ytgkcofjhajjjgaa
