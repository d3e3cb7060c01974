/- FnPeaked: the law. -/
import Derived.Test.YtlcgnphckmcdhaaPG
namespace Go.Proofs.Ytlcgnphckmcdhaa
open Go.RowKit

set_option maxRecDepth 100000 in
set_option maxHeartbeats 16000000 in
theorem walk_peaked {w : World} {a : Option Addr} {len cap : Nat} (hr : Row w a len) (hlen : len ≤ 9223372036854775807) :
    Calls Try.prog 3 #[.slice a len cap] w fun e w' => e = .returned (.bool true) ∧ Below w.heap.size w w' := by
  have ib := big_x (w := w) a len cap hlen
  by_cases hl : len ≤ 1048576
  · rw [decide_eq_false (by omega)] at ib
    have j0 := dpk_x (cap := cap) hr hl
    clear hr
    go_enter Try.func3, Try.ntmps3
    go_upto_region 4 with (first
      | (go_at_call 4; (with_reducible refine ib.mono ?_); rintro e w' ⟨rfl, hw⟩; obtain rfl := hw.symm)
      | (go_at_call 5; (with_reducible refine j0.mono ?_); rintro e w1 ⟨uv, high, low, rfl, hq⟩))
    clear ib j0
    obtain ⟨hbd, ⟨n, xs, hn, hI⟩, hb⟩ := hq.out
    clear hq
    obtain ⟨NN, z, ok, MM, cf, hpw⟩ := pw_any (xs := xs) (high := high) (low := low) hn
    have HI : Hid (Il w1 uv n xs) := hI
    have B1 : Hid (Below w.heap.size w w1) := hb
    have hNN := hpw.s
    have hMM := hpw.m
    have HPW : Hid (Pw n xs high low NN z ok MM cf) := hpw
    clear hb hpw
    obtain ⟨ao, lcap, rfl, hlcap, _⟩ := hI
    rcases ok with _ | _
    · go_upto_region 10 with (first
        | (go_at_call 6; refine (HPW.out.i _ _ HI.out).mono ?_; rintro e w2 ⟨pv, rfl, ho, hb⟩; have B2 : Hid (Below w1.heap.size w1 w2) := hb; have O2 : Hid (w2.ownsRow w1.heap.size 31 2 pv NN (ils z (NN * 2))) := ho; obtain ⟨po, pcap, rfl, hpcap, _⟩ := il2_of_own ho; clear ho hb)
        | (go_at_call 7; refine (HPW.out.sp _ _ (HI.out.below B2.out)).mono ?_; rintro e w3 ⟨sv, rfl, ho, hb⟩; have B3 : Hid (Below w2.heap.size w2 w3) := hb; obtain ⟨so, scap, rfl, hscap, _⟩ := il2_of_own ho; clear ho hb))
      have B13 : Hid (Below w1.heap.size w1 w3) := bstep B2.out B3.out
      have BW3 : Hid (Below w.heap.size w w3) := bstep B1.out B13.out
      have HI3 : Hid (Il w3 (.slice ao n lcap) n xs) := HI.out.below B13.out
      obtain ⟨_, _, hv1, _, hc1⟩ := HI3.out
      cases hv1
      obtain ⟨_, _, hv2, _, hc2⟩ := il2_of_own (own_below O2.out B3.out)
      cases hv2
      have HC1 : Hid (0 < n → ∃ b off, ao = some ⟨b, off, none⟩ ∧ b < w3.heap.size ∧ ∀ k, k < n → w3.cell? ⟨b, off + k, none⟩ = some (.int .i64 (xs k))) := hc1
      have HC2 : Hid (0 < NN → ∃ b off, po = some ⟨b, off, none⟩ ∧ b < w3.heap.size ∧ ∀ k, k < NN → w3.cell? ⟨b, off + k * 2, none⟩ = some (.int .i64 (z (k * 2))) ∧ w3.cell? ⟨b, off + k * 2 + 1, none⟩ = some (.int .i64 (z (k * 2 + 1)))) := hc2
      clear hc1 hc2 B1 B2 B3 B13 O2 HI
      go_loopw [10, 11] (fun s i wr => ∃ (k : Nat) (sm : Bool), i = .int .i64 k ∧ s = .bool sm ∧ k ≤ n ∧ w3 = wr ∧ Hid (sm = anyB high xs k)) (fun _ i _ => n - (intOf i).toNat)
      case atStart => exact ⟨0, false, rfl, rfl, by omega, rfl, rfl⟩
      case round =>
        obtain ⟨k, sm, rfl, rfl, hk, rfl, hsm⟩ := hrel
        by_cases h1 : k < n
        · obtain ⟨b, off, rfl, hlt, hcell⟩ := HC1.out (by omega)
          have c := hcell k h1
          have HN : Hid (anyB high xs (k + 1) = (sm || decide (high ≤ xs k))) := by show anyB high xs (k + 1) = _; rw [anyB, ← hsm.out]
          obtain ⟨x, hx⟩ : ∃ x, x = xs k := ⟨_, rfl⟩
          rw [← hx] at c HN
          clear hx hcell hsm
          rcases sm with _ | _
          · by_cases h2 : high ≤ x
            · have HE : Hid (true = anyB high xs (k + 1)) := by show true = _; rw [HN.out]; simp [h2]
              have t : decide (high ≤ x) = true := by simp [h2]
              clear HN
              go_wp2
              go_roundw
              case rel => exact ⟨k + 1, true, by go_num, rfl, by omega, by trivial, HE.out⟩
              case measure => simp [intOf]; omega
            · have HE : Hid (false = anyB high xs (k + 1)) := by show false = _; rw [HN.out]; simp; omega
              have t : decide (high ≤ x) = false := by simp; omega
              clear HN
              go_wp2
              go_roundw
              case rel => exact ⟨k + 1, false, by go_num, rfl, by omega, by trivial, HE.out⟩
              case measure => simp [intOf]; omega
          · have HE : Hid (true = anyB high xs (k + 1)) := by show true = _; rw [HN.out]; simp
            clear HN
            go_wp2
            go_roundw
            case rel => exact ⟨k + 1, true, by go_num, rfl, by omega, by trivial, HE.out⟩
            case measure => simp [intOf]; omega
        · obtain rfl : n = k := by omega
          have SMN : Hid (sm = anyB high xs n) := hsm
          clear hsm
          go_upto_region 16 with fail
          go_loopw [12, 13, 14] (fun i _ _ wr => ∃ k : Nat, i = .int .i64 k ∧ k ≤ NN ∧ Hid (Below w3.heap.size w3 wr)) (fun i _ _ _ => NN - (intOf i).toNat)
          case atStart => exact ⟨0, rfl, by omega, Below.refl _ _⟩
          case round =>
            rename World => V
            obtain ⟨k, rfl, hk, hbl⟩ := hrel
            by_cases h1 : k < NN
            · obtain ⟨p, hp, hpn, hps, hph⟩ := HPW.out.f1 k h1
              obtain ⟨b, off, rfl, hlt, hcell⟩ := HC1.out (by omega)
              obtain ⟨b2, off2, rfl, hlt2, hcell2⟩ := HC2.out (by omega)
              have c1 := (hbl.out.cell (p := ⟨b2, off2 + k * 2, none⟩) hlt2).trans (hcell2 k h1).1
              have c2 := (hbl.out.cell (p := ⟨b2, off2 + k * 2 + 1, none⟩) hlt2).trans (hcell2 k h1).2
              have c3 := (hbl.out.cell (p := ⟨b, off + p, none⟩) hlt).trans (hcell p hpn)
              rw [hp] at c1
              rw [hps] at c3
              obtain ⟨s, hs⟩ : ∃ s, s = z (k * 2 + 1) := ⟨_, rfl⟩
              rw [← hs] at c2 c3 hph
              have s1 : decide ((p : Int) < 0) = false := by simp
              have s2 : decide ((n : Int) ≤ (p : Int)) = false := by simp; omega
              have s3 : decide (n ≤ p) = false := by simp; omega
              have s4 : decide (s < high) = false := by simp; omega
              have CX : Hid (b < w3.heap.size ∧ ∀ k, k < n → w3.cell? ⟨b, off + k, none⟩ = some (.int .i64 (xs k))) := ⟨hlt, hcell⟩
              have CP : Hid (b2 < w3.heap.size ∧ ∀ k, k < NN → w3.cell? ⟨b2, off2 + k * 2, none⟩ = some (.int .i64 (z (k * 2))) ∧ w3.cell? ⟨b2, off2 + k * 2 + 1, none⟩ = some (.int .i64 (z (k * 2 + 1)))) := ⟨hlt2, hcell2⟩
              have HPK : Hid (z (k * 2) = (p : Int)) := hp
              clear hcell hcell2 hs hp hps
              by_cases h0 : k = 0
              · subst h0
                rw [Nat.zero_mul, Nat.add_zero] at c1
                rw [Nat.zero_mul, Nat.add_zero] at c2
                go_upto_region 20 with (go_quiet (fail))
                rename Nat => nq
                have BV : Hid (Below w3.heap.size w3 (V.drewN nq)) := below_drewN hbl.out nq
                have c1' : (V.drewN nq).cell? ⟨b2, off2, none⟩ = some (.int .i64 (p : Int)) := c1
                clear c1 c2 c3 hbl
                generalize V.drewN nq = Y at *
                go_upto_region 22 with fail
                go_loopw [13, 14] (fun bt _ wy => bt = .bool true ∧ Y = wy) (fun _ _ _ => 0)
                case atStart => exact ⟨rfl, rfl⟩
                case round =>
                  obtain ⟨rfl, rfl⟩ := hrel
                  go_wp2
                  go_roundw
                  case rel => exact ⟨0 + 1, by go_num, by omega, BV.out⟩
                  case measure => simp [intOf]; omega
              · obtain ⟨j, pp, q, hj1, hj2, hj3, hj4, hj5⟩ := HPW.out.f2 (k - 1) (by omega)
                rw [Nat.sub_add_cancel (by omega), HPK.out] at hj2
                obtain rfl : p = q := by omega
                have c4 := (hbl.out.cell (p := ⟨b2, off2 + (k - 1) * 2, none⟩) CP.out.1).trans (CP.out.2 (k - 1) (by omega)).1
                rw [hj1] at c4
                have HBT : Hid (btB pp low xs p = true) := btB_yes hj3 hj5 p hj4
                have t1 : decide (0 < (k : Int)) = true := by simp; omega
                have t2 : decide (0 < k) = true := by simp; omega
                have t3 : ((k : Int) == 0) = false := by simp; omega
                have t4 : (k == 0) = false := by simp; omega
                clear hj1 hj2 hj3 hj4 hj5
                go_upto_region 20 with (go_quiet (fail))
                rename Nat => nq
                have BV : Hid (Below w3.heap.size w3 (V.drewN nq)) := below_drewN hbl.out nq
                have c1' : (V.drewN nq).cell? ⟨b2, off2 + k * 2, none⟩ = some (.int .i64 (p : Int)) := c1
                have c4' : (V.drewN nq).cell? ⟨b2, off2 + (k - 1) * 2, none⟩ = some (.int .i64 (pp : Int)) := c4
                clear c1 c2 c3 c4 hbl
                generalize V.drewN nq = Y at *
                have e3 : off2 + ((k : Int) - 1).toNat * 2 = off2 + (k - 1) * 2 := by omega
                go_upto_region 22 with fail
                go_loopw [13, 14] (fun bt i wy => ∃ (j : Nat) (bb : Bool), i = .int .i64 j ∧ bt = .bool bb ∧ j ≤ p ∧ Y = wy ∧ Hid (bb = btB pp low xs j)) (fun _ i _ => p - (intOf i).toNat)
                case atStart => exact ⟨0, false, rfl, rfl, by omega, rfl, rfl⟩
                case round =>
                  obtain ⟨j, bb, rfl, rfl, hj, rfl, hbb⟩ := hrel
                  by_cases h3 : j < p
                  · have c5 := (BV.out.cell (p := ⟨b, off + j, none⟩) CX.out.1).trans (CX.out.2 j (by omega))
                    have HN : Hid (btB pp low xs (j + 1) = (bb || (decide (pp < j) && decide (xs j < low)))) := by show btB pp low xs (j + 1) = _; rw [btB, ← hbb.out]
                    obtain ⟨y, hy⟩ : ∃ y, y = xs j := ⟨_, rfl⟩
                    rw [← hy] at c5 HN
                    clear hbb hy
                    have t5 : decide ((j : Int) < (p : Int)) = true := by simp; omega
                    have t6 : decide (j < p) = true := by simp; omega
                    rcases bb with _ | _
                    · by_cases h4 : pp < j
                      · have t7 : decide ((pp : Int) < (j : Int)) = true := by simp; omega
                        have t8 : decide (pp < j) = true := by simp; omega
                        by_cases h5 : y < low
                        · have HE : Hid (true = btB pp low xs (j + 1)) := by show true = _; rw [HN.out]; simp [h4, h5]
                          have t9 : decide (y < low) = true := by simp; omega
                          clear HN
                          go_wp2
                          go_roundw
                          case rel => exact ⟨j + 1, true, by go_num, rfl, by omega, by trivial, HE.out⟩
                          case measure => simp [intOf]; omega
                        · have HE : Hid (false = btB pp low xs (j + 1)) := by show false = _; rw [HN.out]; simp [h5]
                          have t9 : decide (y < low) = false := by simp; omega
                          clear HN
                          go_wp2
                          go_roundw
                          case rel => exact ⟨j + 1, false, by go_num, rfl, by omega, by trivial, HE.out⟩
                          case measure => simp [intOf]; omega
                      · have t7 : decide ((pp : Int) < (j : Int)) = false := by simp; omega
                        have t8 : decide (pp < j) = false := by simp; omega
                        have HE : Hid (false = btB pp low xs (j + 1)) := by show false = _; rw [HN.out]; simp [h4]
                        clear HN
                        go_wp2
                        go_roundw
                        case rel => exact ⟨j + 1, false, by go_num, rfl, by omega, by trivial, HE.out⟩
                        case measure => simp [intOf]; omega
                    · have HE : Hid (true = btB pp low xs (j + 1)) := by show true = _; rw [HN.out]; simp
                      clear HN
                      go_wp2
                      go_roundw
                      case rel => exact ⟨j + 1, true, by go_num, rfl, by omega, by trivial, HE.out⟩
                      case measure => simp [intOf]; omega
                  · obtain rfl : p = j := by omega
                    obtain rfl : true = bb := HBT.out.symm.trans hbb.out.symm
                    have t5 : decide ((p : Int) < (p : Int)) = false := by simp
                    go_wp2
                    go_roundw
                    case rel => exact ⟨k + 1, by go_num, by omega, BV.out⟩
                    case measure => simp [intOf]; omega
            · have ict := HPW.out.ct V (.slice ao n lcap) (HI3.out.below hbl.out)
              have BV : Hid (Below w.heap.size w V) := bstep BW3.out hbl.out
              have IV : Hid (Il V (.slice ao n lcap) n xs) := HI3.out.below hbl.out
              clear hbl
              go_upto_region 30 with (first
                | (go_at_call 8; (with_reducible refine ict.mono ?_); rintro e w4 ⟨cv, rfl, hcI, hb⟩; have B4 : Hid (Below w.heap.size w w4) := bstep BV.out hb; obtain ⟨co, ccap, rfl, hccap, hc3⟩ := hcI; have HC3 : Hid (0 < MM → ∃ b off, co = some ⟨b, off, none⟩ ∧ b < w4.heap.size ∧ ∀ k, k < MM → w4.cell? ⟨b, off + k, none⟩ = some (.int .i64 (cf k))) := hc3; clear hc3 hb))
              clear ict
              go_loopw [17, 18] (fun s i wy => ∃ (j : Nat) (t : Int), i = .int .i64 j ∧ s = .int .i64 t ∧ j ≤ MM ∧ (0 ≤ t ∧ t ≤ 512 * (j : Int)) ∧ w4 = wy ∧ Hid (t = smI cf j)) (fun _ i _ => MM - (intOf i).toNat)
              case atStart => exact ⟨0, 0, rfl, rfl, by omega, by omega, rfl, rfl⟩
              case round =>
                obtain ⟨j, t, rfl, rfl, hj, ht, rfl, hsm⟩ := hrel
                by_cases h3 : j < MM
                · obtain ⟨b3, off3, rfl, hlt3, hcell3⟩ := HC3.out (by omega)
                  have c6 := hcell3 j h3
                  have hcj := HPW.out.c j h3
                  have HN : Hid (smI cf (j + 1) = t + cf j) := by show smI cf (j + 1) = _; rw [smI, ← hsm.out]
                  obtain ⟨y, hy⟩ : ∃ y, y = cf j := ⟨_, rfl⟩
                  rw [← hy] at c6 hcj HN
                  clear hy hcell3 hsm
                  go_wp2
                  go_roundw
                  case rel => exact ⟨j + 1, t + y, by go_num, rfl, by omega, by omega, by trivial, HN.out.symm⟩
                  case measure => simp [intOf]; omega
                · obtain rfl : MM = j := by omega
                  have ipl := pk_lit w4
                  clear hsm
                  go_wp2_with (first
                    | (go_at_call 6; (with_reducible refine ipl.mono ?_); rintro e w5 ⟨g5, cap5, rfl, hcp5, d0, d1, hb⟩; have B5 : Hid (Below w.heap.size w w5) := bstep B4.out hb; clear hb))
                  go_ret
                  exact ⟨rfl, B5.out⟩
    · go_upto_region 10 with (first
        | (go_at_call 6; refine (HPW.out.i _ _ HI.out).mono ?_; rintro e w2 ⟨pv, rfl, ho, hb⟩; have B2 : Hid (Below w1.heap.size w1 w2) := hb; have O2 : Hid (w2.ownsRow w1.heap.size 31 2 pv NN (ils z (NN * 2))) := ho; obtain ⟨po, pcap, rfl, hpcap, _⟩ := il2_of_own ho; clear ho hb)
        | (go_at_call 7; refine (HPW.out.sp _ _ (HI.out.below B2.out)).mono ?_; rintro e w3 ⟨sv, rfl, ho, hb⟩; have B3 : Hid (Below w2.heap.size w2 w3) := hb; obtain ⟨so, scap, rfl, hscap, _⟩ := il2_of_own ho; clear ho hb))
      have B13 : Hid (Below w1.heap.size w1 w3) := bstep B2.out B3.out
      have BW3 : Hid (Below w.heap.size w w3) := bstep B1.out B13.out
      have HI3 : Hid (Il w3 (.slice ao n lcap) n xs) := HI.out.below B13.out
      obtain ⟨_, _, hv1, _, hc1⟩ := HI3.out
      cases hv1
      obtain ⟨_, _, hv2, _, hc2⟩ := il2_of_own (own_below O2.out B3.out)
      cases hv2
      have HC1 : Hid (0 < n → ∃ b off, ao = some ⟨b, off, none⟩ ∧ b < w3.heap.size ∧ ∀ k, k < n → w3.cell? ⟨b, off + k, none⟩ = some (.int .i64 (xs k))) := hc1
      have HC2 : Hid (0 < NN → ∃ b off, po = some ⟨b, off, none⟩ ∧ b < w3.heap.size ∧ ∀ k, k < NN → w3.cell? ⟨b, off + k * 2, none⟩ = some (.int .i64 (z (k * 2))) ∧ w3.cell? ⟨b, off + k * 2 + 1, none⟩ = some (.int .i64 (z (k * 2 + 1)))) := hc2
      clear hc1 hc2 B1 B2 B3 B13 O2 HI
      go_loopw [10, 11] (fun s i wr => ∃ (k : Nat) (sm : Bool), i = .int .i64 k ∧ s = .bool sm ∧ k ≤ n ∧ w3 = wr ∧ Hid (sm = anyB high xs k)) (fun _ i _ => n - (intOf i).toNat)
      case atStart => exact ⟨0, false, rfl, rfl, by omega, rfl, rfl⟩
      case round =>
        obtain ⟨k, sm, rfl, rfl, hk, rfl, hsm⟩ := hrel
        by_cases h1 : k < n
        · obtain ⟨b, off, rfl, hlt, hcell⟩ := HC1.out (by omega)
          have c := hcell k h1
          have HN : Hid (anyB high xs (k + 1) = (sm || decide (high ≤ xs k))) := by show anyB high xs (k + 1) = _; rw [anyB, ← hsm.out]
          obtain ⟨x, hx⟩ : ∃ x, x = xs k := ⟨_, rfl⟩
          rw [← hx] at c HN
          clear hx hcell hsm
          rcases sm with _ | _
          · by_cases h2 : high ≤ x
            · have HE : Hid (true = anyB high xs (k + 1)) := by show true = _; rw [HN.out]; simp [h2]
              have t : decide (high ≤ x) = true := by simp [h2]
              clear HN
              go_wp2
              go_roundw
              case rel => exact ⟨k + 1, true, by go_num, rfl, by omega, by trivial, HE.out⟩
              case measure => simp [intOf]; omega
            · have HE : Hid (false = anyB high xs (k + 1)) := by show false = _; rw [HN.out]; simp; omega
              have t : decide (high ≤ x) = false := by simp; omega
              clear HN
              go_wp2
              go_roundw
              case rel => exact ⟨k + 1, false, by go_num, rfl, by omega, by trivial, HE.out⟩
              case measure => simp [intOf]; omega
          · have HE : Hid (true = anyB high xs (k + 1)) := by show true = _; rw [HN.out]; simp
            clear HN
            go_wp2
            go_roundw
            case rel => exact ⟨k + 1, true, by go_num, rfl, by omega, by trivial, HE.out⟩
            case measure => simp [intOf]; omega
        · obtain rfl : n = k := by omega
          have SMN : Hid (sm = anyB high xs n) := hsm
          clear hsm
          have FF := HPW.out.f4 rfl
          rw [← SMN.out] at FF
          have q1 : (sm != decide (0 < (NN : Int))) = false := by rw [FF]; simp
          have q2 : (!(sm == decide (0 < NN))) = false := by rw [FF]; simp
          have q3 : (sm == decide (0 < NN)) = true := by rw [FF]; simp
          clear FF
          go_upto_region 16 with fail
          go_loopw [12, 13, 14] (fun i _ _ wr => ∃ k : Nat, i = .int .i64 k ∧ k ≤ NN ∧ Hid (Below w3.heap.size w3 wr)) (fun i _ _ _ => NN - (intOf i).toNat)
          case atStart => exact ⟨0, rfl, by omega, Below.refl _ _⟩
          case round =>
            rename World => V
            obtain ⟨k, rfl, hk, hbl⟩ := hrel
            by_cases h1 : k < NN
            · obtain ⟨p, hp, hpn, hps, hph⟩ := HPW.out.f1 k h1
              obtain ⟨b, off, rfl, hlt, hcell⟩ := HC1.out (by omega)
              obtain ⟨b2, off2, rfl, hlt2, hcell2⟩ := HC2.out (by omega)
              have c1 := (hbl.out.cell (p := ⟨b2, off2 + k * 2, none⟩) hlt2).trans (hcell2 k h1).1
              have c2 := (hbl.out.cell (p := ⟨b2, off2 + k * 2 + 1, none⟩) hlt2).trans (hcell2 k h1).2
              have c3 := (hbl.out.cell (p := ⟨b, off + p, none⟩) hlt).trans (hcell p hpn)
              rw [hp] at c1
              rw [hps] at c3
              obtain ⟨s, hs⟩ : ∃ s, s = z (k * 2 + 1) := ⟨_, rfl⟩
              rw [← hs] at c2 c3 hph
              have s1 : decide ((p : Int) < 0) = false := by simp
              have s2 : decide ((n : Int) ≤ (p : Int)) = false := by simp; omega
              have s3 : decide (n ≤ p) = false := by simp; omega
              have s4 : decide (s < high) = false := by simp; omega
              have CX : Hid (b < w3.heap.size ∧ ∀ k, k < n → w3.cell? ⟨b, off + k, none⟩ = some (.int .i64 (xs k))) := ⟨hlt, hcell⟩
              have CP : Hid (b2 < w3.heap.size ∧ ∀ k, k < NN → w3.cell? ⟨b2, off2 + k * 2, none⟩ = some (.int .i64 (z (k * 2))) ∧ w3.cell? ⟨b2, off2 + k * 2 + 1, none⟩ = some (.int .i64 (z (k * 2 + 1)))) := ⟨hlt2, hcell2⟩
              have HPK : Hid (z (k * 2) = (p : Int)) := hp
              clear hcell hcell2 hs hp hps
              by_cases h0 : k = 0
              · subst h0
                rw [Nat.zero_mul, Nat.add_zero] at c1
                rw [Nat.zero_mul, Nat.add_zero] at c2
                go_upto_region 20 with (go_quiet (fail))
                rename Nat => nq
                have BV : Hid (Below w3.heap.size w3 (V.drewN nq)) := below_drewN hbl.out nq
                have c1' : (V.drewN nq).cell? ⟨b2, off2, none⟩ = some (.int .i64 (p : Int)) := c1
                clear c1 c2 c3 hbl
                generalize V.drewN nq = Y at *
                go_upto_region 22 with fail
                go_loopw [13, 14] (fun bt _ wy => bt = .bool true ∧ Y = wy) (fun _ _ _ => 0)
                case atStart => exact ⟨rfl, rfl⟩
                case round =>
                  obtain ⟨rfl, rfl⟩ := hrel
                  go_wp2
                  go_roundw
                  case rel => exact ⟨0 + 1, by go_num, by omega, BV.out⟩
                  case measure => simp [intOf]; omega
              · obtain ⟨j, pp, q, hj1, hj2, hj3, hj4, hj5⟩ := HPW.out.f2 (k - 1) (by omega)
                rw [Nat.sub_add_cancel (by omega), HPK.out] at hj2
                obtain rfl : p = q := by omega
                have c4 := (hbl.out.cell (p := ⟨b2, off2 + (k - 1) * 2, none⟩) CP.out.1).trans (CP.out.2 (k - 1) (by omega)).1
                rw [hj1] at c4
                have HBT : Hid (btB pp low xs p = true) := btB_yes hj3 hj5 p hj4
                have t1 : decide (0 < (k : Int)) = true := by simp; omega
                have t2 : decide (0 < k) = true := by simp; omega
                have t3 : ((k : Int) == 0) = false := by simp; omega
                have t4 : (k == 0) = false := by simp; omega
                clear hj1 hj2 hj3 hj4 hj5
                go_upto_region 20 with (go_quiet (fail))
                rename Nat => nq
                have BV : Hid (Below w3.heap.size w3 (V.drewN nq)) := below_drewN hbl.out nq
                have c1' : (V.drewN nq).cell? ⟨b2, off2 + k * 2, none⟩ = some (.int .i64 (p : Int)) := c1
                have c4' : (V.drewN nq).cell? ⟨b2, off2 + (k - 1) * 2, none⟩ = some (.int .i64 (pp : Int)) := c4
                clear c1 c2 c3 c4 hbl
                generalize V.drewN nq = Y at *
                have e3 : off2 + ((k : Int) - 1).toNat * 2 = off2 + (k - 1) * 2 := by omega
                go_upto_region 22 with fail
                go_loopw [13, 14] (fun bt i wy => ∃ (j : Nat) (bb : Bool), i = .int .i64 j ∧ bt = .bool bb ∧ j ≤ p ∧ Y = wy ∧ Hid (bb = btB pp low xs j)) (fun _ i _ => p - (intOf i).toNat)
                case atStart => exact ⟨0, false, rfl, rfl, by omega, rfl, rfl⟩
                case round =>
                  obtain ⟨j, bb, rfl, rfl, hj, rfl, hbb⟩ := hrel
                  by_cases h3 : j < p
                  · have c5 := (BV.out.cell (p := ⟨b, off + j, none⟩) CX.out.1).trans (CX.out.2 j (by omega))
                    have HN : Hid (btB pp low xs (j + 1) = (bb || (decide (pp < j) && decide (xs j < low)))) := by show btB pp low xs (j + 1) = _; rw [btB, ← hbb.out]
                    obtain ⟨y, hy⟩ : ∃ y, y = xs j := ⟨_, rfl⟩
                    rw [← hy] at c5 HN
                    clear hbb hy
                    have t5 : decide ((j : Int) < (p : Int)) = true := by simp; omega
                    have t6 : decide (j < p) = true := by simp; omega
                    rcases bb with _ | _
                    · by_cases h4 : pp < j
                      · have t7 : decide ((pp : Int) < (j : Int)) = true := by simp; omega
                        have t8 : decide (pp < j) = true := by simp; omega
                        by_cases h5 : y < low
                        · have HE : Hid (true = btB pp low xs (j + 1)) := by show true = _; rw [HN.out]; simp [h4, h5]
                          have t9 : decide (y < low) = true := by simp; omega
                          clear HN
                          go_wp2
                          go_roundw
                          case rel => exact ⟨j + 1, true, by go_num, rfl, by omega, by trivial, HE.out⟩
                          case measure => simp [intOf]; omega
                        · have HE : Hid (false = btB pp low xs (j + 1)) := by show false = _; rw [HN.out]; simp [h5]
                          have t9 : decide (y < low) = false := by simp; omega
                          clear HN
                          go_wp2
                          go_roundw
                          case rel => exact ⟨j + 1, false, by go_num, rfl, by omega, by trivial, HE.out⟩
                          case measure => simp [intOf]; omega
                      · have t7 : decide ((pp : Int) < (j : Int)) = false := by simp; omega
                        have t8 : decide (pp < j) = false := by simp; omega
                        have HE : Hid (false = btB pp low xs (j + 1)) := by show false = _; rw [HN.out]; simp [h4]
                        clear HN
                        go_wp2
                        go_roundw
                        case rel => exact ⟨j + 1, false, by go_num, rfl, by omega, by trivial, HE.out⟩
                        case measure => simp [intOf]; omega
                    · have HE : Hid (true = btB pp low xs (j + 1)) := by show true = _; rw [HN.out]; simp
                      clear HN
                      go_wp2
                      go_roundw
                      case rel => exact ⟨j + 1, true, by go_num, rfl, by omega, by trivial, HE.out⟩
                      case measure => simp [intOf]; omega
                  · obtain rfl : p = j := by omega
                    obtain rfl : true = bb := HBT.out.symm.trans hbb.out.symm
                    have t5 : decide ((p : Int) < (p : Int)) = false := by simp
                    go_wp2
                    go_roundw
                    case rel => exact ⟨k + 1, by go_num, by omega, BV.out⟩
                    case measure => simp [intOf]; omega
            · have ict := HPW.out.ct V (.slice ao n lcap) (HI3.out.below hbl.out)
              have BV : Hid (Below w.heap.size w V) := bstep BW3.out hbl.out
              have IV : Hid (Il V (.slice ao n lcap) n xs) := HI3.out.below hbl.out
              clear hbl
              go_upto_region 30 with (first
                | (go_at_call 8; (with_reducible refine ict.mono ?_); rintro e w4 ⟨cv, rfl, hcI, hb⟩; have B4 : Hid (Below w.heap.size w w4) := bstep BV.out hb; obtain ⟨co, ccap, rfl, hccap, hc3⟩ := hcI; have HC3 : Hid (0 < MM → ∃ b off, co = some ⟨b, off, none⟩ ∧ b < w4.heap.size ∧ ∀ k, k < MM → w4.cell? ⟨b, off + k, none⟩ = some (.int .i64 (cf k))) := hc3; clear hc3 hb))
              clear ict
              go_loopw [17, 18] (fun s i wy => ∃ (j : Nat) (t : Int), i = .int .i64 j ∧ s = .int .i64 t ∧ j ≤ MM ∧ (0 ≤ t ∧ t ≤ 512 * (j : Int)) ∧ w4 = wy ∧ Hid (t = smI cf j)) (fun _ i _ => MM - (intOf i).toNat)
              case atStart => exact ⟨0, 0, rfl, rfl, by omega, by omega, rfl, rfl⟩
              case round =>
                obtain ⟨j, t, rfl, rfl, hj, ht, rfl, hsm⟩ := hrel
                by_cases h3 : j < MM
                · obtain ⟨b3, off3, rfl, hlt3, hcell3⟩ := HC3.out (by omega)
                  have c6 := hcell3 j h3
                  have hcj := HPW.out.c j h3
                  have HN : Hid (smI cf (j + 1) = t + cf j) := by show smI cf (j + 1) = _; rw [smI, ← hsm.out]
                  obtain ⟨y, hy⟩ : ∃ y, y = cf j := ⟨_, rfl⟩
                  rw [← hy] at c6 hcj HN
                  clear hy hcell3 hsm
                  go_wp2
                  go_roundw
                  case rel => exact ⟨j + 1, t + y, by go_num, rfl, by omega, by omega, by trivial, HN.out.symm⟩
                  case measure => simp [intOf]; omega
                · obtain rfl : MM = j := by omega
                  have ipl := pk_lit w4
                  have TE : Hid (t = (n : Int)) := hsm.out.trans (HPW.out.t rfl)
                  have te : (t == (n : Int)) = true := by rw [TE.out]; simp
                  clear hsm
                  go_wp2_with (first
                    | (go_at_call 6; (with_reducible refine ipl.mono ?_); rintro e w5 ⟨g5, cap5, rfl, hcp5, d0, d1, hb⟩; have B5 : Hid (Below w.heap.size w w5) := bstep B4.out hb; clear hb))
                  go_ret
                  exact ⟨rfl, B5.out⟩
  · rw [decide_eq_true (by omega)] at ib
    clear hr
    go_enter Try.func3, Try.ntmps3
    go_wp2_with (first
      | (go_at_call 4; (with_reducible refine ib.mono ?_); rintro e w' ⟨rfl, hw⟩; obtain rfl := hw.symm))
    go_ret
    exact ⟨rfl, Below.refl _ _⟩
end Go.Proofs.Ytlcgnphckmcdhaa
