/- Lifted: the law's walk. -/
import Derived.Test.YtbcjbighipeafaaGA
namespace Go.Proofs.Ytbcjbighipeafaa
open Go.RowKit

theorem lo_gb {kind : Int} {n : Nat} {xs : Nat → Int} (hk : Knd kind) (hs : Sig n xs) : Gb kind ((n + 1) / 2) (n / 2) (loL kind n xs) (hiL kind n xs) := by
  have h1 := sig_with hs
  have h2 := hs.1
  refine ⟨hk, by omega, by omega, by omega, fun i hi => ?_, fun i hi => ?_⟩
  · have := lo_with (kind := kind) (by omega) h1 i hi
    omega
  · have := hi_with (kind := kind) (by omega) h1 i hi
    omega

/-- The list that is typed out. -/
def lit3 (i : Nat) : Int := if i = 0 then 5 else if i = 1 then -3 else 8

theorem lit3_sig : Sig 3 lit3 := by
  refine ⟨by decide, fun k hk => ?_⟩
  have : k = 0 ∨ k = 1 ∨ k = 2 := by omega
  rcases this with rfl | rfl | rfl <;> decide

set_option maxRecDepth 20000 in
set_option maxHeartbeats 8000000 in
theorem walk_lifted {w : World} {a : Option Addr} {n cap : Nat} (hr : Row w a n) (hn : n ≤ 9223372036854775807) : Calls Try.prog 3 #[.slice a n cap] w fun e w' => e = .returned (.bool true) ∧ Below w.heap.size w w' := by
  have hz := fun W => big_x (w := W) a n cap hn
  by_cases h : n ≤ 1048576
  · rw [decide_eq_false (show ¬ (1048576 : Int) < (n : Int) by omega)] at hz
    have hd := dlift_x (cap := cap) hr h
    clear hr
    go_enter Try.func3, Try.ntmps3
    go_upto_region 4 with (first | (go_at_call 5; (with_reducible refine (hz _).mono ?_); rintro e w' ⟨rfl, hw⟩; obtain rfl := hw.symm) | (go_at_call 6; refine hd.mono ?_; rintro e w1 ⟨kd, lev, v, rfl, hF⟩; have HF : Hid ((∃ n ys, n ≤ 513 ∧ ∃ B, w1.ownsRow B 3 1 v n (ils ys n)) ∧ Below w.heap.size w w1) := hF.out; clear hF))
    clear hd hz
    obtain ⟨⟨N, xs, hN, B, hO⟩, hB1⟩ := HF.out
    have O1 : Hid (w1.ownsRow B 3 1 v N (ils xs N)) := hO
    have B1 : Hid (Below w.heap.size w w1) := hB1
    have i7 := sSig_any (il_of_own hO) (by omega)
    clear HF hO hB1
    by_cases hg : Sig N xs ∧ 0 ≤ lev ∧ lev ≤ 8
    · obtain ⟨hs, hl0, hl8⟩ := hg
      rw [decide_eq_true hs] at i7
      obtain ⟨L, rfl⟩ : ∃ L : Nat, lev = L := ⟨lev.toNat, by omega⟩
      have hL8 : L ≤ 8 := by omega
      have HS : Hid (Sig N xs) := hs
      have OL : Hid (w1.ownsRow B 3 1 v N (ils xs N)) := O1.out
      have BL : Hid (Below w.heap.size w w1) := B1.out
      clear hs O1 B1
      obtain ⟨lao, lcap, hvv, hlcap, _⟩ := il_of_own OL.out
      subst hvv
      have e1 : decide ((L : Int) < 0) = false := decide_eq_false (by omega)
      have e2 : decide ((8 : Int) < (L : Int)) = false := decide_eq_false (by omega)
      go_wp2_with (first | (go_at_call 7; (with_reducible refine i7.mono ?_); rintro e w' ⟨rfl, hw⟩; obtain rfl := hw.symm))
      try simp only [e1, e2, Bool.or_self]
      clear i7
      obtain ⟨J, hJ⟩ := Stp.exists N L
      have HJ : Hid (Stp N L J) := hJ
      have hN5 : N ≤ 512 := HS.out.1
      clear hJ
      go_loopw [6] (fun i wr => ∃ k : Int, i = .int .i64 k ∧ 1 ≤ k ∧ k ≤ 4 ∧ Hid (wr.ownsRow B 3 1 (.slice lao N lcap) N (ils xs N) ∧ Below w.heap.size w wr)) (fun i _ => (4 - intOf i).toNat)
      case atStart => exact ⟨1, rfl, by omega, by omega, OL.out, BL.out⟩
      case round =>
        obtain ⟨k, rfl, hk1, hk2, hrel⟩ := hrel
        have O0 : Hid (wr.ownsRow B 3 1 (.slice lao N lcap) N (ils xs N)) := hrel.out.1
        have B0 : Hid (Below w.heap.size w wr) := hrel.out.2
        clear hrel
        by_cases hk : k ≤ 3
        · have hK : Knd k := by unfold Knd; omega
          have i8 := iLift1_good (il_of_own O0.out) hK HS.out
          have hG := lo_gb hK HS.out
          have HBO0 : ∀ j, j < N → bck k ((N + 1) / 2) (N / 2) (loL k N xs) (hiL k N xs) j = xs j := fun j hj => back_once k N xs hj
          obtain ⟨p, hp⟩ : ∃ p, (N + 1) / 2 = p := ⟨_, rfl⟩
          obtain ⟨q, hq⟩ : ∃ q, N / 2 = q := ⟨_, rfl⟩
          rw [hp, hq] at i8 hG HBO0
          have hpq : p + q = N := by omega
          have hpi : (p : Int) + (q : Int) = (N : Int) := by omega
          have GG : Hid (Gb k p q (loL k N xs) (hiL k N xs)) := hG
          have HBO : Hid (∀ j, j < N → bck k p q (loL k N xs) (hiL k N xs) j = xs j) := HBO0
          clear hp hq hG HBO0
          by_cases hU : Wth 8000000000 N (stL k N xs J)
          · have HU : Hid (Wth 8000000000 N (stL k N xs J)) := hU
            clear hU
            go_wp2_with (first
              | (go_at_call 8; refine i8.mono ?_; rintro e W1 ⟨lo, hi1, rfl, h1, h2, _, h4⟩; have L1 : Hid (W1.ownsRow wr.heap.size 3 1 lo p (ils (loL k N xs) p)) := h1; have R1 : Hid (W1.ownsRow wr.heap.size 3 1 hi1 q (ils (hiL k N xs) q)) := h2; have V1 : Hid (W1.ownsRow B 3 1 (.slice lao N lcap) N (ils xs N)) := own_below O0.out h4; have B1 : Hid (Below w.heap.size w W1) := bstep B0.out h4; obtain ⟨la1, lc1, hlo, hlc1, _⟩ := il_of_own h1; obtain ⟨ha1, hc1, hhi, hhc1, _⟩ := il_of_own h2; subst hlo hhi; have i9 := iLb_good (il_of_own L1.out) (il_of_own R1.out) GG.out; clear h1 h2 h4)
              | (go_at_call 9; refine i9.mono ?_; rintro e W2 ⟨x, rfl, h1, h4⟩; rw [hpq] at h1; have X2 : Hid (W2.ownsRow W1.heap.size 3 1 x N (ils (bck k p q (loL k N xs) (hiL k N xs)) N)) := h1; have L2 : Hid (W2.ownsRow wr.heap.size 3 1 (.slice la1 p lc1) p (ils (loL k N xs) p)) := own_below L1.out h4; have R2 : Hid (W2.ownsRow wr.heap.size 3 1 (.slice ha1 q hc1) q (ils (hiL k N xs) q)) := own_below R1.out h4; have V2 : Hid (W2.ownsRow B 3 1 (.slice lao N lcap) N (ils xs N)) := own_below V1.out h4; have B2 : Hid (Below w.heap.size w W2) := bstep B1.out h4; have i10 := iLift_good hK HS.out hL8 HJ.out V2.out; clear h1 h4)
              | (go_at_call 10; refine i10.mono ?_; rintro e W3 ⟨y, rfl, h1, h4⟩; have Y3 : Hid (W3.ownsRow W2.heap.size 3 1 y N (ils (stL k N xs J) N)) := h1; have X3 : Hid (W3.ownsRow W1.heap.size 3 1 x N (ils (bck k p q (loL k N xs) (hiL k N xs)) N)) := own_below X2.out h4; have L3 : Hid (W3.ownsRow wr.heap.size 3 1 (.slice la1 p lc1) p (ils (loL k N xs) p)) := own_below L2.out h4; have R3 : Hid (W3.ownsRow wr.heap.size 3 1 (.slice ha1 q hc1) q (ils (hiL k N xs) q)) := own_below R2.out h4; have V3 : Hid (W3.ownsRow B 3 1 (.slice lao N lcap) N (ils xs N)) := own_below V2.out h4; have B3 : Hid (Below w.heap.size w W3) := bstep B2.out h4; obtain ⟨ya, yc, hy, hyc, _⟩ := il_of_own h1; subst hy; have i11 := sLb_good (il_of_own L3.out) (il_of_own R3.out) GG.out; clear h1 h4)
              | (go_at_call 11; refine i11.mono ?_; rintro e W4 ⟨_, rfl, _, h4⟩; have Y4 : Hid (W4.ownsRow W2.heap.size 3 1 (.slice ya N yc) N (ils (stL k N xs J) N)) := own_below Y3.out h4; have X4 : Hid (W4.ownsRow W1.heap.size 3 1 x N (ils (bck k p q (loL k N xs) (hiL k N xs)) N)) := own_below X3.out h4; have V4 : Hid (W4.ownsRow B 3 1 (.slice lao N lcap) N (ils xs N)) := own_below V3.out h4; have B4 : Hid (Below w.heap.size w W4) := bstep B3.out h4; have i12 := same_yes (il_of_own X4.out) (il_of_own V4.out) (by omega) HBO.out; clear h4)
              | (go_at_call 12; (fail_if_success have := M12); refine i12.mono ?_; rintro e W5 ⟨rfl, h4⟩; have M12 : Hid True := trivial; have Y5 : Hid (W5.ownsRow W2.heap.size 3 1 (.slice ya N yc) N (ils (stL k N xs J) N)) := own_below Y4.out h4; have V5 : Hid (W5.ownsRow B 3 1 (.slice lao N lcap) N (ils xs N)) := own_below V4.out h4; have B5 : Hid (Below w.heap.size w W5) := bstep B4.out h4; have i13 := iUnlift_back ⟨hK, HS.out.1, HU.out, hL8⟩ HJ.out Y5.out; clear h4)
              | (go_at_call 13; refine i13.mono ?_; rintro e W6 ⟨z, rfl, h1, h4⟩; have Z6 : Hid (W6.ownsRow W5.heap.size 3 1 z N (ils xs N)) := h1; have Y6 : Hid (W6.ownsRow W2.heap.size 3 1 (.slice ya N yc) N (ils (stL k N xs J) N)) := own_below Y5.out h4; have V6 : Hid (W6.ownsRow B 3 1 (.slice lao N lcap) N (ils xs N)) := own_below V5.out h4; have B6 : Hid (Below w.heap.size w W6) := bstep B5.out h4; have i14 := sUnlift_ok ⟨hK, HS.out.1, HU.out, hL8⟩ HJ.out Y6.out; clear h1 h4)
              | (go_at_call 14; refine i14.mono ?_; rintro e W7 ⟨_, rfl, _, h4⟩; have Z7 : Hid (W7.ownsRow W5.heap.size 3 1 z N (ils xs N)) := own_below Z6.out h4; have V7 : Hid (W7.ownsRow B 3 1 (.slice lao N lcap) N (ils xs N)) := own_below V6.out h4; have B7 : Hid (Below w.heap.size w W7) := bstep B6.out h4; have i15 := same_yes (il_of_own Z7.out) (il_of_own V7.out) (by omega) (fun _ _ => rfl); clear h4)
              | (go_at_call 12; have Z0 := M12; refine i15.mono ?_; rintro e W8 ⟨rfl, h4⟩; have V8 : Hid (W8.ownsRow B 3 1 (.slice lao N lcap) N (ils xs N)) := own_below V7.out h4; have B8 : Hid (Below w.heap.size w W8) := bstep B7.out h4; clear h4))
            go_roundw
            case rel => exact ⟨k + 1, by go_num, by omega, by omega, V8.out, B8.out⟩
            case measure => simp [intOf]; omega
          · have HU : Hid (¬ (Knd k ∧ N ≤ 512 ∧ Wth 8000000000 N (stL k N xs J) ∧ 0 ≤ (L : Int) ∧ (L : Int) ≤ 8)) := fun h => hU h.2.2.1
            clear hU
            go_wp2_with (first
              | (go_at_call 8; refine i8.mono ?_; rintro e W1 ⟨lo, hi1, rfl, h1, h2, _, h4⟩; have L1 : Hid (W1.ownsRow wr.heap.size 3 1 lo p (ils (loL k N xs) p)) := h1; have R1 : Hid (W1.ownsRow wr.heap.size 3 1 hi1 q (ils (hiL k N xs) q)) := h2; have V1 : Hid (W1.ownsRow B 3 1 (.slice lao N lcap) N (ils xs N)) := own_below O0.out h4; have B1 : Hid (Below w.heap.size w W1) := bstep B0.out h4; obtain ⟨la1, lc1, hlo, hlc1, _⟩ := il_of_own h1; obtain ⟨ha1, hc1, hhi, hhc1, _⟩ := il_of_own h2; subst hlo hhi; have i9 := iLb_good (il_of_own L1.out) (il_of_own R1.out) GG.out; clear h1 h2 h4)
              | (go_at_call 9; refine i9.mono ?_; rintro e W2 ⟨x, rfl, h1, h4⟩; rw [hpq] at h1; have X2 : Hid (W2.ownsRow W1.heap.size 3 1 x N (ils (bck k p q (loL k N xs) (hiL k N xs)) N)) := h1; have L2 : Hid (W2.ownsRow wr.heap.size 3 1 (.slice la1 p lc1) p (ils (loL k N xs) p)) := own_below L1.out h4; have R2 : Hid (W2.ownsRow wr.heap.size 3 1 (.slice ha1 q hc1) q (ils (hiL k N xs) q)) := own_below R1.out h4; have V2 : Hid (W2.ownsRow B 3 1 (.slice lao N lcap) N (ils xs N)) := own_below V1.out h4; have B2 : Hid (Below w.heap.size w W2) := bstep B1.out h4; have i10 := iLift_good hK HS.out hL8 HJ.out V2.out; clear h1 h4)
              | (go_at_call 10; refine i10.mono ?_; rintro e W3 ⟨y, rfl, h1, h4⟩; have Y3 : Hid (W3.ownsRow W2.heap.size 3 1 y N (ils (stL k N xs J) N)) := h1; have X3 : Hid (W3.ownsRow W1.heap.size 3 1 x N (ils (bck k p q (loL k N xs) (hiL k N xs)) N)) := own_below X2.out h4; have L3 : Hid (W3.ownsRow wr.heap.size 3 1 (.slice la1 p lc1) p (ils (loL k N xs) p)) := own_below L2.out h4; have R3 : Hid (W3.ownsRow wr.heap.size 3 1 (.slice ha1 q hc1) q (ils (hiL k N xs) q)) := own_below R2.out h4; have V3 : Hid (W3.ownsRow B 3 1 (.slice lao N lcap) N (ils xs N)) := own_below V2.out h4; have B3 : Hid (Below w.heap.size w W3) := bstep B2.out h4; obtain ⟨ya, yc, hy, hyc, _⟩ := il_of_own h1; subst hy; have i11 := sLb_good (il_of_own L3.out) (il_of_own R3.out) GG.out; clear h1 h4)
              | (go_at_call 11; refine i11.mono ?_; rintro e W4 ⟨_, rfl, _, h4⟩; have Y4 : Hid (W4.ownsRow W2.heap.size 3 1 (.slice ya N yc) N (ils (stL k N xs J) N)) := own_below Y3.out h4; have X4 : Hid (W4.ownsRow W1.heap.size 3 1 x N (ils (bck k p q (loL k N xs) (hiL k N xs)) N)) := own_below X3.out h4; have V4 : Hid (W4.ownsRow B 3 1 (.slice lao N lcap) N (ils xs N)) := own_below V3.out h4; have B4 : Hid (Below w.heap.size w W4) := bstep B3.out h4; have i12 := same_yes (il_of_own X4.out) (il_of_own V4.out) (by omega) HBO.out; clear h4)
              | (go_at_call 12; (fail_if_success have := M12); refine i12.mono ?_; rintro e W5 ⟨rfl, h4⟩; have M12 : Hid True := trivial; have Y5 : Hid (W5.ownsRow W2.heap.size 3 1 (.slice ya N yc) N (ils (stL k N xs J) N)) := own_below Y4.out h4; have V5 : Hid (W5.ownsRow B 3 1 (.slice lao N lcap) N (ils xs N)) := own_below V4.out h4; have B5 : Hid (Below w.heap.size w W5) := bstep B4.out h4; have i13 := iUnlift_bad (L := (L : Int)) (il_of_own Y5.out) (by omega) HU.out (fun _ => 0); clear h4)
              | (go_at_call 13; refine i13.mono ?_; rintro e W6 ⟨z, rfl, h1, h4⟩; have Y6 : Hid (W6.ownsRow W2.heap.size 3 1 (.slice ya N yc) N (ils (stL k N xs J) N)) := own_below Y5.out h4; have V6 : Hid (W6.ownsRow B 3 1 (.slice lao N lcap) N (ils xs N)) := own_below V5.out h4; have B6 : Hid (Below w.heap.size w W6) := bstep B5.out h4; have i14 := sUnlift_bad (lev := (L : Int)) (il_of_own Y6.out) (by omega) HU.out (fun _ => 0); clear h1 h4)
              | (go_at_call 14; refine i14.mono ?_; rintro e W7 ⟨_, rfl, _, h4⟩; have V8 : Hid (W7.ownsRow B 3 1 (.slice lao N lcap) N (ils xs N)) := own_below V6.out h4; have B8 : Hid (Below w.heap.size w W7) := bstep B6.out h4; clear h4))
            go_roundw
            case rel => exact ⟨k + 1, by go_num, by omega, by omega, V8.out, B8.out⟩
            case measure => simp [intOf]; omega
        · obtain rfl : k = 4 := by omega
          go_wp2
          go_ret
          exact ⟨rfl, B0.out⟩
    · have OL : Hid ((w1.alloc (.cells #[.int .i64 5, .int .i64 (-3), .int .i64 8] 3)).ownsRow w1.heap.size 3 1 (.slice (some ⟨w1.heap.size, 0, none⟩) 3 3) 3 (ils lit3 3)) := World.ownsRow_lit (base := w1.heap.size) (e := 3) (size := 1) w1 #[.int .i64 5, .int .i64 (-3), .int .i64 8] 3 (Nat.le_refl _) (by unfold maxLen; omega) (by rfl)
      have BL : Hid (Below w.heap.size w (w1.alloc (.cells #[.int .i64 5, .int .i64 (-3), .int .i64 8] 3))) := bstep B1.out (below_one _ _)
      have HS : Hid (Sig 3 lit3) := lit3_sig
      by_cases hs : Sig N xs
      · rw [decide_eq_true hs] at i7
        by_cases hl0 : lev < 0
        · clear hg
          go_wp2_with (first | (go_at_call 7; (with_reducible refine i7.mono ?_); rintro e w' ⟨rfl, hw⟩; obtain rfl := hw.symm))
          generalize w1.alloc (.cells #[.int .i64 5, .int .i64 (-3), .int .i64 8] 3) = W0 at OL BL ⊢
          generalize Value.slice (some ⟨w1.heap.size, 0, none⟩) 3 3 = vv at OL ⊢
          clear i7 O1 B1 hs hl0
          generalize w1.heap.size = B at OL
          generalize lit3 = xs at OL HS
          obtain ⟨N, OL, HS⟩ : ∃ N : Nat, Hid (W0.ownsRow B 3 1 vv N (ils xs N)) ∧ Hid (Sig N xs) := ⟨3, OL, HS⟩
          obtain ⟨lao, lcap, hvv, hlcap, _⟩ := il_of_own OL.out
          subst hvv
          obtain ⟨L, hL2⟩ : ∃ L : Nat, (2 : Int) = (L : Int) := ⟨2, rfl⟩
          have hL8 : L ≤ 8 := by omega
          rw [hL2]
          clear hL2
          obtain ⟨J, hJ⟩ := Stp.exists N L
          have HJ : Hid (Stp N L J) := hJ
          have hN5 : N ≤ 512 := HS.out.1
          clear hJ
          go_loopw [6] (fun i wr => ∃ k : Int, i = .int .i64 k ∧ 1 ≤ k ∧ k ≤ 4 ∧ Hid (wr.ownsRow B 3 1 (.slice lao N lcap) N (ils xs N) ∧ Below w.heap.size w wr)) (fun i _ => (4 - intOf i).toNat)
          case atStart => exact ⟨1, rfl, by omega, by omega, OL.out, BL.out⟩
          case round =>
            obtain ⟨k, rfl, hk1, hk2, hrel⟩ := hrel
            have O0 : Hid (wr.ownsRow B 3 1 (.slice lao N lcap) N (ils xs N)) := hrel.out.1
            have B0 : Hid (Below w.heap.size w wr) := hrel.out.2
            clear hrel
            by_cases hk : k ≤ 3
            · have hK : Knd k := by unfold Knd; omega
              have i8 := iLift1_good (il_of_own O0.out) hK HS.out
              have hG := lo_gb hK HS.out
              have HBO0 : ∀ j, j < N → bck k ((N + 1) / 2) (N / 2) (loL k N xs) (hiL k N xs) j = xs j := fun j hj => back_once k N xs hj
              obtain ⟨p, hp⟩ : ∃ p, (N + 1) / 2 = p := ⟨_, rfl⟩
              obtain ⟨q, hq⟩ : ∃ q, N / 2 = q := ⟨_, rfl⟩
              rw [hp, hq] at i8 hG HBO0
              have hpq : p + q = N := by omega
              have hpi : (p : Int) + (q : Int) = (N : Int) := by omega
              have GG : Hid (Gb k p q (loL k N xs) (hiL k N xs)) := hG
              have HBO : Hid (∀ j, j < N → bck k p q (loL k N xs) (hiL k N xs) j = xs j) := HBO0
              clear hp hq hG HBO0
              by_cases hU : Wth 8000000000 N (stL k N xs J)
              · have HU : Hid (Wth 8000000000 N (stL k N xs J)) := hU
                clear hU
                go_wp2_with (first
                  | (go_at_call 8; refine i8.mono ?_; rintro e W1 ⟨lo, hi1, rfl, h1, h2, _, h4⟩; have L1 : Hid (W1.ownsRow wr.heap.size 3 1 lo p (ils (loL k N xs) p)) := h1; have R1 : Hid (W1.ownsRow wr.heap.size 3 1 hi1 q (ils (hiL k N xs) q)) := h2; have V1 : Hid (W1.ownsRow B 3 1 (.slice lao N lcap) N (ils xs N)) := own_below O0.out h4; have B1 : Hid (Below w.heap.size w W1) := bstep B0.out h4; obtain ⟨la1, lc1, hlo, hlc1, _⟩ := il_of_own h1; obtain ⟨ha1, hc1, hhi, hhc1, _⟩ := il_of_own h2; subst hlo hhi; have i9 := iLb_good (il_of_own L1.out) (il_of_own R1.out) GG.out; clear h1 h2 h4)
                  | (go_at_call 9; refine i9.mono ?_; rintro e W2 ⟨x, rfl, h1, h4⟩; rw [hpq] at h1; have X2 : Hid (W2.ownsRow W1.heap.size 3 1 x N (ils (bck k p q (loL k N xs) (hiL k N xs)) N)) := h1; have L2 : Hid (W2.ownsRow wr.heap.size 3 1 (.slice la1 p lc1) p (ils (loL k N xs) p)) := own_below L1.out h4; have R2 : Hid (W2.ownsRow wr.heap.size 3 1 (.slice ha1 q hc1) q (ils (hiL k N xs) q)) := own_below R1.out h4; have V2 : Hid (W2.ownsRow B 3 1 (.slice lao N lcap) N (ils xs N)) := own_below V1.out h4; have B2 : Hid (Below w.heap.size w W2) := bstep B1.out h4; have i10 := iLift_good hK HS.out hL8 HJ.out V2.out; clear h1 h4)
                  | (go_at_call 10; refine i10.mono ?_; rintro e W3 ⟨y, rfl, h1, h4⟩; have Y3 : Hid (W3.ownsRow W2.heap.size 3 1 y N (ils (stL k N xs J) N)) := h1; have X3 : Hid (W3.ownsRow W1.heap.size 3 1 x N (ils (bck k p q (loL k N xs) (hiL k N xs)) N)) := own_below X2.out h4; have L3 : Hid (W3.ownsRow wr.heap.size 3 1 (.slice la1 p lc1) p (ils (loL k N xs) p)) := own_below L2.out h4; have R3 : Hid (W3.ownsRow wr.heap.size 3 1 (.slice ha1 q hc1) q (ils (hiL k N xs) q)) := own_below R2.out h4; have V3 : Hid (W3.ownsRow B 3 1 (.slice lao N lcap) N (ils xs N)) := own_below V2.out h4; have B3 : Hid (Below w.heap.size w W3) := bstep B2.out h4; obtain ⟨ya, yc, hy, hyc, _⟩ := il_of_own h1; subst hy; have i11 := sLb_good (il_of_own L3.out) (il_of_own R3.out) GG.out; clear h1 h4)
                  | (go_at_call 11; refine i11.mono ?_; rintro e W4 ⟨_, rfl, _, h4⟩; have Y4 : Hid (W4.ownsRow W2.heap.size 3 1 (.slice ya N yc) N (ils (stL k N xs J) N)) := own_below Y3.out h4; have X4 : Hid (W4.ownsRow W1.heap.size 3 1 x N (ils (bck k p q (loL k N xs) (hiL k N xs)) N)) := own_below X3.out h4; have V4 : Hid (W4.ownsRow B 3 1 (.slice lao N lcap) N (ils xs N)) := own_below V3.out h4; have B4 : Hid (Below w.heap.size w W4) := bstep B3.out h4; have i12 := same_yes (il_of_own X4.out) (il_of_own V4.out) (by omega) HBO.out; clear h4)
                  | (go_at_call 12; (fail_if_success have := M12); refine i12.mono ?_; rintro e W5 ⟨rfl, h4⟩; have M12 : Hid True := trivial; have Y5 : Hid (W5.ownsRow W2.heap.size 3 1 (.slice ya N yc) N (ils (stL k N xs J) N)) := own_below Y4.out h4; have V5 : Hid (W5.ownsRow B 3 1 (.slice lao N lcap) N (ils xs N)) := own_below V4.out h4; have B5 : Hid (Below w.heap.size w W5) := bstep B4.out h4; have i13 := iUnlift_back ⟨hK, HS.out.1, HU.out, hL8⟩ HJ.out Y5.out; clear h4)
                  | (go_at_call 13; refine i13.mono ?_; rintro e W6 ⟨z, rfl, h1, h4⟩; have Z6 : Hid (W6.ownsRow W5.heap.size 3 1 z N (ils xs N)) := h1; have Y6 : Hid (W6.ownsRow W2.heap.size 3 1 (.slice ya N yc) N (ils (stL k N xs J) N)) := own_below Y5.out h4; have V6 : Hid (W6.ownsRow B 3 1 (.slice lao N lcap) N (ils xs N)) := own_below V5.out h4; have B6 : Hid (Below w.heap.size w W6) := bstep B5.out h4; have i14 := sUnlift_ok ⟨hK, HS.out.1, HU.out, hL8⟩ HJ.out Y6.out; clear h1 h4)
                  | (go_at_call 14; refine i14.mono ?_; rintro e W7 ⟨_, rfl, _, h4⟩; have Z7 : Hid (W7.ownsRow W5.heap.size 3 1 z N (ils xs N)) := own_below Z6.out h4; have V7 : Hid (W7.ownsRow B 3 1 (.slice lao N lcap) N (ils xs N)) := own_below V6.out h4; have B7 : Hid (Below w.heap.size w W7) := bstep B6.out h4; have i15 := same_yes (il_of_own Z7.out) (il_of_own V7.out) (by omega) (fun _ _ => rfl); clear h4)
                  | (go_at_call 12; have Z0 := M12; refine i15.mono ?_; rintro e W8 ⟨rfl, h4⟩; have V8 : Hid (W8.ownsRow B 3 1 (.slice lao N lcap) N (ils xs N)) := own_below V7.out h4; have B8 : Hid (Below w.heap.size w W8) := bstep B7.out h4; clear h4))
                go_roundw
                case rel => exact ⟨k + 1, by go_num, by omega, by omega, V8.out, B8.out⟩
                case measure => simp [intOf]; omega
              · have HU : Hid (¬ (Knd k ∧ N ≤ 512 ∧ Wth 8000000000 N (stL k N xs J) ∧ 0 ≤ (L : Int) ∧ (L : Int) ≤ 8)) := fun h => hU h.2.2.1
                clear hU
                go_wp2_with (first
                  | (go_at_call 8; refine i8.mono ?_; rintro e W1 ⟨lo, hi1, rfl, h1, h2, _, h4⟩; have L1 : Hid (W1.ownsRow wr.heap.size 3 1 lo p (ils (loL k N xs) p)) := h1; have R1 : Hid (W1.ownsRow wr.heap.size 3 1 hi1 q (ils (hiL k N xs) q)) := h2; have V1 : Hid (W1.ownsRow B 3 1 (.slice lao N lcap) N (ils xs N)) := own_below O0.out h4; have B1 : Hid (Below w.heap.size w W1) := bstep B0.out h4; obtain ⟨la1, lc1, hlo, hlc1, _⟩ := il_of_own h1; obtain ⟨ha1, hc1, hhi, hhc1, _⟩ := il_of_own h2; subst hlo hhi; have i9 := iLb_good (il_of_own L1.out) (il_of_own R1.out) GG.out; clear h1 h2 h4)
                  | (go_at_call 9; refine i9.mono ?_; rintro e W2 ⟨x, rfl, h1, h4⟩; rw [hpq] at h1; have X2 : Hid (W2.ownsRow W1.heap.size 3 1 x N (ils (bck k p q (loL k N xs) (hiL k N xs)) N)) := h1; have L2 : Hid (W2.ownsRow wr.heap.size 3 1 (.slice la1 p lc1) p (ils (loL k N xs) p)) := own_below L1.out h4; have R2 : Hid (W2.ownsRow wr.heap.size 3 1 (.slice ha1 q hc1) q (ils (hiL k N xs) q)) := own_below R1.out h4; have V2 : Hid (W2.ownsRow B 3 1 (.slice lao N lcap) N (ils xs N)) := own_below V1.out h4; have B2 : Hid (Below w.heap.size w W2) := bstep B1.out h4; have i10 := iLift_good hK HS.out hL8 HJ.out V2.out; clear h1 h4)
                  | (go_at_call 10; refine i10.mono ?_; rintro e W3 ⟨y, rfl, h1, h4⟩; have Y3 : Hid (W3.ownsRow W2.heap.size 3 1 y N (ils (stL k N xs J) N)) := h1; have X3 : Hid (W3.ownsRow W1.heap.size 3 1 x N (ils (bck k p q (loL k N xs) (hiL k N xs)) N)) := own_below X2.out h4; have L3 : Hid (W3.ownsRow wr.heap.size 3 1 (.slice la1 p lc1) p (ils (loL k N xs) p)) := own_below L2.out h4; have R3 : Hid (W3.ownsRow wr.heap.size 3 1 (.slice ha1 q hc1) q (ils (hiL k N xs) q)) := own_below R2.out h4; have V3 : Hid (W3.ownsRow B 3 1 (.slice lao N lcap) N (ils xs N)) := own_below V2.out h4; have B3 : Hid (Below w.heap.size w W3) := bstep B2.out h4; obtain ⟨ya, yc, hy, hyc, _⟩ := il_of_own h1; subst hy; have i11 := sLb_good (il_of_own L3.out) (il_of_own R3.out) GG.out; clear h1 h4)
                  | (go_at_call 11; refine i11.mono ?_; rintro e W4 ⟨_, rfl, _, h4⟩; have Y4 : Hid (W4.ownsRow W2.heap.size 3 1 (.slice ya N yc) N (ils (stL k N xs J) N)) := own_below Y3.out h4; have X4 : Hid (W4.ownsRow W1.heap.size 3 1 x N (ils (bck k p q (loL k N xs) (hiL k N xs)) N)) := own_below X3.out h4; have V4 : Hid (W4.ownsRow B 3 1 (.slice lao N lcap) N (ils xs N)) := own_below V3.out h4; have B4 : Hid (Below w.heap.size w W4) := bstep B3.out h4; have i12 := same_yes (il_of_own X4.out) (il_of_own V4.out) (by omega) HBO.out; clear h4)
                  | (go_at_call 12; (fail_if_success have := M12); refine i12.mono ?_; rintro e W5 ⟨rfl, h4⟩; have M12 : Hid True := trivial; have Y5 : Hid (W5.ownsRow W2.heap.size 3 1 (.slice ya N yc) N (ils (stL k N xs J) N)) := own_below Y4.out h4; have V5 : Hid (W5.ownsRow B 3 1 (.slice lao N lcap) N (ils xs N)) := own_below V4.out h4; have B5 : Hid (Below w.heap.size w W5) := bstep B4.out h4; have i13 := iUnlift_bad (L := (L : Int)) (il_of_own Y5.out) (by omega) HU.out (fun _ => 0); clear h4)
                  | (go_at_call 13; refine i13.mono ?_; rintro e W6 ⟨z, rfl, h1, h4⟩; have Y6 : Hid (W6.ownsRow W2.heap.size 3 1 (.slice ya N yc) N (ils (stL k N xs J) N)) := own_below Y5.out h4; have V6 : Hid (W6.ownsRow B 3 1 (.slice lao N lcap) N (ils xs N)) := own_below V5.out h4; have B6 : Hid (Below w.heap.size w W6) := bstep B5.out h4; have i14 := sUnlift_bad (lev := (L : Int)) (il_of_own Y6.out) (by omega) HU.out (fun _ => 0); clear h1 h4)
                  | (go_at_call 14; refine i14.mono ?_; rintro e W7 ⟨_, rfl, _, h4⟩; have V8 : Hid (W7.ownsRow B 3 1 (.slice lao N lcap) N (ils xs N)) := own_below V6.out h4; have B8 : Hid (Below w.heap.size w W7) := bstep B6.out h4; clear h4))
                go_roundw
                case rel => exact ⟨k + 1, by go_num, by omega, by omega, V8.out, B8.out⟩
                case measure => simp [intOf]; omega
            · obtain rfl : k = 4 := by omega
              go_wp2
              go_ret
              exact ⟨rfl, B0.out⟩
        · have hl8 : 8 < lev := by
            refine Int.not_le.1 (fun h8 => hg ⟨hs, by omega, h8⟩)
          clear hg
          go_wp2_with (first | (go_at_call 7; (with_reducible refine i7.mono ?_); rintro e w' ⟨rfl, hw⟩; obtain rfl := hw.symm))
          generalize w1.alloc (.cells #[.int .i64 5, .int .i64 (-3), .int .i64 8] 3) = W0 at OL BL ⊢
          generalize Value.slice (some ⟨w1.heap.size, 0, none⟩) 3 3 = vv at OL ⊢
          clear i7 O1 B1 hs hl0 hl8
          generalize w1.heap.size = B at OL
          generalize lit3 = xs at OL HS
          obtain ⟨N, OL, HS⟩ : ∃ N : Nat, Hid (W0.ownsRow B 3 1 vv N (ils xs N)) ∧ Hid (Sig N xs) := ⟨3, OL, HS⟩
          obtain ⟨lao, lcap, hvv, hlcap, _⟩ := il_of_own OL.out
          subst hvv
          obtain ⟨L, hL2⟩ : ∃ L : Nat, (2 : Int) = (L : Int) := ⟨2, rfl⟩
          have hL8 : L ≤ 8 := by omega
          rw [hL2]
          clear hL2
          obtain ⟨J, hJ⟩ := Stp.exists N L
          have HJ : Hid (Stp N L J) := hJ
          have hN5 : N ≤ 512 := HS.out.1
          clear hJ
          go_loopw [6] (fun i wr => ∃ k : Int, i = .int .i64 k ∧ 1 ≤ k ∧ k ≤ 4 ∧ Hid (wr.ownsRow B 3 1 (.slice lao N lcap) N (ils xs N) ∧ Below w.heap.size w wr)) (fun i _ => (4 - intOf i).toNat)
          case atStart => exact ⟨1, rfl, by omega, by omega, OL.out, BL.out⟩
          case round =>
            obtain ⟨k, rfl, hk1, hk2, hrel⟩ := hrel
            have O0 : Hid (wr.ownsRow B 3 1 (.slice lao N lcap) N (ils xs N)) := hrel.out.1
            have B0 : Hid (Below w.heap.size w wr) := hrel.out.2
            clear hrel
            by_cases hk : k ≤ 3
            · have hK : Knd k := by unfold Knd; omega
              have i8 := iLift1_good (il_of_own O0.out) hK HS.out
              have hG := lo_gb hK HS.out
              have HBO0 : ∀ j, j < N → bck k ((N + 1) / 2) (N / 2) (loL k N xs) (hiL k N xs) j = xs j := fun j hj => back_once k N xs hj
              obtain ⟨p, hp⟩ : ∃ p, (N + 1) / 2 = p := ⟨_, rfl⟩
              obtain ⟨q, hq⟩ : ∃ q, N / 2 = q := ⟨_, rfl⟩
              rw [hp, hq] at i8 hG HBO0
              have hpq : p + q = N := by omega
              have hpi : (p : Int) + (q : Int) = (N : Int) := by omega
              have GG : Hid (Gb k p q (loL k N xs) (hiL k N xs)) := hG
              have HBO : Hid (∀ j, j < N → bck k p q (loL k N xs) (hiL k N xs) j = xs j) := HBO0
              clear hp hq hG HBO0
              by_cases hU : Wth 8000000000 N (stL k N xs J)
              · have HU : Hid (Wth 8000000000 N (stL k N xs J)) := hU
                clear hU
                go_wp2_with (first
                  | (go_at_call 8; refine i8.mono ?_; rintro e W1 ⟨lo, hi1, rfl, h1, h2, _, h4⟩; have L1 : Hid (W1.ownsRow wr.heap.size 3 1 lo p (ils (loL k N xs) p)) := h1; have R1 : Hid (W1.ownsRow wr.heap.size 3 1 hi1 q (ils (hiL k N xs) q)) := h2; have V1 : Hid (W1.ownsRow B 3 1 (.slice lao N lcap) N (ils xs N)) := own_below O0.out h4; have B1 : Hid (Below w.heap.size w W1) := bstep B0.out h4; obtain ⟨la1, lc1, hlo, hlc1, _⟩ := il_of_own h1; obtain ⟨ha1, hc1, hhi, hhc1, _⟩ := il_of_own h2; subst hlo hhi; have i9 := iLb_good (il_of_own L1.out) (il_of_own R1.out) GG.out; clear h1 h2 h4)
                  | (go_at_call 9; refine i9.mono ?_; rintro e W2 ⟨x, rfl, h1, h4⟩; rw [hpq] at h1; have X2 : Hid (W2.ownsRow W1.heap.size 3 1 x N (ils (bck k p q (loL k N xs) (hiL k N xs)) N)) := h1; have L2 : Hid (W2.ownsRow wr.heap.size 3 1 (.slice la1 p lc1) p (ils (loL k N xs) p)) := own_below L1.out h4; have R2 : Hid (W2.ownsRow wr.heap.size 3 1 (.slice ha1 q hc1) q (ils (hiL k N xs) q)) := own_below R1.out h4; have V2 : Hid (W2.ownsRow B 3 1 (.slice lao N lcap) N (ils xs N)) := own_below V1.out h4; have B2 : Hid (Below w.heap.size w W2) := bstep B1.out h4; have i10 := iLift_good hK HS.out hL8 HJ.out V2.out; clear h1 h4)
                  | (go_at_call 10; refine i10.mono ?_; rintro e W3 ⟨y, rfl, h1, h4⟩; have Y3 : Hid (W3.ownsRow W2.heap.size 3 1 y N (ils (stL k N xs J) N)) := h1; have X3 : Hid (W3.ownsRow W1.heap.size 3 1 x N (ils (bck k p q (loL k N xs) (hiL k N xs)) N)) := own_below X2.out h4; have L3 : Hid (W3.ownsRow wr.heap.size 3 1 (.slice la1 p lc1) p (ils (loL k N xs) p)) := own_below L2.out h4; have R3 : Hid (W3.ownsRow wr.heap.size 3 1 (.slice ha1 q hc1) q (ils (hiL k N xs) q)) := own_below R2.out h4; have V3 : Hid (W3.ownsRow B 3 1 (.slice lao N lcap) N (ils xs N)) := own_below V2.out h4; have B3 : Hid (Below w.heap.size w W3) := bstep B2.out h4; obtain ⟨ya, yc, hy, hyc, _⟩ := il_of_own h1; subst hy; have i11 := sLb_good (il_of_own L3.out) (il_of_own R3.out) GG.out; clear h1 h4)
                  | (go_at_call 11; refine i11.mono ?_; rintro e W4 ⟨_, rfl, _, h4⟩; have Y4 : Hid (W4.ownsRow W2.heap.size 3 1 (.slice ya N yc) N (ils (stL k N xs J) N)) := own_below Y3.out h4; have X4 : Hid (W4.ownsRow W1.heap.size 3 1 x N (ils (bck k p q (loL k N xs) (hiL k N xs)) N)) := own_below X3.out h4; have V4 : Hid (W4.ownsRow B 3 1 (.slice lao N lcap) N (ils xs N)) := own_below V3.out h4; have B4 : Hid (Below w.heap.size w W4) := bstep B3.out h4; have i12 := same_yes (il_of_own X4.out) (il_of_own V4.out) (by omega) HBO.out; clear h4)
                  | (go_at_call 12; (fail_if_success have := M12); refine i12.mono ?_; rintro e W5 ⟨rfl, h4⟩; have M12 : Hid True := trivial; have Y5 : Hid (W5.ownsRow W2.heap.size 3 1 (.slice ya N yc) N (ils (stL k N xs J) N)) := own_below Y4.out h4; have V5 : Hid (W5.ownsRow B 3 1 (.slice lao N lcap) N (ils xs N)) := own_below V4.out h4; have B5 : Hid (Below w.heap.size w W5) := bstep B4.out h4; have i13 := iUnlift_back ⟨hK, HS.out.1, HU.out, hL8⟩ HJ.out Y5.out; clear h4)
                  | (go_at_call 13; refine i13.mono ?_; rintro e W6 ⟨z, rfl, h1, h4⟩; have Z6 : Hid (W6.ownsRow W5.heap.size 3 1 z N (ils xs N)) := h1; have Y6 : Hid (W6.ownsRow W2.heap.size 3 1 (.slice ya N yc) N (ils (stL k N xs J) N)) := own_below Y5.out h4; have V6 : Hid (W6.ownsRow B 3 1 (.slice lao N lcap) N (ils xs N)) := own_below V5.out h4; have B6 : Hid (Below w.heap.size w W6) := bstep B5.out h4; have i14 := sUnlift_ok ⟨hK, HS.out.1, HU.out, hL8⟩ HJ.out Y6.out; clear h1 h4)
                  | (go_at_call 14; refine i14.mono ?_; rintro e W7 ⟨_, rfl, _, h4⟩; have Z7 : Hid (W7.ownsRow W5.heap.size 3 1 z N (ils xs N)) := own_below Z6.out h4; have V7 : Hid (W7.ownsRow B 3 1 (.slice lao N lcap) N (ils xs N)) := own_below V6.out h4; have B7 : Hid (Below w.heap.size w W7) := bstep B6.out h4; have i15 := same_yes (il_of_own Z7.out) (il_of_own V7.out) (by omega) (fun _ _ => rfl); clear h4)
                  | (go_at_call 12; have Z0 := M12; refine i15.mono ?_; rintro e W8 ⟨rfl, h4⟩; have V8 : Hid (W8.ownsRow B 3 1 (.slice lao N lcap) N (ils xs N)) := own_below V7.out h4; have B8 : Hid (Below w.heap.size w W8) := bstep B7.out h4; clear h4))
                go_roundw
                case rel => exact ⟨k + 1, by go_num, by omega, by omega, V8.out, B8.out⟩
                case measure => simp [intOf]; omega
              · have HU : Hid (¬ (Knd k ∧ N ≤ 512 ∧ Wth 8000000000 N (stL k N xs J) ∧ 0 ≤ (L : Int) ∧ (L : Int) ≤ 8)) := fun h => hU h.2.2.1
                clear hU
                go_wp2_with (first
                  | (go_at_call 8; refine i8.mono ?_; rintro e W1 ⟨lo, hi1, rfl, h1, h2, _, h4⟩; have L1 : Hid (W1.ownsRow wr.heap.size 3 1 lo p (ils (loL k N xs) p)) := h1; have R1 : Hid (W1.ownsRow wr.heap.size 3 1 hi1 q (ils (hiL k N xs) q)) := h2; have V1 : Hid (W1.ownsRow B 3 1 (.slice lao N lcap) N (ils xs N)) := own_below O0.out h4; have B1 : Hid (Below w.heap.size w W1) := bstep B0.out h4; obtain ⟨la1, lc1, hlo, hlc1, _⟩ := il_of_own h1; obtain ⟨ha1, hc1, hhi, hhc1, _⟩ := il_of_own h2; subst hlo hhi; have i9 := iLb_good (il_of_own L1.out) (il_of_own R1.out) GG.out; clear h1 h2 h4)
                  | (go_at_call 9; refine i9.mono ?_; rintro e W2 ⟨x, rfl, h1, h4⟩; rw [hpq] at h1; have X2 : Hid (W2.ownsRow W1.heap.size 3 1 x N (ils (bck k p q (loL k N xs) (hiL k N xs)) N)) := h1; have L2 : Hid (W2.ownsRow wr.heap.size 3 1 (.slice la1 p lc1) p (ils (loL k N xs) p)) := own_below L1.out h4; have R2 : Hid (W2.ownsRow wr.heap.size 3 1 (.slice ha1 q hc1) q (ils (hiL k N xs) q)) := own_below R1.out h4; have V2 : Hid (W2.ownsRow B 3 1 (.slice lao N lcap) N (ils xs N)) := own_below V1.out h4; have B2 : Hid (Below w.heap.size w W2) := bstep B1.out h4; have i10 := iLift_good hK HS.out hL8 HJ.out V2.out; clear h1 h4)
                  | (go_at_call 10; refine i10.mono ?_; rintro e W3 ⟨y, rfl, h1, h4⟩; have Y3 : Hid (W3.ownsRow W2.heap.size 3 1 y N (ils (stL k N xs J) N)) := h1; have X3 : Hid (W3.ownsRow W1.heap.size 3 1 x N (ils (bck k p q (loL k N xs) (hiL k N xs)) N)) := own_below X2.out h4; have L3 : Hid (W3.ownsRow wr.heap.size 3 1 (.slice la1 p lc1) p (ils (loL k N xs) p)) := own_below L2.out h4; have R3 : Hid (W3.ownsRow wr.heap.size 3 1 (.slice ha1 q hc1) q (ils (hiL k N xs) q)) := own_below R2.out h4; have V3 : Hid (W3.ownsRow B 3 1 (.slice lao N lcap) N (ils xs N)) := own_below V2.out h4; have B3 : Hid (Below w.heap.size w W3) := bstep B2.out h4; obtain ⟨ya, yc, hy, hyc, _⟩ := il_of_own h1; subst hy; have i11 := sLb_good (il_of_own L3.out) (il_of_own R3.out) GG.out; clear h1 h4)
                  | (go_at_call 11; refine i11.mono ?_; rintro e W4 ⟨_, rfl, _, h4⟩; have Y4 : Hid (W4.ownsRow W2.heap.size 3 1 (.slice ya N yc) N (ils (stL k N xs J) N)) := own_below Y3.out h4; have X4 : Hid (W4.ownsRow W1.heap.size 3 1 x N (ils (bck k p q (loL k N xs) (hiL k N xs)) N)) := own_below X3.out h4; have V4 : Hid (W4.ownsRow B 3 1 (.slice lao N lcap) N (ils xs N)) := own_below V3.out h4; have B4 : Hid (Below w.heap.size w W4) := bstep B3.out h4; have i12 := same_yes (il_of_own X4.out) (il_of_own V4.out) (by omega) HBO.out; clear h4)
                  | (go_at_call 12; (fail_if_success have := M12); refine i12.mono ?_; rintro e W5 ⟨rfl, h4⟩; have M12 : Hid True := trivial; have Y5 : Hid (W5.ownsRow W2.heap.size 3 1 (.slice ya N yc) N (ils (stL k N xs J) N)) := own_below Y4.out h4; have V5 : Hid (W5.ownsRow B 3 1 (.slice lao N lcap) N (ils xs N)) := own_below V4.out h4; have B5 : Hid (Below w.heap.size w W5) := bstep B4.out h4; have i13 := iUnlift_bad (L := (L : Int)) (il_of_own Y5.out) (by omega) HU.out (fun _ => 0); clear h4)
                  | (go_at_call 13; refine i13.mono ?_; rintro e W6 ⟨z, rfl, h1, h4⟩; have Y6 : Hid (W6.ownsRow W2.heap.size 3 1 (.slice ya N yc) N (ils (stL k N xs J) N)) := own_below Y5.out h4; have V6 : Hid (W6.ownsRow B 3 1 (.slice lao N lcap) N (ils xs N)) := own_below V5.out h4; have B6 : Hid (Below w.heap.size w W6) := bstep B5.out h4; have i14 := sUnlift_bad (lev := (L : Int)) (il_of_own Y6.out) (by omega) HU.out (fun _ => 0); clear h1 h4)
                  | (go_at_call 14; refine i14.mono ?_; rintro e W7 ⟨_, rfl, _, h4⟩; have V8 : Hid (W7.ownsRow B 3 1 (.slice lao N lcap) N (ils xs N)) := own_below V6.out h4; have B8 : Hid (Below w.heap.size w W7) := bstep B6.out h4; clear h4))
                go_roundw
                case rel => exact ⟨k + 1, by go_num, by omega, by omega, V8.out, B8.out⟩
                case measure => simp [intOf]; omega
            · obtain rfl : k = 4 := by omega
              go_wp2
              go_ret
              exact ⟨rfl, B0.out⟩
      · rw [decide_eq_false hs] at i7
        clear hg
        go_wp2_with (first | (go_at_call 7; (with_reducible refine i7.mono ?_); rintro e w' ⟨rfl, hw⟩; obtain rfl := hw.symm))
        generalize w1.alloc (.cells #[.int .i64 5, .int .i64 (-3), .int .i64 8] 3) = W0 at OL BL ⊢
        generalize Value.slice (some ⟨w1.heap.size, 0, none⟩) 3 3 = vv at OL ⊢
        clear i7 O1 B1 hs
        generalize w1.heap.size = B at OL
        generalize lit3 = xs at OL HS
        obtain ⟨N, OL, HS⟩ : ∃ N : Nat, Hid (W0.ownsRow B 3 1 vv N (ils xs N)) ∧ Hid (Sig N xs) := ⟨3, OL, HS⟩
        obtain ⟨lao, lcap, hvv, hlcap, _⟩ := il_of_own OL.out
        subst hvv
        obtain ⟨L, hL2⟩ : ∃ L : Nat, (2 : Int) = (L : Int) := ⟨2, rfl⟩
        have hL8 : L ≤ 8 := by omega
        rw [hL2]
        clear hL2
        obtain ⟨J, hJ⟩ := Stp.exists N L
        have HJ : Hid (Stp N L J) := hJ
        have hN5 : N ≤ 512 := HS.out.1
        clear hJ
        go_loopw [6] (fun i wr => ∃ k : Int, i = .int .i64 k ∧ 1 ≤ k ∧ k ≤ 4 ∧ Hid (wr.ownsRow B 3 1 (.slice lao N lcap) N (ils xs N) ∧ Below w.heap.size w wr)) (fun i _ => (4 - intOf i).toNat)
        case atStart => exact ⟨1, rfl, by omega, by omega, OL.out, BL.out⟩
        case round =>
          obtain ⟨k, rfl, hk1, hk2, hrel⟩ := hrel
          have O0 : Hid (wr.ownsRow B 3 1 (.slice lao N lcap) N (ils xs N)) := hrel.out.1
          have B0 : Hid (Below w.heap.size w wr) := hrel.out.2
          clear hrel
          by_cases hk : k ≤ 3
          · have hK : Knd k := by unfold Knd; omega
            have i8 := iLift1_good (il_of_own O0.out) hK HS.out
            have hG := lo_gb hK HS.out
            have HBO0 : ∀ j, j < N → bck k ((N + 1) / 2) (N / 2) (loL k N xs) (hiL k N xs) j = xs j := fun j hj => back_once k N xs hj
            obtain ⟨p, hp⟩ : ∃ p, (N + 1) / 2 = p := ⟨_, rfl⟩
            obtain ⟨q, hq⟩ : ∃ q, N / 2 = q := ⟨_, rfl⟩
            rw [hp, hq] at i8 hG HBO0
            have hpq : p + q = N := by omega
            have hpi : (p : Int) + (q : Int) = (N : Int) := by omega
            have GG : Hid (Gb k p q (loL k N xs) (hiL k N xs)) := hG
            have HBO : Hid (∀ j, j < N → bck k p q (loL k N xs) (hiL k N xs) j = xs j) := HBO0
            clear hp hq hG HBO0
            by_cases hU : Wth 8000000000 N (stL k N xs J)
            · have HU : Hid (Wth 8000000000 N (stL k N xs J)) := hU
              clear hU
              go_wp2_with (first
                | (go_at_call 8; refine i8.mono ?_; rintro e W1 ⟨lo, hi1, rfl, h1, h2, _, h4⟩; have L1 : Hid (W1.ownsRow wr.heap.size 3 1 lo p (ils (loL k N xs) p)) := h1; have R1 : Hid (W1.ownsRow wr.heap.size 3 1 hi1 q (ils (hiL k N xs) q)) := h2; have V1 : Hid (W1.ownsRow B 3 1 (.slice lao N lcap) N (ils xs N)) := own_below O0.out h4; have B1 : Hid (Below w.heap.size w W1) := bstep B0.out h4; obtain ⟨la1, lc1, hlo, hlc1, _⟩ := il_of_own h1; obtain ⟨ha1, hc1, hhi, hhc1, _⟩ := il_of_own h2; subst hlo hhi; have i9 := iLb_good (il_of_own L1.out) (il_of_own R1.out) GG.out; clear h1 h2 h4)
                | (go_at_call 9; refine i9.mono ?_; rintro e W2 ⟨x, rfl, h1, h4⟩; rw [hpq] at h1; have X2 : Hid (W2.ownsRow W1.heap.size 3 1 x N (ils (bck k p q (loL k N xs) (hiL k N xs)) N)) := h1; have L2 : Hid (W2.ownsRow wr.heap.size 3 1 (.slice la1 p lc1) p (ils (loL k N xs) p)) := own_below L1.out h4; have R2 : Hid (W2.ownsRow wr.heap.size 3 1 (.slice ha1 q hc1) q (ils (hiL k N xs) q)) := own_below R1.out h4; have V2 : Hid (W2.ownsRow B 3 1 (.slice lao N lcap) N (ils xs N)) := own_below V1.out h4; have B2 : Hid (Below w.heap.size w W2) := bstep B1.out h4; have i10 := iLift_good hK HS.out hL8 HJ.out V2.out; clear h1 h4)
                | (go_at_call 10; refine i10.mono ?_; rintro e W3 ⟨y, rfl, h1, h4⟩; have Y3 : Hid (W3.ownsRow W2.heap.size 3 1 y N (ils (stL k N xs J) N)) := h1; have X3 : Hid (W3.ownsRow W1.heap.size 3 1 x N (ils (bck k p q (loL k N xs) (hiL k N xs)) N)) := own_below X2.out h4; have L3 : Hid (W3.ownsRow wr.heap.size 3 1 (.slice la1 p lc1) p (ils (loL k N xs) p)) := own_below L2.out h4; have R3 : Hid (W3.ownsRow wr.heap.size 3 1 (.slice ha1 q hc1) q (ils (hiL k N xs) q)) := own_below R2.out h4; have V3 : Hid (W3.ownsRow B 3 1 (.slice lao N lcap) N (ils xs N)) := own_below V2.out h4; have B3 : Hid (Below w.heap.size w W3) := bstep B2.out h4; obtain ⟨ya, yc, hy, hyc, _⟩ := il_of_own h1; subst hy; have i11 := sLb_good (il_of_own L3.out) (il_of_own R3.out) GG.out; clear h1 h4)
                | (go_at_call 11; refine i11.mono ?_; rintro e W4 ⟨_, rfl, _, h4⟩; have Y4 : Hid (W4.ownsRow W2.heap.size 3 1 (.slice ya N yc) N (ils (stL k N xs J) N)) := own_below Y3.out h4; have X4 : Hid (W4.ownsRow W1.heap.size 3 1 x N (ils (bck k p q (loL k N xs) (hiL k N xs)) N)) := own_below X3.out h4; have V4 : Hid (W4.ownsRow B 3 1 (.slice lao N lcap) N (ils xs N)) := own_below V3.out h4; have B4 : Hid (Below w.heap.size w W4) := bstep B3.out h4; have i12 := same_yes (il_of_own X4.out) (il_of_own V4.out) (by omega) HBO.out; clear h4)
                | (go_at_call 12; (fail_if_success have := M12); refine i12.mono ?_; rintro e W5 ⟨rfl, h4⟩; have M12 : Hid True := trivial; have Y5 : Hid (W5.ownsRow W2.heap.size 3 1 (.slice ya N yc) N (ils (stL k N xs J) N)) := own_below Y4.out h4; have V5 : Hid (W5.ownsRow B 3 1 (.slice lao N lcap) N (ils xs N)) := own_below V4.out h4; have B5 : Hid (Below w.heap.size w W5) := bstep B4.out h4; have i13 := iUnlift_back ⟨hK, HS.out.1, HU.out, hL8⟩ HJ.out Y5.out; clear h4)
                | (go_at_call 13; refine i13.mono ?_; rintro e W6 ⟨z, rfl, h1, h4⟩; have Z6 : Hid (W6.ownsRow W5.heap.size 3 1 z N (ils xs N)) := h1; have Y6 : Hid (W6.ownsRow W2.heap.size 3 1 (.slice ya N yc) N (ils (stL k N xs J) N)) := own_below Y5.out h4; have V6 : Hid (W6.ownsRow B 3 1 (.slice lao N lcap) N (ils xs N)) := own_below V5.out h4; have B6 : Hid (Below w.heap.size w W6) := bstep B5.out h4; have i14 := sUnlift_ok ⟨hK, HS.out.1, HU.out, hL8⟩ HJ.out Y6.out; clear h1 h4)
                | (go_at_call 14; refine i14.mono ?_; rintro e W7 ⟨_, rfl, _, h4⟩; have Z7 : Hid (W7.ownsRow W5.heap.size 3 1 z N (ils xs N)) := own_below Z6.out h4; have V7 : Hid (W7.ownsRow B 3 1 (.slice lao N lcap) N (ils xs N)) := own_below V6.out h4; have B7 : Hid (Below w.heap.size w W7) := bstep B6.out h4; have i15 := same_yes (il_of_own Z7.out) (il_of_own V7.out) (by omega) (fun _ _ => rfl); clear h4)
                | (go_at_call 12; have Z0 := M12; refine i15.mono ?_; rintro e W8 ⟨rfl, h4⟩; have V8 : Hid (W8.ownsRow B 3 1 (.slice lao N lcap) N (ils xs N)) := own_below V7.out h4; have B8 : Hid (Below w.heap.size w W8) := bstep B7.out h4; clear h4))
              go_roundw
              case rel => exact ⟨k + 1, by go_num, by omega, by omega, V8.out, B8.out⟩
              case measure => simp [intOf]; omega
            · have HU : Hid (¬ (Knd k ∧ N ≤ 512 ∧ Wth 8000000000 N (stL k N xs J) ∧ 0 ≤ (L : Int) ∧ (L : Int) ≤ 8)) := fun h => hU h.2.2.1
              clear hU
              go_wp2_with (first
                | (go_at_call 8; refine i8.mono ?_; rintro e W1 ⟨lo, hi1, rfl, h1, h2, _, h4⟩; have L1 : Hid (W1.ownsRow wr.heap.size 3 1 lo p (ils (loL k N xs) p)) := h1; have R1 : Hid (W1.ownsRow wr.heap.size 3 1 hi1 q (ils (hiL k N xs) q)) := h2; have V1 : Hid (W1.ownsRow B 3 1 (.slice lao N lcap) N (ils xs N)) := own_below O0.out h4; have B1 : Hid (Below w.heap.size w W1) := bstep B0.out h4; obtain ⟨la1, lc1, hlo, hlc1, _⟩ := il_of_own h1; obtain ⟨ha1, hc1, hhi, hhc1, _⟩ := il_of_own h2; subst hlo hhi; have i9 := iLb_good (il_of_own L1.out) (il_of_own R1.out) GG.out; clear h1 h2 h4)
                | (go_at_call 9; refine i9.mono ?_; rintro e W2 ⟨x, rfl, h1, h4⟩; rw [hpq] at h1; have X2 : Hid (W2.ownsRow W1.heap.size 3 1 x N (ils (bck k p q (loL k N xs) (hiL k N xs)) N)) := h1; have L2 : Hid (W2.ownsRow wr.heap.size 3 1 (.slice la1 p lc1) p (ils (loL k N xs) p)) := own_below L1.out h4; have R2 : Hid (W2.ownsRow wr.heap.size 3 1 (.slice ha1 q hc1) q (ils (hiL k N xs) q)) := own_below R1.out h4; have V2 : Hid (W2.ownsRow B 3 1 (.slice lao N lcap) N (ils xs N)) := own_below V1.out h4; have B2 : Hid (Below w.heap.size w W2) := bstep B1.out h4; have i10 := iLift_good hK HS.out hL8 HJ.out V2.out; clear h1 h4)
                | (go_at_call 10; refine i10.mono ?_; rintro e W3 ⟨y, rfl, h1, h4⟩; have Y3 : Hid (W3.ownsRow W2.heap.size 3 1 y N (ils (stL k N xs J) N)) := h1; have X3 : Hid (W3.ownsRow W1.heap.size 3 1 x N (ils (bck k p q (loL k N xs) (hiL k N xs)) N)) := own_below X2.out h4; have L3 : Hid (W3.ownsRow wr.heap.size 3 1 (.slice la1 p lc1) p (ils (loL k N xs) p)) := own_below L2.out h4; have R3 : Hid (W3.ownsRow wr.heap.size 3 1 (.slice ha1 q hc1) q (ils (hiL k N xs) q)) := own_below R2.out h4; have V3 : Hid (W3.ownsRow B 3 1 (.slice lao N lcap) N (ils xs N)) := own_below V2.out h4; have B3 : Hid (Below w.heap.size w W3) := bstep B2.out h4; obtain ⟨ya, yc, hy, hyc, _⟩ := il_of_own h1; subst hy; have i11 := sLb_good (il_of_own L3.out) (il_of_own R3.out) GG.out; clear h1 h4)
                | (go_at_call 11; refine i11.mono ?_; rintro e W4 ⟨_, rfl, _, h4⟩; have Y4 : Hid (W4.ownsRow W2.heap.size 3 1 (.slice ya N yc) N (ils (stL k N xs J) N)) := own_below Y3.out h4; have X4 : Hid (W4.ownsRow W1.heap.size 3 1 x N (ils (bck k p q (loL k N xs) (hiL k N xs)) N)) := own_below X3.out h4; have V4 : Hid (W4.ownsRow B 3 1 (.slice lao N lcap) N (ils xs N)) := own_below V3.out h4; have B4 : Hid (Below w.heap.size w W4) := bstep B3.out h4; have i12 := same_yes (il_of_own X4.out) (il_of_own V4.out) (by omega) HBO.out; clear h4)
                | (go_at_call 12; (fail_if_success have := M12); refine i12.mono ?_; rintro e W5 ⟨rfl, h4⟩; have M12 : Hid True := trivial; have Y5 : Hid (W5.ownsRow W2.heap.size 3 1 (.slice ya N yc) N (ils (stL k N xs J) N)) := own_below Y4.out h4; have V5 : Hid (W5.ownsRow B 3 1 (.slice lao N lcap) N (ils xs N)) := own_below V4.out h4; have B5 : Hid (Below w.heap.size w W5) := bstep B4.out h4; have i13 := iUnlift_bad (L := (L : Int)) (il_of_own Y5.out) (by omega) HU.out (fun _ => 0); clear h4)
                | (go_at_call 13; refine i13.mono ?_; rintro e W6 ⟨z, rfl, h1, h4⟩; have Y6 : Hid (W6.ownsRow W2.heap.size 3 1 (.slice ya N yc) N (ils (stL k N xs J) N)) := own_below Y5.out h4; have V6 : Hid (W6.ownsRow B 3 1 (.slice lao N lcap) N (ils xs N)) := own_below V5.out h4; have B6 : Hid (Below w.heap.size w W6) := bstep B5.out h4; have i14 := sUnlift_bad (lev := (L : Int)) (il_of_own Y6.out) (by omega) HU.out (fun _ => 0); clear h1 h4)
                | (go_at_call 14; refine i14.mono ?_; rintro e W7 ⟨_, rfl, _, h4⟩; have V8 : Hid (W7.ownsRow B 3 1 (.slice lao N lcap) N (ils xs N)) := own_below V6.out h4; have B8 : Hid (Below w.heap.size w W7) := bstep B6.out h4; clear h4))
              go_roundw
              case rel => exact ⟨k + 1, by go_num, by omega, by omega, V8.out, B8.out⟩
              case measure => simp [intOf]; omega
          · obtain rfl : k = 4 := by omega
            go_wp2
            go_ret
            exact ⟨rfl, B0.out⟩
  · rw [decide_eq_true (show (1048576 : Int) < (n : Int) by omega)] at hz
    clear hr
    go_enter Try.func3, Try.ntmps3
    go_wp2_with (first | (go_at_call 5; (with_reducible refine (hz _).mono ?_); rintro e w' ⟨rfl, hw⟩; obtain rfl := hw.symm))
    go_ret
    exact ⟨rfl, Below.refl _ _⟩
end Go.Proofs.Ytbcjbighipeafaa
