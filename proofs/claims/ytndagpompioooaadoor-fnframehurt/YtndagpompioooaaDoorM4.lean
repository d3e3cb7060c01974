/- YP YQ YR YS YT YU. -/
import Derived.Test.YtndagpompioooaaDoorM3
import Derived.Laws.AppendOwn
import Derived.Laws.BytesArg
import Derived.Test.YtndagpompioooaaDoorUL
import Derived.Test.YtndagpompioooaaDoorMK
namespace Go.Proofs.YtndagpompioooaaDoor
open Go.RowKit

theorem wrap64_id {x : Int} (h : -9223372036854775808 ≤ x ∧ x ≤ 9223372036854775807) : wrap64 x = x := by unfold wrap64; omega

set_option maxRecDepth 20000 in
set_option maxHeartbeats 8000000 in
theorem so_bits {w : World} {v : Value} {n a X0 X1 X2 : Nat} {y : Nat → Int} (hv : Bl w v n y) (hy : Byt n y) (hn : n ≤ 1048576) (ha : a + 3 ≤ n) (e0 : y a = (X0 : Int)) (e1 : y (a + 1) = (X1 : Int)) (e2 : y (a + 2) = (X2 : Int)) (_ : X0 < 256) (b1 : X1 < 256) (b2 : X2 < 256) (h : X0 = 70 ∧ X1 + 1 ≤ 128 ∧ X2 % 32 ≤ 30 ∧ X2 / 32 ≤ 3) (hr : rdn (bob (fun i => y (a + 3 + i))) (8 * (n - (a + 3))) (X2 % 32) (X1 + 1) = none) (ys : Nat → Int) :
    Calls Tryd.prog 33 #[v, .int .i64 (a : Int)] w fun e w' => Pof w w' e 0 ys (a : Int) 3 := by
  obtain ⟨i0, hi, hz0, hz1, hz2⟩ := info_parts Tryd.info3
  obtain ⟨g0, g1, g2, g3⟩ := h
  obtain ⟨kk, hkk⟩ : ∃ kk : Nat, kk = X2 % 32 := ⟨_, rfl⟩
  obtain ⟨oo, hoo⟩ : ∃ oo : Nat, oo = X2 / 32 := ⟨_, rfl⟩
  obtain ⟨mm, hmm⟩ : ∃ mm : Nat, mm = X1 + 1 := ⟨_, rfl⟩
  have k1 : (X2 : Int) % 32 = (kk : Int) := by omega
  have k2 : (X2 : Int) / 32 = (oo : Int) := by omega
  have k3 : (X2 : Int).tmod 32 = (kk : Int) := by rw [Int.tmod_eq_emod_of_nonneg (by omega)]; exact k1
  have k4 : (X2 : Int).tdiv 32 = (oo : Int) := by rw [Int.tdiv_eq_ediv_of_nonneg (by omega)]; exact k2
  have k5 : (X1 : Int) + 1 = (mm : Int) := by omega
  rw [← hkk] at g2
  rw [← hoo] at g3
  rw [← hmm] at g1
  rw [← hkk, ← hmm] at hr
  clear hkk hoo hmm
  have HV : Hid (Bl w v n y) := hv
  have HY : Hid (Byt n y) := hy
  obtain ⟨bo, cap, rfl, hcap, hc⟩ := hv
  obtain ⟨b, off, rfl, hlt, hcell⟩ := hc (by omega)
  have O0 : Hid ((w.alloc (.cells #[] 3)).ownsRow w.heap.size 3 1 (.slice (some ⟨w.heap.size, 0, none⟩) 0 0) 0 []) := own_empty w 3 1
  have bl : Below w.heap.size w (w.alloc (.cells #[] 3)) := below_one _ _
  have c0 := (bl.cell (p := ⟨b, off + a, none⟩) hlt).trans ((hcell a (by omega)).trans (by rw [e0]))
  have c1 := (bl.cell (p := ⟨b, off + (a + 1), none⟩) hlt).trans ((hcell (a + 1) (by omega)).trans (by rw [e1]))
  have c2 := (bl.cell (p := ⟨b, off + (a + 2), none⟩) hlt).trans ((hcell (a + 2) (by omega)).trans (by rw [e2]))
  have i1 := fun W => in_any (a : Int) 0 (n : Int) W
  simp only [decide_eq_true (show 0 ≤ (a : Int) ∧ (a : Int) ≤ (n : Int) by omega)] at i1
  have HCELL : Hid (∀ k, k < n → w.cell? ⟨b, off + k, none⟩ = some (.int .u8 (y k))) := hcell
  clear hcell e0 e1 e2 hy
  go_enter Tryd.func33, Tryd.ntmps33
  go_wp2_with (first | (go_at_call 59; (with_reducible refine (i1 _).mono ?_); rintro e w' ⟨rfl, hw⟩; obtain rfl := hw.symm) | (go_quiet (fail)))
  have O1 : Hid (((w.alloc (.cells #[] 3)).drewN nq).ownsRow w.heap.size 3 1 (.slice (some ⟨w.heap.size, 0, none⟩) 0 0) 0 []) := own_below O0.out (below_drewN (Below.refl _ _) _)
  have B1 : Hid (Below w.heap.size w ((w.alloc (.cells #[] 3)).drewN nq)) := below_drewN bl _
  have HS1 : Hid (((w.alloc (.cells #[] 3)).drewN nq).heap.size = w.heap.size + 1) := by show _ = _; simp
  clear c0 c1 c2 O0 bl
  generalize (w.alloc (.cells #[] 3)).drewN nq = W1 at *
  have S1 : W1.heap.size = w.heap.size + 1 := HS1.out
  have O2 : Hid ((W1.alloc (.cells #[] 3)).ownsRow W1.heap.size 3 1 (.slice (some ⟨w.heap.size + 1, 0, none⟩) 0 0) 0 (ils (bob (fun i => y (a + 3 + i))) 0)) := by rw [← S1]; exact own_empty W1 3 1
  have B2 : Hid (Below W1.heap.size W1 (W1.alloc (.cells #[] 3))) := below_one _ _
  generalize W1.alloc (.cells #[] 3) = W2 at *
  clear S1 HS1
  go_loopw [11, 12] (fun o i wr => ∃ k : Nat, i = .int .i64 ((8 * (a + 3) + k : Nat) : Int) ∧ k ≤ 8 * (n - (a + 3)) ∧ Hid (wr.ownsRow W1.heap.size 3 1 o k (ils (bob (fun i => y (a + 3 + i))) k) ∧ Below W1.heap.size W1 wr)) (fun _ i _ => 8 * n - (intOf i).toNat)
  case atStart => exact ⟨0, by first | rfl | (congr 1; done) | (congr 1; omega), by omega, O2.out, B2.out⟩
  case round =>
    obtain ⟨k, rfl, hk, hrel⟩ := hrel
    by_cases h1 : k < 8 * (n - (a + 3))
    · obtain ⟨I, hI⟩ : ∃ I : Nat, I = 8 * (a + 3) + k := ⟨_, rfl⟩
      rw [← hI]
      have HIK : Hid (I = 8 * (a + 3) + k) := hI
      have hI8 : I < 8 * n := by omega
      obtain ⟨J, hJ⟩ : ∃ J : Nat, J = I / 8 := ⟨_, rfl⟩
      obtain ⟨r, hr8⟩ : ∃ r : Nat, r = I % 8 := ⟨_, rfl⟩
      obtain ⟨q, hq⟩ : ∃ q : Nat, q = 7 - r := ⟨_, rfl⟩
      have hJn : J < n := by omega
      have f1 : (I : Int) / 8 = (J : Int) := by omega
      have f2 : (I : Int) % 8 = (r : Int) := by omega
      have f3 : (7 : Int) - (r : Int) = (q : Int) := by omega
      have f4 : (I : Int).tdiv 8 = (J : Int) := by rw [Int.tdiv_eq_ediv_of_nonneg (by omega)]; exact f1
      have f5 : (I : Int).tmod 8 = (r : Int) := by rw [Int.tmod_eq_emod_of_nonneg (by omega)]; exact f2
      obtain ⟨Y, hY⟩ : ∃ Y : Nat, y J = (Y : Int) := ⟨(y J).toNat, by have := HY.out J hJn; omega⟩
      have Y8 : Y < 256 := by have := HY.out J hJn; omega
      have c0 := ((bstep B1.out hrel.out.2).cell (p := ⟨b, off + J, none⟩) hlt).trans ((HCELL.out J hJn).trans (by rw [hY]))
      have HB : Hid (bob (fun i => y (a + 3 + i)) k = ((Y / 2 ^ q % 2 : Nat) : Int)) := by
        show bob (fun i => y (a + 3 + i)) k = _
        unfold bob
        show y (a + 3 + k / 8) / 2 ^ (7 - k % 8) % 2 = _
        rw [show a + 3 + k / 8 = J by omega, hY, show 7 - k % 8 = q by omega]
        simp
      obtain ⟨T, hT⟩ : ∃ T : Nat, T = Y / 2 ^ q % 2 := ⟨_, rfl⟩
      have f6 : (wrap64 ((Y : Int) / 2 ^ q)).tmod 2 = (T : Int) := by
        have l1 : Y / 2 ^ q ≤ Y := Nat.div_le_self _ _
        have l2 : (Y : Int) / 2 ^ q = ((Y / 2 ^ q : Nat) : Int) := by simp
        obtain ⟨E, hE⟩ : ∃ E : Nat, E = Y / 2 ^ q := ⟨_, rfl⟩
        rw [l2, hT, ← hE]
        rw [← hE] at l1
        rw [wrap64_id (by omega), Int.tmod_eq_emod_of_nonneg (by omega)]
        omega
      rw [← hT] at HB
      have hb5 := below_one wr (.cells #[.int .i64 (T : Int)] 3)
      have HO5 := own_below hrel.out.1 hb5
      have HB5 := bstep hrel.out.2 hb5
      clear hI hJ hr8 hq hI8 hY hT hrel hb5
      go_wp2_with (at_builtin; refine wpList_append_own _ rfl _ _ 24 rfl W1.heap.size 3 i0 (.int .i64 0) 1 8 Tryd.underlying24 hi hz0 hz1 hz2 rfl (by decide) _ _ _ rfl HO5 ⟨wr.heap.size, 0, none⟩ 1 1 [.int .i64 (T : Int)] rfl rfl (one_new _ _ _) (by simp [Value.oneCell']) (by unfold maxLen; omega) (by omega) HB5.size ?_)
      intro v' w4 hown' hgrow _
      have HB4 : Hid (Below W1.heap.size W1 w4) := grown_below HB5 (Nat.le_refl _) HO5 hgrow
      rw [← HB.out, ← ils_snoc] at hown'
      have HO4 : Hid (w4.ownsRow W1.heap.size 3 1 v' (k + 1) (ils (bob (fun i => y (a + 3 + i))) (k + 1))) := hown'
      clear hown' hgrow HO5 HB5 f3 f4 f5 f6
      go_wp2
      go_roundw
      case rel => exact ⟨k + 1, by have h9 := HIK.out; first | (congr 1; omega) | (simp; omega) | go_num, by omega, HO4.out, HB4.out⟩
      case measure => have h9 := HIK.out; simp [intOf]; omega
    · have hQ : k = 8 * (n - (a + 3)) := by omega
      rw [← hQ] at hr
      have hQ8 : k ≤ 8388608 := by omega
      have HQ : Hid (k = 8 * (n - (a + 3))) := hQ
      clear hQ
      have ho := hrel.out.1
      have B3 : Hid (Below W1.heap.size W1 wr) := hrel.out.2
      have HIL := il_of_own ho
      obtain ⟨ua, uc, rfl⟩ := own_slice3 ho
      clear hrel ho
      have i2 := sUnr_big (N := 0) (ys := ys) (c := 0) (A := false) HIL hQ8 g2 g1 (fun R a9 h9 _ => by rw [hr] at h9; cases h9) (fun _ => ⟨rfl, rfl, rfl⟩)
      have hx8 : ¬ (((8 * (a + 3) + k : Nat) : Int) < 8 * (n : Int)) := by omega
      clear HIL
      go_wp2_with (go_at_call 28; (with_reducible refine i2.mono ?_); rintro e5 w5 ⟨u5, rfl, ho5, hb5⟩)
      go_ret3
      exact ⟨_, rfl, own_below (own_below O1.out B3.out) hb5, bstep (bstep B1.out B3.out) hb5⟩

set_option maxRecDepth 20000 in
set_option maxHeartbeats 8000000 in
theorem so_end {w : World} {v : Value} {n a X0 X1 X2 a' en : Nat} {R : List Int} {y : Nat → Int} (hv : Bl w v n y) (hy : Byt n y) (hn : n ≤ 1048576) (ha : a + 3 ≤ n) (e0 : y a = (X0 : Int)) (e1 : y (a + 1) = (X1 : Int)) (e2 : y (a + 2) = (X2 : Int)) (_ : X0 < 256) (b1 : X1 < 256) (b2 : X2 < 256) (h : X0 = 70 ∧ X1 + 1 ≤ 128 ∧ X2 % 32 ≤ 30 ∧ X2 / 32 ≤ 3) (hr : rdn (bob (fun i => y (a + 3 + i))) (8 * (n - (a + 3))) (X2 % 32) (X1 + 1) = some (R, a')) (hE : en = a + 3 + (a' + 7) / 8) (hE5 : ¬ (en + 2 ≤ n)) (ys : Nat → Int) :
    Calls Tryd.prog 33 #[v, .int .i64 (a : Int)] w fun e w' => Pof w w' e 0 ys (a : Int) 1 := by
  obtain ⟨i0, hi, hz0, hz1, hz2⟩ := info_parts Tryd.info3
  obtain ⟨g0, g1, g2, g3⟩ := h
  obtain ⟨kk, hkk⟩ : ∃ kk : Nat, kk = X2 % 32 := ⟨_, rfl⟩
  obtain ⟨oo, hoo⟩ : ∃ oo : Nat, oo = X2 / 32 := ⟨_, rfl⟩
  obtain ⟨mm, hmm⟩ : ∃ mm : Nat, mm = X1 + 1 := ⟨_, rfl⟩
  have k1 : (X2 : Int) % 32 = (kk : Int) := by omega
  have k2 : (X2 : Int) / 32 = (oo : Int) := by omega
  have k3 : (X2 : Int).tmod 32 = (kk : Int) := by rw [Int.tmod_eq_emod_of_nonneg (by omega)]; exact k1
  have k4 : (X2 : Int).tdiv 32 = (oo : Int) := by rw [Int.tdiv_eq_ediv_of_nonneg (by omega)]; exact k2
  have k5 : (X1 : Int) + 1 = (mm : Int) := by omega
  rw [← hkk] at g2
  rw [← hoo] at g3
  rw [← hmm] at g1
  rw [← hkk, ← hmm] at hr
  clear hkk hoo hmm
  have HV : Hid (Bl w v n y) := hv
  have HY : Hid (Byt n y) := hy
  obtain ⟨bo, cap, rfl, hcap, hc⟩ := hv
  obtain ⟨b, off, rfl, hlt, hcell⟩ := hc (by omega)
  have O0 : Hid ((w.alloc (.cells #[] 3)).ownsRow w.heap.size 3 1 (.slice (some ⟨w.heap.size, 0, none⟩) 0 0) 0 []) := own_empty w 3 1
  have bl : Below w.heap.size w (w.alloc (.cells #[] 3)) := below_one _ _
  have c0 := (bl.cell (p := ⟨b, off + a, none⟩) hlt).trans ((hcell a (by omega)).trans (by rw [e0]))
  have c1 := (bl.cell (p := ⟨b, off + (a + 1), none⟩) hlt).trans ((hcell (a + 1) (by omega)).trans (by rw [e1]))
  have c2 := (bl.cell (p := ⟨b, off + (a + 2), none⟩) hlt).trans ((hcell (a + 2) (by omega)).trans (by rw [e2]))
  have i1 := fun W => in_any (a : Int) 0 (n : Int) W
  simp only [decide_eq_true (show 0 ≤ (a : Int) ∧ (a : Int) ≤ (n : Int) by omega)] at i1
  have HCELL : Hid (∀ k, k < n → w.cell? ⟨b, off + k, none⟩ = some (.int .u8 (y k))) := hcell
  clear hcell e0 e1 e2 hy
  go_enter Tryd.func33, Tryd.ntmps33
  go_wp2_with (first | (go_at_call 59; (with_reducible refine (i1 _).mono ?_); rintro e w' ⟨rfl, hw⟩; obtain rfl := hw.symm) | (go_quiet (fail)))
  have O1 : Hid (((w.alloc (.cells #[] 3)).drewN nq).ownsRow w.heap.size 3 1 (.slice (some ⟨w.heap.size, 0, none⟩) 0 0) 0 []) := own_below O0.out (below_drewN (Below.refl _ _) _)
  have B1 : Hid (Below w.heap.size w ((w.alloc (.cells #[] 3)).drewN nq)) := below_drewN bl _
  have HS1 : Hid (((w.alloc (.cells #[] 3)).drewN nq).heap.size = w.heap.size + 1) := by show _ = _; simp
  clear c0 c1 c2 O0 bl
  generalize (w.alloc (.cells #[] 3)).drewN nq = W1 at *
  have S1 : W1.heap.size = w.heap.size + 1 := HS1.out
  have O2 : Hid ((W1.alloc (.cells #[] 3)).ownsRow W1.heap.size 3 1 (.slice (some ⟨w.heap.size + 1, 0, none⟩) 0 0) 0 (ils (bob (fun i => y (a + 3 + i))) 0)) := by rw [← S1]; exact own_empty W1 3 1
  have B2 : Hid (Below W1.heap.size W1 (W1.alloc (.cells #[] 3))) := below_one _ _
  generalize W1.alloc (.cells #[] 3) = W2 at *
  clear S1 HS1
  go_loopw [11, 12] (fun o i wr => ∃ k : Nat, i = .int .i64 ((8 * (a + 3) + k : Nat) : Int) ∧ k ≤ 8 * (n - (a + 3)) ∧ Hid (wr.ownsRow W1.heap.size 3 1 o k (ils (bob (fun i => y (a + 3 + i))) k) ∧ Below W1.heap.size W1 wr)) (fun _ i _ => 8 * n - (intOf i).toNat)
  case atStart => exact ⟨0, by first | rfl | (congr 1; done) | (congr 1; omega), by omega, O2.out, B2.out⟩
  case round =>
    obtain ⟨k, rfl, hk, hrel⟩ := hrel
    by_cases h1 : k < 8 * (n - (a + 3))
    · obtain ⟨I, hI⟩ : ∃ I : Nat, I = 8 * (a + 3) + k := ⟨_, rfl⟩
      rw [← hI]
      have HIK : Hid (I = 8 * (a + 3) + k) := hI
      have hI8 : I < 8 * n := by omega
      obtain ⟨J, hJ⟩ : ∃ J : Nat, J = I / 8 := ⟨_, rfl⟩
      obtain ⟨r, hr8⟩ : ∃ r : Nat, r = I % 8 := ⟨_, rfl⟩
      obtain ⟨q, hq⟩ : ∃ q : Nat, q = 7 - r := ⟨_, rfl⟩
      have hJn : J < n := by omega
      have f1 : (I : Int) / 8 = (J : Int) := by omega
      have f2 : (I : Int) % 8 = (r : Int) := by omega
      have f3 : (7 : Int) - (r : Int) = (q : Int) := by omega
      have f4 : (I : Int).tdiv 8 = (J : Int) := by rw [Int.tdiv_eq_ediv_of_nonneg (by omega)]; exact f1
      have f5 : (I : Int).tmod 8 = (r : Int) := by rw [Int.tmod_eq_emod_of_nonneg (by omega)]; exact f2
      obtain ⟨Y, hY⟩ : ∃ Y : Nat, y J = (Y : Int) := ⟨(y J).toNat, by have := HY.out J hJn; omega⟩
      have Y8 : Y < 256 := by have := HY.out J hJn; omega
      have c0 := ((bstep B1.out hrel.out.2).cell (p := ⟨b, off + J, none⟩) hlt).trans ((HCELL.out J hJn).trans (by rw [hY]))
      have HB : Hid (bob (fun i => y (a + 3 + i)) k = ((Y / 2 ^ q % 2 : Nat) : Int)) := by
        show bob (fun i => y (a + 3 + i)) k = _
        unfold bob
        show y (a + 3 + k / 8) / 2 ^ (7 - k % 8) % 2 = _
        rw [show a + 3 + k / 8 = J by omega, hY, show 7 - k % 8 = q by omega]
        simp
      obtain ⟨T, hT⟩ : ∃ T : Nat, T = Y / 2 ^ q % 2 := ⟨_, rfl⟩
      have f6 : (wrap64 ((Y : Int) / 2 ^ q)).tmod 2 = (T : Int) := by
        have l1 : Y / 2 ^ q ≤ Y := Nat.div_le_self _ _
        have l2 : (Y : Int) / 2 ^ q = ((Y / 2 ^ q : Nat) : Int) := by simp
        obtain ⟨E, hE⟩ : ∃ E : Nat, E = Y / 2 ^ q := ⟨_, rfl⟩
        rw [l2, hT, ← hE]
        rw [← hE] at l1
        rw [wrap64_id (by omega), Int.tmod_eq_emod_of_nonneg (by omega)]
        omega
      rw [← hT] at HB
      have hb5 := below_one wr (.cells #[.int .i64 (T : Int)] 3)
      have HO5 := own_below hrel.out.1 hb5
      have HB5 := bstep hrel.out.2 hb5
      clear hI hJ hr8 hq hI8 hY hT hrel hb5
      go_wp2_with (at_builtin; refine wpList_append_own _ rfl _ _ 24 rfl W1.heap.size 3 i0 (.int .i64 0) 1 8 Tryd.underlying24 hi hz0 hz1 hz2 rfl (by decide) _ _ _ rfl HO5 ⟨wr.heap.size, 0, none⟩ 1 1 [.int .i64 (T : Int)] rfl rfl (one_new _ _ _) (by simp [Value.oneCell']) (by unfold maxLen; omega) (by omega) HB5.size ?_)
      intro v' w4 hown' hgrow _
      have HB4 : Hid (Below W1.heap.size W1 w4) := grown_below HB5 (Nat.le_refl _) HO5 hgrow
      rw [← HB.out, ← ils_snoc] at hown'
      have HO4 : Hid (w4.ownsRow W1.heap.size 3 1 v' (k + 1) (ils (bob (fun i => y (a + 3 + i))) (k + 1))) := hown'
      clear hown' hgrow HO5 HB5 f3 f4 f5 f6
      go_wp2
      go_roundw
      case rel => exact ⟨k + 1, by have h9 := HIK.out; first | (congr 1; omega) | (simp; omega) | go_num, by omega, HO4.out, HB4.out⟩
      case measure => have h9 := HIK.out; simp [intOf]; omega
    · have hQ : k = 8 * (n - (a + 3)) := by omega
      rw [← hQ] at hr
      have hQ8 : k ≤ 8388608 := by omega
      have HQ : Hid (k = 8 * (n - (a + 3))) := hQ
      clear hQ
      have ho := hrel.out.1
      have B3 : Hid (Below W1.heap.size W1 wr) := hrel.out.2
      have HIL := il_of_own ho
      obtain ⟨ua, uc, rfl⟩ := own_slice3 ho
      clear hrel ho
      obtain ⟨hRl, ha8, _⟩ := rdn_told _ hr
      have i2 := sUnr_big (N := R.length) (ys := lf R) (c := (a' : Int)) (A := true) HIL hQ8 g2 g1 (fun R2 a2 h9 _ => by rw [hr] at h9; injection h9 with h9; injection h9 with f1 f2; subst f1 f2; exact ⟨rfl, rfl, rfl, rfl⟩) (fun h9 => absurd (fun i _ _ => bob_bit _ i) (h9 R a' hr))
      have hx8 : ¬ (((8 * (a + 3) + k : Nat) : Int) < 8 * (n : Int)) := by have := HQ.out; omega
      have hk9 : k ≤ 8 * n := by have := HQ.out; omega
      have ha9 : a' ≤ 8388608 := by omega
      obtain ⟨E8, hE8⟩ : ∃ E8 : Nat, E8 = (a' + 7) / 8 := ⟨_, rfl⟩
      have m1 : ((a' : Int) + 7) / 8 = (E8 : Int) := by omega
      have m2 : ((a' : Int) + 7).tdiv 8 = (E8 : Int) := by rw [Int.tdiv_eq_ediv_of_nonneg (by omega)]; exact m1
      have m3 : (a : Int) + 3 + (E8 : Int) = (en : Int) := by omega
      have HRL : Hid (R.length = mm) := hRl
      clear HIL hr hE8 hRl
      have hE6 : (n : Int) - (en : Int) < 2 := by omega
      clear hE
      go_wp2_with (first | (go_at_call 28; (with_reducible refine i2.mono ?_); rintro e5 w5 ⟨u5, rfl, ho5, hb5⟩) | (go_quiet (fail)))
      go_ret3
      exact ⟨_, rfl, own_below (own_below O1.out B3.out) hb5, bstep (bstep B1.out B3.out) hb5⟩
end Go.Proofs.YtndagpompioooaaDoor

namespace Go.Proofs.YtndagpompioooaaDoor
open Go.RowKit

set_option maxRecDepth 20000 in
set_option maxHeartbeats 8000000 in
theorem so_check {w : World} {v : Value} {n a X0 X1 X2 a' en Y0 Y1 : Nat} {R : List Int} {y : Nat → Int} (hv : Bl w v n y) (hy : Byt n y) (hn : n ≤ 1048576) (ha : a + 3 ≤ n) (e0 : y a = (X0 : Int)) (e1 : y (a + 1) = (X1 : Int)) (e2 : y (a + 2) = (X2 : Int)) (_ : X0 < 256) (b1 : X1 < 256) (b2 : X2 < 256) (h : X0 = 70 ∧ X1 + 1 ≤ 128 ∧ X2 % 32 ≤ 30 ∧ X2 / 32 ≤ 3) (hr : rdn (bob (fun i => y (a + 3 + i))) (8 * (n - (a + 3))) (X2 % 32) (X1 + 1) = some (R, a')) (hE : en = a + 3 + (a' + 7) / 8) (hE5 : en + 2 ≤ n) (eY0 : y en = (Y0 : Int)) (eY1 : y (en + 1) = (Y1 : Int)) (bY0 : Y0 < 256) (bY1 : Y1 < 256) (hck : crv (en - a) (fun i => y (a + i)) ≠ (Y0 : Int) * 256 + (Y1 : Int)) (ys : Nat → Int) :
    Calls Tryd.prog 33 #[v, .int .i64 (a : Int)] w fun e w' => Pof w w' e 0 ys (a : Int) 4 := by
  obtain ⟨i0, hi, hz0, hz1, hz2⟩ := info_parts Tryd.info3
  obtain ⟨g0, g1, g2, g3⟩ := h
  obtain ⟨kk, hkk⟩ : ∃ kk : Nat, kk = X2 % 32 := ⟨_, rfl⟩
  obtain ⟨oo, hoo⟩ : ∃ oo : Nat, oo = X2 / 32 := ⟨_, rfl⟩
  obtain ⟨mm, hmm⟩ : ∃ mm : Nat, mm = X1 + 1 := ⟨_, rfl⟩
  have k1 : (X2 : Int) % 32 = (kk : Int) := by omega
  have k2 : (X2 : Int) / 32 = (oo : Int) := by omega
  have k3 : (X2 : Int).tmod 32 = (kk : Int) := by rw [Int.tmod_eq_emod_of_nonneg (by omega)]; exact k1
  have k4 : (X2 : Int).tdiv 32 = (oo : Int) := by rw [Int.tdiv_eq_ediv_of_nonneg (by omega)]; exact k2
  have k5 : (X1 : Int) + 1 = (mm : Int) := by omega
  rw [← hkk] at g2
  rw [← hoo] at g3
  rw [← hmm] at g1
  rw [← hkk, ← hmm] at hr
  clear hkk hoo hmm
  have HV : Hid (Bl w v n y) := hv
  have HY : Hid (Byt n y) := hy
  obtain ⟨bo, cap, rfl, hcap, hc⟩ := hv
  obtain ⟨b, off, rfl, hlt, hcell⟩ := hc (by omega)
  have O0 : Hid ((w.alloc (.cells #[] 3)).ownsRow w.heap.size 3 1 (.slice (some ⟨w.heap.size, 0, none⟩) 0 0) 0 []) := own_empty w 3 1
  have bl : Below w.heap.size w (w.alloc (.cells #[] 3)) := below_one _ _
  have c0 := (bl.cell (p := ⟨b, off + a, none⟩) hlt).trans ((hcell a (by omega)).trans (by rw [e0]))
  have c1 := (bl.cell (p := ⟨b, off + (a + 1), none⟩) hlt).trans ((hcell (a + 1) (by omega)).trans (by rw [e1]))
  have c2 := (bl.cell (p := ⟨b, off + (a + 2), none⟩) hlt).trans ((hcell (a + 2) (by omega)).trans (by rw [e2]))
  have i1 := fun W => in_any (a : Int) 0 (n : Int) W
  simp only [decide_eq_true (show 0 ≤ (a : Int) ∧ (a : Int) ≤ (n : Int) by omega)] at i1
  have HCELL : Hid (∀ k, k < n → w.cell? ⟨b, off + k, none⟩ = some (.int .u8 (y k))) := hcell
  clear hcell e0 e1 e2 hy
  go_enter Tryd.func33, Tryd.ntmps33
  go_wp2_with (first | (go_at_call 59; (with_reducible refine (i1 _).mono ?_); rintro e w' ⟨rfl, hw⟩; obtain rfl := hw.symm) | (go_quiet (fail)))
  have O1 : Hid (((w.alloc (.cells #[] 3)).drewN nq).ownsRow w.heap.size 3 1 (.slice (some ⟨w.heap.size, 0, none⟩) 0 0) 0 []) := own_below O0.out (below_drewN (Below.refl _ _) _)
  have B1 : Hid (Below w.heap.size w ((w.alloc (.cells #[] 3)).drewN nq)) := below_drewN bl _
  have HS1 : Hid (((w.alloc (.cells #[] 3)).drewN nq).heap.size = w.heap.size + 1) := by show _ = _; simp
  clear c0 c1 c2 O0 bl
  generalize (w.alloc (.cells #[] 3)).drewN nq = W1 at *
  have S1 : W1.heap.size = w.heap.size + 1 := HS1.out
  have O2 : Hid ((W1.alloc (.cells #[] 3)).ownsRow W1.heap.size 3 1 (.slice (some ⟨w.heap.size + 1, 0, none⟩) 0 0) 0 (ils (bob (fun i => y (a + 3 + i))) 0)) := by rw [← S1]; exact own_empty W1 3 1
  have B2 : Hid (Below W1.heap.size W1 (W1.alloc (.cells #[] 3))) := below_one _ _
  generalize W1.alloc (.cells #[] 3) = W2 at *
  clear S1 HS1
  go_loopw [11, 12] (fun o i wr => ∃ k : Nat, i = .int .i64 ((8 * (a + 3) + k : Nat) : Int) ∧ k ≤ 8 * (n - (a + 3)) ∧ Hid (wr.ownsRow W1.heap.size 3 1 o k (ils (bob (fun i => y (a + 3 + i))) k) ∧ Below W1.heap.size W1 wr)) (fun _ i _ => 8 * n - (intOf i).toNat)
  case atStart => exact ⟨0, by first | rfl | (congr 1; done) | (congr 1; omega), by omega, O2.out, B2.out⟩
  case round =>
    obtain ⟨k, rfl, hk, hrel⟩ := hrel
    by_cases h1 : k < 8 * (n - (a + 3))
    · obtain ⟨I, hI⟩ : ∃ I : Nat, I = 8 * (a + 3) + k := ⟨_, rfl⟩
      rw [← hI]
      have HIK : Hid (I = 8 * (a + 3) + k) := hI
      have hI8 : I < 8 * n := by omega
      obtain ⟨J, hJ⟩ : ∃ J : Nat, J = I / 8 := ⟨_, rfl⟩
      obtain ⟨r, hr8⟩ : ∃ r : Nat, r = I % 8 := ⟨_, rfl⟩
      obtain ⟨q, hq⟩ : ∃ q : Nat, q = 7 - r := ⟨_, rfl⟩
      have hJn : J < n := by omega
      have f1 : (I : Int) / 8 = (J : Int) := by omega
      have f2 : (I : Int) % 8 = (r : Int) := by omega
      have f3 : (7 : Int) - (r : Int) = (q : Int) := by omega
      have f4 : (I : Int).tdiv 8 = (J : Int) := by rw [Int.tdiv_eq_ediv_of_nonneg (by omega)]; exact f1
      have f5 : (I : Int).tmod 8 = (r : Int) := by rw [Int.tmod_eq_emod_of_nonneg (by omega)]; exact f2
      obtain ⟨Y, hY⟩ : ∃ Y : Nat, y J = (Y : Int) := ⟨(y J).toNat, by have := HY.out J hJn; omega⟩
      have Y8 : Y < 256 := by have := HY.out J hJn; omega
      have c0 := ((bstep B1.out hrel.out.2).cell (p := ⟨b, off + J, none⟩) hlt).trans ((HCELL.out J hJn).trans (by rw [hY]))
      have HB : Hid (bob (fun i => y (a + 3 + i)) k = ((Y / 2 ^ q % 2 : Nat) : Int)) := by
        show bob (fun i => y (a + 3 + i)) k = _
        unfold bob
        show y (a + 3 + k / 8) / 2 ^ (7 - k % 8) % 2 = _
        rw [show a + 3 + k / 8 = J by omega, hY, show 7 - k % 8 = q by omega]
        simp
      obtain ⟨T, hT⟩ : ∃ T : Nat, T = Y / 2 ^ q % 2 := ⟨_, rfl⟩
      have f6 : (wrap64 ((Y : Int) / 2 ^ q)).tmod 2 = (T : Int) := by
        have l1 : Y / 2 ^ q ≤ Y := Nat.div_le_self _ _
        have l2 : (Y : Int) / 2 ^ q = ((Y / 2 ^ q : Nat) : Int) := by simp
        obtain ⟨E, hE⟩ : ∃ E : Nat, E = Y / 2 ^ q := ⟨_, rfl⟩
        rw [l2, hT, ← hE]
        rw [← hE] at l1
        rw [wrap64_id (by omega), Int.tmod_eq_emod_of_nonneg (by omega)]
        omega
      rw [← hT] at HB
      have hb5 := below_one wr (.cells #[.int .i64 (T : Int)] 3)
      have HO5 := own_below hrel.out.1 hb5
      have HB5 := bstep hrel.out.2 hb5
      clear hI hJ hr8 hq hI8 hY hT hrel hb5
      go_wp2_with (at_builtin; refine wpList_append_own _ rfl _ _ 24 rfl W1.heap.size 3 i0 (.int .i64 0) 1 8 Tryd.underlying24 hi hz0 hz1 hz2 rfl (by decide) _ _ _ rfl HO5 ⟨wr.heap.size, 0, none⟩ 1 1 [.int .i64 (T : Int)] rfl rfl (one_new _ _ _) (by simp [Value.oneCell']) (by unfold maxLen; omega) (by omega) HB5.size ?_)
      intro v' w4 hown' hgrow _
      have HB4 : Hid (Below W1.heap.size W1 w4) := grown_below HB5 (Nat.le_refl _) HO5 hgrow
      rw [← HB.out, ← ils_snoc] at hown'
      have HO4 : Hid (w4.ownsRow W1.heap.size 3 1 v' (k + 1) (ils (bob (fun i => y (a + 3 + i))) (k + 1))) := hown'
      clear hown' hgrow HO5 HB5 f3 f4 f5 f6
      go_wp2
      go_roundw
      case rel => exact ⟨k + 1, by have h9 := HIK.out; first | (congr 1; omega) | (simp; omega) | go_num, by omega, HO4.out, HB4.out⟩
      case measure => have h9 := HIK.out; simp [intOf]; omega
    · have hQ : k = 8 * (n - (a + 3)) := by omega
      rw [← hQ] at hr
      have hQ8 : k ≤ 8388608 := by omega
      have HQ : Hid (k = 8 * (n - (a + 3))) := hQ
      clear hQ
      have ho := hrel.out.1
      have B3 : Hid (Below W1.heap.size W1 wr) := hrel.out.2
      have HIL := il_of_own ho
      obtain ⟨ua, uc, rfl⟩ := own_slice3 ho
      clear hrel ho
      obtain ⟨hRl, ha8, _⟩ := rdn_told _ hr
      have i2 := sUnr_big (N := R.length) (ys := lf R) (c := (a' : Int)) (A := true) HIL hQ8 g2 g1 (fun R2 a2 h9 _ => by rw [hr] at h9; injection h9 with h9; injection h9 with f1 f2; subst f1 f2; exact ⟨rfl, rfl, rfl, rfl⟩) (fun h9 => absurd (fun i _ _ => bob_bit _ i) (h9 R a' hr))
      have hx8 : ¬ (((8 * (a + 3) + k : Nat) : Int) < 8 * (n : Int)) := by have := HQ.out; omega
      have hk9 : k ≤ 8 * n := by have := HQ.out; omega
      have ha9 : a' ≤ 8388608 := by omega
      obtain ⟨E8, hE8⟩ : ∃ E8 : Nat, E8 = (a' + 7) / 8 := ⟨_, rfl⟩
      have m1 : ((a' : Int) + 7) / 8 = (E8 : Int) := by omega
      have m2 : ((a' : Int) + 7).tdiv 8 = (E8 : Int) := by rw [Int.tdiv_eq_ediv_of_nonneg (by omega)]; exact m1
      have m3 : (a : Int) + 3 + (E8 : Int) = (en : Int) := by omega
      have HRL : Hid (R.length = mm) := hRl
      clear HIL hr hE8 hRl
      have hE6 : ¬ ((n : Int) - (en : Int) < 2) := by omega
      have hae : a + 3 ≤ en := by omega
      clear hE
      have cE := HCELL.out en (by omega)
      have cE1 := HCELL.out (en + 1) (by omega)
      rw [eY0] at cE
      rw [eY1] at cE1
      have CRC : Hid (∀ X, Below w.heap.size w X → Calls Tryd.prog 68 #[.slice (some ⟨b, off + a, none⟩) (en - a) (cap - a)] X fun e w' => e = .returned (.int .i64 (crv (en - a) (fun i => y (a + i)))) ∧ w' = X) := fun X hX => sCrc_any (n := en - a) ⟨_, _, rfl, by omega, fun _ => ⟨b, off + a, rfl, Nat.lt_of_lt_of_le hlt hX.size, fun i hi => by have := HCELL.out (a + i) (by omega); rw [show off + (a + i) = off + a + i by omega] at this; exact (hX.cell (p := ⟨b, off + a + i, none⟩) hlt).trans this⟩⟩ (fun i hi => HY.out (a + i) (by omega)) (by omega)
      obtain ⟨cc, hcc⟩ : ∃ cc, cc = crv (en - a) (fun i => y (a + i)) := ⟨_, rfl⟩
      rw [← hcc] at CRC hck
      have HE : Hid (w.cell? ⟨b, off + en, none⟩ = some (.int .u8 (Y0 : Int)) ∧ w.cell? ⟨b, off + (en + 1), none⟩ = some (.int .u8 (Y1 : Int))) := ⟨cE, cE1⟩
      clear hcc eY0 eY1 cE cE1
      go_upto_region 19 with (first | (go_at_call 28; (with_reducible refine i2.mono ?_); rintro e5 w5 ⟨u5, rfl, ho5, hb5⟩) | (go_quiet (fail)))
      have B5 : Hid (Below w.heap.size w w5) := bstep (bstep B1.out B3.out) hb5
      have ON5 : Hid (w5.ownsRow w.heap.size 3 1 (.slice (some ⟨w.heap.size, 0, none⟩) 0 0) 0 []) := own_below (own_below O1.out B3.out) hb5
      have c8 := (B5.out.cell (p := ⟨b, off + en, none⟩) hlt).trans HE.out.1
      have c9 := (B5.out.cell (p := ⟨b, off + (en + 1), none⟩) hlt).trans HE.out.2
      clear hb5 i2
      have hne : ¬ cc = 256 * (Y0 : Int) + (Y1 : Int) := by omega
      clear hck
      refine wp_region_any (by kernel_rfl) ?_
      change wpAny _ _ _ _ _ _ _ (World.drew _)
      refine wpI_any (I := fun X => X.cell? ⟨b, off + en, none⟩ = some (.int .u8 (Y0 : Int)) ∧ X.cell? ⟨b, off + (en + 1), none⟩ = some (.int .u8 (Y1 : Int))) _ _ _ _ ?_
      refine wpI_take (i := 0) (v := ?_) rfl (by kernel_rfl) (by kernel_rfl) (by kernel_rfl) (fun _ _ _ h => h) ⟨by rfl, ?_⟩ ?_
      rotate_left
      · intro X hI; go_simp; try go_bits
        try rw [if_pos (by omega)]
        try with_reducible rfl
      refine wpI_take (i := 1) (v := ?_) rfl (by kernel_rfl) (by kernel_rfl) (by kernel_rfl) (fun _ _ _ h => h) ⟨by rfl, ?_⟩ ?_
      rotate_left
      · intro X hI; go_simp; try go_bits
        try rw [if_pos (by omega)]
        try with_reducible rfl
      refine wpI_take (i := 2) (v := ?_) rfl (by kernel_rfl) (by kernel_rfl) (by kernel_rfl) (fun _ _ _ h => h) ⟨by rfl, ?_⟩ ?_
      rotate_left
      · intro X hI; go_simp; try go_bits
        try rw [if_pos (by omega)]
        try with_reducible rfl
      refine wpI_take (i := 3) (v := .slice (some ⟨b, off + a, none⟩) (en - a) (cap - a)) rfl (by kernel_rfl) (by kernel_rfl) (by kernel_rfl) (fun _ _ _ h => h) ⟨by rfl, ?_⟩ ?_
      · intro X hI; go_simp
        try rw [if_pos (show en ≤ cap by omega)]
        try rw [if_pos (show a ≤ en by omega)]
        try rw [if_neg (show ¬ cap = a by omega)]
        try rfl
      refine wpI_take (i := 5) (v := ?_) rfl (by kernel_rfl) (by kernel_rfl) (by kernel_rfl) (fun _ _ _ h => h) ⟨by rfl, ?_⟩ ?_
      rotate_left
      · intro X hI; go_simp; try go_bits
        try rw [if_pos (by omega)]
        try with_reducible rfl
      refine wpI_take (i := 6) (v := ?_) rfl (by kernel_rfl) (by kernel_rfl) (by kernel_rfl) (fun _ _ _ h => h) ⟨by rfl, ?_⟩ ?_
      rotate_left
      · intro X hI; go_simp; try go_bits
        try rw [if_pos (by omega)]
        try with_reducible rfl
      refine wpI_take (i := 7) (v := ?_) rfl (by kernel_rfl) (by kernel_rfl) (by kernel_rfl) (fun _ _ _ h => h) ⟨by rfl, ?_⟩ ?_
      rotate_left
      · intro X hI; go_simp; try go_bits
        try rw [if_pos (by omega)]
        try with_reducible rfl
      refine wpI_take (i := 8) (v := ?_) rfl (by kernel_rfl) (by kernel_rfl) (by kernel_rfl) (fun _ _ _ h => h) ⟨by rfl, ?_⟩ ?_
      rotate_left
      · intro X hI; obtain ⟨q1, q2⟩ := hI; go_simp; try go_bits
        try rw [if_pos (by omega)]
        try with_reducible rfl
      refine wpI_take (i := 9) (v := ?_) rfl (by kernel_rfl) (by kernel_rfl) (by kernel_rfl) (fun _ _ _ h => h) ⟨by rfl, ?_⟩ ?_
      rotate_left
      · intro X hI; go_simp; try go_bits
        try rw [if_pos (by omega)]
        try with_reducible rfl
      refine wpI_take (i := 10) (v := ?_) rfl (by kernel_rfl) (by kernel_rfl) (by kernel_rfl) (fun _ _ _ h => h) ⟨by rfl, ?_⟩ ?_
      rotate_left
      · intro X hI; go_simp; try go_bits
        try rw [if_pos (by omega)]
        try with_reducible rfl
      refine wpI_take (i := 11) (v := ?_) rfl (by kernel_rfl) (by kernel_rfl) (by kernel_rfl) (fun _ _ _ h => h) ⟨by rfl, ?_⟩ ?_
      rotate_left
      · intro X hI; go_simp; try go_bits
        try rw [if_pos (by omega)]
        try with_reducible rfl
      refine wpI_take (i := 12) (v := ?_) rfl (by kernel_rfl) (by kernel_rfl) (by kernel_rfl) (fun _ _ _ h => h) ⟨by rfl, ?_⟩ ?_
      rotate_left
      · intro X hI; go_simp; try go_bits
        try rw [if_pos (by omega)]
        try with_reducible rfl
      refine wpI_take (i := 13) (v := ?_) rfl (by kernel_rfl) (by kernel_rfl) (by kernel_rfl) (fun _ _ _ h => h) ⟨by rfl, ?_⟩ ?_
      rotate_left
      · intro X hI; go_simp; try go_bits
        try rw [if_pos (by omega)]
        try with_reducible rfl
      refine wpI_take (i := 14) (v := ?_) rfl (by kernel_rfl) (by kernel_rfl) (by kernel_rfl) (fun _ _ _ h => h) ⟨by rfl, ?_⟩ ?_
      rotate_left
      · intro X hI; go_simp; try go_bits
        try rw [if_pos (by omega)]
        try with_reducible rfl
      refine wpI_take (i := 15) (v := ?_) rfl (by kernel_rfl) (by kernel_rfl) (by kernel_rfl) (fun _ _ _ h => h) ⟨by rfl, ?_⟩ ?_
      rotate_left
      · intro X hI; obtain ⟨q1, q2⟩ := hI; go_simp; try go_bits
        try rw [if_pos (by omega)]
        try with_reducible rfl
      refine wpI_take (i := 16) (v := ?_) rfl (by kernel_rfl) (by kernel_rfl) (by kernel_rfl) (fun _ _ _ h => h) ⟨by rfl, ?_⟩ ?_
      rotate_left
      · intro X hI; go_simp; try go_bits
        try rw [if_pos (by omega)]
        try with_reducible rfl
      refine wpI_take (i := 17) (v := ?_) rfl (by kernel_rfl) (by kernel_rfl) (by kernel_rfl) (fun _ _ _ h => h) ⟨by rfl, ?_⟩ ?_
      rotate_left
      · intro X hI; go_simp; try go_bits
        try rw [if_pos (by omega)]
        try with_reducible rfl
      refine wpI_only (i := 4) rfl (by kernel_rfl) ⟨c8, c9⟩ (by rfl) ?_
      intro K hK
      go_simp
      go_wp2_with (go_at_call 68; (with_reducible refine (CRC.out _ ?bel).mono ?_); (case bel => first | exact B5.out | exact B5.out.drew | exact B5.out.drew.drew); rintro e w' ⟨rfl, hw⟩; obtain rfl := hw.symm)
      refine wpI_take (i := 18) (v := .bool true) rfl (by kernel_rfl) (by kernel_rfl) (by kernel_rfl) (fun _ _ _ h => h) ⟨by rfl, ?_⟩ ?_
      · intro X hI; go_simp
        try exact hne
      refine wpI_done ⟨c8, c9⟩ (by kernel_rfl) ?_ _
      go_wp2
      go_ret3
      exact ⟨_, rfl, by first | exact ON5.out | exact own_below ON5.out (Below.refl _ _).drew, by first | exact B5.out | exact B5.out.drew⟩
end Go.Proofs.YtndagpompioooaaDoor

namespace Go.Proofs.YtndagpompioooaaDoor
open Go.RowKit

theorem frm_byt {M : Nat} {f : Nat → Int} (h : Byt M f) : Byt (M + 2) (frm M f) := by
  intro i hi
  have hc := crc_lt h M (Nat.le_refl _)
  unfold frm
  by_cases h1 : i < M
  · rw [if_pos h1]; exact h i h1
  · rw [if_neg h1]
    by_cases h2 : i = M
    · rw [if_pos h2]; omega
    · rw [if_neg h2]; omega

/-- What PackFrame tells, on both sides: bytes, and none of them where it refuses. -/
theorem frame_any2 {n : Nat} {xs : Nat → Int} (hn : n ≤ 1048576) : ∃ (N : Nat) (ys : Nat → Int) (ok : Bool), N ≤ 12600 ∧ Byt N ys ∧ (ok = false → N = 0) ∧ (∀ W u, Il W u n xs → Calls Tryd.prog 26 #[u] W fun e w' => Psb W w' e N ys ok) ∧ ∀ W u, Il W u n xs → Calls Tryd.prog 20 #[u] W fun e w' => Psb W w' e N ys ok := by
  have b0 : Byt 0 (fun _ => 0) := fun i hi => by omega
  by_cases h1 : 1 ≤ n ∧ n ≤ 128
  · by_cases h2 : Sig n xs
    · rcases shp_told (n := n) (xs := xs) (min n 4) with hs | ⟨a, k, C, hs, ha, hk, hC, hCr, _⟩
      · refine ⟨0, fun _ => 0, false, by omega, b0, fun _ => rfl, fun W u hu => sFrame_none hu h1 h2 rfl hs _, fun W u hu => iFrame_none hu h1 ?_ _⟩
        refine (shape_good hu h2 h1.2 rfl).mono ?_
        rintro e w' (⟨_, rfl, hb⟩ | ⟨a, k, C, u, e1, _⟩)
        · exact ⟨rfl, hb⟩
        · rw [hs] at e1
          injection e1 with e1 _
          omega
      · exact ⟨3 + (C + 7) / 8 + 2, frm (3 + (C + 7) / 8) (fr0 n a k C (lf (ric k (gus a xs) n))), true, by omega, frm_byt (fr0_byt h1.2 (by omega) hk (ric_bit hCr)), (fun h => Bool.noConfusion h), fun W u hu => sFrame_good hu h1 h2 rfl hs rfl, fun W u hu => iFrame_good hu h1 h2 rfl hs rfl⟩
    · exact ⟨0, fun _ => 0, false, by omega, b0, fun _ => rfl, fun W u hu => sFrame_bad hu hn (fun h => h2 h.2) _, fun W u hu => iFrame_none hu h1 (shape_bad hu h2 h1.2 rfl) _⟩
  · exact ⟨0, fun _ => 0, false, by omega, b0, fun _ => rfl, fun W u hu => sFrame_bad hu hn (fun h => h1 (by omega)) _, fun W u hu => iFrame_size hu h1 _⟩
end Go.Proofs.YtndagpompioooaaDoor

namespace Go.Proofs.YtndagpompioooaaDoor
open Go.RowKit

set_option maxRecDepth 20000 in
set_option maxHeartbeats 2500000 in
theorem so_last {w : World} {v : Value} {n a X0 X1 X2 a' en Y0 Y1 : Nat} {R : List Int} {y : Nat → Int} (hv : Bl w v n y) (hy : Byt n y) (hn : n ≤ 1048576) (ha : a + 3 ≤ n) (e0 : y a = (X0 : Int)) (e1 : y (a + 1) = (X1 : Int)) (e2 : y (a + 2) = (X2 : Int)) (_ : X0 < 256) (b1 : X1 < 256) (b2 : X2 < 256) (h : X0 = 70 ∧ X1 + 1 ≤ 128 ∧ X2 % 32 ≤ 30 ∧ X2 / 32 ≤ 3) (hr : rdn (bob (fun i => y (a + 3 + i))) (8 * (n - (a + 3))) (X2 % 32) (X1 + 1) = some (R, a')) (hE : en = a + 3 + (a' + 7) / 8) (hE5 : en + 2 ≤ n) (eY0 : y en = (Y0 : Int)) (eY1 : y (en + 1) = (Y1 : Int)) (bY0 : Y0 < 256) (bY1 : Y1 < 256) (hck : crv (en - a) (fun i => y (a + i)) = (Y0 : Int) * 256 + (Y1 : Int)) {N N2 : Nat} {zs ys : Nat → Int} {A ok Eq : Bool} (hU : ∀ W u, Il W u R.length (lf R) → Calls Tryd.prog 71 #[.int .i64 ((X2 / 32 : Nat) : Int), u] W fun e w' => Pst W w' e N zs A) (hP : ∀ W u, Il W u N zs → Calls Tryd.prog 26 #[u] W fun e w' => Psb W w' e N2 ys ok) (hy2 : Byt N2 ys) (hEq : Eq = decide (N2 = en + 2 - a ∧ ∀ k, k < N2 → ys k = y (a + k))) {M : Nat} {zz : Nat → Int} {nx c : Int} (hT : A = true → Eq = true → M = N ∧ zz = zs ∧ nx = (en : Int) + 2 ∧ c = 0) (hF : ¬ (A = true ∧ Eq = true) → M = 0 ∧ nx = (a : Int) ∧ c = 5) :
    Calls Tryd.prog 33 #[v, .int .i64 (a : Int)] w fun e w' => Pof w w' e M zz nx c := by
  obtain ⟨i0, hi, hz0, hz1, hz2⟩ := info_parts Tryd.info3
  obtain ⟨g0, g1, g2, g3⟩ := h
  obtain ⟨kk, hkk⟩ : ∃ kk : Nat, kk = X2 % 32 := ⟨_, rfl⟩
  obtain ⟨oo, hoo⟩ : ∃ oo : Nat, oo = X2 / 32 := ⟨_, rfl⟩
  obtain ⟨mm, hmm⟩ : ∃ mm : Nat, mm = X1 + 1 := ⟨_, rfl⟩
  have k1 : (X2 : Int) % 32 = (kk : Int) := by omega
  have k2 : (X2 : Int) / 32 = (oo : Int) := by omega
  have k3 : (X2 : Int).tmod 32 = (kk : Int) := by rw [Int.tmod_eq_emod_of_nonneg (by omega)]; exact k1
  have k4 : (X2 : Int).tdiv 32 = (oo : Int) := by rw [Int.tdiv_eq_ediv_of_nonneg (by omega)]; exact k2
  have k5 : (X1 : Int) + 1 = (mm : Int) := by omega
  rw [← hkk] at g2
  rw [← hoo] at g3
  rw [← hmm] at g1
  rw [← hkk, ← hmm] at hr
  rw [← hoo] at hU
  have HU : Hid _ := hU
  have HP : Hid _ := hP
  have HT : Hid _ := hT
  have HF : Hid _ := hF
  clear hT hF hU hP hkk hoo hmm
  have HV : Hid (Bl w v n y) := hv
  have HY : Hid (Byt n y) := hy
  obtain ⟨bo, cap, rfl, hcap, hc⟩ := hv
  obtain ⟨b, off, rfl, hlt, hcell⟩ := hc (by omega)
  have O0 : Hid ((w.alloc (.cells #[] 3)).ownsRow w.heap.size 3 1 (.slice (some ⟨w.heap.size, 0, none⟩) 0 0) 0 []) := own_empty w 3 1
  have bl : Below w.heap.size w (w.alloc (.cells #[] 3)) := below_one _ _
  have c0 := (bl.cell (p := ⟨b, off + a, none⟩) hlt).trans ((hcell a (by omega)).trans (by rw [e0]))
  have c1 := (bl.cell (p := ⟨b, off + (a + 1), none⟩) hlt).trans ((hcell (a + 1) (by omega)).trans (by rw [e1]))
  have c2 := (bl.cell (p := ⟨b, off + (a + 2), none⟩) hlt).trans ((hcell (a + 2) (by omega)).trans (by rw [e2]))
  have i1 := fun W => in_any (a : Int) 0 (n : Int) W
  simp only [decide_eq_true (show 0 ≤ (a : Int) ∧ (a : Int) ≤ (n : Int) by omega)] at i1
  have HCELL : Hid (∀ k, k < n → w.cell? ⟨b, off + k, none⟩ = some (.int .u8 (y k))) := hcell
  clear hcell e0 e1 e2 hy
  go_enter Tryd.func33, Tryd.ntmps33
  go_wp2_with (first | (go_at_call 59; (with_reducible refine (i1 _).mono ?_); rintro e w' ⟨rfl, hw⟩; obtain rfl := hw.symm) | (go_quiet (fail)))
  have O1 : Hid (((w.alloc (.cells #[] 3)).drewN nq).ownsRow w.heap.size 3 1 (.slice (some ⟨w.heap.size, 0, none⟩) 0 0) 0 []) := own_below O0.out (below_drewN (Below.refl _ _) _)
  have B1 : Hid (Below w.heap.size w ((w.alloc (.cells #[] 3)).drewN nq)) := below_drewN bl _
  have HS1 : Hid (((w.alloc (.cells #[] 3)).drewN nq).heap.size = w.heap.size + 1) := by show _ = _; simp
  clear c0 c1 c2 O0 bl
  generalize (w.alloc (.cells #[] 3)).drewN nq = W1 at *
  have S1 : W1.heap.size = w.heap.size + 1 := HS1.out
  have O2 : Hid ((W1.alloc (.cells #[] 3)).ownsRow W1.heap.size 3 1 (.slice (some ⟨w.heap.size + 1, 0, none⟩) 0 0) 0 (ils (bob (fun i => y (a + 3 + i))) 0)) := by rw [← S1]; exact own_empty W1 3 1
  have B2 : Hid (Below W1.heap.size W1 (W1.alloc (.cells #[] 3))) := below_one _ _
  generalize W1.alloc (.cells #[] 3) = W2 at *
  clear S1 HS1
  go_loopw [11, 12] (fun o i wr => ∃ k : Nat, i = .int .i64 ((8 * (a + 3) + k : Nat) : Int) ∧ k ≤ 8 * (n - (a + 3)) ∧ Hid (wr.ownsRow W1.heap.size 3 1 o k (ils (bob (fun i => y (a + 3 + i))) k) ∧ Below W1.heap.size W1 wr)) (fun _ i _ => 8 * n - (intOf i).toNat)
  case atStart => exact ⟨0, by first | rfl | (congr 1; done) | (congr 1; omega), by omega, O2.out, B2.out⟩
  case round =>
    obtain ⟨k, rfl, hk, hrel⟩ := hrel
    by_cases h1 : k < 8 * (n - (a + 3))
    · obtain ⟨I, hI⟩ : ∃ I : Nat, I = 8 * (a + 3) + k := ⟨_, rfl⟩
      rw [← hI]
      have HIK : Hid (I = 8 * (a + 3) + k) := hI
      have hI8 : I < 8 * n := by omega
      obtain ⟨J, hJ⟩ : ∃ J : Nat, J = I / 8 := ⟨_, rfl⟩
      obtain ⟨r, hr8⟩ : ∃ r : Nat, r = I % 8 := ⟨_, rfl⟩
      obtain ⟨q, hq⟩ : ∃ q : Nat, q = 7 - r := ⟨_, rfl⟩
      have hJn : J < n := by omega
      have f1 : (I : Int) / 8 = (J : Int) := by omega
      have f2 : (I : Int) % 8 = (r : Int) := by omega
      have f3 : (7 : Int) - (r : Int) = (q : Int) := by omega
      have f4 : (I : Int).tdiv 8 = (J : Int) := by rw [Int.tdiv_eq_ediv_of_nonneg (by omega)]; exact f1
      have f5 : (I : Int).tmod 8 = (r : Int) := by rw [Int.tmod_eq_emod_of_nonneg (by omega)]; exact f2
      obtain ⟨Y, hY⟩ : ∃ Y : Nat, y J = (Y : Int) := ⟨(y J).toNat, by have := HY.out J hJn; omega⟩
      have Y8 : Y < 256 := by have := HY.out J hJn; omega
      have c0 := ((bstep B1.out hrel.out.2).cell (p := ⟨b, off + J, none⟩) hlt).trans ((HCELL.out J hJn).trans (by rw [hY]))
      have HB : Hid (bob (fun i => y (a + 3 + i)) k = ((Y / 2 ^ q % 2 : Nat) : Int)) := by
        show bob (fun i => y (a + 3 + i)) k = _
        unfold bob
        show y (a + 3 + k / 8) / 2 ^ (7 - k % 8) % 2 = _
        rw [show a + 3 + k / 8 = J by omega, hY, show 7 - k % 8 = q by omega]
        simp
      obtain ⟨T, hT⟩ : ∃ T : Nat, T = Y / 2 ^ q % 2 := ⟨_, rfl⟩
      have f6 : (wrap64 ((Y : Int) / 2 ^ q)).tmod 2 = (T : Int) := by
        have l1 : Y / 2 ^ q ≤ Y := Nat.div_le_self _ _
        have l2 : (Y : Int) / 2 ^ q = ((Y / 2 ^ q : Nat) : Int) := by simp
        obtain ⟨E, hE⟩ : ∃ E : Nat, E = Y / 2 ^ q := ⟨_, rfl⟩
        rw [l2, hT, ← hE]
        rw [← hE] at l1
        rw [wrap64_id (by omega), Int.tmod_eq_emod_of_nonneg (by omega)]
        omega
      rw [← hT] at HB
      have hb5 := below_one wr (.cells #[.int .i64 (T : Int)] 3)
      have HO5 := own_below hrel.out.1 hb5
      have HB5 := bstep hrel.out.2 hb5
      clear hI hJ hr8 hq hI8 hY hT hrel hb5
      go_wp2_with (at_builtin; refine wpList_append_own _ rfl _ _ 24 rfl W1.heap.size 3 i0 (.int .i64 0) 1 8 Tryd.underlying24 hi hz0 hz1 hz2 rfl (by decide) _ _ _ rfl HO5 ⟨wr.heap.size, 0, none⟩ 1 1 [.int .i64 (T : Int)] rfl rfl (one_new _ _ _) (by simp [Value.oneCell']) (by unfold maxLen; omega) (by omega) HB5.size ?_)
      intro v' w4 hown' hgrow _
      have HB4 : Hid (Below W1.heap.size W1 w4) := grown_below HB5 (Nat.le_refl _) HO5 hgrow
      rw [← HB.out, ← ils_snoc] at hown'
      have HO4 : Hid (w4.ownsRow W1.heap.size 3 1 v' (k + 1) (ils (bob (fun i => y (a + 3 + i))) (k + 1))) := hown'
      clear hown' hgrow HO5 HB5 f3 f4 f5 f6
      go_wp2
      go_roundw
      case rel => exact ⟨k + 1, by have h9 := HIK.out; first | (congr 1; omega) | (simp; omega) | go_num, by omega, HO4.out, HB4.out⟩
      case measure => have h9 := HIK.out; simp [intOf]; omega
    · have hQ : k = 8 * (n - (a + 3)) := by omega
      rw [← hQ] at hr
      have hQ8 : k ≤ 8388608 := by omega
      have HQ : Hid (k = 8 * (n - (a + 3))) := hQ
      clear hQ
      have ho := hrel.out.1
      have B3 : Hid (Below W1.heap.size W1 wr) := hrel.out.2
      have HIL := il_of_own ho
      obtain ⟨ua, uc, rfl⟩ := own_slice3 ho
      clear hrel ho
      obtain ⟨hRl, ha8, _⟩ := rdn_told _ hr
      have i2 := sUnr_big (N := R.length) (ys := lf R) (c := (a' : Int)) (A := true) HIL hQ8 g2 g1 (fun R2 a2 h9 _ => by rw [hr] at h9; injection h9 with h9; injection h9 with f1 f2; subst f1 f2; exact ⟨rfl, rfl, rfl, rfl⟩) (fun h9 => absurd (fun i _ _ => bob_bit _ i) (h9 R a' hr))
      have hx8 : ¬ (((8 * (a + 3) + k : Nat) : Int) < 8 * (n : Int)) := by have := HQ.out; omega
      have hk9 : k ≤ 8 * n := by have := HQ.out; omega
      have ha9 : a' ≤ 8388608 := by omega
      obtain ⟨E8, hE8⟩ : ∃ E8 : Nat, E8 = (a' + 7) / 8 := ⟨_, rfl⟩
      have m1 : ((a' : Int) + 7) / 8 = (E8 : Int) := by omega
      have m2 : ((a' : Int) + 7).tdiv 8 = (E8 : Int) := by rw [Int.tdiv_eq_ediv_of_nonneg (by omega)]; exact m1
      have m3 : (a : Int) + 3 + (E8 : Int) = (en : Int) := by omega
      have HRL : Hid (R.length = mm) := hRl
      clear HIL hr hE8 hRl
      have hE6 : ¬ ((n : Int) - (en : Int) < 2) := by omega
      have hae : a + 3 ≤ en := by omega
      clear hE
      have cE := HCELL.out en (by omega)
      have cE1 := HCELL.out (en + 1) (by omega)
      rw [eY0] at cE
      rw [eY1] at cE1
      have CRC : Hid (∀ X, Below w.heap.size w X → Calls Tryd.prog 68 #[.slice (some ⟨b, off + a, none⟩) (en - a) (cap - a)] X fun e w' => e = .returned (.int .i64 (crv (en - a) (fun i => y (a + i)))) ∧ w' = X) := fun X hX => sCrc_any (n := en - a) ⟨_, _, rfl, by omega, fun _ => ⟨b, off + a, rfl, Nat.lt_of_lt_of_le hlt hX.size, fun i hi => by have := HCELL.out (a + i) (by omega); rw [show off + (a + i) = off + a + i by omega] at this; exact (hX.cell (p := ⟨b, off + a + i, none⟩) hlt).trans this⟩⟩ (fun i hi => HY.out (a + i) (by omega)) (by omega)
      obtain ⟨cc, hcc⟩ : ∃ cc, cc = crv (en - a) (fun i => y (a + i)) := ⟨_, rfl⟩
      rw [← hcc] at CRC hck
      have HE : Hid (w.cell? ⟨b, off + en, none⟩ = some (.int .u8 (Y0 : Int)) ∧ w.cell? ⟨b, off + (en + 1), none⟩ = some (.int .u8 (Y1 : Int))) := ⟨cE, cE1⟩
      clear hcc eY0 eY1 cE cE1
      go_upto_region 19 with (first | (go_at_call 28; (with_reducible refine i2.mono ?_); rintro e5 w5 ⟨u5, rfl, ho5, hb5⟩) | (go_quiet (fail)))
      have B5 : Hid (Below w.heap.size w w5) := bstep (bstep B1.out B3.out) hb5
      have ON5 : Hid (w5.ownsRow w.heap.size 3 1 (.slice (some ⟨w.heap.size, 0, none⟩) 0 0) 0 []) := own_below (own_below O1.out B3.out) hb5
      have c8 := (B5.out.cell (p := ⟨b, off + en, none⟩) hlt).trans HE.out.1
      have c9 := (B5.out.cell (p := ⟨b, off + (en + 1), none⟩) hlt).trans HE.out.2
      have HEQ : Hid (∀ (v7 : Value) (W X : World), Bl W v7 N2 ys → Below W.heap.size W X → Below w.heap.size w X → (convert 22 9 v7).run Tryd.prog X = .ok (.string (strOfNums ((List.range N2).map ys))) X ∧ (convert 22 9 (.slice (some ⟨b, off + a, none⟩) (en + 2 - a) (cap - a))).run Tryd.prog X = .ok (.string (strOfNums ((List.range (en + 2 - a)).map (fun i => y (a + i))))) X) := fun v7 W X h7 hX hw => ⟨bstr_any h7 X hX, bstr_any (w := w) (n := en + 2 - a) ⟨_, _, rfl, by omega, fun _ => ⟨b, off + a, rfl, hlt, fun i hi => by have := HCELL.out (a + i) (by omega); rw [show off + (a + i) = off + a + i by omega] at this; exact this⟩⟩ X hw⟩
      have HSE : Hid (((strOfNums ((List.range N2).map ys)).toList == (strOfNums ((List.range (en + 2 - a)).map (fun i => y (a + i)))).toList) = Eq) := by show _ = _; rw [hEq]; exact str_eq hy2 (fun i hi => HY.out (a + i) (by omega))
      have ILL : Hid (∀ X, Below w5.heap.size w5 X → Il X u5 R.length (lf R)) := fun X hX => (il_of_own ho5).below hX
      obtain ⟨S1, hS1⟩ : ∃ S1, S1 = strOfNums ((List.range N2).map ys) := ⟨_, rfl⟩
      obtain ⟨S2, hS2⟩ : ∃ S2, S2 = strOfNums ((List.range (en + 2 - a)).map (fun i => y (a + i))) := ⟨_, rfl⟩
      rw [← hS1, ← hS2] at HSE
      simp only [← hS1, ← hS2] at HEQ
      clear hS1 hS2
      obtain ⟨ra, rc, hu5⟩ := own_slice3 ho5
      subst hu5
      clear hb5 i2 hEq hy2 ho5
      have hne : cc = 256 * (Y0 : Int) + (Y1 : Int) := by omega
      clear hck
      refine wp_region_any (by kernel_rfl) ?_
      change wpAny _ _ _ _ _ _ _ (World.drew _)
      refine wpI_any (I := fun X => X.cell? ⟨b, off + en, none⟩ = some (.int .u8 (Y0 : Int)) ∧ X.cell? ⟨b, off + (en + 1), none⟩ = some (.int .u8 (Y1 : Int))) _ _ _ _ ?_
      refine wpI_take (i := 0) (v := ?_) rfl (by kernel_rfl) (by kernel_rfl) (by kernel_rfl) (fun _ _ _ h => h) ⟨by rfl, ?_⟩ ?_
      rotate_left
      · intro X hI; go_simp; try go_bits
        try rw [if_pos (by omega)]
        try with_reducible rfl
      refine wpI_take (i := 1) (v := ?_) rfl (by kernel_rfl) (by kernel_rfl) (by kernel_rfl) (fun _ _ _ h => h) ⟨by rfl, ?_⟩ ?_
      rotate_left
      · intro X hI; go_simp; try go_bits
        try rw [if_pos (by omega)]
        try with_reducible rfl
      refine wpI_take (i := 2) (v := ?_) rfl (by kernel_rfl) (by kernel_rfl) (by kernel_rfl) (fun _ _ _ h => h) ⟨by rfl, ?_⟩ ?_
      rotate_left
      · intro X hI; go_simp; try go_bits
        try rw [if_pos (by omega)]
        try with_reducible rfl
      refine wpI_take (i := 3) (v := .slice (some ⟨b, off + a, none⟩) (en - a) (cap - a)) rfl (by kernel_rfl) (by kernel_rfl) (by kernel_rfl) (fun _ _ _ h => h) ⟨by rfl, ?_⟩ ?_
      · intro X hI; go_simp
        try rw [if_pos (show en ≤ cap by omega)]
        try rw [if_pos (show a ≤ en by omega)]
        try rw [if_neg (show ¬ cap = a by omega)]
        try rfl
      refine wpI_take (i := 5) (v := ?_) rfl (by kernel_rfl) (by kernel_rfl) (by kernel_rfl) (fun _ _ _ h => h) ⟨by rfl, ?_⟩ ?_
      rotate_left
      · intro X hI; go_simp; try go_bits
        try rw [if_pos (by omega)]
        try with_reducible rfl
      refine wpI_take (i := 6) (v := ?_) rfl (by kernel_rfl) (by kernel_rfl) (by kernel_rfl) (fun _ _ _ h => h) ⟨by rfl, ?_⟩ ?_
      rotate_left
      · intro X hI; go_simp; try go_bits
        try rw [if_pos (by omega)]
        try with_reducible rfl
      refine wpI_take (i := 7) (v := ?_) rfl (by kernel_rfl) (by kernel_rfl) (by kernel_rfl) (fun _ _ _ h => h) ⟨by rfl, ?_⟩ ?_
      rotate_left
      · intro X hI; go_simp; try go_bits
        try rw [if_pos (by omega)]
        try with_reducible rfl
      refine wpI_take (i := 8) (v := ?_) rfl (by kernel_rfl) (by kernel_rfl) (by kernel_rfl) (fun _ _ _ h => h) ⟨by rfl, ?_⟩ ?_
      rotate_left
      · intro X hI; obtain ⟨q1, q2⟩ := hI; go_simp; try go_bits
        try rw [if_pos (by omega)]
        try with_reducible rfl
      refine wpI_take (i := 9) (v := ?_) rfl (by kernel_rfl) (by kernel_rfl) (by kernel_rfl) (fun _ _ _ h => h) ⟨by rfl, ?_⟩ ?_
      rotate_left
      · intro X hI; go_simp; try go_bits
        try rw [if_pos (by omega)]
        try with_reducible rfl
      refine wpI_take (i := 10) (v := ?_) rfl (by kernel_rfl) (by kernel_rfl) (by kernel_rfl) (fun _ _ _ h => h) ⟨by rfl, ?_⟩ ?_
      rotate_left
      · intro X hI; go_simp; try go_bits
        try rw [if_pos (by omega)]
        try with_reducible rfl
      refine wpI_take (i := 11) (v := ?_) rfl (by kernel_rfl) (by kernel_rfl) (by kernel_rfl) (fun _ _ _ h => h) ⟨by rfl, ?_⟩ ?_
      rotate_left
      · intro X hI; go_simp; try go_bits
        try rw [if_pos (by omega)]
        try with_reducible rfl
      refine wpI_take (i := 12) (v := ?_) rfl (by kernel_rfl) (by kernel_rfl) (by kernel_rfl) (fun _ _ _ h => h) ⟨by rfl, ?_⟩ ?_
      rotate_left
      · intro X hI; go_simp; try go_bits
        try rw [if_pos (by omega)]
        try with_reducible rfl
      refine wpI_take (i := 13) (v := ?_) rfl (by kernel_rfl) (by kernel_rfl) (by kernel_rfl) (fun _ _ _ h => h) ⟨by rfl, ?_⟩ ?_
      rotate_left
      · intro X hI; go_simp; try go_bits
        try rw [if_pos (by omega)]
        try with_reducible rfl
      refine wpI_take (i := 14) (v := ?_) rfl (by kernel_rfl) (by kernel_rfl) (by kernel_rfl) (fun _ _ _ h => h) ⟨by rfl, ?_⟩ ?_
      rotate_left
      · intro X hI; go_simp; try go_bits
        try rw [if_pos (by omega)]
        try with_reducible rfl
      refine wpI_take (i := 15) (v := ?_) rfl (by kernel_rfl) (by kernel_rfl) (by kernel_rfl) (fun _ _ _ h => h) ⟨by rfl, ?_⟩ ?_
      rotate_left
      · intro X hI; obtain ⟨q1, q2⟩ := hI; go_simp; try go_bits
        try rw [if_pos (by omega)]
        try with_reducible rfl
      refine wpI_take (i := 16) (v := ?_) rfl (by kernel_rfl) (by kernel_rfl) (by kernel_rfl) (fun _ _ _ h => h) ⟨by rfl, ?_⟩ ?_
      rotate_left
      · intro X hI; go_simp; try go_bits
        try rw [if_pos (by omega)]
        try with_reducible rfl
      refine wpI_take (i := 17) (v := ?_) rfl (by kernel_rfl) (by kernel_rfl) (by kernel_rfl) (fun _ _ _ h => h) ⟨by rfl, ?_⟩ ?_
      rotate_left
      · intro X hI; go_simp; try go_bits
        try rw [if_pos (by omega)]
        try with_reducible rfl
      refine wpI_only (i := 4) rfl (by kernel_rfl) ⟨c8, c9⟩ (by rfl) ?_
      intro K hK
      go_simp
      go_wp2_with (go_at_call 68; (with_reducible refine (CRC.out _ ?bel).mono ?_); (case bel => first | exact B5.out | exact B5.out.drew | exact B5.out.drew.drew); rintro e w' ⟨rfl, hw⟩; obtain rfl := hw.symm)
      refine wpI_take (i := 18) (v := .bool false) rfl (by kernel_rfl) (by kernel_rfl) (by kernel_rfl) (fun _ _ _ h => h) ⟨by rfl, ?_⟩ ?_
      · intro X hI; go_simp
        try exact hne
      refine wpI_done ⟨c8, c9⟩ (by kernel_rfl) ?_ _
      cases A
      · go_wp2_with (first
        | (go_at_call 71; (with_reducible refine (HU.out _ _ ?il).mono ?_); (case il => first | exact ILL.out _ (Below.refl _ _) | exact ILL.out _ (Below.refl _ _).drew | exact ILL.out _ (Below.refl _ _).drew.drew); rintro e W6 ⟨u6, rfl, ho6, hb6⟩; obtain ⟨a6, c6, h6⟩ := own_slice3 ho6; subst h6; have B6 : Hid (Below w.heap.size w W6) := bstep (by first | exact B5.out | exact B5.out.drew | exact B5.out.drew.drew) hb6; have O6 : Hid (W6.ownsRow w.heap.size 3 1 (.slice a6 N c6) N (ils zs N)) := own_base ho6 (by first | exact B5.out.size | exact B5.out.drew.size | exact B5.out.drew.drew.size); have ON6 : Hid (W6.ownsRow w.heap.size 3 1 (.slice (some ⟨w.heap.size, 0, none⟩) 0 0) 0 []) := own_below (by first | exact ON5.out | exact own_below ON5.out (Below.refl _ _).drew | exact own_below (own_below ON5.out (Below.refl _ _).drew) (Below.refl _ _).drew) hb6; clear ho6 hb6)
        | (go_at_call 26; (with_reducible refine (HP.out _ _ (il_of_own O6.out)).mono ?_); rintro e W7 ⟨u7, rfl, ho7, hb7⟩; have B7 : Hid (Below w.heap.size w W7) := bstep B6.out hb7; have O7 : Hid (W7.ownsRow w.heap.size 3 1 (.slice a6 N c6) N (ils zs N)) := own_below O6.out hb7; have ON7 : Hid (W7.ownsRow w.heap.size 3 1 (.slice (some ⟨w.heap.size, 0, none⟩) 0 0) 0 []) := own_below ON6.out hb7; have BL7 : Hid (Bl W7 u7 N2 ys) := bl_of_own ho7; obtain ⟨a7, c7, h7⟩ := own_slice5 ho7; subst h7; clear ho7 hb7))
        go_ret3
        obtain ⟨z1, z2, z3⟩ := HF.out (by simp)
        exact ⟨_, by rw [z2, z3]; rfl, by rw [z1]; exact ON6.out, B6.out⟩
      · go_upto_region 25 with (first
        | (go_at_call 71; (with_reducible refine (HU.out _ _ ?il).mono ?_); (case il => first | exact ILL.out _ (Below.refl _ _) | exact ILL.out _ (Below.refl _ _).drew | exact ILL.out _ (Below.refl _ _).drew.drew); rintro e W6 ⟨u6, rfl, ho6, hb6⟩; obtain ⟨a6, c6, h6⟩ := own_slice3 ho6; subst h6; have B6 : Hid (Below w.heap.size w W6) := bstep (by first | exact B5.out | exact B5.out.drew | exact B5.out.drew.drew) hb6; have O6 : Hid (W6.ownsRow w.heap.size 3 1 (.slice a6 N c6) N (ils zs N)) := own_base ho6 (by first | exact B5.out.size | exact B5.out.drew.size | exact B5.out.drew.drew.size); have ON6 : Hid (W6.ownsRow w.heap.size 3 1 (.slice (some ⟨w.heap.size, 0, none⟩) 0 0) 0 []) := own_below (by first | exact ON5.out | exact own_below ON5.out (Below.refl _ _).drew | exact own_below (own_below ON5.out (Below.refl _ _).drew) (Below.refl _ _).drew) hb6; clear ho6 hb6)
        | (go_at_call 26; (with_reducible refine (HP.out _ _ (il_of_own O6.out)).mono ?_); rintro e W7 ⟨u7, rfl, ho7, hb7⟩; have B7 : Hid (Below w.heap.size w W7) := bstep B6.out hb7; have O7 : Hid (W7.ownsRow w.heap.size 3 1 (.slice a6 N c6) N (ils zs N)) := own_below O6.out hb7; have ON7 : Hid (W7.ownsRow w.heap.size 3 1 (.slice (some ⟨w.heap.size, 0, none⟩) 0 0) 0 []) := own_below ON6.out hb7; have BL7 : Hid (Bl W7 u7 N2 ys) := bl_of_own ho7; obtain ⟨a7, c7, h7⟩ := own_slice5 ho7; subst h7; clear ho7 hb7))
        refine wp_region_any (by kernel_rfl) ?_
        change wpAny _ _ _ _ _ _ _ (World.drew _)
        refine wpI_any (I := fun X => Below W7.heap.size W7 X) _ _ _ _ ?_
        refine wpI_take (i := 0) (v := ?_) rfl (by kernel_rfl) (by kernel_rfl) (by kernel_rfl) (fun _ _ _ h => h) ⟨by rfl, ?_⟩ ?_
        rotate_left
        · intro X hI; go_simp; try go_bits
          try rw [if_pos (by omega)]
          try with_reducible rfl
        refine wpI_take (i := 1) (v := .string S1) rfl (by kernel_rfl) (by kernel_rfl) (by kernel_rfl) (fun _ _ _ h => h) ⟨by rfl, ?_⟩ ?_
        · intro X hI; have q9 := (HEQ.out _ W7 X BL7.out hI (bstep B7.out hI)).1; go_simp
        refine wpI_take (i := 2) (v := ?_) rfl (by kernel_rfl) (by kernel_rfl) (by kernel_rfl) (fun _ _ _ h => h) ⟨by rfl, ?_⟩ ?_
        rotate_left
        · intro X hI; go_simp; try go_bits
          try rw [if_pos (by omega)]
          try with_reducible rfl
        refine wpI_take (i := 3) (v := ?_) rfl (by kernel_rfl) (by kernel_rfl) (by kernel_rfl) (fun _ _ _ h => h) ⟨by rfl, ?_⟩ ?_
        rotate_left
        · intro X hI; go_simp; try go_bits
          try rw [if_pos (by omega)]
          try with_reducible rfl
        refine wpI_take (i := 4) (v := ?_) rfl (by kernel_rfl) (by kernel_rfl) (by kernel_rfl) (fun _ _ _ h => h) ⟨by rfl, ?_⟩ ?_
        rotate_left
        · intro X hI; go_simp; try go_bits
          try rw [if_pos (by omega)]
          try with_reducible rfl
        refine wpI_take (i := 5) (v := ?_) rfl (by kernel_rfl) (by kernel_rfl) (by kernel_rfl) (fun _ _ _ h => h) ⟨by rfl, ?_⟩ ?_
        rotate_left
        · intro X hI; go_simp; try go_bits
          try rw [if_pos (by omega)]
          try with_reducible rfl
        refine wpI_take (i := 6) (v := .slice (some ⟨b, off + a, none⟩) (en + 2 - a) (cap - a)) rfl (by kernel_rfl) (by kernel_rfl) (by kernel_rfl) (fun _ _ _ h => h) ⟨by rfl, ?_⟩ ?_
        · intro X hI; go_simp
          rw [if_pos (show 0 ≤ (en : Int) + 2 ∧ (en : Int) + 2 ≤ (cap : Int) by omega), if_pos (show a ≤ ((en : Int) + 2).toNat by omega), show ((en : Int) + 2).toNat = en + 2 by omega, if_neg (show ¬ cap = a by omega)]
        refine wpI_take (i := 7) (v := .string S2) rfl (by kernel_rfl) (by kernel_rfl) (by kernel_rfl) (fun _ _ _ h => h) ⟨by rfl, ?_⟩ ?_
        · intro X hI; have q9 := (HEQ.out _ W7 X BL7.out hI (bstep B7.out hI)).2; go_simp
        cases Eq
        · skip
          refine wpI_only (i := 8) rfl (by kernel_rfl) ((Below.refl _ _).drew) (by rfl) ?_
          intro K hK
          have q9 := HSE.out
          go_simp
          refine hK _ _ ?_
          clear hK K q9
          refine wpI_done ((Below.refl _ _).drew) (by kernel_rfl) ?_ _
          have ON8 : Hid (W7.drew.ownsRow w.heap.size 3 1 (.slice (some ⟨w.heap.size, 0, none⟩) 0 0) 0 []) := own_below ON7.out (Below.refl _ _).drew
          have O8 : Hid (W7.drew.ownsRow w.heap.size 3 1 (.slice a6 N c6) N (ils zs N)) := own_below O7.out (Below.refl _ _).drew
          have B8 : Hid (Below w.heap.size w W7.drew) := B7.out.drew
          clear HEQ HSE BL7 ON7 O7 B7 ON6 O6 B6 ON5 B5 HU HP ILL HE CRC HCELL HY HV O1 B1 B3 HRL HQ c8 c9
          clear hne m1 m2 m3 hx8 hk9 ha9 k1 k2 k3 k4 k5 hi hz0 hz1 hz2 hcap hlt g1 g2 g3 bY0 bY1 ha8 hE6
          go_wp2
          go_ret3
          obtain ⟨z1, z2, z3⟩ := HF.out (by simp)
          exact ⟨_, by rw [z2, z3]; rfl, by rw [z1]; exact ON8.out, B8.out⟩
        · skip
          refine wpI_only (i := 8) rfl (by kernel_rfl) ((Below.refl _ _).drew) (by rfl) ?_
          intro K hK
          have q9 := HSE.out
          go_simp
          refine hK _ _ ?_
          clear hK K q9
          refine wpI_done ((Below.refl _ _).drew) (by kernel_rfl) ?_ _
          have ON8 : Hid (W7.drew.ownsRow w.heap.size 3 1 (.slice (some ⟨w.heap.size, 0, none⟩) 0 0) 0 []) := own_below ON7.out (Below.refl _ _).drew
          have O8 : Hid (W7.drew.ownsRow w.heap.size 3 1 (.slice a6 N c6) N (ils zs N)) := own_below O7.out (Below.refl _ _).drew
          have B8 : Hid (Below w.heap.size w W7.drew) := B7.out.drew
          clear HEQ HSE BL7 ON7 O7 B7 ON6 O6 B6 ON5 B5 HU HP ILL HE CRC HCELL HY HV O1 B1 B3 HRL HQ c8 c9
          clear hne m1 m2 m3 hx8 hk9 ha9 k1 k2 k3 k4 k5 hi hz0 hz1 hz2 hcap hlt g1 g2 g3 bY0 bY1 ha8 hE6
          go_wp2
          go_ret3
          obtain ⟨z1, z4, z2, z3⟩ := HT.out (by first | rfl | trivial) (by first | rfl | trivial)
          exact ⟨_, by rw [z2, z3]; rfl, by rw [z1, z4]; exact O8.out, B8.out⟩
end Go.Proofs.YtndagpompioooaaDoor

namespace Go.Proofs.YtndagpompioooaaDoor
open Go.RowKit

/-- What UnGuess tells, on both sides. -/
theorem guess_both {n : Nat} {xs : Nat → Int} (h5 : n ≤ 512) {o : Nat} (ho : o ≤ 3) : ∃ (N : Nat) (zs : Nat → Int) (A : Bool), N ≤ 512 ∧ (∀ W u, Il W u n xs → Calls Tryd.prog 87 #[.int .i64 (o : Int), u] W fun e w' => Pst W w' e N zs A) ∧ ∀ W u, Il W u n xs → Calls Tryd.prog 71 #[.int .i64 (o : Int), u] W fun e w' => Pst W w' e N zs A := by
  by_cases h : Wth 10000000000 n xs
  · refine ⟨_, _, decide (∀ k, k < n → Smp (ugf o xs k)), ?_, fun W u hu => iUnG_good hu h5 h ho _ rfl _ rfl, fun W u hu => sUnG_good hu h5 h ho _ rfl _ rfl⟩
    split <;> omega
  · exact ⟨0, fun _ => 0, false, by omega, fun W u hu => iUnG_bad hu (by omega) (fun h9 => h h9.2.2) _, fun W u hu => sUnG_bad hu (by omega) (fun h9 => h h9.2.2) _⟩

theorem and_not {A ok E : Bool} (h : ¬ (A = true ∧ E = true)) : (A && ok && E) = false := by
  cases A <;> cases ok <;> cases E <;> first | rfl | exact absurd ⟨rfl, rfl⟩ h

theorem open_both {n : Nat} {y : Nat → Int} (hn : n ≤ 1048576) (hy : Byt n y) {at_ : Int} (hat : -9223372036854775808 ≤ at_ ∧ at_ ≤ 9223372036854775807) :
    ∃ (N : Nat) (ys : Nat → Int) (nx c : Int), N ≤ 1048576 ∧ (∀ W u, Eg W → Bl W u n y → Calls Tryd.prog 27 #[u, .int .i64 at_] W fun e w' => Pof W w' e N ys nx c) ∧ ∀ W u, Bl W u n y → Calls Tryd.prog 33 #[u, .int .i64 at_] W fun e w' => Pof W w' e N ys nx c := by
  by_cases h : 0 ≤ at_ ∧ at_ + 3 ≤ n
  rotate_left
  · refine ⟨0, fun _ => 0, at_, 1, by omega, fun W u hg hu => iOf_bad hg hu (fun X hX => ?_) _, fun W u hu => so_short hu hn hat h _⟩
    refine (rf_short (hu.below hX) hn hat h).mono ?_
    rintro e w' ⟨rfl, rfl⟩
    exact ⟨rfl, Below.refl _ _⟩
  obtain ⟨a, rfl⟩ : ∃ a : Nat, at_ = (a : Int) := ⟨at_.toNat, by omega⟩
  have ha : a + 3 ≤ n := by omega
  obtain ⟨X0, e0⟩ : ∃ X0 : Nat, y a = (X0 : Int) := ⟨(y a).toNat, by have := hy a (by omega); omega⟩
  obtain ⟨X1, e1⟩ : ∃ X1 : Nat, y (a + 1) = (X1 : Int) := ⟨(y (a + 1)).toNat, by have := hy (a + 1) (by omega); omega⟩
  obtain ⟨X2, e2⟩ : ∃ X2 : Nat, y (a + 2) = (X2 : Int) := ⟨(y (a + 2)).toNat, by have := hy (a + 2) (by omega); omega⟩
  have b0 : X0 < 256 := by have := hy a (by omega); omega
  have b1 : X1 < 256 := by have := hy (a + 1) (by omega); omega
  have b2 : X2 < 256 := by have := hy (a + 2) (by omega); omega
  by_cases hh : X0 = 70 ∧ X1 + 1 ≤ 128 ∧ X2 % 32 ≤ 30 ∧ X2 / 32 ≤ 3
  rotate_left
  · exact ⟨0, fun _ => 0, (a : Int), 2, by omega, fun W u hg hu => iOf_bad hg hu (fun X hX => rf_head (hu.below hX) hn ha e0 e1 e2 b0 b1 b2 hh) _, fun W u hu => so_head hu hn ha e0 e1 e2 b0 b1 b2 hh _⟩
  cases hr : rdn (bob (fun i => y (a + 3 + i))) (8 * (n - (a + 3))) (X2 % 32) (X1 + 1) with
  | none => exact ⟨0, fun _ => 0, (a : Int), 3, by omega, fun W u hg hu => iOf_bad hg hu (fun X hX => rf_bits (hu.below hX) hy hn ha e0 e1 e2 b0 b1 b2 hh hr) _, fun W u hu => so_bits hu hy hn ha e0 e1 e2 b0 b1 b2 hh hr _⟩
  | some z =>
    obtain ⟨R, a'⟩ := z
    obtain ⟨en, hE⟩ : ∃ en : Nat, en = a + 3 + (a' + 7) / 8 := ⟨_, rfl⟩
    by_cases hE5 : en + 2 ≤ n
    rotate_left
    · exact ⟨0, fun _ => 0, (a : Int), 1, by omega, fun W u hg hu => iOf_bad hg hu (fun X hX => rf_end (hu.below hX) hy hn ha e0 e1 e2 b0 b1 b2 hh hr (by omega)) _, fun W u hu => so_end hu hy hn ha e0 e1 e2 b0 b1 b2 hh hr hE hE5 _⟩
    obtain ⟨Y0, eY0⟩ : ∃ Y0 : Nat, y en = (Y0 : Int) := ⟨(y en).toNat, by have := hy en (by omega); omega⟩
    obtain ⟨Y1, eY1⟩ : ∃ Y1 : Nat, y (en + 1) = (Y1 : Int) := ⟨(y (en + 1)).toNat, by have := hy (en + 1) (by omega); omega⟩
    have bY0 : Y0 < 256 := by have := hy en (by omega); omega
    have bY1 : Y1 < 256 := by have := hy (en + 1) (by omega); omega
    by_cases hck : crv (en - a) (fun i => y (a + i)) = (Y0 : Int) * 256 + (Y1 : Int)
    rotate_left
    · exact ⟨0, fun _ => 0, (a : Int), 4, by omega, fun W u hg hu => iOf_bad hg hu (fun X hX => rf_check (hu.below hX) hy hn ha e0 e1 e2 b0 b1 b2 hh hr hE hE5 eY0 eY1 bY0 bY1 hck) _, fun W u hu => so_check hu hy hn ha e0 e1 e2 b0 b1 b2 hh hr hE hE5 eY0 eY1 bY0 bY1 hck _⟩
    have hRl := (rdn_told _ hr).1
    obtain ⟨N, zs, A, hN, hUi, hUs⟩ := guess_both (n := R.length) (xs := lf R) (by omega) hh.2.2.2
    obtain ⟨N2, ys, ok, hN2, hy2, hok, hPs, hPi⟩ := frame_any2 (n := N) (xs := zs) (by omega)
    obtain ⟨Eq, hEq⟩ : ∃ Eq : Bool, Eq = decide (N2 = en + 2 - a ∧ ∀ k, k < N2 → ys k = y (a + k)) := ⟨_, rfl⟩
    by_cases hc : A = true ∧ Eq = true
    · obtain ⟨hA, hQ⟩ := hc
      have hk : ok = true := by
        cases ok with
        | true => rfl
        | false =>
          have h0 := hok rfl
          rw [hQ] at hEq
          have h1 := of_decide_eq_true hEq.symm
          omega
      refine ⟨N, zs, (en : Int) + 2, 0, by omega, fun W u hg hu => iOf_ok hg hu (fun X hX => ?_), fun W u hu => so_last hu hy hn ha e0 e1 e2 b0 b1 b2 hh hr hE hE5 eY0 eY1 bY0 bY1 hck hUs hPs hy2 hEq (fun _ _ => ⟨rfl, rfl, rfl, rfl⟩) (fun h9 => absurd ⟨hA, hQ⟩ h9)⟩
      have := rf_last (hu.below hX) hy hn ha e0 e1 e2 b0 b1 b2 hh hr hE hE5 eY0 eY1 bY0 bY1 hck hUi hPi hy2 hEq
      rw [hA, hQ, hk] at this
      simpa using this
    · refine ⟨0, zs, (a : Int), 5, by omega, fun W u hg hu => iOf_bad hg hu (fun X hX => ?_) _, fun W u hu => so_last hu hy hn ha e0 e1 e2 b0 b1 b2 hh hr hE hE5 eY0 eY1 bY0 bY1 hck hUs hPs hy2 hEq (fun h1 h2 => absurd ⟨h1, h2⟩ hc) (fun _ => ⟨rfl, rfl, rfl⟩)⟩
      have := rf_last (hu.below hX) hy hn ha e0 e1 e2 b0 b1 b2 hh hr hE hE5 eY0 eY1 bY0 bY1 hck hUi hPi hy2 hEq
      have hf : (A && ok && Eq) = false := and_not hc
      rw [hf] at this
      simpa using this
end Go.Proofs.YtndagpompioooaaDoor

namespace Go.Proofs.YtndagpompioooaaDoor
open Go.RowKit

set_option maxHeartbeats 8000000 in
theorem wof_of {w : World} {v1 : Value} {n1 : Nat} {xs1 : Nat → Int} {at_ : Int} (hv1 : Bl w v1 n1 xs1) (hn1 : n1 ≤ 9223372036854775807) (N0 : Nat) (hN0 : N0 ≤ 1048576) (z0 : Nat → Int) (nx cc : Int)
    (hs : n1 ≤ 1048576 → ∀ W u1, Below w.heap.size w W → Bl W u1 n1 xs1 → Calls Tryd.prog 33 #[u1, .int .i64 at_] W fun e w' => Pof W w' e N0 z0 nx cc)
    (hi : n1 ≤ 1048576 → ∀ W u1, Below w.heap.size w W → Bl W u1 n1 xs1 → Calls Tryd.prog 27 #[u1, .int .i64 at_] W fun e w' => Pof W w' e N0 z0 nx cc) :
    Calls Tryd.prog 8 #[v1, .int .i64 at_] w fun e w' => e = .returned (.bool true) ∧ Below w.heap.size w w' := by
  rcases Nat.lt_or_ge 1048576 n1 with h1 | h1
  · obtain ⟨ao1, cap1, rfl, hcap1, hc1⟩ := hv1
    clear hc1 hs hi
    go_enter Tryd.func8, Tryd.ntmps8
    go_wp2
    go_ret
    exact ⟨rfl, Below.refl _ _⟩
  have FV1 : Hid (Bl w v1 n1 xs1) := hv1
  have HS : Hid (∀ W u1, Below w.heap.size w W → Bl W u1 n1 xs1 → Calls Tryd.prog 33 #[u1, .int .i64 at_] W fun e w' => Pof W w' e N0 z0 nx cc) := hs h1
  have HI : Hid (∀ W u1, Below w.heap.size w W → Bl W u1 n1 xs1 → Calls Tryd.prog 27 #[u1, .int .i64 at_] W fun e w' => Pof W w' e N0 z0 nx cc) := hi h1
  obtain ⟨ao1, cap1, rfl, hcap1, hc1⟩ := hv1
  clear hc1 hs hi
  have hcc : (cc != cc) = false := by simp
  have hnx : (nx != nx) = false := by simp
  go_enter Tryd.func8, Tryd.ntmps8
  go_wp2_with (first
    | (go_at_call 34; (fail_if_success have := M1); refine (bcopy_own FV1.out h1).mono ?_; rintro e W1 ⟨hb1, a1, rfl, hf1, ho1⟩; have M1 : Hid True := trivial; have B_1 : Hid (Below w.heap.size w W1) := hb1; have Oa1_1 : Hid (W1.ownsRow w.heap.size 5 1 a1 n1 (bls xs1 n1)) := ho1; clear hb1 ho1 hf1)
    | (go_at_call 33; have Z := M1; (fail_if_success have := M2); refine (HS.out _ _ B_1.out (bl_of_own Oa1_1.out)).mono ?_; rintro e W2 ⟨u0, rfl, hoa2, hb2⟩; have M2 : Hid True := trivial; have B_2 : Hid (Below w.heap.size w W2) := bstep B_1.out hb2; have Oa1_2 : Hid (W2.ownsRow w.heap.size 5 1 a1 n1 (bls xs1 n1)) := own_below Oa1_1.out hb2; have FW0_2 : Hid (Il W2 u0 N0 z0) := il_of_own hoa2; clear hb2 hoa2)
    | (go_at_call 34; have Z := M2; (fail_if_success have := M3); refine (bcopy_own (Bl.below FV1.out B_2.out) h1).mono ?_; rintro e W3 ⟨hb3, x1, rfl, hf3, ho3⟩; have M3 : Hid True := trivial; have B_3 : Hid (Below w.heap.size w W3) := bstep B_2.out hb3; have D_3 : Hid (Below W2.heap.size W2 W3) := hb3; have Ox1_3 : Hid (W3.ownsRow W2.heap.size 5 1 x1 n1 (bls xs1 n1)) := ho3; clear hb3 ho3 hf3)
    | (go_at_call 27; have Z := M3; (fail_if_success have := M4); refine (HI.out _ _ B_3.out (bl_of_own Ox1_3.out)).mono ?_; rintro e W4 ⟨g0, rfl, hoa4, hb4⟩; have M4 : Hid True := trivial; have B_4 : Hid (Below w.heap.size w W4) := bstep B_3.out hb4; have D_4 : Hid (Below W2.heap.size W2 W4) := bstep D_3.out hb4; have Ox1_4 : Hid (W4.ownsRow W2.heap.size 5 1 x1 n1 (bls xs1 n1)) := own_below Ox1_3.out hb4; have SG_4 : Hid (W3.heap.size ≤ W4.heap.size) := hb4.size; have OG0_4 : Hid (W4.ownsRow W3.heap.size 3 1 g0 N0 (ils z0 N0)) := hoa4; clear hb4 hoa4)
    | (go_at_call 30; have Z := M4; (fail_if_success have := M5); refine (eq_yes (il_of_own OG0_4.out) (Il.below FW0_2.out D_4.out) hN0).mono ?_; rintro e W5 ⟨rfl, hb5⟩; have M5 : Hid True := trivial; have B_5 : Hid (Below w.heap.size w W5) := bstep B_4.out hb5; have D_5 : Hid (Below W2.heap.size W2 W5) := bstep D_4.out hb5; have Ox1_5 : Hid (W5.ownsRow W2.heap.size 5 1 x1 n1 (bls xs1 n1)) := own_below Ox1_4.out hb5; have SG_5 : Hid (W3.heap.size ≤ W5.heap.size) := Nat.le_trans SG_4.out hb5.size; have OG0_5 : Hid (W5.ownsRow W3.heap.size 3 1 g0 N0 (ils z0 N0)) := own_below OG0_4.out hb5; clear hb5)
    | (go_at_call 34; have Z := M5; (fail_if_success have := M6); refine (bcopy_own (Bl.below FV1.out B_5.out) h1).mono ?_; rintro e W6 ⟨hb6, y1, rfl, hf6, ho6⟩; have M6 : Hid True := trivial; have B_6 : Hid (Below w.heap.size w W6) := bstep B_5.out hb6; have D_6 : Hid (Below W2.heap.size W2 W6) := bstep D_5.out hb6; have Ox1_6 : Hid (W6.ownsRow W2.heap.size 5 1 x1 n1 (bls xs1 n1)) := own_below Ox1_5.out hb6; have SG_6 : Hid (W3.heap.size ≤ W6.heap.size) := Nat.le_trans SG_5.out hb6.size; have OG0_6 : Hid (W6.ownsRow W3.heap.size 3 1 g0 N0 (ils z0 N0)) := own_below OG0_5.out hb6; have Oy1_6 : Hid (W6.ownsRow W5.heap.size 5 1 y1 n1 (bls xs1 n1)) := ho6; clear hb6 ho6 hf6)
    | (go_at_call 35; have Z := M6; (fail_if_success have := M7); refine (beq_yes (bl_of_own Ox1_6.out) (bl_of_own Oy1_6.out) h1).mono ?_; rintro e W7 ⟨rfl, hb7⟩; have M7 : Hid True := trivial; have B_7 : Hid (Below w.heap.size w W7) := bstep B_6.out hb7; have D_7 : Hid (Below W2.heap.size W2 W7) := bstep D_6.out hb7; have Ox1_7 : Hid (W7.ownsRow W2.heap.size 5 1 x1 n1 (bls xs1 n1)) := own_below Ox1_6.out hb7; have SG_7 : Hid (W3.heap.size ≤ W7.heap.size) := Nat.le_trans SG_6.out hb7.size; have OG0_7 : Hid (W7.ownsRow W3.heap.size 3 1 g0 N0 (ils z0 N0)) := own_below OG0_6.out hb7; have Oy1_7 : Hid (W7.ownsRow W5.heap.size 5 1 y1 n1 (bls xs1 n1)) := own_below Oy1_6.out hb7; clear hb7)
    | (go_at_call 36; have Z := M7; (fail_if_success have := M8); refine (markedB (K := 1) (B := W2.heap.size) (n := n1) (v := x1) (f := xs1) Ox1_7.out D_7.out.size h1 (by omega)).mono ?_; rintro e W8 ⟨rfl, _, gx8, hg8, hor8, hon8⟩; have M8 : Hid True := trivial; have B_8 : Hid (Below w.heap.size w W8) := Below.only B_7.out hon8 (Nat.le_trans B_2.out.size hg8); have D_8 : Hid (Below W2.heap.size W2 W8) := Below.only D_7.out hon8 (hg8); have SG_8 : Hid (W3.heap.size ≤ W8.heap.size) := Nat.le_trans SG_7.out hon8.size; have OG0_8 : Hid (W8.ownsRow W3.heap.size 3 1 g0 N0 (ils z0 N0)) := own_only2 OG0_7.out hon8 hor8 Ox1_3.out; clear hon8 hor8 hg8)
    | (go_at_call 30; have Z := M8; (fail_if_success have := M9); refine (eq_yes (il_of_own OG0_8.out) (Il.below FW0_2.out D_8.out) hN0).mono ?_; rintro e W9 ⟨rfl, hb9⟩; have M9 : Hid True := trivial; have B_9 : Hid (Below w.heap.size w W9) := bstep B_8.out hb9; have D_9 : Hid (Below W2.heap.size W2 W9) := bstep D_8.out hb9; have SG_9 : Hid (W3.heap.size ≤ W9.heap.size) := Nat.le_trans SG_8.out hb9.size; have OG0_9 : Hid (W9.ownsRow W3.heap.size 3 1 g0 N0 (ils z0 N0)) := own_below OG0_8.out hb9; clear hb9)
    | (go_at_call 31; have Z := M9; (fail_if_success have := M10); refine (markedF (K := 1) (B := W3.heap.size) (n := N0) (v := g0) (f := z0) OG0_9.out SG_9.out hN0 (by omega)).mono ?_; rintro e W10 ⟨rfl, hmk10, gx10, hg10, hor10, hon10⟩; have M10 : Hid True := trivial; have B_10 : Hid (Below w.heap.size w W10) := Below.only B_9.out hon10 (Nat.le_trans B_3.out.size hg10); have D_10 : Hid (Below W2.heap.size W2 W10) := Below.only D_9.out hon10 (Nat.le_trans D_3.out.size hg10); have SG_10 : Hid (W3.heap.size ≤ W10.heap.size) := Nat.le_trans SG_9.out hon10.size; have MG0_10 : Hid (W10.ownsRow W3.heap.size 3 1 g0 N0 (ils (mkF (1)) N0)) := hmk10; clear hon10 hor10 hg10)
    | (go_at_call 32; have Z := M10; (fail_if_success have := M11); refine (heldF (K := 1) MG0_10.out hN0 (by omega)).mono ?_; rintro e w' ⟨rfl, hw⟩; obtain rfl := hw.symm; have M11 : Hid True := trivial)
    | (go_at_call 34; have Z := M11; (fail_if_success have := M12); refine (bcopy_own (Bl.below FV1.out B_10.out) h1).mono ?_; rintro e W12 ⟨hb12, z1_, rfl, hf12, ho12⟩; have M12 : Hid True := trivial; have B_12 : Hid (Below w.heap.size w W12) := bstep B_10.out hb12; have D_12 : Hid (Below W2.heap.size W2 W12) := bstep D_10.out hb12; have SG_12 : Hid (W3.heap.size ≤ W12.heap.size) := Nat.le_trans SG_10.out hb12.size; have MG0_12 : Hid (W12.ownsRow W3.heap.size 3 1 g0 N0 (ils (mkF (1)) N0)) := own_below MG0_10.out hb12; have Oz1__12 : Hid (W12.ownsRow W10.heap.size 5 1 z1_ n1 (bls xs1 n1)) := ho12; clear hb12 ho12 hf12)
    | (go_at_call 27; have Z := M12; (fail_if_success have := M13); refine (HI.out _ _ B_12.out (bl_of_own Oz1__12.out)).mono ?_; rintro e W13 ⟨h0, rfl, hoa13, hb13⟩; have M13 : Hid True := trivial; have B_13 : Hid (Below w.heap.size w W13) := bstep B_12.out hb13; have D_13 : Hid (Below W2.heap.size W2 W13) := bstep D_12.out hb13; have SG_13 : Hid (W3.heap.size ≤ W13.heap.size) := Nat.le_trans SG_12.out hb13.size; have MG0_13 : Hid (W13.ownsRow W3.heap.size 3 1 g0 N0 (ils (mkF (1)) N0)) := own_below MG0_12.out hb13; have Oz1__13 : Hid (W13.ownsRow W10.heap.size 5 1 z1_ n1 (bls xs1 n1)) := own_below Oz1__12.out hb13; have OH0_13 : Hid (W13.ownsRow W12.heap.size 3 1 h0 N0 (ils z0 N0)) := hoa13; clear hb13 hoa13)
    | (go_at_call 30; have Z := M13; (fail_if_success have := M14); refine (eq_yes (il_of_own OH0_13.out) (Il.below FW0_2.out D_13.out) hN0).mono ?_; rintro e W14 ⟨rfl, hb14⟩; have M14 : Hid True := trivial; have B_14 : Hid (Below w.heap.size w W14) := bstep B_13.out hb14; have D_14 : Hid (Below W2.heap.size W2 W14) := bstep D_13.out hb14; have SG_14 : Hid (W3.heap.size ≤ W14.heap.size) := Nat.le_trans SG_13.out hb14.size; have MG0_14 : Hid (W14.ownsRow W3.heap.size 3 1 g0 N0 (ils (mkF (1)) N0)) := own_below MG0_13.out hb14; have Oz1__14 : Hid (W14.ownsRow W10.heap.size 5 1 z1_ n1 (bls xs1 n1)) := own_below Oz1__13.out hb14; have OH0_14 : Hid (W14.ownsRow W12.heap.size 3 1 h0 N0 (ils z0 N0)) := own_below OH0_13.out hb14; clear hb14)
    | (go_at_call 32; have Z := M14; (fail_if_success have := M15); refine (heldF (K := 1) MG0_14.out hN0 (by omega)).mono ?_; rintro e w' ⟨rfl, hw⟩; obtain rfl := hw.symm; have M15 : Hid True := trivial))
  go_ret
  exact ⟨rfl, B_14.out⟩

theorem walk_of {w : World} {v : Value} {n : Nat} {xs : Nat → Int} (hg : Eg w) (hv : Bl w v n xs) (hy : Byt n xs) (hn : n ≤ 9223372036854775807) (at_ : Int) (hat : -9223372036854775808 ≤ at_ ∧ at_ ≤ 9223372036854775807) : Calls Tryd.prog 8 #[v, .int .i64 at_] w fun e w' => e = .returned (.bool true) ∧ Below w.heap.size w w' := by
  have hE : ∀ W, Below w.heap.size w W → Eg W := fun W hW => keepc hW hg
  rcases Nat.lt_or_ge 1048576 n with h1 | h1
  · exact wof_of hv hn 0 (by omega) (fun _ => 0) 0 0 (fun h9 => by omega) (fun h9 => by omega)
  · obtain ⟨N, ys, nx, c, hN, hi, hs⟩ := open_both h1 hy hat
    exact wof_of hv hn N hN ys nx c (fun _ W u _ hu => hs W u hu) (fun _ W u hW hu => hi W u (hE W hW) hu)
end Go.Proofs.YtndagpompioooaaDoor
