/- ZH ZI ZJ ZK. -/
import Derived.Test.YtndagpompioooabDoorM5
import Derived.Test.YtndagpompioooabDoorUL
import Derived.Test.YtndagpompioooabDoorMK
namespace Go.Proofs.YtndagpompioooabDoor
open Go.RowKit

set_option maxRecDepth 20000 in
set_option maxHeartbeats 16000000 in
theorem sOA_good {w : World} {v : Value} {n : Nat} {y : Nat → Int} (hv : Bl w v n y) (hy : Byt n y) (hn : n ≤ 20000) : Calls Tryd.prog 6 #[v] w fun e w' => Poa w w' e (osm n y (oT n y)) (opl n y (oT n y)) (oC n y) := by
  have HV : Hid (Bl w v n y) := hv
  have HY : Hid (Byt n y) := hy
  skip
  have hs1 : (w.alloc (.cells #[] 3)).heap.size = w.heap.size + 1 := Array.size_push _
  have HS : Hid (((w.alloc (.cells #[] 3)).alloc (.cells #[] 3)).ownsRow w.heap.size 3 1 (.slice (some ⟨w.heap.size, 0, none⟩) 0 0) 0 []) := own_below (own_empty w 3 1) (below_one _ _)
  have HP : Hid (((w.alloc (.cells #[] 3)).alloc (.cells #[] 3)).ownsRow w.heap.size 3 1 (.slice (some ⟨w.heap.size + 1, 0, none⟩) 0 0) 0 []) := by
    have h9 := own_base (B' := w.heap.size) (own_empty (w.alloc (.cells #[] 3)) 3 1) (by omega)
    rw [hs1] at h9
    exact h9
  have HA : Hid (Apart (.slice (some ⟨w.heap.size, 0, none⟩) 0 0) (.slice (some ⟨w.heap.size + 1, 0, none⟩) 0 0)) := .inr (by simp [Value.ownBlock])
  have HB : Hid (Below w.heap.size w ((w.alloc (.cells #[] 3)).alloc (.cells #[] 3))) := bstep (below_one _ _) (below_one _ _)
  obtain ⟨T, hT⟩ : ∃ T, T = oT n y := ⟨_, rfl⟩
  obtain ⟨CC, hCC⟩ : ∃ CC, CC = oC n y := ⟨_, rfl⟩
  have HTC : Hid (otot n y 60 0 = (T, CC)) := by rw [hT, hCC]; rfl
  rw [← hT, ← hCC]
  have HOP : Hid (∀ a : Nat, a ≤ 20000 → ∀ W u, Bl W u n y → Calls Tryd.prog 18 #[u, .int .i64 (a : Int)] W fun e w' => Pof W w' e (opn n y a).1 (opn n y a).2.1 ((opn n y a).2.2.1 : Int) ((opn n y a).2.2.2 : Int)) := opn_s hn hy
  obtain ⟨ao, cap, rfl, hcap, hc⟩ := hv
  clear hc hy hT hCC 
  go_enter Tryd.func6, Tryd.ntmps6
  go_wp2
  generalize (w.alloc (.cells #[] 3)).alloc (.cells #[] 3) = W at *
  clear hs1
  go_loopw [5, 6, 7, 8, 9, 10] (fun sv pv av _ _ _ wr => ∃ (t a : Nat), av = .int .i64 (a : Int) ∧ t ≤ 60 ∧ a ≤ n ∧ Hid (a = oat n y t ∧ otot n y (60 - t) t = (T, CC)) ∧ Hid (wr.ownsRow w.heap.size 3 1 sv (osm n y t).length (ils (lf (osm n y t)) (osm n y t).length) ∧ wr.ownsRow w.heap.size 3 1 pv t (ils (lf (opl n y t)) t) ∧ Apart sv pv ∧ Below w.heap.size w wr)) (fun _ _ av _ _ _ _ => n - (intOf av).toNat)
  case atStart => exact ⟨0, 0, rfl, by omega, by omega, ⟨rfl, HTC.out⟩, HS.out, HP.out, HA.out, HB.out⟩
  case round =>
    clear HS HP HA HB
    obtain ⟨t, a, rfl, ht, ha, hta, hrel⟩ := hrel
    have HS : Hid _ := hrel.out.1
    have HP : Hid _ := hrel.out.2.1
    have HA : Hid (Apart _ _) := hrel.out.2.2.1
    have HB : Hid (Below w.heap.size w _) := hrel.out.2.2.2
    obtain ⟨qa, qc, hq9⟩ := own_slice3 HS.out
    subst hq9
    obtain ⟨pa, pc, hp9⟩ := own_slice3 HP.out
    subst hp9
    clear hrel
    have hol := opl_len n y
    by_cases hlt : a < n
    · by_cases h60 : t = 60
      · have HF : Hid (T = 60 ∧ CC = 5) := by
          have h9 := hta.out.2
          rw [h60] at h9
          rw [otot_form (by rw [← h60, ← hta.out.1]; exact hlt)] at h9
          injection h9 with h1 h2
          exact ⟨h1.symm, h2.symm⟩
        subst h60
        go_wp2
        go_ret3
        rw [HF.out.1, HF.out.2]
        exact ⟨_, _, rfl, HS.out, by rw [hol]; exact HP.out, HA.out, HB.out⟩
      · have h60' : t < 60 := by omega
        obtain ⟨Nf, hNf⟩ : ∃ Nf, Nf = (opn n y a).1 := ⟨_, rfl⟩
        obtain ⟨Yf, hYf⟩ : ∃ Yf, Yf = (opn n y a).2.1 := ⟨_, rfl⟩
        obtain ⟨X, hX⟩ : ∃ X, X = (opn n y a).2.2.1 := ⟨_, rfl⟩
        obtain ⟨C, hC⟩ : ∃ C, C = (opn n y a).2.2.2 := ⟨_, rfl⟩
        have HOA : Hid (∀ W u, Bl W u n y → Calls Tryd.prog 18 #[u, .int .i64 (a : Int)] W fun e w' => Pof W w' e Nf Yf (X : Int) (C : Int)) := by rw [hNf, hYf, hX, hC]; exact HOP.out a (by omega)
        have hml := osm_le (n := n) (y := y) t
        by_cases hc0 : C = 0
        · subst hc0
          obtain ⟨k1, k2, k3, k4⟩ := opn_yes hC.symm
          rw [← hX] at k1 k2
          rw [← hNf] at k3 k4
          have hN0 : 0 < Nf := by omega
          have HN : Hid (oat n y (t + 1) = X ∧ otot n y (60 - (t + 1)) (t + 1) = (T, CC) ∧ osm n y (t + 1) = osm n y t ++ (List.range Nf).map Yf ∧ opl n y (t + 1) = opl n y t ++ [(a : Int)]) := by
            obtain ⟨z1, z2⟩ := hta.out
            refine ⟨by rw [oat, ← z1, hX], ?_, by rw [osm, ← z1, hNf, hYf], by rw [opl, ← z1]⟩
            rw [← z2, show 60 - t = (60 - (t + 1)) + 1 by omega]
            rw [otot_step (by rw [← z1]; exact hlt) (by rw [← z1]; exact hC.symm)]
          clear k3 hNf hYf hX hC hta
          go_wp2_with (first
            | (go_at_call 18; refine (HOA.out _ _ (HV.out.below HB.out)).mono ?_; rintro e w2 ⟨x2, rfl, hown, hb⟩; obtain ⟨xa, xc, hx9⟩ := own_slice3 hown; subst hx9; have HX2 : Hid (Il w2 (.slice xa Nf xc) Nf Yf) := il_of_own hown; have HS2 : Hid _ := own_below HS.out hb; have HP2 : Hid _ := own_below HP.out hb; have HB2 : Hid (Below w.heap.size w w2) := bstep HB.out hb; clear hown hb)
            | (at_builtin; refine wpList_appj rfl _ _ rfl w.heap.size _ _ (osm n y t).length Nf _ Yf rfl rfl HS2.out HX2.out hN0 (by omega) HB2.out.size ?_; intro x3 w3 hown hgrow hblk; have HS3 : Hid (w3.ownsRow w.heap.size 3 1 x3 (osm n y (t + 1)).length (ils (lf (osm n y (t + 1))) (osm n y (t + 1)).length)) := (by rw [HN.out.2.2.1, List.length_append, List.length_map, List.length_range, ← il_cat]; exact hown); have HP3 : Hid _ := own_grown HP2.out hgrow (apart_symm HA.out); have HA3 : Hid (Apart _ x3) := apart_app HP2.out (apart_symm HA.out) hblk; have HB3 : Hid (Below w.heap.size w w3) := grown_below HB2.out (Nat.le_refl _) HS2.out hgrow; clear hown hgrow hblk)
            | (at_builtin; refine wpList_appj rfl _ _ rfl w.heap.size _ _ t 1 _ (fun _ => (a : Int)) rfl rfl (own_below HP3.out (below_one _ _)) (il_new _ _) (by omega) (by omega) (Nat.le_trans HB3.out.size (below_one _ _).size) ?_; intro x4 w4 hown hgrow hblk; have HP4 : Hid (w4.ownsRow w.heap.size 3 1 x4 (t + 1) (ils (lf (opl n y (t + 1))) (t + 1))) := (by have h9 := il_one (opl n y t) (a : Int); rw [hol] at h9; rw [HN.out.2.2.2, ← h9]; exact hown); have HS4 : Hid (w4.ownsRow w.heap.size 3 1 _ _ _) := own_grown (own_below HS3.out (below_one _ _)) hgrow (apart_symm HA3.out); have HA4 : Hid (Apart _ x4) := apart_app (own_below HS3.out (below_one _ _)) (apart_symm HA3.out) hblk; have HB4 : Hid (Below w.heap.size w w4) := grown_below (bstep HB3.out (below_one _ _)) (Nat.le_refl _) (own_below HP3.out (below_one _ _)) hgrow; clear hown hgrow hblk))
          go_roundw
          case rel => exact ⟨t + 1, X, rfl, by omega, by omega, ⟨HN.out.1.symm, HN.out.2.1⟩, HS4.out, HP4.out, HA4.out, HB4.out⟩
          case measure => simp [intOf]; omega
        · have hc1 : ¬ ((C : Int) = 0) := by omega
          have HF : Hid (T = t ∧ CC = C) := by
            obtain ⟨z1, z2⟩ := hta.out
            rw [show 60 - t = (60 - (t + 1)) + 1 by omega, otot_stop (by rw [← z1]; exact hlt) (by rw [← z1, ← hC]; exact hc0), ← z1, ← hC] at z2
            injection z2 with h1 h2
            exact ⟨h1.symm, h2.symm⟩
          clear hNf hYf hX hC hta
          go_wp2_with (first
            | (go_at_call 18; refine (HOA.out _ _ (HV.out.below HB.out)).mono ?_; rintro e w2 ⟨x2, rfl, hown, hb⟩; obtain ⟨xa, xc, hx9⟩ := own_slice3 hown; subst hx9; have HS2 : Hid _ := own_below HS.out hb; have HP2 : Hid _ := own_below HP.out hb; have HB2 : Hid (Below w.heap.size w w2) := bstep HB.out hb; clear hown hb))
          go_ret3
          rw [HF.out.1, HF.out.2]
          exact ⟨_, _, rfl, HS2.out, by rw [hol]; exact HP2.out, HA.out, HB2.out⟩
    · have HF : Hid (T = t ∧ CC = 0) := by
        obtain ⟨z1, z2⟩ := hta.out
        rw [otot_end (by rw [← z1]; exact hlt)] at z2
        injection z2 with h1 h2
        exact ⟨h1.symm, h2.symm⟩
      clear hta
      go_wp2
      go_ret3
      rw [HF.out.1, HF.out.2]
      exact ⟨_, _, rfl, HS.out, by rw [hol]; exact HP.out, HA.out, HB.out⟩
end Go.Proofs.YtndagpompioooabDoor

namespace Go.Proofs.YtndagpompioooabDoor
open Go.RowKit

set_option maxRecDepth 20000 in
set_option maxHeartbeats 16000000 in
theorem sMd_good {w : World} {v : Value} {n : Nat} {y : Nat → Int} (hv : Bl w v n y) (hy : Byt n y) (hn : n ≤ 20000) : Calls Tryd.prog 16 #[v] w fun e w' => Pmd w w' e (mnd n y n 0 0).1 (mnd n y n 0 0).2 := by
  have HV : Hid (Bl w v n y) := hv
  skip
  have OW : Hid ((w.alloc (.cells #[] 3)).ownsRow w.heap.size 3 1 (.slice (some ⟨w.heap.size, 0, none⟩) 0 0) 0 []) := own_empty w 3 1
  have BL : Hid (Below w.heap.size w (w.alloc (.cells #[] 3))) := below_one _ _
  obtain ⟨M, hM⟩ : ∃ M, M = mnd n y n 0 0 := ⟨_, rfl⟩
  have HM : Hid (mnd n y (n - 0) 0 0 = M) := hM.symm
  rw [← hM]
  have HOP : Hid (∀ a : Nat, a ≤ 20000 → ∀ W u, Bl W u n y → Calls Tryd.prog 18 #[u, .int .i64 (a : Int)] W fun e w' => Pof W w' e (opn n y a).1 (opn n y a).2.1 ((opn n y a).2.2.1 : Int) ((opn n y a).2.2.2 : Int)) := opn_s hn hy
  obtain ⟨ao, cap, rfl, hcap, hc⟩ := hv
  clear hc hy hM 
  go_enter Tryd.func16, Tryd.ntmps16
  go_wp2
  generalize w.alloc (.cells #[] 3) = W at *
  go_loopw [4, 5, 6, 7, 8, 9, 10] (fun sv lv kv av _ _ _ wr => ∃ (a l k : Nat) (R : List Int), av = .int .i64 (a : Int) ∧ lv = .int .i64 (l : Int) ∧ kv = .int .i64 (k : Int) ∧ a ≤ n ∧ l ≤ a ∧ k ≤ 60 ∧ R.length ≤ k * 128 ∧ Hid (M.1 = R ++ (mnd n y (n - a) a k).1 ∧ M.2 = l + (mnd n y (n - a) a k).2) ∧ Hid (wr.ownsRow w.heap.size 3 1 sv R.length (ils (lf R) R.length) ∧ Below w.heap.size w wr)) (fun sv lv kv av _ _ _ _ => n - (intOf av).toNat)
  case atStart => exact ⟨0, 0, 0, [], rfl, rfl, rfl, by omega, by omega, by omega, Nat.le_refl _, ⟨by rw [HM.out]; rfl, by rw [HM.out, Nat.zero_add]⟩, OW.out, BL.out⟩
  case round =>
    clear OW BL HM
    obtain ⟨a, l, k, R, rfl, rfl, rfl, ha, hla, hk, hR, hM, hrel⟩ := hrel
    have HS : Hid _ := hrel.out.1
    have HB : Hid (Below w.heap.size w _) := hrel.out.2
    obtain ⟨qa, qc, hq9⟩ := own_slice3 HS.out
    subst hq9
    clear hrel
    by_cases hlt : a < n
    · obtain ⟨Nf, hNf⟩ : ∃ Nf, Nf = (opn n y a).1 := ⟨_, rfl⟩
      obtain ⟨Yf, hYf⟩ : ∃ Yf, Yf = (opn n y a).2.1 := ⟨_, rfl⟩
      obtain ⟨X, hX⟩ : ∃ X, X = (opn n y a).2.2.1 := ⟨_, rfl⟩
      obtain ⟨C, hC⟩ : ∃ C, C = (opn n y a).2.2.2 := ⟨_, rfl⟩
      have HOA : Hid (∀ W u, Bl W u n y → Calls Tryd.prog 18 #[u, .int .i64 (a : Int)] W fun e w' => Pof W w' e Nf Yf (X : Int) (C : Int)) := by rw [hNf, hYf, hX, hC]; exact HOP.out a (by omega)
      by_cases hc0 : C = 0
      · subst hc0
        by_cases hk6 : k < 60
        · skip
          obtain ⟨k1, k2, k3, k4⟩ := opn_yes hC.symm
          rw [← hX] at k1 k2
          rw [← hNf] at k3 k4
          have hN0 : 0 < Nf := by omega
          have HN : Hid (M.1 = (R ++ (List.range Nf).map Yf) ++ (mnd n y (n - X) X (k + 1)).1 ∧ M.2 = l + (mnd n y (n - X) X (k + 1)).2) := by
            have h9 := hM.out
            rw [mnd_yes hlt hC.symm hk6, ← hNf, ← hYf, ← hX] at h9
            exact ⟨by rw [h9.1, List.append_assoc], h9.2⟩
          clear k3 hNf hYf hX hC hM
          go_wp2_with (first
            | (go_at_call 18; refine (HOA.out _ _ (HV.out.below HB.out)).mono ?_; rintro e w2 ⟨x2, rfl, hown, hb⟩; obtain ⟨xa, xc, hx9⟩ := own_slice3 hown; subst hx9; have HX2 : Hid (Il w2 (.slice xa Nf xc) Nf Yf) := il_of_own hown; have HS2 : Hid _ := own_below HS.out hb; have HB2 : Hid (Below w.heap.size w w2) := bstep HB.out hb; clear hown hb)
            | (at_builtin; refine wpList_appj rfl _ _ rfl w.heap.size _ _ R.length Nf _ Yf rfl rfl HS2.out HX2.out hN0 (by omega) HB2.out.size ?_; intro x3 w3 hown hgrow hblk; have HS3 : Hid (w3.ownsRow w.heap.size 3 1 x3 (R ++ (List.range Nf).map Yf).length (ils (lf (R ++ (List.range Nf).map Yf)) (R ++ (List.range Nf).map Yf).length)) := (by rw [List.length_append, List.length_map, List.length_range, ← il_cat]; exact hown); have HB3 : Hid (Below w.heap.size w w3) := grown_below HB2.out (Nat.le_refl _) HS2.out hgrow; clear hown hgrow hblk))
          go_roundw
          case rel => exact ⟨X, l, k + 1, R ++ (List.range Nf).map Yf, rfl, rfl, by go_num, by omega, by omega, by omega, by rw [List.length_append, List.length_map, List.length_range]; omega, HN.out, HS3.out, HB3.out⟩
          case measure => simp [intOf]; omega
        · skip
          have HN : Hid (M.1 = R ++ (mnd n y (n - (a + 1)) (a + 1) k).1 ∧ M.2 = (l + 1) + (mnd n y (n - (a + 1)) (a + 1) k).2) := by
            have h9 := hM.out
            rw [mnd_no hlt (fun h8 => hk6 h8.2)] at h9
            exact ⟨h9.1, by rw [h9.2]; show l + ((mnd n y (n - (a + 1)) (a + 1) k).2 + 1) = _; omega⟩
          clear hNf hYf hX hC hM
          go_wp2_with (first
            | (go_at_call 18; refine (HOA.out _ _ (HV.out.below HB.out)).mono ?_; rintro e w2 ⟨x2, rfl, hown, hb⟩; obtain ⟨xa, xc, hx9⟩ := own_slice3 hown; subst hx9; have HX2 : Hid (Il w2 (.slice xa Nf xc) Nf Yf) := il_of_own hown; have HS2 : Hid _ := own_below HS.out hb; have HB2 : Hid (Below w.heap.size w w2) := bstep HB.out hb; clear hown hb))
          go_roundw
          case rel => exact ⟨a + 1, l + 1, k, R, by go_num, by go_num, rfl, by omega, by omega, by omega, hR, HN.out, HS2.out, HB2.out⟩
          case measure => simp [intOf]; omega
      · have hc1 : ¬ ((C : Int) = 0) := by omega
        have HN : Hid (M.1 = R ++ (mnd n y (n - (a + 1)) (a + 1) k).1 ∧ M.2 = (l + 1) + (mnd n y (n - (a + 1)) (a + 1) k).2) := by
          have h9 := hM.out
          rw [mnd_no hlt (fun h8 => hc0 (by rw [hC]; exact h8.1))] at h9
          exact ⟨h9.1, by rw [h9.2]; show l + ((mnd n y (n - (a + 1)) (a + 1) k).2 + 1) = _; omega⟩
        clear hNf hYf hX hC hM
        go_wp2_with (first
          | (go_at_call 18; refine (HOA.out _ _ (HV.out.below HB.out)).mono ?_; rintro e w2 ⟨x2, rfl, hown, hb⟩; obtain ⟨xa, xc, hx9⟩ := own_slice3 hown; subst hx9; have HX2 : Hid (Il w2 (.slice xa Nf xc) Nf Yf) := il_of_own hown; have HS2 : Hid _ := own_below HS.out hb; have HB2 : Hid (Below w.heap.size w w2) := bstep HB.out hb; clear hown hb))
        go_roundw
        case rel => exact ⟨a + 1, l + 1, k, R, by go_num, by go_num, rfl, by omega, by omega, by omega, hR, HN.out, HS2.out, HB2.out⟩
        case measure => simp [intOf]; omega
    · have HF : Hid (M.1 = R ∧ M.2 = l) := by
        have h9 := hM.out
        rw [mnd_end hlt, List.append_nil] at h9
        exact h9
      clear hM
      go_wp2
      go_ret2
      rw [HF.out.1, HF.out.2]
      exact ⟨_, rfl, HS.out, HB.out⟩
end Go.Proofs.YtndagpompioooabDoor

namespace Go.Proofs.YtndagpompioooabDoor
open Go.RowKit

theorem sOA_big {w : World} {v : Value} {n : Nat} {y : Nat → Int} (hv : Bl w v n y) (hn : 20000 < n) : Calls Tryd.prog 6 #[v] w fun e w' => Poa w w' e [] [] 1 := by
  have e9 : decide ((20000 : Int) < (n : Int)) = true := decide_eq_true (by omega)
  have e8 : (20000 : Int) < (n : Int) := by omega
  obtain ⟨ao, cap, rfl, hcap, hc⟩ := hv
  clear hc hn
  have hs1 : (w.alloc (.cells #[] 3)).heap.size = w.heap.size + 1 := Array.size_push _
  have HS : Hid (((w.alloc (.cells #[] 3)).alloc (.cells #[] 3)).ownsRow w.heap.size 3 1 (.slice (some ⟨w.heap.size, 0, none⟩) 0 0) 0 []) := own_below (own_empty w 3 1) (below_one _ _)
  have HP : Hid (((w.alloc (.cells #[] 3)).alloc (.cells #[] 3)).ownsRow w.heap.size 3 1 (.slice (some ⟨w.heap.size + 1, 0, none⟩) 0 0) 0 []) := by
    have h9 := own_base (B' := w.heap.size) (own_empty (w.alloc (.cells #[] 3)) 3 1) (by omega)
    rw [hs1] at h9
    exact h9
  have HA : Hid (Apart (.slice (some ⟨w.heap.size, 0, none⟩) 0 0) (.slice (some ⟨w.heap.size + 1, 0, none⟩) 0 0)) := .inr (by simp [Value.ownBlock])
  have HB : Hid (Below w.heap.size w ((w.alloc (.cells #[] 3)).alloc (.cells #[] 3))) := bstep (below_one _ _) (below_one _ _)
  clear hs1
  go_enter Tryd.func6, Tryd.ntmps6
  go_wp2
  go_ret3
  exact ⟨_, _, rfl, HS.out, HP.out, HA.out, HB.out⟩

theorem sMd_big {w : World} {v : Value} {n : Nat} {y : Nat → Int} (hv : Bl w v n y) (hn : 20000 < n) : Calls Tryd.prog 16 #[v] w fun e w' => Pmd w w' e [] 0 := by
  have e9 : decide ((20000 : Int) < (n : Int)) = true := decide_eq_true (by omega)
  have e8 : (20000 : Int) < (n : Int) := by omega
  obtain ⟨ao, cap, rfl, hcap, hc⟩ := hv
  clear hc hn
  have OW : Hid ((w.alloc (.cells #[] 3)).ownsRow w.heap.size 3 1 (.slice (some ⟨w.heap.size, 0, none⟩) 0 0) 0 []) := own_empty w 3 1
  have BL : Hid (Below w.heap.size w (w.alloc (.cells #[] 3))) := below_one _ _
  go_enter Tryd.func16, Tryd.ntmps16
  go_wp2
  go_ret2
  exact ⟨_, rfl, OW.out, BL.out⟩

set_option maxRecDepth 20000 in
set_option maxHeartbeats 16000000 in
theorem sSk_good {w : World} {v : Value} {n : Nat} {y : Nat → Int} (hv : Bl w v n y) (hy : Byt n y) (hn : n ≤ 20000) {s pl ah : Int} (hyes : ∀ i, i < oT n y → (((osm n y i).length : Int) ≤ s ∧ s < ((osm n y (i + 1)).length : Int)) → pl = (oat n y i : Int) ∧ ah = ((osm n y i).length : Int)) (hno : (∀ i, i < oT n y → ¬ (((osm n y i).length : Int) ≤ s ∧ s < ((osm n y (i + 1)).length : Int))) → pl = -1 ∧ ah = 0) :
    Calls Tryd.prog 14 #[v, .int .i64 s] w fun e w' => e = .returned (.tuple #[.int .i64 pl, .int .i64 ah]) ∧ Below w.heap.size w w' := by
  have HV : Hid (Bl w v n y) := hv
  skip
  have HY : Hid (∀ i, i < oT n y → (((osm n y i).length : Int) ≤ s ∧ s < ((osm n y (i + 1)).length : Int)) → pl = (oat n y i : Int) ∧ ah = ((osm n y i).length : Int)) := hyes
  have HN : Hid ((∀ i, i < oT n y → ¬ (((osm n y i).length : Int) ≤ s ∧ s < ((osm n y (i + 1)).length : Int))) → pl = -1 ∧ ah = 0) := hno
  have HO : Hid (∀ W u, Bl W u n y → Calls Tryd.prog 6 #[u] W fun e w' => Poa W w' e (osm n y (oT n y)) (opl n y (oT n y)) (oC n y)) := fun W u hu => sOA_good hu hy hn
  have HT : Hid (∀ i, i < oT n y → oat n y i < n ∧ (opn n y (oat n y i)).2.2.2 = 0) := (oT_told n y).2.2
  have hT6 := (oT_told n y).1
  have HOP : Hid (∀ a : Nat, a ≤ 20000 → ∀ W u, Bl W u n y → Calls Tryd.prog 18 #[u, .int .i64 (a : Int)] W fun e w' => Pof W w' e (opn n y a).1 (opn n y a).2.1 ((opn n y a).2.2.1 : Int) ((opn n y a).2.2.2 : Int)) := opn_s hn hy
  have HBY : Hid (Byt n y) := hy
  obtain ⟨T, hT⟩ : ∃ T, T = oT n y := ⟨_, rfl⟩
  obtain ⟨CC, hCC⟩ : ∃ CC : Int, CC = (oC n y : Int) := ⟨_, rfl⟩
  obtain ⟨R, hR⟩ : ∃ R, R = osm n y (oT n y) := ⟨_, rfl⟩
  unfold Poa at HO
  rw [← hCC, ← hR] at HO
  rw [← hT] at HO HY HN HT hT6
  have hol := opl_len n y T
  rw [hol] at HO
  clear hyes hno hCC hR hol hT
  obtain ⟨ao, cap, rfl, hcap, hc⟩ := hv
  have HC : Hid (0 < n → ∃ b off, ao = some ⟨b, off, none⟩ ∧ b < w.heap.size ∧ ∀ k, k < n → w.cell? ⟨b, off + k, none⟩ = some (.int .u8 (y k))) := hc
  clear hc hy 
  go_enter Tryd.func14, Tryd.ntmps14
  go_wp2_with (first
    | (go_at_call 6; refine (HO.out _ _ HV.out).mono ?_; rintro e w1 ⟨xr, xp, rfl, ho1, ho2, _, hb⟩; obtain ⟨ra, rc, hr9⟩ := own_slice3 ho1; subst hr9; obtain ⟨pa, pc, hp9⟩ := own_slice3 ho2; subst hp9; have HP : Hid (w1.ownsRow w.heap.size 3 1 (.slice pa T pc) T (ils (lf (opl n y T)) T)) := ho2; have HB : Hid (Below w.heap.size w w1) := hb; clear ho1 ho2 hb))
  go_loopw [9, 10, 11, 12, 13] (fun av iv _ _ _ wr => ∃ q : Nat, iv = .int .i64 (q : Int) ∧ av = .int .i64 ((osm n y q).length : Int) ∧ q ≤ T ∧ Hid (∀ i, i < q → ¬ (((osm n y i).length : Int) ≤ s ∧ s < ((osm n y (i + 1)).length : Int))) ∧ Hid (wr.ownsRow w.heap.size 3 1 (.slice pa T pc) T (ils (lf (opl n y T)) T) ∧ Below w.heap.size w wr)) (fun av iv _ _ _ _ => T - (intOf iv).toNat)
  case atStart => exact ⟨0, rfl, rfl, by omega, fun i hi => absurd hi (Nat.not_lt_zero _), HP.out, HB.out⟩
  case round =>
    clear HP HB HO
    obtain ⟨q, rfl, rfl, hq, hnot, hrel⟩ := hrel
    have HP : Hid _ := hrel.out.1
    have HB : Hid (Below w.heap.size w _) := hrel.out.2
    by_cases h1 : q < T
    · obtain ⟨g, hg9⟩ : ∃ g, pa = some ⟨g, 0, none⟩ := by
        rcases HP.out.2 with ⟨_, h2⟩ | ⟨g, cap', cur, h2, _⟩
        · omega
        · injection h2 with h3
          exact ⟨g, h3⟩
      subst hg9
      have d0 := World.ownsRow.cellAt HP.out q (by omega)
      obtain ⟨a, ha⟩ : ∃ a, a = oat n y q := ⟨_, rfl⟩
      rw [ils_get h1, opl_at h1, ← ha] at d0
      obtain ⟨k0, kc⟩ := HT.out q h1
      rw [← ha] at k0 kc
      obtain ⟨k1, k2, k3, k4⟩ := opn_yes kc
      obtain ⟨m, hm⟩ : ∃ m : Nat, y (a + 1) = (m : Int) := ⟨(y (a + 1)).toNat, by have := HBY.out (a + 1) (by omega); omega⟩
      have hm8 : m < 256 := by have := HBY.out (a + 1) (by omega); omega
      have k3' : (opn n y a).1 = m + 1 := by rw [k3, hm]; omega
      obtain ⟨A, hA⟩ : ∃ A, A = (osm n y q).length := ⟨_, rfl⟩
      have hA2 : (osm n y (q + 1)).length = A + (m + 1) := by rw [osm_len, ← ha, k3', hA]
      have hAl : A ≤ 7680 := by have := osm_le (n := n) (y := y) q; omega
      have HYQ : Hid ((A : Int) ≤ s ∧ s < (A : Int) + (m : Int) + 1 → pl = (a : Int) ∧ ah = (A : Int)) := fun h9 => by
        have h8 := HY.out q h1 (by rw [hA2, ← hA]; omega)
        rw [← hA, ← ha] at h8
        exact h8
      have HNX : Hid (¬ ((A : Int) ≤ s ∧ s < (A : Int) + (m : Int) + 1) → ∀ i, i < q + 1 → ¬ (((osm n y i).length : Int) ≤ s ∧ s < ((osm n y (i + 1)).length : Int))) := fun h9 i hi => by
        by_cases h8 : i = q
        · subst h8
          rw [hA2, ← hA]
          omega
        · exact hnot.out i (by omega)
      have HX : Hid ((osm n y (q + 1)).length = A + (m + 1)) := hA2
      rw [← hA]
      have HA9 : Hid (A = (osm n y q).length) := hA
      obtain ⟨Nf, hNf⟩ : ∃ Nf, Nf = m + 1 := ⟨_, rfl⟩
      obtain ⟨Yf, hYf⟩ : ∃ Yf, Yf = (opn n y a).2.1 := ⟨_, rfl⟩
      obtain ⟨X, hX⟩ : ∃ X, X = (opn n y a).2.2.1 := ⟨_, rfl⟩
      have HOA : Hid (∀ W u, Bl W u n y → Calls Tryd.prog 18 #[u, .int .i64 (a : Int)] W fun e w' => Pof W w' e Nf Yf (X : Int) 0) := by
        have h9 := HOP.out a (by omega)
        rw [k3', kc, ← hNf, ← hYf, ← hX] at h9
        exact h9
      have e7 : (m : Int) + 1 = (Nf : Int) := by omega
      have hNm : Nf ≤ 256 := by omega
      simp only [Int.add_assoc, e7] at HYQ HNX
      clear hNf hYf hX
      have HX2 : Hid ((osm n y (q + 1)).length = A + Nf) := by show _ = _; rw [HX.out]; omega
      clear k3 k3' hA2 ha kc hA e7
      by_cases hin : (A : Int) ≤ s
      · by_cases hin2 : s < (A : Int) + (Nf : Int)
        · obtain ⟨e1, e2⟩ := HYQ.out ⟨hin, hin2⟩
          have HE : Hid (pl = (a : Int) ∧ ah = (A : Int)) := ⟨e1, e2⟩
          clear e1 e2 hnot hrel hm
          go_wp2_with (first
            | (go_at_call 18; refine (HOA.out _ _ (HV.out.below HB.out)).mono ?_; rintro e w2 ⟨x2, rfl, hown, hb⟩; obtain ⟨xa, xc, hx9⟩ := own_slice3 hown; subst hx9; have HP2 : Hid _ := own_below HP.out hb; have HB2 : Hid (Below w.heap.size w w2) := bstep HB.out hb; have d0b := keepc hb d0; clear hown hb)
            | (go_quiet (fail)))
          go_ret2
          rw [HE.out.1, HE.out.2]
          exact ⟨rfl, HB2.out⟩
        · have HN1 : Hid (∀ i, i < q + 1 → ¬ (((osm n y i).length : Int) ≤ s ∧ s < ((osm n y (i + 1)).length : Int))) := HNX.out (fun h9 => hin2 h9.2)
          clear hnot hrel hm
          go_wp2_with (first
            | (go_at_call 18; refine (HOA.out _ _ (HV.out.below HB.out)).mono ?_; rintro e w2 ⟨x2, rfl, hown, hb⟩; obtain ⟨xa, xc, hx9⟩ := own_slice3 hown; subst hx9; have HP2 : Hid _ := own_below HP.out hb; have HB2 : Hid (Below w.heap.size w w2) := bstep HB.out hb; have d0b := keepc hb d0; clear hown hb)
            | (go_quiet (fail)))
          go_roundw
          case rel => exact ⟨q + 1, by go_num, by rw [HX2.out]; go_num, by omega, HN1.out, HP2.out, HB2.out⟩
          case measure => simp [intOf]; omega
      · have HN1 : Hid (∀ i, i < q + 1 → ¬ (((osm n y i).length : Int) ≤ s ∧ s < ((osm n y (i + 1)).length : Int))) := HNX.out (fun h9 => hin h9.1)
        clear hnot hrel hm
        go_wp2_with (first
          | (go_at_call 18; refine (HOA.out _ _ (HV.out.below HB.out)).mono ?_; rintro e w2 ⟨x2, rfl, hown, hb⟩; obtain ⟨xa, xc, hx9⟩ := own_slice3 hown; subst hx9; have HP2 : Hid _ := own_below HP.out hb; have HB2 : Hid (Below w.heap.size w w2) := bstep HB.out hb; have d0b := keepc hb d0; clear hown hb)
          | (go_quiet (fail)))
        go_roundw
        case rel => exact ⟨q + 1, by go_num, by rw [HX2.out]; go_num, by omega, HN1.out, HP2.out, HB2.out⟩
        case measure => simp [intOf]; omega
    · obtain rfl : q = T := by omega
      obtain ⟨e1, e2⟩ := HN.out hnot.out
      have HE : Hid (pl = -1 ∧ ah = 0) := ⟨e1, e2⟩
      clear e1 e2 hnot hrel
      go_wp2_with (first | (go_quiet (fail)))
      go_ret2
      rw [HE.out.1, HE.out.2]
      exact ⟨rfl, HB.out⟩

theorem sSk_big {w : World} {v : Value} {n : Nat} {y : Nat → Int} (hv : Bl w v n y) (hn : 20000 < n) (s : Int) : Calls Tryd.prog 14 #[v, .int .i64 s] w fun e w' => e = .returned (.tuple #[.int .i64 (-1), .int .i64 0]) ∧ Below w.heap.size w w' := by
  have HO : Hid (Calls Tryd.prog 6 #[v] w fun e w' => Poa w w' e [] [] 1) := sOA_big hv hn
  obtain ⟨ao, cap, rfl, hcap, hc⟩ := hv
  clear hc hn
  go_enter Tryd.func14, Tryd.ntmps14
  go_wp2_with (first
    | (go_at_call 6; refine HO.out.mono ?_; rintro e w1 ⟨xr, xp, rfl, ho1, ho2, _, hb⟩; obtain ⟨ra, rc, hr9⟩ := own_slice3 ho1; subst hr9; obtain ⟨pa, pc, hp9⟩ := own_slice3 ho2; subst hp9; have HB : Hid (Below w.heap.size w w1) := hb; clear ho1 ho2 hb))
  go_loopw [9, 10, 11, 12, 13] (fun av iv _ _ _ wr => iv = .int .i64 0 ∧ wr = w1) (fun av iv _ _ _ _ => 0)
  case atStart => exact ⟨rfl, rfl⟩
  case round =>
    obtain ⟨rfl, rfl⟩ := hrel
    go_wp2
    go_ret2
    exact ⟨rfl, HB.out⟩
end Go.Proofs.YtndagpompioooabDoor

namespace Go.Proofs.YtndagpompioooabDoor
open Go.RowKit

set_option maxHeartbeats 8000000 in
theorem woa_of {w : World} {v1 : Value} {n1 : Nat} {xs1 : Nat → Int}  (hv1 : Bl w v1 n1 xs1) (hn1 : n1 ≤ 9223372036854775807) (N0 : Nat) (hN0 : N0 ≤ 1048576) (z0 : Nat → Int) (N1 : Nat) (hN1 : N1 ≤ 1048576) (z1 : Nat → Int) (cc : Int)
    (hs : n1 ≤ 1048576 → ∀ W u1, Below w.heap.size w W → Bl W u1 n1 xs1 → Calls Tryd.prog 6 #[u1] W fun e w' => Pob W w' e N0 z0 N1 z1 cc)
    (hi : n1 ≤ 1048576 → ∀ W u1, Below w.heap.size w W → Bl W u1 n1 xs1 → Calls Tryd.prog 8 #[u1] W fun e w' => Pob W w' e N0 z0 N1 z1 cc) :
    Calls Tryd.prog 3 #[v1] w fun e w' => e = .returned (.bool true) ∧ Below w.heap.size w w' := by
  rcases Nat.lt_or_ge 1048576 n1 with h1 | h1
  · obtain ⟨ao1, cap1, rfl, hcap1, hc1⟩ := hv1
    clear hc1 hs hi
    go_enter Tryd.func3, Tryd.ntmps3
    go_wp2
    go_ret
    exact ⟨rfl, Below.refl _ _⟩
  have FV1 : Hid (Bl w v1 n1 xs1) := hv1
  have HS : Hid (∀ W u1, Below w.heap.size w W → Bl W u1 n1 xs1 → Calls Tryd.prog 6 #[u1] W fun e w' => Pob W w' e N0 z0 N1 z1 cc) := hs h1
  have HI : Hid (∀ W u1, Below w.heap.size w W → Bl W u1 n1 xs1 → Calls Tryd.prog 8 #[u1] W fun e w' => Pob W w' e N0 z0 N1 z1 cc) := hi h1
  obtain ⟨ao1, cap1, rfl, hcap1, hc1⟩ := hv1
  clear hc1 hs hi
  have hcc : (cc != cc) = false := by simp
  go_enter Tryd.func3, Tryd.ntmps3
  go_wp2_with (first
    | (go_at_call 7; (fail_if_success have := M1); refine (bcopy_own FV1.out h1).mono ?_; rintro e W1 ⟨hb1, a1, rfl, hf1, ho1⟩; have M1 : Hid True := trivial; have B_1 : Hid (Below w.heap.size w W1) := hb1; have Oa1_1 : Hid (W1.ownsRow w.heap.size 5 1 a1 n1 (bls xs1 n1)) := ho1; clear hb1 ho1 hf1)
    | (go_at_call 6; have Z := M1; (fail_if_success have := M2); refine (HS.out _ _ B_1.out (bl_of_own Oa1_1.out)).mono ?_; rintro e W2 ⟨u0, u1, rfl, hoa2, hob2, hap2, hb2⟩; have M2 : Hid True := trivial; have B_2 : Hid (Below w.heap.size w W2) := bstep B_1.out hb2; have Oa1_2 : Hid (W2.ownsRow w.heap.size 5 1 a1 n1 (bls xs1 n1)) := own_below Oa1_1.out hb2; have FW0_2 : Hid (Il W2 u0 N0 z0) := il_of_own hoa2; have FW1_2 : Hid (Il W2 u1 N1 z1) := il_of_own hob2; clear hb2 hoa2 hob2 hap2)
    | (go_at_call 7; have Z := M2; (fail_if_success have := M3); refine (bcopy_own (Bl.below FV1.out B_2.out) h1).mono ?_; rintro e W3 ⟨hb3, x1, rfl, hf3, ho3⟩; have M3 : Hid True := trivial; have B_3 : Hid (Below w.heap.size w W3) := bstep B_2.out hb3; have D_3 : Hid (Below W2.heap.size W2 W3) := hb3; have Ox1_3 : Hid (W3.ownsRow W2.heap.size 5 1 x1 n1 (bls xs1 n1)) := ho3; clear hb3 ho3 hf3)
    | (go_at_call 8; have Z := M3; (fail_if_success have := M4); refine (HI.out _ _ B_3.out (bl_of_own Ox1_3.out)).mono ?_; rintro e W4 ⟨g0, g1, rfl, hoa4, hob4, hap4, hb4⟩; have M4 : Hid True := trivial; have B_4 : Hid (Below w.heap.size w W4) := bstep B_3.out hb4; have D_4 : Hid (Below W2.heap.size W2 W4) := bstep D_3.out hb4; have Ox1_4 : Hid (W4.ownsRow W2.heap.size 5 1 x1 n1 (bls xs1 n1)) := own_below Ox1_3.out hb4; have SG_4 : Hid (W3.heap.size ≤ W4.heap.size) := hb4.size; have OG0_4 : Hid (W4.ownsRow W3.heap.size 3 1 g0 N0 (ils z0 N0)) := hoa4; have OG1_4 : Hid (W4.ownsRow W3.heap.size 3 1 g1 N1 (ils z1 N1)) := hob4; have AG_4 : Hid (Apart g0 g1) := hap4; clear hb4 hoa4 hob4 hap4)
    | (go_at_call 9; have Z := M4; (fail_if_success have := M5); refine (eq_yes (il_of_own OG0_4.out) (Il.below FW0_2.out D_4.out) hN0).mono ?_; rintro e W5 ⟨rfl, hb5⟩; have M5 : Hid True := trivial; have B_5 : Hid (Below w.heap.size w W5) := bstep B_4.out hb5; have D_5 : Hid (Below W2.heap.size W2 W5) := bstep D_4.out hb5; have Ox1_5 : Hid (W5.ownsRow W2.heap.size 5 1 x1 n1 (bls xs1 n1)) := own_below Ox1_4.out hb5; have SG_5 : Hid (W3.heap.size ≤ W5.heap.size) := Nat.le_trans SG_4.out hb5.size; have OG0_5 : Hid (W5.ownsRow W3.heap.size 3 1 g0 N0 (ils z0 N0)) := own_below OG0_4.out hb5; have OG1_5 : Hid (W5.ownsRow W3.heap.size 3 1 g1 N1 (ils z1 N1)) := own_below OG1_4.out hb5; clear hb5)
    | (go_at_call 9; have Z := M5; (fail_if_success have := M6); refine (eq_yes (il_of_own OG1_5.out) (Il.below FW1_2.out D_5.out) hN1).mono ?_; rintro e W6 ⟨rfl, hb6⟩; have M6 : Hid True := trivial; have B_6 : Hid (Below w.heap.size w W6) := bstep B_5.out hb6; have D_6 : Hid (Below W2.heap.size W2 W6) := bstep D_5.out hb6; have Ox1_6 : Hid (W6.ownsRow W2.heap.size 5 1 x1 n1 (bls xs1 n1)) := own_below Ox1_5.out hb6; have SG_6 : Hid (W3.heap.size ≤ W6.heap.size) := Nat.le_trans SG_5.out hb6.size; have OG0_6 : Hid (W6.ownsRow W3.heap.size 3 1 g0 N0 (ils z0 N0)) := own_below OG0_5.out hb6; have OG1_6 : Hid (W6.ownsRow W3.heap.size 3 1 g1 N1 (ils z1 N1)) := own_below OG1_5.out hb6; clear hb6)
    | (go_at_call 7; have Z := M6; (fail_if_success have := M7); refine (bcopy_own (Bl.below FV1.out B_6.out) h1).mono ?_; rintro e W7 ⟨hb7, y1, rfl, hf7, ho7⟩; have M7 : Hid True := trivial; have B_7 : Hid (Below w.heap.size w W7) := bstep B_6.out hb7; have D_7 : Hid (Below W2.heap.size W2 W7) := bstep D_6.out hb7; have Ox1_7 : Hid (W7.ownsRow W2.heap.size 5 1 x1 n1 (bls xs1 n1)) := own_below Ox1_6.out hb7; have SG_7 : Hid (W3.heap.size ≤ W7.heap.size) := Nat.le_trans SG_6.out hb7.size; have OG0_7 : Hid (W7.ownsRow W3.heap.size 3 1 g0 N0 (ils z0 N0)) := own_below OG0_6.out hb7; have OG1_7 : Hid (W7.ownsRow W3.heap.size 3 1 g1 N1 (ils z1 N1)) := own_below OG1_6.out hb7; have Oy1_7 : Hid (W7.ownsRow W6.heap.size 5 1 y1 n1 (bls xs1 n1)) := ho7; clear hb7 ho7 hf7)
    | (go_at_call 10; have Z := M7; (fail_if_success have := M8); refine (beq_yes (bl_of_own Ox1_7.out) (bl_of_own Oy1_7.out) h1).mono ?_; rintro e W8 ⟨rfl, hb8⟩; have M8 : Hid True := trivial; have B_8 : Hid (Below w.heap.size w W8) := bstep B_7.out hb8; have D_8 : Hid (Below W2.heap.size W2 W8) := bstep D_7.out hb8; have Ox1_8 : Hid (W8.ownsRow W2.heap.size 5 1 x1 n1 (bls xs1 n1)) := own_below Ox1_7.out hb8; have SG_8 : Hid (W3.heap.size ≤ W8.heap.size) := Nat.le_trans SG_7.out hb8.size; have OG0_8 : Hid (W8.ownsRow W3.heap.size 3 1 g0 N0 (ils z0 N0)) := own_below OG0_7.out hb8; have OG1_8 : Hid (W8.ownsRow W3.heap.size 3 1 g1 N1 (ils z1 N1)) := own_below OG1_7.out hb8; have Oy1_8 : Hid (W8.ownsRow W6.heap.size 5 1 y1 n1 (bls xs1 n1)) := own_below Oy1_7.out hb8; clear hb8)
    | (go_at_call 11; have Z := M8; (fail_if_success have := M9); refine (markedB (K := 1) (B := W2.heap.size) (n := n1) (v := x1) (f := xs1) Ox1_8.out D_8.out.size h1 (by omega)).mono ?_; rintro e W9 ⟨rfl, _, gx9, hg9, hor9, hon9⟩; have M9 : Hid True := trivial; have B_9 : Hid (Below w.heap.size w W9) := Below.only B_8.out hon9 (Nat.le_trans B_2.out.size hg9); have D_9 : Hid (Below W2.heap.size W2 W9) := Below.only D_8.out hon9 (hg9); have SG_9 : Hid (W3.heap.size ≤ W9.heap.size) := Nat.le_trans SG_8.out hon9.size; have OG0_9 : Hid (W9.ownsRow W3.heap.size 3 1 g0 N0 (ils z0 N0)) := own_only2 OG0_8.out hon9 hor9 Ox1_3.out; have OG1_9 : Hid (W9.ownsRow W3.heap.size 3 1 g1 N1 (ils z1 N1)) := own_only2 OG1_8.out hon9 hor9 Ox1_3.out; clear hon9 hor9 hg9)
    | (go_at_call 9; have Z := M9; (fail_if_success have := M10); refine (eq_yes (il_of_own OG0_9.out) (Il.below FW0_2.out D_9.out) hN0).mono ?_; rintro e W10 ⟨rfl, hb10⟩; have M10 : Hid True := trivial; have B_10 : Hid (Below w.heap.size w W10) := bstep B_9.out hb10; have D_10 : Hid (Below W2.heap.size W2 W10) := bstep D_9.out hb10; have SG_10 : Hid (W3.heap.size ≤ W10.heap.size) := Nat.le_trans SG_9.out hb10.size; have OG0_10 : Hid (W10.ownsRow W3.heap.size 3 1 g0 N0 (ils z0 N0)) := own_below OG0_9.out hb10; have OG1_10 : Hid (W10.ownsRow W3.heap.size 3 1 g1 N1 (ils z1 N1)) := own_below OG1_9.out hb10; clear hb10)
    | (go_at_call 9; have Z := M10; (fail_if_success have := M11); refine (eq_yes (il_of_own OG1_10.out) (Il.below FW1_2.out D_10.out) hN1).mono ?_; rintro e W11 ⟨rfl, hb11⟩; have M11 : Hid True := trivial; have B_11 : Hid (Below w.heap.size w W11) := bstep B_10.out hb11; have D_11 : Hid (Below W2.heap.size W2 W11) := bstep D_10.out hb11; have SG_11 : Hid (W3.heap.size ≤ W11.heap.size) := Nat.le_trans SG_10.out hb11.size; have OG0_11 : Hid (W11.ownsRow W3.heap.size 3 1 g0 N0 (ils z0 N0)) := own_below OG0_10.out hb11; have OG1_11 : Hid (W11.ownsRow W3.heap.size 3 1 g1 N1 (ils z1 N1)) := own_below OG1_10.out hb11; clear hb11)
    | (go_at_call 12; have Z := M11; (fail_if_success have := M12); refine (markedF (K := 1) (B := W3.heap.size) (n := N0) (v := g0) (f := z0) OG0_11.out SG_11.out hN0 (by omega)).mono ?_; rintro e W12 ⟨rfl, hmk12, gx12, hg12, hor12, hon12⟩; have M12 : Hid True := trivial; have B_12 : Hid (Below w.heap.size w W12) := Below.only B_11.out hon12 (Nat.le_trans B_3.out.size hg12); have D_12 : Hid (Below W2.heap.size W2 W12) := Below.only D_11.out hon12 (Nat.le_trans D_3.out.size hg12); have SG_12 : Hid (W3.heap.size ≤ W12.heap.size) := Nat.le_trans SG_11.out hon12.size; have OG1_12 : Hid (W12.ownsRow W3.heap.size 3 1 g1 N1 (ils z1 N1)) := own_apart OG1_11.out hon12 hor12 (apart_symm AG_4.out); have MG0_12 : Hid (W12.ownsRow W3.heap.size 3 1 g0 N0 (ils (mkF (1)) N0)) := hmk12; clear hon12 hor12 hg12)
    | (go_at_call 12; have Z := M12; (fail_if_success have := M13); refine (markedF (K := 1 + (N0 : Int)) (B := W3.heap.size) (n := N1) (v := g1) (f := z1) OG1_12.out SG_12.out hN1 (by omega)).mono ?_; rintro e W13 ⟨rfl, hmk13, gx13, hg13, hor13, hon13⟩; have M13 : Hid True := trivial; have B_13 : Hid (Below w.heap.size w W13) := Below.only B_12.out hon13 (Nat.le_trans B_3.out.size hg13); have D_13 : Hid (Below W2.heap.size W2 W13) := Below.only D_12.out hon13 (Nat.le_trans D_3.out.size hg13); have SG_13 : Hid (W3.heap.size ≤ W13.heap.size) := Nat.le_trans SG_12.out hon13.size; have MG0_13 : Hid (W13.ownsRow W3.heap.size 3 1 g0 N0 (ils (mkF (1)) N0)) := own_apart MG0_12.out hon13 hor13 AG_4.out; have MG1_13 : Hid (W13.ownsRow W3.heap.size 3 1 g1 N1 (ils (mkF (1 + (N0 : Int))) N1)) := hmk13; clear hon13 hor13 hg13)
    | (go_at_call 13; have Z := M13; (fail_if_success have := M14); refine (heldF (K := 1) MG0_13.out hN0 (by omega)).mono ?_; rintro e w' ⟨rfl, hw⟩; obtain rfl := hw.symm; have M14 : Hid True := trivial)
    | (go_at_call 13; have Z := M14; (fail_if_success have := M15); refine (heldF (K := 1 + (N0 : Int)) MG1_13.out hN1 (by omega)).mono ?_; rintro e w' ⟨rfl, hw⟩; obtain rfl := hw.symm; have M15 : Hid True := trivial)
    | (go_at_call 7; have Z := M15; (fail_if_success have := M16); refine (bcopy_own (Bl.below FV1.out B_13.out) h1).mono ?_; rintro e W16 ⟨hb16, z1_, rfl, hf16, ho16⟩; have M16 : Hid True := trivial; have B_16 : Hid (Below w.heap.size w W16) := bstep B_13.out hb16; have D_16 : Hid (Below W2.heap.size W2 W16) := bstep D_13.out hb16; have SG_16 : Hid (W3.heap.size ≤ W16.heap.size) := Nat.le_trans SG_13.out hb16.size; have MG0_16 : Hid (W16.ownsRow W3.heap.size 3 1 g0 N0 (ils (mkF (1)) N0)) := own_below MG0_13.out hb16; have MG1_16 : Hid (W16.ownsRow W3.heap.size 3 1 g1 N1 (ils (mkF (1 + (N0 : Int))) N1)) := own_below MG1_13.out hb16; have Oz1__16 : Hid (W16.ownsRow W13.heap.size 5 1 z1_ n1 (bls xs1 n1)) := ho16; clear hb16 ho16 hf16)
    | (go_at_call 8; have Z := M16; (fail_if_success have := M17); refine (HI.out _ _ B_16.out (bl_of_own Oz1__16.out)).mono ?_; rintro e W17 ⟨h0, h1, rfl, hoa17, hob17, hap17, hb17⟩; have M17 : Hid True := trivial; have B_17 : Hid (Below w.heap.size w W17) := bstep B_16.out hb17; have D_17 : Hid (Below W2.heap.size W2 W17) := bstep D_16.out hb17; have SG_17 : Hid (W3.heap.size ≤ W17.heap.size) := Nat.le_trans SG_16.out hb17.size; have MG0_17 : Hid (W17.ownsRow W3.heap.size 3 1 g0 N0 (ils (mkF (1)) N0)) := own_below MG0_16.out hb17; have MG1_17 : Hid (W17.ownsRow W3.heap.size 3 1 g1 N1 (ils (mkF (1 + (N0 : Int))) N1)) := own_below MG1_16.out hb17; have Oz1__17 : Hid (W17.ownsRow W13.heap.size 5 1 z1_ n1 (bls xs1 n1)) := own_below Oz1__16.out hb17; have OH0_17 : Hid (W17.ownsRow W16.heap.size 3 1 h0 N0 (ils z0 N0)) := hoa17; have OH1_17 : Hid (W17.ownsRow W16.heap.size 3 1 h1 N1 (ils z1 N1)) := hob17; clear hb17 hoa17 hob17 hap17)
    | (go_at_call 9; have Z := M17; (fail_if_success have := M18); refine (eq_yes (il_of_own OH0_17.out) (Il.below FW0_2.out D_17.out) hN0).mono ?_; rintro e W18 ⟨rfl, hb18⟩; have M18 : Hid True := trivial; have B_18 : Hid (Below w.heap.size w W18) := bstep B_17.out hb18; have D_18 : Hid (Below W2.heap.size W2 W18) := bstep D_17.out hb18; have SG_18 : Hid (W3.heap.size ≤ W18.heap.size) := Nat.le_trans SG_17.out hb18.size; have MG0_18 : Hid (W18.ownsRow W3.heap.size 3 1 g0 N0 (ils (mkF (1)) N0)) := own_below MG0_17.out hb18; have MG1_18 : Hid (W18.ownsRow W3.heap.size 3 1 g1 N1 (ils (mkF (1 + (N0 : Int))) N1)) := own_below MG1_17.out hb18; have Oz1__18 : Hid (W18.ownsRow W13.heap.size 5 1 z1_ n1 (bls xs1 n1)) := own_below Oz1__17.out hb18; have OH0_18 : Hid (W18.ownsRow W16.heap.size 3 1 h0 N0 (ils z0 N0)) := own_below OH0_17.out hb18; have OH1_18 : Hid (W18.ownsRow W16.heap.size 3 1 h1 N1 (ils z1 N1)) := own_below OH1_17.out hb18; clear hb18)
    | (go_at_call 9; have Z := M18; (fail_if_success have := M19); refine (eq_yes (il_of_own OH1_18.out) (Il.below FW1_2.out D_18.out) hN1).mono ?_; rintro e W19 ⟨rfl, hb19⟩; have M19 : Hid True := trivial; have B_19 : Hid (Below w.heap.size w W19) := bstep B_18.out hb19; have D_19 : Hid (Below W2.heap.size W2 W19) := bstep D_18.out hb19; have SG_19 : Hid (W3.heap.size ≤ W19.heap.size) := Nat.le_trans SG_18.out hb19.size; have MG0_19 : Hid (W19.ownsRow W3.heap.size 3 1 g0 N0 (ils (mkF (1)) N0)) := own_below MG0_18.out hb19; have MG1_19 : Hid (W19.ownsRow W3.heap.size 3 1 g1 N1 (ils (mkF (1 + (N0 : Int))) N1)) := own_below MG1_18.out hb19; have Oz1__19 : Hid (W19.ownsRow W13.heap.size 5 1 z1_ n1 (bls xs1 n1)) := own_below Oz1__18.out hb19; have OH0_19 : Hid (W19.ownsRow W16.heap.size 3 1 h0 N0 (ils z0 N0)) := own_below OH0_18.out hb19; have OH1_19 : Hid (W19.ownsRow W16.heap.size 3 1 h1 N1 (ils z1 N1)) := own_below OH1_18.out hb19; clear hb19)
    | (go_at_call 13; have Z := M19; (fail_if_success have := M20); refine (heldF (K := 1) MG0_19.out hN0 (by omega)).mono ?_; rintro e w' ⟨rfl, hw⟩; obtain rfl := hw.symm; have M20 : Hid True := trivial)
    | (go_at_call 13; have Z := M20; (fail_if_success have := M21); refine (heldF (K := 1 + (N0 : Int)) MG1_19.out hN1 (by omega)).mono ?_; rintro e w' ⟨rfl, hw⟩; obtain rfl := hw.symm; have M21 : Hid True := trivial))
  go_ret
  exact ⟨rfl, B_19.out⟩


def Pmz (w w' : World) (e : Ending) (N : Nat) (f : Nat → Int) (c : Int) : Prop := ∃ u, e = .returned (.tuple #[u, .int .i64 c]) ∧ w'.ownsRow w.heap.size 3 1 u N (ils f N) ∧ Below w.heap.size w w'

set_option maxHeartbeats 8000000 in
theorem wmd_of {w : World} {v1 : Value} {n1 : Nat} {xs1 : Nat → Int}  (hv1 : Bl w v1 n1 xs1) (hn1 : n1 ≤ 9223372036854775807) (N0 : Nat) (hN0 : N0 ≤ 1048576) (z0 : Nat → Int) (cc : Int)
    (hs : n1 ≤ 1048576 → ∀ W u1, Below w.heap.size w W → Bl W u1 n1 xs1 → Calls Tryd.prog 16 #[u1] W fun e w' => Pmz W w' e N0 z0 cc)
    (hi : n1 ≤ 1048576 → ∀ W u1, Below w.heap.size w W → Bl W u1 n1 xs1 → Calls Tryd.prog 17 #[u1] W fun e w' => Pmz W w' e N0 z0 cc) :
    Calls Tryd.prog 5 #[v1] w fun e w' => e = .returned (.bool true) ∧ Below w.heap.size w w' := by
  rcases Nat.lt_or_ge 1048576 n1 with h1 | h1
  · obtain ⟨ao1, cap1, rfl, hcap1, hc1⟩ := hv1
    clear hc1 hs hi
    go_enter Tryd.func5, Tryd.ntmps5
    go_wp2
    go_ret
    exact ⟨rfl, Below.refl _ _⟩
  have FV1 : Hid (Bl w v1 n1 xs1) := hv1
  have HS : Hid (∀ W u1, Below w.heap.size w W → Bl W u1 n1 xs1 → Calls Tryd.prog 16 #[u1] W fun e w' => Pmz W w' e N0 z0 cc) := hs h1
  have HI : Hid (∀ W u1, Below w.heap.size w W → Bl W u1 n1 xs1 → Calls Tryd.prog 17 #[u1] W fun e w' => Pmz W w' e N0 z0 cc) := hi h1
  obtain ⟨ao1, cap1, rfl, hcap1, hc1⟩ := hv1
  clear hc1 hs hi
  have hcc : (cc != cc) = false := by simp
  go_enter Tryd.func5, Tryd.ntmps5
  go_wp2_with (first
    | (go_at_call 7; (fail_if_success have := M1); refine (bcopy_own FV1.out h1).mono ?_; rintro e W1 ⟨hb1, a1, rfl, hf1, ho1⟩; have M1 : Hid True := trivial; have B_1 : Hid (Below w.heap.size w W1) := hb1; have Oa1_1 : Hid (W1.ownsRow w.heap.size 5 1 a1 n1 (bls xs1 n1)) := ho1; clear hb1 ho1 hf1)
    | (go_at_call 16; have Z := M1; (fail_if_success have := M2); refine (HS.out _ _ B_1.out (bl_of_own Oa1_1.out)).mono ?_; rintro e W2 ⟨u0, rfl, hoa2, hb2⟩; have M2 : Hid True := trivial; have B_2 : Hid (Below w.heap.size w W2) := bstep B_1.out hb2; have Oa1_2 : Hid (W2.ownsRow w.heap.size 5 1 a1 n1 (bls xs1 n1)) := own_below Oa1_1.out hb2; have FW0_2 : Hid (Il W2 u0 N0 z0) := il_of_own hoa2; clear hb2 hoa2)
    | (go_at_call 7; have Z := M2; (fail_if_success have := M3); refine (bcopy_own (Bl.below FV1.out B_2.out) h1).mono ?_; rintro e W3 ⟨hb3, x1, rfl, hf3, ho3⟩; have M3 : Hid True := trivial; have B_3 : Hid (Below w.heap.size w W3) := bstep B_2.out hb3; have D_3 : Hid (Below W2.heap.size W2 W3) := hb3; have Ox1_3 : Hid (W3.ownsRow W2.heap.size 5 1 x1 n1 (bls xs1 n1)) := ho3; clear hb3 ho3 hf3)
    | (go_at_call 17; have Z := M3; (fail_if_success have := M4); refine (HI.out _ _ B_3.out (bl_of_own Ox1_3.out)).mono ?_; rintro e W4 ⟨g0, rfl, hoa4, hb4⟩; have M4 : Hid True := trivial; have B_4 : Hid (Below w.heap.size w W4) := bstep B_3.out hb4; have D_4 : Hid (Below W2.heap.size W2 W4) := bstep D_3.out hb4; have Ox1_4 : Hid (W4.ownsRow W2.heap.size 5 1 x1 n1 (bls xs1 n1)) := own_below Ox1_3.out hb4; have SG_4 : Hid (W3.heap.size ≤ W4.heap.size) := hb4.size; have OG0_4 : Hid (W4.ownsRow W3.heap.size 3 1 g0 N0 (ils z0 N0)) := hoa4; clear hb4 hoa4)
    | (go_at_call 9; have Z := M4; (fail_if_success have := M5); refine (eq_yes (il_of_own OG0_4.out) (Il.below FW0_2.out D_4.out) hN0).mono ?_; rintro e W5 ⟨rfl, hb5⟩; have M5 : Hid True := trivial; have B_5 : Hid (Below w.heap.size w W5) := bstep B_4.out hb5; have D_5 : Hid (Below W2.heap.size W2 W5) := bstep D_4.out hb5; have Ox1_5 : Hid (W5.ownsRow W2.heap.size 5 1 x1 n1 (bls xs1 n1)) := own_below Ox1_4.out hb5; have SG_5 : Hid (W3.heap.size ≤ W5.heap.size) := Nat.le_trans SG_4.out hb5.size; have OG0_5 : Hid (W5.ownsRow W3.heap.size 3 1 g0 N0 (ils z0 N0)) := own_below OG0_4.out hb5; clear hb5)
    | (go_at_call 7; have Z := M5; (fail_if_success have := M6); refine (bcopy_own (Bl.below FV1.out B_5.out) h1).mono ?_; rintro e W6 ⟨hb6, y1, rfl, hf6, ho6⟩; have M6 : Hid True := trivial; have B_6 : Hid (Below w.heap.size w W6) := bstep B_5.out hb6; have D_6 : Hid (Below W2.heap.size W2 W6) := bstep D_5.out hb6; have Ox1_6 : Hid (W6.ownsRow W2.heap.size 5 1 x1 n1 (bls xs1 n1)) := own_below Ox1_5.out hb6; have SG_6 : Hid (W3.heap.size ≤ W6.heap.size) := Nat.le_trans SG_5.out hb6.size; have OG0_6 : Hid (W6.ownsRow W3.heap.size 3 1 g0 N0 (ils z0 N0)) := own_below OG0_5.out hb6; have Oy1_6 : Hid (W6.ownsRow W5.heap.size 5 1 y1 n1 (bls xs1 n1)) := ho6; clear hb6 ho6 hf6)
    | (go_at_call 10; have Z := M6; (fail_if_success have := M7); refine (beq_yes (bl_of_own Ox1_6.out) (bl_of_own Oy1_6.out) h1).mono ?_; rintro e W7 ⟨rfl, hb7⟩; have M7 : Hid True := trivial; have B_7 : Hid (Below w.heap.size w W7) := bstep B_6.out hb7; have D_7 : Hid (Below W2.heap.size W2 W7) := bstep D_6.out hb7; have Ox1_7 : Hid (W7.ownsRow W2.heap.size 5 1 x1 n1 (bls xs1 n1)) := own_below Ox1_6.out hb7; have SG_7 : Hid (W3.heap.size ≤ W7.heap.size) := Nat.le_trans SG_6.out hb7.size; have OG0_7 : Hid (W7.ownsRow W3.heap.size 3 1 g0 N0 (ils z0 N0)) := own_below OG0_6.out hb7; have Oy1_7 : Hid (W7.ownsRow W5.heap.size 5 1 y1 n1 (bls xs1 n1)) := own_below Oy1_6.out hb7; clear hb7)
    | (go_at_call 11; have Z := M7; (fail_if_success have := M8); refine (markedB (K := 1) (B := W2.heap.size) (n := n1) (v := x1) (f := xs1) Ox1_7.out D_7.out.size h1 (by omega)).mono ?_; rintro e W8 ⟨rfl, _, gx8, hg8, hor8, hon8⟩; have M8 : Hid True := trivial; have B_8 : Hid (Below w.heap.size w W8) := Below.only B_7.out hon8 (Nat.le_trans B_2.out.size hg8); have D_8 : Hid (Below W2.heap.size W2 W8) := Below.only D_7.out hon8 (hg8); have SG_8 : Hid (W3.heap.size ≤ W8.heap.size) := Nat.le_trans SG_7.out hon8.size; have OG0_8 : Hid (W8.ownsRow W3.heap.size 3 1 g0 N0 (ils z0 N0)) := own_only2 OG0_7.out hon8 hor8 Ox1_3.out; clear hon8 hor8 hg8)
    | (go_at_call 9; have Z := M8; (fail_if_success have := M9); refine (eq_yes (il_of_own OG0_8.out) (Il.below FW0_2.out D_8.out) hN0).mono ?_; rintro e W9 ⟨rfl, hb9⟩; have M9 : Hid True := trivial; have B_9 : Hid (Below w.heap.size w W9) := bstep B_8.out hb9; have D_9 : Hid (Below W2.heap.size W2 W9) := bstep D_8.out hb9; have SG_9 : Hid (W3.heap.size ≤ W9.heap.size) := Nat.le_trans SG_8.out hb9.size; have OG0_9 : Hid (W9.ownsRow W3.heap.size 3 1 g0 N0 (ils z0 N0)) := own_below OG0_8.out hb9; clear hb9)
    | (go_at_call 12; have Z := M9; (fail_if_success have := M10); refine (markedF (K := 1) (B := W3.heap.size) (n := N0) (v := g0) (f := z0) OG0_9.out SG_9.out hN0 (by omega)).mono ?_; rintro e W10 ⟨rfl, hmk10, gx10, hg10, hor10, hon10⟩; have M10 : Hid True := trivial; have B_10 : Hid (Below w.heap.size w W10) := Below.only B_9.out hon10 (Nat.le_trans B_3.out.size hg10); have D_10 : Hid (Below W2.heap.size W2 W10) := Below.only D_9.out hon10 (Nat.le_trans D_3.out.size hg10); have SG_10 : Hid (W3.heap.size ≤ W10.heap.size) := Nat.le_trans SG_9.out hon10.size; have MG0_10 : Hid (W10.ownsRow W3.heap.size 3 1 g0 N0 (ils (mkF (1)) N0)) := hmk10; clear hon10 hor10 hg10)
    | (go_at_call 13; have Z := M10; (fail_if_success have := M11); refine (heldF (K := 1) MG0_10.out hN0 (by omega)).mono ?_; rintro e w' ⟨rfl, hw⟩; obtain rfl := hw.symm; have M11 : Hid True := trivial)
    | (go_at_call 7; have Z := M11; (fail_if_success have := M12); refine (bcopy_own (Bl.below FV1.out B_10.out) h1).mono ?_; rintro e W12 ⟨hb12, z1_, rfl, hf12, ho12⟩; have M12 : Hid True := trivial; have B_12 : Hid (Below w.heap.size w W12) := bstep B_10.out hb12; have D_12 : Hid (Below W2.heap.size W2 W12) := bstep D_10.out hb12; have SG_12 : Hid (W3.heap.size ≤ W12.heap.size) := Nat.le_trans SG_10.out hb12.size; have MG0_12 : Hid (W12.ownsRow W3.heap.size 3 1 g0 N0 (ils (mkF (1)) N0)) := own_below MG0_10.out hb12; have Oz1__12 : Hid (W12.ownsRow W10.heap.size 5 1 z1_ n1 (bls xs1 n1)) := ho12; clear hb12 ho12 hf12)
    | (go_at_call 17; have Z := M12; (fail_if_success have := M13); refine (HI.out _ _ B_12.out (bl_of_own Oz1__12.out)).mono ?_; rintro e W13 ⟨h0, rfl, hoa13, hb13⟩; have M13 : Hid True := trivial; have B_13 : Hid (Below w.heap.size w W13) := bstep B_12.out hb13; have D_13 : Hid (Below W2.heap.size W2 W13) := bstep D_12.out hb13; have SG_13 : Hid (W3.heap.size ≤ W13.heap.size) := Nat.le_trans SG_12.out hb13.size; have MG0_13 : Hid (W13.ownsRow W3.heap.size 3 1 g0 N0 (ils (mkF (1)) N0)) := own_below MG0_12.out hb13; have Oz1__13 : Hid (W13.ownsRow W10.heap.size 5 1 z1_ n1 (bls xs1 n1)) := own_below Oz1__12.out hb13; have OH0_13 : Hid (W13.ownsRow W12.heap.size 3 1 h0 N0 (ils z0 N0)) := hoa13; clear hb13 hoa13)
    | (go_at_call 9; have Z := M13; (fail_if_success have := M14); refine (eq_yes (il_of_own OH0_13.out) (Il.below FW0_2.out D_13.out) hN0).mono ?_; rintro e W14 ⟨rfl, hb14⟩; have M14 : Hid True := trivial; have B_14 : Hid (Below w.heap.size w W14) := bstep B_13.out hb14; have D_14 : Hid (Below W2.heap.size W2 W14) := bstep D_13.out hb14; have SG_14 : Hid (W3.heap.size ≤ W14.heap.size) := Nat.le_trans SG_13.out hb14.size; have MG0_14 : Hid (W14.ownsRow W3.heap.size 3 1 g0 N0 (ils (mkF (1)) N0)) := own_below MG0_13.out hb14; have Oz1__14 : Hid (W14.ownsRow W10.heap.size 5 1 z1_ n1 (bls xs1 n1)) := own_below Oz1__13.out hb14; have OH0_14 : Hid (W14.ownsRow W12.heap.size 3 1 h0 N0 (ils z0 N0)) := own_below OH0_13.out hb14; clear hb14)
    | (go_at_call 13; have Z := M14; (fail_if_success have := M15); refine (heldF (K := 1) MG0_14.out hN0 (by omega)).mono ?_; rintro e w' ⟨rfl, hw⟩; obtain rfl := hw.symm; have M15 : Hid True := trivial))
  go_ret
  exact ⟨rfl, B_14.out⟩


theorem walk_oa {w : World} {v : Value} {n : Nat} {xs : Nat → Int} (hg : Eg w) (hv : Bl w v n xs) (hy : Byt n xs) (hn : n ≤ 9223372036854775807) : Calls Tryd.prog 3 #[v] w fun e w' => e = .returned (.bool true) ∧ Below w.heap.size w w' := by
  have hE : ∀ W, Below w.heap.size w W → Eg W := fun W hW => keepc hW hg
  rcases Nat.lt_or_ge 1048576 n with h1 | h1
  · exact woa_of hv hn 0 (by omega) (fun _ => 0) 0 (by omega) (fun _ => 0) 0 (fun h9 => by omega) (fun h9 => by omega)
  · rcases Nat.lt_or_ge 20000 n with h2 | h2
    · exact woa_of hv hn 0 (by omega) (lf []) 0 (by omega) (lf []) 1 (fun _ W u _ hu => sOA_big hu h2) (fun _ W u _ hu => iOA_big hu h2)
    · have hl := osm_le (n := n) (y := xs) (oT n xs)
      have hT := (oT_told n xs).1
      exact woa_of hv hn (osm n xs (oT n xs)).length (by omega) (lf (osm n xs (oT n xs))) (opl n xs (oT n xs)).length (by rw [opl_len]; omega) (lf (opl n xs (oT n xs))) (oC n xs : Int) (fun _ W u _ hu => sOA_good hu hy h2) (fun _ W u hW hu => iOA_good (hE W hW) hu hy h2)

theorem walk_md {w : World} {v : Value} {n : Nat} {xs : Nat → Int} (hg : Eg w) (hv : Bl w v n xs) (hy : Byt n xs) (hn : n ≤ 9223372036854775807) : Calls Tryd.prog 5 #[v] w fun e w' => e = .returned (.bool true) ∧ Below w.heap.size w w' := by
  have hE : ∀ W, Below w.heap.size w W → Eg W := fun W hW => keepc hW hg
  rcases Nat.lt_or_ge 1048576 n with h1 | h1
  · exact wmd_of hv hn 0 (by omega) (fun _ => 0) 0 (fun h9 => by omega) (fun h9 => by omega)
  · rcases Nat.lt_or_ge 20000 n with h2 | h2
    · exact wmd_of hv hn 0 (by omega) (lf []) 0 (fun _ W u _ hu => sMd_big hu h2) (fun _ W u _ hu => iMd_big hu h2)
    · have hl := (mnd_le (n := n) (y := xs) n 0 0 (Nat.zero_le _) (by omega)).1
      exact wmd_of hv hn (mnd n xs n 0 0).1.length (by omega) (lf (mnd n xs n 0 0).1) ((mnd n xs n 0 0).2 : Int) (fun _ W u _ hu => sMd_good hu hy h2) (fun _ W u hW hu => iMd_good (hE W hW) hu hy h2)

set_option maxHeartbeats 4000000 in
theorem wsk_of {w : World} {v1 : Value} {n1 : Nat} {xs1 : Nat → Int} {s pl ah : Int} (hv1 : Bl w v1 n1 xs1) (h1 : n1 ≤ 1048576)
    (hs : ∀ W u1, Bl W u1 n1 xs1 → Calls Tryd.prog 14 #[u1, .int .i64 s] W fun e w' => e = .returned (.tuple #[.int .i64 pl, .int .i64 ah]) ∧ Below W.heap.size W w')
    (hi : ∀ W u1, Below w.heap.size w W → Bl W u1 n1 xs1 → Calls Tryd.prog 15 #[u1, .int .i64 s] W fun e w' => e = .returned (.tuple #[.int .i64 pl, .int .i64 ah]) ∧ Below W.heap.size W w') :
    Calls Tryd.prog 4 #[v1, .int .i64 s] w fun e w' => e = .returned (.bool true) ∧ Below w.heap.size w w' := by
  have FV1 : Hid (Bl w v1 n1 xs1) := hv1
  have HS : Hid (∀ W u1, Bl W u1 n1 xs1 → Calls Tryd.prog 14 #[u1, .int .i64 s] W fun e w' => e = .returned (.tuple #[.int .i64 pl, .int .i64 ah]) ∧ Below W.heap.size W w') := hs
  have HI : Hid (∀ W u1, Below w.heap.size w W → Bl W u1 n1 xs1 → Calls Tryd.prog 15 #[u1, .int .i64 s] W fun e w' => e = .returned (.tuple #[.int .i64 pl, .int .i64 ah]) ∧ Below W.heap.size W w') := hi
  obtain ⟨ao1, cap1, rfl, hcap1, hc1⟩ := hv1
  have hc2 : (pl != pl) = false := by simp
  have hc3 : (ah != ah) = false := by simp
  clear hc1 hs hi
  go_enter Tryd.func4, Tryd.ntmps4
  go_wp2_with (first
    | (go_at_call 7; (fail_if_success have := M1); refine (bcopy_own FV1.out h1).mono ?_; rintro e W1 ⟨hb1, a1, rfl, hf1, ho1⟩; have M1 : Hid True := trivial; have B_1 : Hid (Below w.heap.size w W1) := hb1; have IL1 : Hid (Bl W1 a1 n1 xs1) := hf1; clear hb1 ho1 hf1)
    | (go_at_call 14; have Z := M1; (fail_if_success have := M2); refine (HS.out _ _ IL1.out).mono ?_; rintro e W2 ⟨rfl, hb2⟩; have M2 : Hid True := trivial; have B_2 : Hid (Below w.heap.size w W2) := bstep B_1.out hb2; clear hb2)
    | (go_at_call 7; have Z := M2; (fail_if_success have := M3); refine (bcopy_own (Bl.below FV1.out B_2.out) h1).mono ?_; rintro e W3 ⟨hb3, x1, rfl, hf3, ho3⟩; have M3 : Hid True := trivial; have B_3 : Hid (Below w.heap.size w W3) := bstep B_2.out hb3; have IX3 : Hid (Bl W3 x1 n1 xs1) := hf3; clear hb3 ho3 hf3)
    | (go_at_call 15; have Z := M3; (fail_if_success have := M4); refine (HI.out _ _ B_3.out IX3.out).mono ?_; rintro e W4 ⟨rfl, hb4⟩; have M4 : Hid True := trivial; have B_4 : Hid (Below w.heap.size w W4) := bstep B_3.out hb4; have IX4 : Hid (Bl W4 x1 n1 xs1) := Bl.below IX3.out hb4; clear hb4)
    | (go_at_call 7; have Z := M4; (fail_if_success have := M5); refine (bcopy_own (Bl.below FV1.out B_4.out) h1).mono ?_; rintro e W5 ⟨hb5, y1, rfl, hf5, ho5⟩; have M5 : Hid True := trivial; have B_5 : Hid (Below w.heap.size w W5) := bstep B_4.out hb5; have IX5 : Hid (Bl W5 x1 n1 xs1) := Bl.below IX4.out hb5; have IY5 : Hid (Bl W5 y1 n1 xs1) := hf5; clear hb5 ho5 hf5)
    | (go_at_call 10; have Z := M5; (fail_if_success have := M6); refine (beq_yes IX5.out IY5.out h1).mono ?_; rintro e W6 ⟨rfl, hb6⟩; have M6 : Hid True := trivial; have B_6 : Hid (Below w.heap.size w W6) := bstep B_5.out hb6; clear hb6))
  go_ret
  exact ⟨rfl, B_6.out⟩

theorem walk_sk {w : World} {v : Value} {n : Nat} {xs : Nat → Int} (hg : Eg w) (hv : Bl w v n xs) (hy : Byt n xs) (hn : n ≤ 9223372036854775807) (s : Int) : Calls Tryd.prog 4 #[v, .int .i64 s] w fun e w' => e = .returned (.bool true) ∧ Below w.heap.size w w' := by
  have hE : ∀ W, Below w.heap.size w W → Eg W := fun W hW => keepc hW hg
  rcases Nat.lt_or_ge 1048576 n with h1 | h1
  · obtain ⟨ao, cap, rfl, hcap, hc⟩ := hv
    clear hc hy hE hg
    go_enter Tryd.func4, Tryd.ntmps4
    go_wp2
    go_ret
    exact ⟨rfl, Below.refl _ _⟩
  · rcases Nat.lt_or_ge 20000 n with h2 | h2
    · exact wsk_of hv h1 (fun W u hu => sSk_big hu h2 s) (fun W u _ hu => iSk_big hu h2 s)
    · by_cases h3 : ∃ i, i < oT n xs ∧ ((osm n xs i).length : Int) ≤ s ∧ s < ((osm n xs (i + 1)).length : Int)
      · obtain ⟨i, hi, h4⟩ := h3
        have hyes : ∀ j, j < oT n xs → (((osm n xs j).length : Int) ≤ s ∧ s < ((osm n xs (j + 1)).length : Int)) → (oat n xs i : Int) = (oat n xs j : Int) ∧ ((osm n xs i).length : Int) = ((osm n xs j).length : Int) := fun j hj h5 => by
          obtain rfl : i = j := by
            rcases Nat.lt_trichotomy i j with h6 | h6 | h6
            · have := osm_mono n xs (show i + 1 ≤ j from h6); omega
            · exact h6
            · have := osm_mono n xs (show j + 1 ≤ i from h6); omega
          exact ⟨rfl, rfl⟩
        exact wsk_of hv h1 (fun W u hu => sSk_good hu hy h2 hyes (fun h9 => absurd h4 (h9 i hi))) (fun W u hW hu => iSk_good (hE W hW) hu hy h2 hyes (fun h9 => absurd h4 (h9 i hi)))
      · exact wsk_of hv h1 (pl := -1) (ah := 0) (fun W u hu => sSk_good hu hy h2 (fun j hj h5 => absurd ⟨j, hj, h5⟩ h3) (fun _ => ⟨rfl, rfl⟩)) (fun W u hW hu => iSk_good (hE W hW) hu hy h2 (fun j hj h5 => absurd ⟨j, hj, h5⟩ h3) (fun _ => ⟨rfl, rfl⟩))
end Go.Proofs.YtndagpompioooabDoor
