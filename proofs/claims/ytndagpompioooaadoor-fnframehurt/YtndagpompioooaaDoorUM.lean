/- UnRice: the model. -/
import Derived.Test.YtndagpompioooaaDoorUF
namespace Go.Proofs.YtndagpompioooaaDoor
open Go.RowKit

set_option maxRecDepth 20000 in
set_option maxHeartbeats 16000000 in
theorem sUnr_any {w : World} {v : Value} {n k m : Nat} {b : Nat → Int} (hv : Il w v n b) (hn : n ≤ 1048576) (hk : k ≤ 30) (hm : m ≤ 128) {N : Nat} {ys : Nat → Int} {c : Int} {A : Bool}
    (hT : ∀ R a, rdn b n k m = some (R, a) → (∀ i, a ≤ i → i < n → Bit (b i)) → N = R.length ∧ ys = lf R ∧ c = (a : Int) ∧ A = true)
    (hF : (∀ R a, rdn b n k m = some (R, a) → ¬ ∀ i, a ≤ i → i < n → Bit (b i)) → N = 0 ∧ c = 0 ∧ A = false) :
    Calls Tryd.prog 28 #[.int .i64 (k : Int), v, .int .i64 (m : Int)] w fun e w' => Pur w w' e N ys c A := by
  obtain ⟨i0, hi, hz0, hz1, hz2⟩ := info_parts Tryd.info3
  have i1 := in_any (k : Int) 0 30
  rw [decide_eq_true (by omega)] at i1
  have i2 := in_any (m : Int) 0 128
  rw [decide_eq_true (by omega)] at i2
  have HT : Hid (∀ R a, rdn b n k m = some (R, a) → (∀ i, a ≤ i → i < n → Bit (b i)) → N = R.length ∧ ys = lf R ∧ c = (a : Int) ∧ A = true) := hT
  have HF : Hid ((∀ R a, rdn b n k m = some (R, a) → ¬ ∀ i, a ≤ i → i < n → Bit (b i)) → N = 0 ∧ c = 0 ∧ A = false) := hF
  obtain ⟨p, hp⟩ : ∃ p : Nat, p = 2 ^ k := ⟨_, rfl⟩
  have hp1 : 1 ≤ p ∧ p ≤ 1073741824 := by
    rw [hp]
    exact ⟨Nat.one_le_two_pow, Nat.pow_le_pow_right (by omega) hk⟩
  obtain ⟨M, hM⟩ : ∃ M : Nat, M = 2000000000 / p := ⟨_, rfl⟩
  have eM : (2000000000 : Int) / 2 ^ k = (M : Int) := by rw [hM, hp, Int.natCast_ediv, Int.natCast_pow]; rfl
  have hM2 : M ≤ 2000000000 := by rw [hM]; exact Nat.div_le_self _ _
  have HM : Hid (∀ q, q ≤ M ↔ q * 2 ^ k ≤ 2000000000) := fun q => by rw [hM, hp]; exact Nat.le_div_iff_mul_le (Nat.two_pow_pos k)
  have HP : Hid (p = 2 ^ k) := hp
  have OW : Hid ((w.alloc (.cells #[] 3)).ownsRow w.heap.size 3 1 (.slice (some ⟨w.heap.size, 0, none⟩) 0 0) 0 []) := own_empty w 3 1
  have BL : Hid (Below w.heap.size w (w.alloc (.cells #[] 3))) := below_one _ _
  obtain ⟨ao, cap, rfl, hcap, hc⟩ := hv
  have HC : Hid (0 < n → ∃ bb off, ao = some ⟨bb, off, none⟩ ∧ bb < w.heap.size ∧ ∀ k, k < n → w.cell? ⟨bb, off + k, none⟩ = some (.int .i64 (b k))) := hc
  clear hc hT hF hp hM
  go_enter Tryd.func28, Tryd.ntmps28
  go_wp2_with (first | (go_at_call 59; (with_reducible refine (i1 _).mono ?_); rintro e w' ⟨rfl, hw⟩; obtain rfl := hw.symm) | (go_at_call 59; (with_reducible refine (i2 _).mono ?_); rintro e w' ⟨rfl, hw⟩; obtain rfl := hw.symm))
  clear i1 i2
  generalize w.alloc (.cells #[] 3) = W at *
  go_loopw [9, 10, 11, 12] (fun q av _ _ wr => ∃ (a : Nat) (R : List Int), av = .int .i64 (a : Int) ∧ R.length ≤ m ∧ a ≤ n ∧ Hid (rdn b n k R.length = some (R, a)) ∧ Hid (wr.ownsRow w.heap.size 3 1 q R.length (ils (lf R) R.length)) ∧ Hid (Below w.heap.size w wr)) (fun _ av _ _ _ => n - (intOf av).toNat)
  case atStart => exact ⟨0, [], rfl, Nat.zero_le _, Nat.zero_le _, rfl, OW.out, BL.out⟩
  case round =>
    clear OW BL
    obtain ⟨a, R, rfl, hj, ha, HN, HO, HB⟩ := hrel
    obtain ⟨qa, qc, hq9⟩ := own_slice3 HO.out
    subst hq9
    by_cases h1 : R.length < m
    · go_wp2
      go_loopw [10, 11] (fun av uv wr9 => ∃ q : Nat, av = .int .i64 ((a + q : Nat) : Int) ∧ uv = .int .i64 (q : Int) ∧ a + q ≤ n ∧ wr9 = wr ∧ Hid (∀ i, i < q → b (a + i) = 1)) (fun av _ _ => n - (intOf av).toNat)
      case atStart => exact ⟨0, rfl, rfl, by omega, rfl, fun i hi => absurd hi (Nat.not_lt_zero _)⟩
      case round =>
        obtain ⟨q, rfl, rfl, haq, rfl, HQ⟩ := hrel
        obtain ⟨t, ht⟩ : ∃ t, t = a + q := ⟨_, rfl⟩
        rw [← ht] at haq ⊢
        have HTQ : Hid (t = a + q) := ht
        have hq7 : q ≤ t := by omega
        clear ht
        have HSTOP : Hid (rd1 b n k a = none → N = 0 ∧ c = 0 ∧ A = false) := fun h9 => HF.out (fun R2 a2 e9 _ => by rw [rdn_none (rdn_stop HN.out h9) m (by omega)] at e9; cases e9)
        by_cases h2 : t < n
        · obtain ⟨bb, off, rfl, hlt, hcell⟩ := HC.out (by omega)
          have c0 := (HB.out.cell (p := ⟨bb, off + t, none⟩) hlt).trans (hcell t h2)
          by_cases h3 : b t = 1
          · rw [h3] at c0
            have HQ2 : Hid (∀ i, i < q + 1 → b (a + i) = 1) := fun i hi => by
              by_cases e : i = q
              · rw [e, ← HTQ.out]; exact h3
              · exact HQ.out i (by omega)
            clear h3 hcell
            go_wp2
            go_roundw
            case rel => exact ⟨q + 1, by have := HTQ.out; congr 1; omega, by go_num, by have := HTQ.out; omega, by trivial, HQ2.out⟩
            case measure => simp [intOf]; omega
          · have HRN : Hid (run1 b n a = q) := run1_eq (by have := HTQ.out; omega) HQ.out (.inr (by rw [← HTQ.out]; exact h3))
            by_cases h4 : b t = 0
            · rw [h4] at c0
              have HB0 : Hid (b (a + q) = 0) := by show _ = _; rw [← HTQ.out]; exact h4
              clear h3 h4
              by_cases h5 : q ≤ M
              · have h5q := (HM.out q).1 h5
                have HSTOP2 : Hid (rd1 b n k a = none → N = 0 ∧ c = 0 ∧ A = false) := HSTOP.out
                have HCE : Hid (∀ i, i < n → wr.cell? ⟨bb, off + i, none⟩ = some (.int .i64 (b i))) := fun i hi => (HB.out.cell (p := ⟨bb, off + i, none⟩) hlt).trans (hcell i hi)
                clear HSTOP hcell
                obtain ⟨t1, ht1⟩ : ∃ t1, t1 = t + 1 := ⟨_, rfl⟩
                have e1 : (t : Int) + 1 = (t1 : Int) := by omega
                have HT1 : Hid (t1 = a + q + 1 ∧ a + q = t) := ⟨by have := HTQ.out; omega, HTQ.out.symm⟩
                have ht2 : t1 ≤ n ∧ a < t1 ∧ t < t1 := by have := HTQ.out; omega
                clear ht1
                go_wp2
                rw [decide_eq_false (show ¬ n ≤ t by omega), decide_eq_false (show ¬ M < q by omega)]
                simp only [Bool.or_self]
                clear e1 c0
                go_loopw [10, 11, 12] (fun av uv jv wr9 => ∃ d u : Nat, av = .int .i64 ((t1 + d : Nat) : Int) ∧ uv = .int .i64 (u : Int) ∧ jv = .int .i64 (d : Int) ∧ d ≤ k ∧ t1 + d ≤ n ∧ u ≤ 4000000000 ∧ wr9 = wr ∧ Hid (u = q * 2 ^ d + bv b t1 d ∧ ∀ i, i < d → Bit (b (t1 + i)))) (fun _ _ jv _ => k - (intOf jv).toNat)
                case atStart => exact ⟨0, q, rfl, rfl, rfl, by omega, by omega, by omega, rfl, by show q = q * 1 + 0; omega, fun i hi => absurd hi (Nat.not_lt_zero _)⟩
                case round =>
                  obtain ⟨d, u, rfl, rfl, rfl, hd, htd, hu, rfl, HU⟩ := hrel
                  obtain ⟨t2, ht2'⟩ : ∃ t2, t2 = t1 + d := ⟨_, rfl⟩
                  rw [← ht2'] at htd ⊢
                  have HT2 : Hid (t2 = t1 + d) := ht2'
                  have ht3 : t1 ≤ t2 := by omega
                  clear ht2'
                  by_cases h6 : d < k
                  · by_cases h7 : t2 < n
                    · have c1 := HCE.out t2 h7
                      have il := in_any (b t2) 0 1
                      by_cases h8 : Bit (b t2)
                      · rw [decide_eq_true (by rcases h8 with e | e <;> rw [e] <;> omega)] at il
                        obtain ⟨y, hy⟩ : ∃ y : Nat, b t2 = (y : Int) := ⟨(b t2).toNat, by rcases h8 with e | e <;> rw [e] <;> rfl⟩
                        have hy1 : y ≤ 1 := by rcases h8 with e | e <;> rw [hy] at e <;> omega
                        have HBS : Hid (∀ i, i < d + 1 → Bit (b (t1 + i))) := fun i hi => by
                          by_cases e : i = d
                          · rw [e, ← HT2.out]; exact h8
                          · exact HU.out.2 i (by omega)
                        have HU2 : Hid (2 * u + y = q * 2 ^ (d + 1) + bv b t1 (d + 1)) := by
                          show _ = _ + (bv b t1 d * 2 + (b (t1 + d)).toNat)
                          rw [← HT2.out, hy, Int.toNat_natCast, HU.out.1, Nat.pow_succ, ← Nat.mul_assoc]
                          omega
                        have hlt := bv_lt (b := b) (f := t1) (d + 1) HBS.out
                        have hpw : (2 : Nat) ^ (d + 1) ≤ 2 ^ 30 := Nat.pow_le_pow_right (by omega) (by omega)
                        have hqm : q * 2 ^ (d + 1) ≤ q * 2 ^ k := Nat.mul_le_mul_left _ (Nat.pow_le_pow_right (by omega) (by omega))
                        have hu2 : 2 * u + y ≤ 4000000000 := by rw [HU2.out]; omega
                        rw [hy] at c1 il
                        clear hlt hpw hqm h8 hy
                        go_wp2_with (first | (go_at_call 59; (with_reducible refine (il _).mono ?_); rintro e w' ⟨rfl, hw⟩; obtain rfl := hw.symm))
                        go_roundw
                        case rel => exact ⟨d + 1, 2 * u + y, by have := HT2.out; congr 1; omega, by go_num, by go_num, by omega, by have := HT2.out; omega, by omega, by trivial, HU2.out, HBS.out⟩
                        case measure => simp [intOf]; omega
                      · rw [decide_eq_false (fun h9 => h8 (by omega))] at il
                        have HX : Hid (N = 0 ∧ c = 0 ∧ A = false) := HSTOP2.out (rd1_no HRN.out (fun h9 => h8 (by have := h9.2.2.2.2.1 d h6; rw [← HT1.out.1, ← HT2.out] at this; exact this)))
                        clear h8
                        generalize b t2 = x at *
                        go_wp2_with (first | (go_at_call 59; (with_reducible refine (il _).mono ?_); rintro e w' ⟨rfl, hw⟩; obtain rfl := hw.symm))
                        go_ret3
                        rw [HX.out.1, HX.out.2.1, HX.out.2.2]
                        exact ⟨_, rfl, own_base (own_empty wr 3 1) HB.out.size, bstep HB.out (below_one _ _)⟩
                    · have HX : Hid (N = 0 ∧ c = 0 ∧ A = false) := HSTOP2.out (rd1_no HRN.out (fun h9 => h7 (by have := h9.2.2.2.1; have := HT1.out.1; have := HT2.out; omega)))
                      go_wp2
                      go_ret3
                      rw [HX.out.1, HX.out.2.1, HX.out.2.2]
                      exact ⟨_, rfl, own_base (own_empty wr 3 1) HB.out.size, bstep HB.out (below_one _ _)⟩
                  · have e9 : k = d := by omega
                    subst e9
                    by_cases h7 : u ≤ 2000000000
                    · have HRD : Hid (rd1 b n k a = some (u, t2)) := by
                        have h9 := rd1_yes (k := k) HRN.out (by have := HT1.out; omega) HB0.out h5q (by have := HT1.out; have := HT2.out; omega) (fun i hi => by rw [← HT1.out.1]; exact HU.out.2 i hi) (by rw [← HT1.out.1, ← HU.out.1]; exact h7)
                        rw [← HT1.out.1, ← HU.out.1, ← HT2.out] at h9
                        exact h9
                      have hl9 := len_snoc R (unf u)
                      have HNX : Hid (rdn b n k (R ++ [unf u]).length = some (R ++ [unf u], t2)) := by show _ = _; rw [hl9]; exact rdn_next HN.out HRD.out
                      have e0 : (u : Int).tmod 2 = ((u % 2 : Nat) : Int) := by rw [Int.tmod_eq_emod_of_nonneg (by omega)]; omega
                      have e9 : (u : Int) % 2 = ((u % 2 : Nat) : Int) := by omega
                      by_cases h8 : u % 2 = 1
                      · obtain ⟨z, hz⟩ : ∃ z : Nat, z = (u + 1) / 2 := ⟨_, rfl⟩
                        have ez : unf u = -(z : Int) := by unfold unf; rw [if_pos h8, hz]
                        have e2 : (-((u : Int) + 1)).tdiv 2 = -(z : Int) := by rw [Int.neg_tdiv, Int.tdiv_eq_ediv_of_nonneg (by omega)]; omega
                        have hzz : z ≤ 1000000001 := by omega
                        rw [ez] at hl9 HNX
                        rw [h8] at e0 e9
                        clear hz ez
                        have HO3 : Hid ((wr.alloc (.cells #[.int .i64 (-(z : Int))] 3)).ownsRow w.heap.size 3 1 (.slice qa R.length qc) R.length (ils (lf R) R.length)) := own_below HO.out (below_one _ _)
                        have HB3 : Hid (Below w.heap.size w (wr.alloc (.cells #[.int .i64 (-(z : Int))] 3))) := bstep HB.out (below_one _ _)
                        go_wp2_with (first | (at_builtin; refine wpList_append_own _ rfl _ _ 24 rfl w.heap.size 3 i0 (.int .i64 0) 1 8 Tryd.underlying24 hi hz0 hz1 hz2 rfl (by decide) _ _ _ rfl HO3.out ⟨wr.heap.size, 0, none⟩ 1 1 [.int .i64 (-(z : Int))] rfl rfl (one_new _ _ _) (by simp [Value.oneCell']) (by unfold maxLen; omega) (by omega) HB3.out.size ?_; intro v' w4 hown' hgrow _; have HO4 : Hid (w4.ownsRow w.heap.size 3 1 v' (R ++ [(-(z : Int))]).length (ils (lf (R ++ [(-(z : Int))])) (R ++ [(-(z : Int))]).length)) := ol_snoc hown'; have HB4 : Hid (Below w.heap.size w w4) := grown_below HB3.out (Nat.le_refl _) HO3.out hgrow; clear hown' hgrow))
                        go_roundw
                        case rel => exact ⟨t2, R ++ [(-(z : Int))], by go_num, by omega, by omega, HNX.out, HO4.out, HB4.out⟩
                        case measure => simp [intOf]; omega
                      · obtain ⟨z, hz⟩ : ∃ z : Nat, z = u / 2 := ⟨_, rfl⟩
                        have ez : unf u = (z : Int) := by unfold unf; rw [if_neg h8, hz]
                        have e2 : (u : Int).tdiv 2 = (z : Int) := by rw [Int.tdiv_eq_ediv_of_nonneg (by omega)]; omega
                        have e3 : (u : Int) / 2 = (z : Int) := by omega
                        have h82 : u % 2 = 0 := by omega
                        rw [ez] at hl9 HNX
                        rw [h82] at e0 e9
                        clear hz ez
                        have HO3 : Hid ((wr.alloc (.cells #[.int .i64 (z : Int)] 3)).ownsRow w.heap.size 3 1 (.slice qa R.length qc) R.length (ils (lf R) R.length)) := own_below HO.out (below_one _ _)
                        have HB3 : Hid (Below w.heap.size w (wr.alloc (.cells #[.int .i64 (z : Int)] 3))) := bstep HB.out (below_one _ _)
                        go_wp2_with (first | (at_builtin; refine wpList_append_own _ rfl _ _ 24 rfl w.heap.size 3 i0 (.int .i64 0) 1 8 Tryd.underlying24 hi hz0 hz1 hz2 rfl (by decide) _ _ _ rfl HO3.out ⟨wr.heap.size, 0, none⟩ 1 1 [.int .i64 (z : Int)] rfl rfl (one_new _ _ _) (by simp [Value.oneCell']) (by unfold maxLen; omega) (by omega) HB3.out.size ?_; intro v' w4 hown' hgrow _; have HO4 : Hid (w4.ownsRow w.heap.size 3 1 v' (R ++ [(z : Int)]).length (ils (lf (R ++ [(z : Int)])) (R ++ [(z : Int)]).length)) := ol_snoc hown'; have HB4 : Hid (Below w.heap.size w w4) := grown_below HB3.out (Nat.le_refl _) HO3.out hgrow; clear hown' hgrow))
                        go_roundw
                        case rel => exact ⟨t2, R ++ [(z : Int)], by go_num, by omega, by omega, HNX.out, HO4.out, HB4.out⟩
                        case measure => simp [intOf]; omega
                    · have HX : Hid (N = 0 ∧ c = 0 ∧ A = false) := HSTOP2.out (rd1_no HRN.out (fun h9 => h7 (by have := h9.2.2.2.2.2; rw [← HT1.out.1, ← HU.out.1] at this; exact this)))
                      go_wp2
                      go_ret3
                      rw [HX.out.1, HX.out.2.1, HX.out.2.2]
                      exact ⟨_, rfl, own_base (own_empty wr 3 1) HB.out.size, bstep HB.out (below_one _ _)⟩
              · have HX : Hid (N = 0 ∧ c = 0 ∧ A = false) := HSTOP.out (rd1_no HRN.out (fun h9 => h5 ((HM.out q).2 h9.2.2.1)))
                clear HSTOP hcell
                go_wp2
                go_ret3
                rw [HX.out.1, HX.out.2.1, HX.out.2.2]
                exact ⟨_, rfl, own_base (own_empty wr 3 1) HB.out.size, bstep HB.out (below_one _ _)⟩
            · have HX : Hid (N = 0 ∧ c = 0 ∧ A = false) := HSTOP.out (rd1_no HRN.out (fun h9 => h4 (by rw [HTQ.out]; exact h9.2.1)))
              obtain ⟨x, hx⟩ : ∃ x, x = b t := ⟨_, rfl⟩
              rw [← hx] at c0 h3 h4
              have h6 : (x != 0) = true := by simp [h4]
              have h7 : (x == 1) = false := by simp [h3]
              clear hx HSTOP hcell
              go_wp2
              go_ret3
              rw [HX.out.1, HX.out.2.1, HX.out.2.2]
              exact ⟨_, rfl, own_base (own_empty wr 3 1) HB.out.size, bstep HB.out (below_one _ _)⟩
        · have HX : Hid (N = 0 ∧ c = 0 ∧ A = false) := HSTOP.out (rd1_no (run1_eq (q := q) (by have := HTQ.out; omega) HQ.out (.inl (by have := HTQ.out; omega))) (fun h9 => h2 (by have := HTQ.out; have := h9.1; omega)))
          clear HSTOP
          go_wp2
          go_ret3
          rw [HX.out.1, HX.out.2.1, HX.out.2.2]
          exact ⟨_, rfl, own_base (own_empty wr 3 1) HB.out.size, bstep HB.out (below_one _ _)⟩
    · have hjm : R.length = m := by omega
      have HNM : Hid (rdn b n k m = some (R, a)) := by rw [← hjm]; exact HN.out
      clear hjm
      go_wp2
      go_loopw [13] (fun iv wr9 => ∃ i : Nat, iv = .int .i64 (i : Int) ∧ a ≤ i ∧ i ≤ n ∧ wr9 = wr ∧ Hid (∀ x, a ≤ x → x < i → Bit (b x))) (fun iv _ => n - (intOf iv).toNat)
      case atStart => exact ⟨a, rfl, by omega, by omega, rfl, fun x h1 h2 => by omega⟩
      case round =>
        obtain ⟨i, rfl, hai, hin, rfl, HI⟩ := hrel
        by_cases h2 : i < n
        · obtain ⟨bb, off, rfl, hlt, hcell⟩ := HC.out (by omega)
          have c0 := (HB.out.cell (p := ⟨bb, off + i, none⟩) hlt).trans (hcell i h2)
          have il := in_any (b i) 0 1
          by_cases h3 : Bit (b i)
          · rw [decide_eq_true (by rcases h3 with e | e <;> rw [e] <;> omega)] at il
            have HI2 : Hid (∀ x, a ≤ x → x < i + 1 → Bit (b x)) := fun x h4 h5 => by
              by_cases e : x = i
              · rw [e]; exact h3
              · exact HI.out x h4 (by omega)
            clear h3 hcell
            generalize b i = x at c0 il
            go_wp2_with (first | (go_at_call 59; (with_reducible refine (il _).mono ?_); rintro e w' ⟨rfl, hw⟩; obtain rfl := hw.symm))
            go_roundw
            case rel => exact ⟨i + 1, by go_num, by omega, by omega, by trivial, HI2.out⟩
            case measure => simp [intOf]; omega
          · rw [decide_eq_false (fun h9 => h3 (by omega))] at il
            have HX : Hid (N = 0 ∧ c = 0 ∧ A = false) := HF.out (fun R2 a2 e9 h9 => by
              rw [HNM.out] at e9
              injection e9 with e9
              injection e9 with f1 f2
              subst f1 f2
              exact h3 (h9 i hai h2))
            clear h3 hcell
            generalize b i = x at c0 il
            go_wp2_with (first | (go_at_call 59; (with_reducible refine (il _).mono ?_); rintro e w' ⟨rfl, hw⟩; obtain rfl := hw.symm))
            go_ret3
            rw [HX.out.1, HX.out.2.1, HX.out.2.2]
            exact ⟨_, rfl, own_base (own_empty wr 3 1) HB.out.size, bstep HB.out (below_one _ _)⟩
        · have HX : Hid (N = R.length ∧ ys = lf R ∧ c = (a : Int) ∧ A = true) := HT.out R a HNM.out (fun x h4 h5 => HI.out x h4 (by omega))
          go_wp2
          go_ret3
          rw [HX.out.1, HX.out.2.1, HX.out.2.2.1, HX.out.2.2.2]
          exact ⟨_, rfl, HO.out, HB.out⟩
end Go.Proofs.YtndagpompioooaaDoor
