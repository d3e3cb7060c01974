/- PackAll: the program. -/
import Derived.Test.YtehemaodbbjfaabAA
namespace Go.Proofs.Ytehemaodbbjfaab
open Go.RowKit

set_option maxRecDepth 20000 in
set_option maxHeartbeats 16000000 in
theorem iAll_good {w : World} {v : Value} {n : Nat} {xs : Nat → Int} (hv : Il w v n xs) (h : Sig n xs) {s : Nat} (hs : 1 ≤ s ∧ s ≤ 128) {P : Nat} (hP : P = (n + s - 1) / s) (A : Bool) (hA : A = decide (Pgd n s P xs)) (N : Nat) (hN : N = if A = true then (pal n s xs P).length else 0) :
    Calls Try.prog 6 #[v, .int .i64 (s : Int)] w fun e w' => Psb w w' e N (lf (pal n s xs P)) A := by
  have h5 := h.1
  have HBT : Hid (∀ k, k < n → Smp (xs k)) := h.2
  have HA : Hid (A = decide (Pgd n s P xs)) := hA
  have HN : Hid (N = if A = true then (pal n s xs P).length else 0) := hN
  have HLN : Hid (∀ t, (pal n s xs t).length ≤ t * 12600) := fun t => by
    induction t with
    | zero => exact Nat.zero_le _
    | succ t ih =>
      rw [pal_len]
      have h9 := (frame_told (n := pcn n s t) (xs := pcx s xs t) (by unfold pcn; omega)).1
      omega
  have hPn : ∀ t, t < P ↔ t * s < n := fun t => by
    rw [hP]
    constructor
    · intro h9
      have h8 : (t + 1) * s ≤ n + s - 1 := Nat.le_trans (Nat.mul_le_mul_right s h9) (Nat.div_mul_le_self _ _)
      rw [Nat.add_mul, Nat.one_mul] at h8
      omega
    · intro h9
      refine (Nat.le_div_iff_mul_le (by omega)).2 ?_
      have h8 : (t + 1) * s = t * s + s := by rw [Nat.add_mul, Nat.one_mul]
      show (t + 1) * s ≤ n + s - 1
      omega
  have i1 := iSig_any hv (by omega)
  rw [decide_eq_true h] at i1
  have i2 := size_any (s : Int)
  rw [decide_eq_true (by omega)] at i2
  have i3 := pieces_any (n := n) (r := s) (q := P) (by omega) (by omega) (by omega) hP
  have hPb : P ≤ n := by
    rcases Nat.eq_zero_or_pos P with h0 | h0
    · omega
    · have h7 := (hPn (P - 1)).1 (by omega)
      have h6 : P - 1 ≤ (P - 1) * s := Nat.le_mul_of_pos_right _ (by omega)
      omega
  have HPN : Hid (∀ t, t < P ↔ t * s < n) := hPn
  have OW : Hid ((w.alloc (.cells #[] 5)).ownsRow w.heap.size 5 1 (.slice (some ⟨w.heap.size, 0, none⟩) 0 0) 0 []) := own_empty w 5 1
  have BL : Hid (Below w.heap.size w (w.alloc (.cells #[] 5))) := below_one _ _
  obtain ⟨ao, cap, rfl, hcap, hc⟩ := hv
  have HC : Hid (0 < n → ∃ b off, ao = some ⟨b, off, none⟩ ∧ b < w.heap.size ∧ ∀ k, k < n → w.cell? ⟨b, off + k, none⟩ = some (.int .i64 (xs k))) := hc
  clear hc h hA hN hP hPn
  go_enter Try.func6, Try.ntmps6
  go_wp2_with (first | (go_at_call 16; (with_reducible refine (i1).mono ?_); rintro e w' ⟨rfl, hw⟩; obtain rfl := hw.symm) | (go_at_call 17; (with_reducible refine (i2 _).mono ?_); rintro e w' ⟨rfl, hw⟩; obtain rfl := hw.symm) | (go_at_call 18; (with_reducible refine (i3 _).mono ?_); rintro e w' ⟨rfl, hw⟩; obtain rfl := hw.symm))
  clear i1 i2 i3
  generalize w.alloc (.cells #[] 5) = W at *
  go_loopw [6, 7, 8, 9, 24] (fun q _ _ _ iv wr => ∃ (t : Nat) (R : List Int), iv = .int .i64 t ∧ t ≤ P ∧ R.length ≤ 20000 ∧ Hid (R = pal n s xs t ∧ wr.ownsRow w.heap.size 5 1 q R.length (bls (lf R) R.length) ∧ Below w.heap.size w wr ∧ ∀ u, u < t → fok (pcn n s u) (pcx s xs u) = true)) (fun _ _ _ _ iv _ => P - (intOf iv).toNat)
  case atStart => exact ⟨0, [], rfl, by omega, Nat.zero_le _, rfl, OW.out, BL.out, fun u hu => absurd hu (Nat.not_lt_zero _)⟩
  case round =>
    clear OW BL
    obtain ⟨t, R, rfl, ht, hR, hrel⟩ := hrel
    by_cases h1 : t < P
    · have hm9 := (HPN.out t).1 h1
      obtain ⟨b, off, rfl, hlt, hcell⟩ := HC.out (by omega)
      obtain ⟨m, hm⟩ : ∃ m : Nat, m = t * s := ⟨_, rfl⟩
      have e0 : (t : Int) * (s : Int) = (m : Int) := by rw [hm, Int.natCast_mul]
      obtain ⟨m2, hm2⟩ : ∃ m2 : Nat, m2 = m + s := ⟨_, rfl⟩
      have e1 : ((t : Int) + 1) * (s : Int) = (m2 : Int) := by rw [hm2, hm, Int.add_mul, Int.one_mul, Int.natCast_add, Int.natCast_mul]
      rw [← hm] at hm9
      have hmm : m ≤ m2 ∧ m2 ≤ 640 := by omega
      by_cases hE : m2 ≤ n
      · have hpc : pcn n s t = m2 - m := by unfold pcn; rw [← hm]; omega
        obtain ⟨hf1, hf2, hf3⟩ := frame_told (n := pcn n s t) (xs := pcx s xs t) (by unfold pcn; omega)
        have HIL : Hid (∀ c, m2 - m ≤ c → Il wr (.slice (some ⟨b, off + m, none⟩) (m2 - m) c) (m2 - m) (pcx s xs t)) := fun c hc => ⟨_, _, rfl, hc, fun _ => ⟨b, off + m, rfl, Nat.lt_of_lt_of_le hlt hrel.out.2.2.1.size, fun j hj => by
          have h9 := (hrel.out.2.2.1.cell (p := ⟨b, off + (m + j), none⟩) hlt).trans (hcell (m + j) (by omega))
          unfold pcx
          rw [← hm, Nat.add_assoc]
          exact h9⟩⟩
        have HF : Hid (∀ W u, Il W u (m2 - m) (pcx s xs t) → Calls Try.prog 19 #[u] W fun e w' => Psb W w' e (fN (pcn n s t) (pcx s xs t)) (fY (pcn n s t) (pcx s xs t)) (fok (pcn n s t) (pcx s xs t))) := by rw [hpc] at hf3 ⊢; exact hf3
        have HX : Hid (pal n s xs (t + 1) = R ++ (List.range (fN (pcn n s t) (pcx s xs t))).map (fY (pcn n s t) (pcx s xs t))) := by rw [hrel.out.1]; rfl
        have HO : Hid (wr.ownsRow w.heap.size 5 1 _ R.length (bls (lf R) R.length)) := hrel.out.2.1
        have HB : Hid (Below w.heap.size w wr) := hrel.out.2.2.1
        have HAL : Hid (∀ u, u < t → fok (pcn n s u) (pcx s xs u) = true) := hrel.out.2.2.2
        obtain ⟨qa, qc, hq9⟩ := own_sliceb HO.out
        subst hq9
        obtain ⟨Nf, hNf⟩ : ∃ Nf, Nf = fN (pcn n s t) (pcx s xs t) := ⟨_, rfl⟩
        obtain ⟨Yf, hYf⟩ : ∃ Yf, Yf = fY (pcn n s t) (pcx s xs t) := ⟨_, rfl⟩
        obtain ⟨Kf, hKf⟩ : ∃ Kf, Kf = fok (pcn n s t) (pcx s xs t) := ⟨_, rfl⟩
        rw [← hNf, ← hYf, ← hKf] at HF
        rw [← hNf, ← hYf] at HX
        rw [← hNf] at hf1
        have HK : Hid (Kf = fok (pcn n s t) (pcx s xs t)) := hKf
        have hl9 : (R ++ (List.range Nf).map Yf).length = R.length + Nf := by rw [List.length_append, List.length_map, List.length_range]
        clear hcell hrel hf2 hf3 hpc hNf hYf hKf hm hm2
        by_cases hk : Kf = true
        · subst hk
          by_cases hl : R.length + Nf ≤ 20000
          · go_wp2_with (first
              | (go_at_call 19; refine (HF.out _ _ (HIL.out _ (by omega))).mono ?_; rintro e w2 ⟨x2, rfl, hown, hb⟩; obtain ⟨xa, xc, hx9⟩ := own_sliceb hown; subst hx9; have HX2 : Hid (Bl w2 (.slice xa Nf xc) Nf Yf) := bl_of_own hown; have HO2 : Hid (w2.ownsRow w.heap.size 5 1 (.slice qa R.length qc) R.length (bls (lf R) R.length)) := own_below HO.out hb; have HB2 : Hid (Below w.heap.size w w2) := bstep HB.out hb; clear hown hb)
              | (at_builtin; refine wpList_appb rfl _ _ rfl w.heap.size _ _ R.length Nf _ Yf rfl rfl HO2.out HX2.out (by omega) HB2.out.size ?_; intro x3 w3 hown hgrow; have HO3 : Hid (w3.ownsRow w.heap.size 5 1 x3 (R ++ (List.range Nf).map Yf).length (bls (lf (R ++ (List.range Nf).map Yf)) (R ++ (List.range Nf).map Yf).length)) := (by rw [hl9, ← bl_cat]; exact hown); have HB3 : Hid (Below w.heap.size w w3) := grown_below HB2.out (Nat.le_refl _) HO2.out hgrow; clear hown hgrow))
            go_roundw
            case rel => exact ⟨t + 1, R ++ (List.range Nf).map Yf, by go_num, by omega, by omega, HX.out.symm, HO3.out, HB3.out, fun u hu => by
              by_cases hut : u = t
              · subst hut; exact HK.out.symm
              · exact HAL.out u (by omega)⟩
            case measure => simp [intOf]; omega
          · have hF : Hid (A = false) := by
              show A = false
              rw [HA.out]
              refine decide_eq_false (fun h9 => ?_)
              have h8 := pal_mono n s xs (show t + 1 ≤ P by omega)
              rw [HX.out, hl9] at h8
              have h7 := h9.2
              omega
            go_wp2_with (first
              | (go_at_call 19; refine (HF.out _ _ (HIL.out _ (by omega))).mono ?_; rintro e w2 ⟨x2, rfl, hown, hb⟩; obtain ⟨xa, xc, hx9⟩ := own_sliceb hown; subst hx9; have HX2 : Hid (Bl w2 (.slice xa Nf xc) Nf Yf) := bl_of_own hown; have HO2 : Hid (w2.ownsRow w.heap.size 5 1 (.slice qa R.length qc) R.length (bls (lf R) R.length)) := own_below HO.out hb; have HB2 : Hid (Below w.heap.size w w2) := bstep HB.out hb; clear hown hb))
            go_ret2
            rw [hF.out, show N = 0 by rw [HN.out, hF.out]; rfl]
            exact ⟨_, rfl, own_base (own_empty w2 5 1) HB2.out.size, bstep HB2.out (below_one _ _)⟩
        · have hk2 : Kf = false := by cases Kf <;> simp_all
          subst hk2
          have hF : Hid (A = false) := by
            show A = false
            rw [HA.out]
            refine decide_eq_false (fun h9 => ?_)
            have h8 := h9.1 t h1
            rw [← HK.out] at h8
            cases h8
          go_wp2_with (first
            | (go_at_call 19; refine (HF.out _ _ (HIL.out _ (by omega))).mono ?_; rintro e w2 ⟨x2, rfl, hown, hb⟩; obtain ⟨xa, xc, hx9⟩ := own_sliceb hown; subst hx9; have HX2 : Hid (Bl w2 (.slice xa Nf xc) Nf Yf) := bl_of_own hown; have HO2 : Hid (w2.ownsRow w.heap.size 5 1 (.slice qa R.length qc) R.length (bls (lf R) R.length)) := own_below HO.out hb; have HB2 : Hid (Below w.heap.size w w2) := bstep HB.out hb; clear hown hb))
          go_ret2
          rw [hF.out, show N = 0 by rw [HN.out, hF.out]; rfl]
          exact ⟨_, rfl, own_base (own_empty w2 5 1) HB2.out.size, bstep HB2.out (below_one _ _)⟩
      · have hpc : pcn n s t = n - m := by unfold pcn; rw [← hm]; omega
        obtain ⟨hf1, hf2, hf3⟩ := frame_told (n := pcn n s t) (xs := pcx s xs t) (by unfold pcn; omega)
        have HIL : Hid (∀ c, n - m ≤ c → Il wr (.slice (some ⟨b, off + m, none⟩) (n - m) c) (n - m) (pcx s xs t)) := fun c hc => ⟨_, _, rfl, hc, fun _ => ⟨b, off + m, rfl, Nat.lt_of_lt_of_le hlt hrel.out.2.2.1.size, fun j hj => by
          have h9 := (hrel.out.2.2.1.cell (p := ⟨b, off + (m + j), none⟩) hlt).trans (hcell (m + j) (by omega))
          unfold pcx
          rw [← hm, Nat.add_assoc]
          exact h9⟩⟩
        have HF : Hid (∀ W u, Il W u (n - m) (pcx s xs t) → Calls Try.prog 19 #[u] W fun e w' => Psb W w' e (fN (pcn n s t) (pcx s xs t)) (fY (pcn n s t) (pcx s xs t)) (fok (pcn n s t) (pcx s xs t))) := by rw [hpc] at hf3 ⊢; exact hf3
        have HX : Hid (pal n s xs (t + 1) = R ++ (List.range (fN (pcn n s t) (pcx s xs t))).map (fY (pcn n s t) (pcx s xs t))) := by rw [hrel.out.1]; rfl
        have HO : Hid (wr.ownsRow w.heap.size 5 1 _ R.length (bls (lf R) R.length)) := hrel.out.2.1
        have HB : Hid (Below w.heap.size w wr) := hrel.out.2.2.1
        have HAL : Hid (∀ u, u < t → fok (pcn n s u) (pcx s xs u) = true) := hrel.out.2.2.2
        obtain ⟨qa, qc, hq9⟩ := own_sliceb HO.out
        subst hq9
        obtain ⟨Nf, hNf⟩ : ∃ Nf, Nf = fN (pcn n s t) (pcx s xs t) := ⟨_, rfl⟩
        obtain ⟨Yf, hYf⟩ : ∃ Yf, Yf = fY (pcn n s t) (pcx s xs t) := ⟨_, rfl⟩
        obtain ⟨Kf, hKf⟩ : ∃ Kf, Kf = fok (pcn n s t) (pcx s xs t) := ⟨_, rfl⟩
        rw [← hNf, ← hYf, ← hKf] at HF
        rw [← hNf, ← hYf] at HX
        rw [← hNf] at hf1
        have HK : Hid (Kf = fok (pcn n s t) (pcx s xs t)) := hKf
        have hl9 : (R ++ (List.range Nf).map Yf).length = R.length + Nf := by rw [List.length_append, List.length_map, List.length_range]
        clear hcell hrel hf2 hf3 hpc hNf hYf hKf hm hm2
        by_cases hk : Kf = true
        · subst hk
          by_cases hl : R.length + Nf ≤ 20000
          · go_wp2_with (first
              | (go_at_call 19; refine (HF.out _ _ (HIL.out _ (by omega))).mono ?_; rintro e w2 ⟨x2, rfl, hown, hb⟩; obtain ⟨xa, xc, hx9⟩ := own_sliceb hown; subst hx9; have HX2 : Hid (Bl w2 (.slice xa Nf xc) Nf Yf) := bl_of_own hown; have HO2 : Hid (w2.ownsRow w.heap.size 5 1 (.slice qa R.length qc) R.length (bls (lf R) R.length)) := own_below HO.out hb; have HB2 : Hid (Below w.heap.size w w2) := bstep HB.out hb; clear hown hb)
              | (at_builtin; refine wpList_appb rfl _ _ rfl w.heap.size _ _ R.length Nf _ Yf rfl rfl HO2.out HX2.out (by omega) HB2.out.size ?_; intro x3 w3 hown hgrow; have HO3 : Hid (w3.ownsRow w.heap.size 5 1 x3 (R ++ (List.range Nf).map Yf).length (bls (lf (R ++ (List.range Nf).map Yf)) (R ++ (List.range Nf).map Yf).length)) := (by rw [hl9, ← bl_cat]; exact hown); have HB3 : Hid (Below w.heap.size w w3) := grown_below HB2.out (Nat.le_refl _) HO2.out hgrow; clear hown hgrow))
            go_roundw
            case rel => exact ⟨t + 1, R ++ (List.range Nf).map Yf, by go_num, by omega, by omega, HX.out.symm, HO3.out, HB3.out, fun u hu => by
              by_cases hut : u = t
              · subst hut; exact HK.out.symm
              · exact HAL.out u (by omega)⟩
            case measure => simp [intOf]; omega
          · have hF : Hid (A = false) := by
              show A = false
              rw [HA.out]
              refine decide_eq_false (fun h9 => ?_)
              have h8 := pal_mono n s xs (show t + 1 ≤ P by omega)
              rw [HX.out, hl9] at h8
              have h7 := h9.2
              omega
            go_wp2_with (first
              | (go_at_call 19; refine (HF.out _ _ (HIL.out _ (by omega))).mono ?_; rintro e w2 ⟨x2, rfl, hown, hb⟩; obtain ⟨xa, xc, hx9⟩ := own_sliceb hown; subst hx9; have HX2 : Hid (Bl w2 (.slice xa Nf xc) Nf Yf) := bl_of_own hown; have HO2 : Hid (w2.ownsRow w.heap.size 5 1 (.slice qa R.length qc) R.length (bls (lf R) R.length)) := own_below HO.out hb; have HB2 : Hid (Below w.heap.size w w2) := bstep HB.out hb; clear hown hb))
            go_ret2
            rw [hF.out, show N = 0 by rw [HN.out, hF.out]; rfl]
            exact ⟨_, rfl, own_base (own_empty w2 5 1) HB2.out.size, bstep HB2.out (below_one _ _)⟩
        · have hk2 : Kf = false := by cases Kf <;> simp_all
          subst hk2
          have hF : Hid (A = false) := by
            show A = false
            rw [HA.out]
            refine decide_eq_false (fun h9 => ?_)
            have h8 := h9.1 t h1
            rw [← HK.out] at h8
            cases h8
          go_wp2_with (first
            | (go_at_call 19; refine (HF.out _ _ (HIL.out _ (by omega))).mono ?_; rintro e w2 ⟨x2, rfl, hown, hb⟩; obtain ⟨xa, xc, hx9⟩ := own_sliceb hown; subst hx9; have HX2 : Hid (Bl w2 (.slice xa Nf xc) Nf Yf) := bl_of_own hown; have HO2 : Hid (w2.ownsRow w.heap.size 5 1 (.slice qa R.length qc) R.length (bls (lf R) R.length)) := own_below HO.out hb; have HB2 : Hid (Below w.heap.size w w2) := bstep HB.out hb; clear hown hb))
          go_ret2
          rw [hF.out, show N = 0 by rw [HN.out, hF.out]; rfl]
          exact ⟨_, rfl, own_base (own_empty w2 5 1) HB2.out.size, bstep HB2.out (below_one _ _)⟩
    · obtain rfl : t = P := by omega
      have hF : A = true := by rw [HA.out]; exact decide_eq_true ⟨hrel.out.2.2.2, by rw [← hrel.out.1]; exact hR⟩
      have hN : N = R.length := by rw [HN.out, hF, hrel.out.1]; rfl
      go_wp2
      go_ret2
      rw [hF, hN, ← hrel.out.1]
      exact ⟨_, rfl, hrel.out.2.1, hrel.out.2.2.1⟩
end Go.Proofs.Ytehemaodbbjfaab
