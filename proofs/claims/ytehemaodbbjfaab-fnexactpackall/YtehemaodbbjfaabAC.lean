/- PackAll: the model. -/
import Derived.Test.YtehemaodbbjfaabAA
namespace Go.Proofs.Ytehemaodbbjfaab
open Go.RowKit

theorem wpList_appc {w : World} {ops : Array Oper} {rest : List Oper} {o : Oper} {a : Act} {Q : Exit → Act → World → Prop} (hgd : o.guard = none) (s x : Operand)
    (ho : o.op = .call { callee := .builtin .append, args := #[s, x], argTypes := #[23, 23] }) (base : Nat) (v xv : Value) (n m : Nat) (xs : List Value) (ys : Nat → Int) (hs : a.eval s = v) (hx : a.eval x = xv)
    (hown : w.ownsRow base 5 1 v n xs) (hsrc : Bl w xv m ys) (hnm : n + m ≤ 16777216) (hbase : base ≤ w.heap.size)
    (h : ∀ v' w', w'.ownsRow base 5 1 v' (n + m) (xs ++ bls ys m) → w.grownBy w' v.ownBlock → wpList Try.prog ops Q rest (a.put o.dst v') w') : wpList Try.prog ops Q (o :: rest) a w := by
  obtain ⟨i0, hi, hz0, hz1, hz2⟩ := info_parts Try.info5
  obtain ⟨ao, cap, rfl, hcap, hc⟩ := hsrc
  by_cases hm : 0 < m
  · obtain ⟨b, off, rfl, hlt, hcell⟩ := hc hm
    refine wpList_append_own _ hgd s x 23 ho base 5 i0 (.int .u8 0) 1 1 Try.underlying23 hi hz0 hz1 hz2 rfl (by decide) v n xs hs hown ⟨b, off, none⟩ m cap (bls ys m) hx (by rw [bls_length, Nat.mul_one]) (fun j u hu => ?_) (bls_one _ _) (by unfold maxLen; omega) (by omega) hbase (fun v' w' h2 h3 _ => h v' w' h2 h3)
    by_cases hj : j < m
    · rw [bls_get hj] at hu
      have h6 := (hcell j hj).trans hu
      unfold Addr.add
      split
      · rename_i h7
        obtain rfl : j = 0 := by simpa using h7
        exact h6
      · exact h6
    · rw [List.getElem?_eq_none (by rw [bls_length]; omega)] at hu
      cases hu
  · obtain rfl : m = 0 := by omega
    cases ao with
    | none =>
      refine wpList_plain hgd fun K hK => ?_
      have hr := run_app_none (P := Try.prog) (w := w) base 23 o.type 5 i0 1 Try.underlying23 hi v n xs hown cap
      unfold Oper.wp execOp
      simp only [ho, resolve, invoke, builtin, Sem.run_bind, Sem.run_pure, Result.andThen_ok, List.map_toArray, List.map_cons, List.map_nil, hs, hx, hr]
      exact hK _ _ (h v w (by simpa [bls] using hown) (grown_refl _ _))
    | some ad => exact wpList_append_own _ hgd s x 23 ho base 5 i0 (.int .u8 0) 1 1 Try.underlying23 hi hz0 hz1 hz2 rfl (by decide) v n xs hs hown ad 0 cap (bls ys 0) hx (by rw [bls_length, Nat.mul_one]) (fun j u hu => by cases hu) (bls_one _ _) (by unfold maxLen; omega) (by omega) hbase (fun v' w' h2 h3 _ => h v' w' h2 h3)

theorem least_any {x y z : Nat} (hx : x ≤ 1048576) (hy : y ≤ 1048576) (hz : x < y ∧ z = x ∨ y ≤ x ∧ z = y) (w : World) : Calls Try.prog 14 #[.int .i64 (x : Int), .int .i64 (y : Int)] w fun e w' => e = .returned (.int .i64 (z : Int)) ∧ w' = w := by
  rcases hz with ⟨h, rfl⟩ | ⟨h, rfl⟩
  · go_enter Try.func14, Try.ntmps14
    go_wp2
    go_ret
    exact ⟨rfl, rfl⟩
  · go_enter Try.func14, Try.ntmps14
    go_wp2
    go_ret
    exact ⟨rfl, rfl⟩

set_option maxRecDepth 20000 in
set_option maxHeartbeats 16000000 in
theorem sAll_good {w : World} {v : Value} {n : Nat} {xs : Nat → Int} (hv : Il w v n xs) (h : Sig n xs) {s : Nat} (hs : 1 ≤ s ∧ s ≤ 128) {P : Nat} (hP : P = (n + s - 1) / s) (A : Bool) (hA : A = decide (Pgd n s P xs)) (N : Nat) (hN : N = if A = true then (pal n s xs P).length else 0) :
    Calls Try.prog 4 #[v, .int .i64 (s : Int)] w fun e w' => Psb w w' e N (lf (pal n s xs P)) A := by
  have h5 := h.1
  have HBT : Hid (∀ k, k < n → Smp (xs k)) := h.2
  have HA : Hid (A = decide (Pgd n s P xs)) := hA
  have HN : Hid (N = if A = true then (pal n s xs P).length else 0) := hN
  have HLN : Hid (∀ t, (pal n s xs t).length ≤ t * 12600) := fun t => by
    induction t with
    | zero => exact Nat.zero_le _
    | succ t ih =>
      rw [pal_len]
      have h9 := (frame_told (n := pcn n s t) (xs := pcx s xs t) (by unfold pcn; omega)).1
      omega
  have hPn : ∀ t, t < P ↔ t * s < n := fun t => by
    rw [hP]
    constructor
    · intro h9
      have h8 : (t + 1) * s ≤ n + s - 1 := Nat.le_trans (Nat.mul_le_mul_right s h9) (Nat.div_mul_le_self _ _)
      rw [Nat.add_mul, Nat.one_mul] at h8
      omega
    · intro h9
      refine (Nat.le_div_iff_mul_le (by omega)).2 ?_
      have h8 : (t + 1) * s = t * s + s := by rw [Nat.add_mul, Nat.one_mul]
      show (t + 1) * s ≤ n + s - 1
      omega
  have i1 := sSig_any (hv.below (below_one w (.cells #[] 5))) (by omega)
  rw [decide_eq_true h] at i1
  have i2 := in_any (s : Int) 1 128
  rw [decide_eq_true (by omega)] at i2
  have hPb : P ≤ n := by
    rcases Nat.eq_zero_or_pos P with h0 | h0
    · omega
    · have h7 := (hPn (P - 1)).1 (by omega)
      have h6 : P - 1 ≤ (P - 1) * s := Nat.le_mul_of_pos_right _ (by omega)
      omega
  have HPN : Hid (∀ t, t < P ↔ t * s < n) := hPn
  have OW : Hid ((w.alloc (.cells #[] 5)).ownsRow w.heap.size 5 1 (.slice (some ⟨w.heap.size, 0, none⟩) 0 0) 0 []) := own_empty w 5 1
  have BL : Hid (Below w.heap.size w (w.alloc (.cells #[] 5))) := below_one _ _
  obtain ⟨ao, cap, rfl, hcap, hc⟩ := hv
  have HC : Hid (0 < n → ∃ b off, ao = some ⟨b, off, none⟩ ∧ b < w.heap.size ∧ ∀ k, k < n → w.cell? ⟨b, off + k, none⟩ = some (.int .i64 (xs k))) := hc
  clear hc h hA hN hP hPn
  go_enter Try.func4, Try.ntmps4
  go_wp2_with (first | (go_at_call 12; (with_reducible refine (i1).mono ?_); rintro e w' ⟨rfl, hw⟩; obtain rfl := hw.symm) | (go_at_call 13; (with_reducible refine (i2 _).mono ?_); rintro e w' ⟨rfl, hw⟩; obtain rfl := hw.symm))
  clear i1 i2
  generalize w.alloc (.cells #[] 5) = W at *
  go_loopw [6, 7, 8, 9, 10] (fun q iv _ _ _ wr => ∃ (t m : Nat) (R : List Int), iv = .int .i64 (m : Int) ∧ t ≤ P ∧ m ≤ 640 ∧ Hid (m = t * s) ∧ Hid (R = pal n s xs t ∧ wr.ownsRow w.heap.size 5 1 q R.length (bls (lf R) R.length) ∧ Below w.heap.size w wr ∧ ∀ u, u < t → fok (pcn n s u) (pcx s xs u) = true)) (fun _ iv _ _ _ _ => n - (intOf iv).toNat)
  case atStart => exact ⟨0, 0, [], rfl, by omega, by omega, (Nat.zero_mul _).symm, rfl, OW.out, BL.out, fun u hu => absurd hu (Nat.not_lt_zero _)⟩
  case round =>
    clear OW BL
    obtain ⟨t, m, R, rfl, ht, hm6, hmq, hrel⟩ := hrel
    have hR : R.length ≤ t * 12600 := by rw [hrel.out.1]; exact HLN.out t
    have hm := hmq.out
    have ht5 : t ≤ 512 := by omega
    by_cases hm9 : m < n
    · have h1 : t < P := (HPN.out t).2 (by rw [← hm]; exact hm9)
      obtain ⟨b, off, rfl, hlt, hcell⟩ := HC.out (by omega)
      obtain ⟨m2, hm2⟩ : ∃ m2 : Nat, m2 = m + s := ⟨_, rfl⟩
      have e1 : (m : Int) + (s : Int) = (m2 : Int) := by omega
      have hmm : m ≤ m2 ∧ m2 ≤ 640 := by omega
      have hmm2 : m2 ≤ m + s ∧ m + s ≤ m2 := by omega
      by_cases hE : m2 < n
      · have hpc : pcn n s t = m2 - m := by unfold pcn; rw [← hm]; omega
        have il := least_any (x := m2) (y := n) (z := m2) (by omega) (by omega) (.inl ⟨hE, rfl⟩)
        obtain ⟨hf1, hf2, hf3⟩ := frame_told (n := pcn n s t) (xs := pcx s xs t) (by unfold pcn; omega)
        have HIL : Hid (∀ c, m2 - m ≤ c → Il wr (.slice (some ⟨b, off + m, none⟩) (m2 - m) c) (m2 - m) (pcx s xs t)) := fun c hc => ⟨_, _, rfl, hc, fun _ => ⟨b, off + m, rfl, Nat.lt_of_lt_of_le hlt hrel.out.2.2.1.size, fun j hj => by
          have h9 := (hrel.out.2.2.1.cell (p := ⟨b, off + (m + j), none⟩) hlt).trans (hcell (m + j) (by omega))
          unfold pcx
          rw [← hm, Nat.add_assoc]
          exact h9⟩⟩
        have HF : Hid (∀ W u, Il W u (m2 - m) (pcx s xs t) → Calls Try.prog 15 #[u] W fun e w' => Psb W w' e (fN (pcn n s t) (pcx s xs t)) (fY (pcn n s t) (pcx s xs t)) (fok (pcn n s t) (pcx s xs t))) := by rw [hpc] at hf2 ⊢; exact hf2
        have HX : Hid (pal n s xs (t + 1) = R ++ (List.range (fN (pcn n s t) (pcx s xs t))).map (fY (pcn n s t) (pcx s xs t))) := by rw [hrel.out.1]; rfl
        have HO : Hid (wr.ownsRow w.heap.size 5 1 _ R.length (bls (lf R) R.length)) := hrel.out.2.1
        have HB : Hid (Below w.heap.size w wr) := hrel.out.2.2.1
        have HAL : Hid (∀ u, u < t → fok (pcn n s u) (pcx s xs u) = true) := hrel.out.2.2.2
        obtain ⟨qa, qc, hq9⟩ := own_sliceb HO.out
        subst hq9
        obtain ⟨Nf, hNf⟩ : ∃ Nf, Nf = fN (pcn n s t) (pcx s xs t) := ⟨_, rfl⟩
        obtain ⟨Yf, hYf⟩ : ∃ Yf, Yf = fY (pcn n s t) (pcx s xs t) := ⟨_, rfl⟩
        obtain ⟨Kf, hKf⟩ : ∃ Kf, Kf = fok (pcn n s t) (pcx s xs t) := ⟨_, rfl⟩
        rw [← hNf, ← hYf, ← hKf] at HF
        rw [← hNf, ← hYf] at HX
        rw [← hNf] at hf1
        have HK : Hid (Kf = fok (pcn n s t) (pcx s xs t)) := hKf
        have hl9 : (R ++ (List.range Nf).map Yf).length = R.length + Nf := by rw [List.length_append, List.length_map, List.length_range]
        have HMM : Hid (m = t * s) := hm
        clear hcell hrel hf2 hf3 hpc hNf hYf hKf hm hm2
        by_cases hk : Kf = true
        · subst hk
          go_wp2_with (first
            | (go_at_call 14; (with_reducible refine (il _).mono ?_); rintro e w' ⟨rfl, hw⟩; obtain rfl := hw.symm)
            | (go_at_call 15; refine (HF.out _ _ (HIL.out _ (by omega))).mono ?_; rintro e w2 ⟨x2, rfl, hown, hb⟩; obtain ⟨xa, xc, hx9⟩ := own_sliceb hown; subst hx9; have HX2 : Hid (Bl w2 (.slice xa Nf xc) Nf Yf) := bl_of_own hown; have HO2 : Hid (w2.ownsRow w.heap.size 5 1 (.slice qa R.length qc) R.length (bls (lf R) R.length)) := own_below HO.out hb; have HB2 : Hid (Below w.heap.size w w2) := bstep HB.out hb; clear hown hb)
            | (at_builtin; refine wpList_appc rfl _ _ rfl w.heap.size _ _ R.length Nf _ Yf rfl rfl HO2.out HX2.out (by omega) HB2.out.size ?_; intro x3 w3 hown hgrow; have HO3 : Hid (w3.ownsRow w.heap.size 5 1 x3 (R ++ (List.range Nf).map Yf).length (bls (lf (R ++ (List.range Nf).map Yf)) (R ++ (List.range Nf).map Yf).length)) := (by rw [hl9, ← bl_cat]; exact hown); have HB3 : Hid (Below w.heap.size w w3) := grown_below HB2.out (Nat.le_refl _) HO2.out hgrow; clear hown hgrow))
          go_roundw
          case rel => exact ⟨t + 1, m + s, R ++ (List.range Nf).map Yf, by go_num, by omega, by omega, by show m + s = (t + 1) * s; rw [HMM.out, Nat.add_mul, Nat.one_mul], HX.out.symm, HO3.out, HB3.out, fun u hu => by
            by_cases hut : u = t
            · subst hut; exact HK.out.symm
            · exact HAL.out u (by omega)⟩
          case measure => simp [intOf]; omega
        · have hk2 : Kf = false := by cases Kf <;> simp_all
          subst hk2
          have hF : Hid (A = false) := by
            show A = false
            rw [HA.out]
            refine decide_eq_false (fun h9 => ?_)
            have h8 := h9.1 t h1
            rw [← HK.out] at h8
            cases h8
          go_wp2_with (first
            | (go_at_call 14; (with_reducible refine (il _).mono ?_); rintro e w' ⟨rfl, hw⟩; obtain rfl := hw.symm)
            | (go_at_call 15; refine (HF.out _ _ (HIL.out _ (by omega))).mono ?_; rintro e w2 ⟨x2, rfl, hown, hb⟩; obtain ⟨xa, xc, hx9⟩ := own_sliceb hown; subst hx9; have HX2 : Hid (Bl w2 (.slice xa Nf xc) Nf Yf) := bl_of_own hown; have HO2 : Hid (w2.ownsRow w.heap.size 5 1 (.slice qa R.length qc) R.length (bls (lf R) R.length)) := own_below HO.out hb; have HB2 : Hid (Below w.heap.size w w2) := bstep HB.out hb; clear hown hb))
          go_ret2
          rw [hF.out, show N = 0 by rw [HN.out, hF.out]; rfl]
          exact ⟨_, rfl, own_base (own_empty w2 5 1) HB2.out.size, bstep HB2.out (below_one _ _)⟩
      · have hpc : pcn n s t = n - m := by unfold pcn; rw [← hm]; omega
        have il := least_any (x := m2) (y := n) (z := n) (by omega) (by omega) (.inr ⟨by omega, rfl⟩)
        obtain ⟨hf1, hf2, hf3⟩ := frame_told (n := pcn n s t) (xs := pcx s xs t) (by unfold pcn; omega)
        have HIL : Hid (∀ c, n - m ≤ c → Il wr (.slice (some ⟨b, off + m, none⟩) (n - m) c) (n - m) (pcx s xs t)) := fun c hc => ⟨_, _, rfl, hc, fun _ => ⟨b, off + m, rfl, Nat.lt_of_lt_of_le hlt hrel.out.2.2.1.size, fun j hj => by
          have h9 := (hrel.out.2.2.1.cell (p := ⟨b, off + (m + j), none⟩) hlt).trans (hcell (m + j) (by omega))
          unfold pcx
          rw [← hm, Nat.add_assoc]
          exact h9⟩⟩
        have HF : Hid (∀ W u, Il W u (n - m) (pcx s xs t) → Calls Try.prog 15 #[u] W fun e w' => Psb W w' e (fN (pcn n s t) (pcx s xs t)) (fY (pcn n s t) (pcx s xs t)) (fok (pcn n s t) (pcx s xs t))) := by rw [hpc] at hf2 ⊢; exact hf2
        have HX : Hid (pal n s xs (t + 1) = R ++ (List.range (fN (pcn n s t) (pcx s xs t))).map (fY (pcn n s t) (pcx s xs t))) := by rw [hrel.out.1]; rfl
        have HO : Hid (wr.ownsRow w.heap.size 5 1 _ R.length (bls (lf R) R.length)) := hrel.out.2.1
        have HB : Hid (Below w.heap.size w wr) := hrel.out.2.2.1
        have HAL : Hid (∀ u, u < t → fok (pcn n s u) (pcx s xs u) = true) := hrel.out.2.2.2
        obtain ⟨qa, qc, hq9⟩ := own_sliceb HO.out
        subst hq9
        obtain ⟨Nf, hNf⟩ : ∃ Nf, Nf = fN (pcn n s t) (pcx s xs t) := ⟨_, rfl⟩
        obtain ⟨Yf, hYf⟩ : ∃ Yf, Yf = fY (pcn n s t) (pcx s xs t) := ⟨_, rfl⟩
        obtain ⟨Kf, hKf⟩ : ∃ Kf, Kf = fok (pcn n s t) (pcx s xs t) := ⟨_, rfl⟩
        rw [← hNf, ← hYf, ← hKf] at HF
        rw [← hNf, ← hYf] at HX
        rw [← hNf] at hf1
        have HK : Hid (Kf = fok (pcn n s t) (pcx s xs t)) := hKf
        have hl9 : (R ++ (List.range Nf).map Yf).length = R.length + Nf := by rw [List.length_append, List.length_map, List.length_range]
        have HMM : Hid (m = t * s) := hm
        clear hcell hrel hf2 hf3 hpc hNf hYf hKf hm hm2
        by_cases hk : Kf = true
        · subst hk
          go_wp2_with (first
            | (go_at_call 14; (with_reducible refine (il _).mono ?_); rintro e w' ⟨rfl, hw⟩; obtain rfl := hw.symm)
            | (go_at_call 15; refine (HF.out _ _ (HIL.out _ (by omega))).mono ?_; rintro e w2 ⟨x2, rfl, hown, hb⟩; obtain ⟨xa, xc, hx9⟩ := own_sliceb hown; subst hx9; have HX2 : Hid (Bl w2 (.slice xa Nf xc) Nf Yf) := bl_of_own hown; have HO2 : Hid (w2.ownsRow w.heap.size 5 1 (.slice qa R.length qc) R.length (bls (lf R) R.length)) := own_below HO.out hb; have HB2 : Hid (Below w.heap.size w w2) := bstep HB.out hb; clear hown hb)
            | (at_builtin; refine wpList_appc rfl _ _ rfl w.heap.size _ _ R.length Nf _ Yf rfl rfl HO2.out HX2.out (by omega) HB2.out.size ?_; intro x3 w3 hown hgrow; have HO3 : Hid (w3.ownsRow w.heap.size 5 1 x3 (R ++ (List.range Nf).map Yf).length (bls (lf (R ++ (List.range Nf).map Yf)) (R ++ (List.range Nf).map Yf).length)) := (by rw [hl9, ← bl_cat]; exact hown); have HB3 : Hid (Below w.heap.size w w3) := grown_below HB2.out (Nat.le_refl _) HO2.out hgrow; clear hown hgrow))
          go_roundw
          case rel => exact ⟨t + 1, m + s, R ++ (List.range Nf).map Yf, by go_num, by omega, by omega, by show m + s = (t + 1) * s; rw [HMM.out, Nat.add_mul, Nat.one_mul], HX.out.symm, HO3.out, HB3.out, fun u hu => by
            by_cases hut : u = t
            · subst hut; exact HK.out.symm
            · exact HAL.out u (by omega)⟩
          case measure => simp [intOf]; omega
        · have hk2 : Kf = false := by cases Kf <;> simp_all
          subst hk2
          have hF : Hid (A = false) := by
            show A = false
            rw [HA.out]
            refine decide_eq_false (fun h9 => ?_)
            have h8 := h9.1 t h1
            rw [← HK.out] at h8
            cases h8
          go_wp2_with (first
            | (go_at_call 14; (with_reducible refine (il _).mono ?_); rintro e w' ⟨rfl, hw⟩; obtain rfl := hw.symm)
            | (go_at_call 15; refine (HF.out _ _ (HIL.out _ (by omega))).mono ?_; rintro e w2 ⟨x2, rfl, hown, hb⟩; obtain ⟨xa, xc, hx9⟩ := own_sliceb hown; subst hx9; have HX2 : Hid (Bl w2 (.slice xa Nf xc) Nf Yf) := bl_of_own hown; have HO2 : Hid (w2.ownsRow w.heap.size 5 1 (.slice qa R.length qc) R.length (bls (lf R) R.length)) := own_below HO.out hb; have HB2 : Hid (Below w.heap.size w w2) := bstep HB.out hb; clear hown hb))
          go_ret2
          rw [hF.out, show N = 0 by rw [HN.out, hF.out]; rfl]
          exact ⟨_, rfl, own_base (own_empty w2 5 1) HB2.out.size, bstep HB2.out (below_one _ _)⟩
    · have h1 : ¬ t < P := fun h9 => hm9 (by rw [hm]; exact (HPN.out t).1 h9)
      have e9 : P = t := by omega
      subst e9
      obtain ⟨qa, qc, hq9⟩ := own_sliceb hrel.out.2.1
      subst hq9
      clear hm hmq
      by_cases hl : R.length ≤ 20000
      · have hF : A = true := by rw [HA.out]; exact decide_eq_true ⟨hrel.out.2.2.2, by rw [← hrel.out.1]; exact hl⟩
        have hN : N = R.length := by rw [HN.out, hF, hrel.out.1]; rfl
        have HFF : Hid (A = true ∧ N = R.length) := ⟨hF, hN⟩
        clear hF hN
        go_wp2
        go_ret2
        rw [HFF.out.1, HFF.out.2, ← hrel.out.1]
        exact ⟨_, rfl, hrel.out.2.1, hrel.out.2.2.1⟩
      · have hF : A = false := by rw [HA.out]; exact decide_eq_false (fun h9 => hl (by rw [hrel.out.1]; exact h9.2))
        have hN : N = 0 := by rw [HN.out, hF]; rfl
        have HFF : Hid (A = false ∧ N = 0) := ⟨hF, hN⟩
        clear hF hN
        go_wp2
        go_ret2
        rw [HFF.out.1, HFF.out.2]
        exact ⟨_, rfl, own_base (own_empty wr 5 1) hrel.out.2.2.1.size, bstep hrel.out.2.2.1 (below_one _ _)⟩
end Go.Proofs.Ytehemaodbbjfaab
