/- The model's rounding: the walk. -/
import Derived.Test.YtddbekacdfohpaaGreatDoorM26
import Derived.Test.YtddbekacdfohpaaGreatDoorM28
import Derived.Deep.Cut
import Derived.Deep.CutRange
namespace Go.Proofs.YtddbekacdfohpaaGreatDoor.Q
open Go.RowKit

theorem bits_at {w : World} {v : Value} {m N : Nat} (h : Nt w v m N) (hm : m ≤ 1000000) :
    Calls Tryz.prog 78 #[v] w fun e w' => e = .returned (.int .i64 (blen N : Int)) ∧ w' = w := by
  refine (bits_any h hm).mono ?_
  rintro e w' ⟨L, rfl, rfl, hL⟩
  exact ⟨by rw [hL.eq], rfl⟩

theorem Nt.blen {w : World} {v : Value} {m N : Nat} (h : Nt w v m N) : blen N ≤ 32 * m := by
  obtain ⟨n, hn, hh, _⟩ := h
  apply blen_le
  refine Nat.lt_of_lt_of_le hh.1 ?_
  rw [Nat.pow_mul]
  exact Nat.pow_le_pow_right (by decide) hn

theorem Nt.mono {w : World} {v : Value} {m k N : Nat} (h : Nt w v m N) (hk : m ≤ k) : Nt w v k N := by
  obtain ⟨n, hn, r⟩ := h
  exact ⟨n, by omega, r⟩

theorem Nt.fit {w : World} {v : Value} {m k N : Nat} (h : Nt w v m N) (hk : N < 4294967296 ^ k) : Nt w v k N := by
  obtain ⟨n, _, hh, ht⟩ := h
  refine ⟨n, ?_, hh, ht⟩
  rcases ht with rfl | ht
  · omega
  · have := (Nat.pow_lt_pow_iff_right (a := 4294967296) (by decide)).1 (Nat.lt_of_le_of_lt ht hk)
    omega

theorem Nt.shape {w : World} {v : Value} {m N : Nat} (h : Nt w v m N) : ∃ ao n cap, v = .slice ao n cap ∧ (n = 0 ↔ N = 0) ∧ n ≤ m := by
  obtain ⟨n, hn, hh, ht⟩ := h
  obtain ⟨ao, cap, rfl, _, _⟩ := hh.shape
  refine ⟨ao, n, cap, rfl, ⟨?_, ?_⟩, hn⟩
  · rintro rfl
    have := hh.1
    simpa using this
  · rintro rfl
    rcases ht with h | h
    · exact h
    · have := pow_pos' (n - 1)
      omega

theorem nt_one (w : World) : Nt (w.alloc (.cells #[.int .u32 1] 70)) (.slice (some ⟨w.heap.size, 0, none⟩) 1 1) 1 1 :=
  ⟨1, Nat.le_refl _, ⟨by decide, rfl, Or.inr ⟨w.heap.size, 1, _, rfl, Nat.zero_le _, heap_alloc_new w _, Nat.le_refl _, by decide, rfl, rfl⟩⟩, Or.inr (by decide)⟩

theorem bstep {w a b : World} (h : Below w.heap.size w a) (k : Below a.heap.size a b) : Below w.heap.size w b := h.trans (k.mono h.size)

theorem shl_at {w : World} {v : Value} {m A : Nat} (ha : Nt w v m A) (hm : m ≤ 20000) (D : Int) (h0 : 0 ≤ D) (h1 : D ≤ 300000) :
    Calls Tryz.prog 79 #[v, .int .i64 D] w fun e w' => Below w.heap.size w w' ∧ ∃ v', e = .returned v' ∧ Nt w' v' 40000 (A * 2 ^ D.toNat) := by
  have := shl_any ha (by omega) (D.toNat / 32) (D.toNat % 32) (by omega) (by omega)
  rw [show 32 * (((D.toNat / 32 : Nat)) : Int) + ((D.toNat % 32 : Nat) : Int) = D by omega, show 32 * (D.toNat / 32) + D.toNat % 32 = D.toNat by omega] at this
  refine this.mono ?_
  rintro e w' ⟨hb, v', he, h⟩
  exact ⟨hb, v', he, h.mono (by omega)⟩

theorem shr_at {w : World} {v : Value} {m A : Nat} (ha : Nt w v m A) (hm : m ≤ 40000) (D : Int) (h0 : 0 ≤ D) (h1 : D ≤ 300000) :
    Calls Tryz.prog 80 #[v, .int .i64 D] w fun e w' => Below w.heap.size w w' ∧ ∃ v', e = .returned v' ∧ Nt w' v' m (A / 2 ^ D.toNat) := by
  have := shr_any ha (by omega) (D.toNat / 32) (D.toNat % 32) (by omega) (by omega)
  rwa [show 32 * (((D.toNat / 32 : Nat)) : Int) + ((D.toNat % 32 : Nat) : Int) = D by omega, show 32 * (D.toNat / 32) + D.toNat % 32 = D.toNat by omega] at this

set_option maxRecDepth 20000 in
set_option maxHeartbeats 4000000 in
set_option maxRecDepth 100000 in
theorem round_any {f wd p t S D h q : Int} (hF : Frm f wd p t S D h q) (mode e : Int) (neg more : Bool) {w : World} {v : Value} {m N : Nat} (hv : Nt w v m N) (hN : 0 < N) (hm : m ≤ 1000) (he0 : -100000 ≤ e) (he1 : e ≤ 100000) :
    Calls Tryz.prog 66 #[.int .i64 f, .int .i64 mode, .bool neg, v, .int .i64 e, .bool more] w fun x w' => x = .returned (.tuple #[.int .u64 (rndV p t h S mode e neg N more), .int .i64 (rndF p t h mode e neg N more)]) ∧ Below w.heap.size w w' := by
  have hfm := fun w => l1Form_any hF.form w
  have hL : (blen N : Int) ≤ 32000 := by have := hv.blen; omega
  have hL0 : (0 : Int) < blen N := by have := (blen_pos hN).1; omega
  have hp : 11 ≤ p ∧ p ≤ 53 ∧ 15 ≤ t ∧ t ≤ 1023 := by
    rcases hF with ⟨_, _, rfl, rfl, _⟩ | ⟨_, _, rfl, rfl, _⟩ | ⟨_, _, rfl, rfl, _⟩ <;> omega
  obtain ⟨hp0, hp1, ht0, ht1⟩ := hp
  have HF : Hid (Frm f wd p t S D h q) := hF
  clear hF
  go_enter Tryz.func66, Tryz.ntmps66
  go_upto_if 45 with (first | (go_at_call 64; refine (hfm _).mono ?_; rintro e w' ⟨rfl, hw⟩; obtain rfl := hw.symm) | (go_at_call 78; refine (bits_at hv (by omega)).mono ?_; rintro e w' ⟨rfl, hw⟩; obtain rfl := hw.symm))
  go_cut [19] from 29 (fun s wx => s = .int .i64 (if e + blen N - 1 < 1 - t then 1 - t else e + blen N - 1) ∧ wx = w)
  case first =>
    go_wp2
    all_goals
      go_meet
      case rel =>
        refine ⟨?_, rfl⟩
        first | rw [if_pos (by omega)] | rw [if_neg (by omega)]
  case rest =>
    obtain ⟨rfl, hw⟩ := hcut
    obtain rfl := hw.symm
    have hu := uOf_ge p t e N
    have hV1 : (if e + blen N - 1 < 1 - t then 1 - t else e + blen N - 1) ≤ 150000 := by split <;> omega
    have hV0 : -150000 ≤ (if e + blen N - 1 < 1 - t then 1 - t else e + blen N - 1) := by split <;> omega
    have HV : Hid ((if e + blen N - 1 < 1 - t then 1 - t else e + blen N - 1) - p + 1 = uOf p t e N) := rfl
    generalize (if e + (blen N : Int) - 1 < 1 - t then 1 - t else e + (blen N : Int) - 1) = V at *
    obtain ⟨hu1, hu2, hu3, hu4⟩ := hu
    have HU3 : Hid _ := hu3
    have HU4 : Hid _ := hu4
    clear hu3 hu4
    go_upto_if 56 with fail
    generalize hU : V - p + 1 = U at *
    have HU : Hid (uOf p t e N = U) := HV.out.symm
    rw [HU.out] at hu1 hu2
    have hu5 : U ≤ 200000 := by omega
    have HVU : Hid (V - p + 1 = U) := hU
    clear hU HV
    go_cut [20, 21, 22] from 29 (fun sm sh ss wx => ∃ M : Nat, M = mOf N (U - e) ∧ Nt wx sm 3 M ∧ sh = .int .i64 (hOf N (U - e) more) ∧ ss = .bool (sOf N (U - e) more) ∧ Below w.heap.size w wx)
    case first =>
      have hvA : Nt (w.alloc (.cells #[] 70)) v m N := hv.below (below_one _)
      have HP : Hid (∀ k : Nat, mOf N (U - e) < 4294967296 ^ 2) := fun _ => Nat.lt_of_lt_of_le (mOf_lt (P := 53) (by omega)) (by decide)
      by_cases hd : U ≤ e
      · have HM : Hid (mOf N (U - e) = N * 2 ^ (e - U).toNat) := by
          show mOf N (U - e) = _
          unfold mOf
          rw [if_pos (by omega), show -(U - e) = e - U by omega]
        have HH : Hid (hOf N (U - e) more = -1) := by
          show hOf N (U - e) more = _
          unfold hOf
          rw [if_pos (by omega)]
        have HS : Hid (sOf N (U - e) more = more) := by
          show sOf N (U - e) more = _
          unfold sOf rOf
          rw [if_pos (by omega)]
          simp
        go_wp2_with (go_at_call 79; refine (shl_at hvA (by omega) _ (by omega) (by omega)).mono ?_; rintro x w1 ⟨hb1, v1, rfl, h1⟩)
        go_meet
        case rel =>
          refine ⟨_, rfl, ?_, ?_, ?_, bstep (below_one _) hb1⟩
          · rw [HM.out]
            have h2 := HP.out 0
            rw [HM.out] at h2
            exact Nt.mono (Nt.fit h1 h2) (by decide)
          · rw [HH.out]
          · rw [HS.out]
      · have hd1 : 1 ≤ U - e := by omega
        have HM : Hid (mOf N (U - e) = N / 2 ^ (U - e).toNat) := by
          show mOf N (U - e) = _
          unfold mOf
          rw [if_neg (by omega)]
        have HR : Hid (N - N / 2 ^ (U - e).toNat * 2 ^ (U - e).toNat = rOf N (U - e)) := by
          show _ = rOf N (U - e)
          unfold rOf
          rw [if_neg (by omega)]
          have := Nat.div_add_mod N (2 ^ (U - e).toNat)
          rw [Nat.mul_comm] at this
          omega
        have HLE : Hid (N / 2 ^ (U - e).toNat * 2 ^ (U - e).toNat ≤ N) := Nat.div_mul_le_self _ _
        have HFIT : Hid (N / 2 ^ (U - e).toNat * 2 ^ (U - e).toNat < 4294967296 ^ m) := by
          obtain ⟨n, hn, hh, _⟩ := hv
          exact Nat.lt_of_le_of_lt HLE.out (Nat.lt_of_lt_of_le hh.1 (Nat.pow_le_pow_right (by decide) hn))
        have HH : Hid (hOf N (U - e) more = if (cmpOf (rOf N (U - e)) (2 ^ ((U - e).toNat - 1)) = 0 ∧ more = true) then 1 else cmpOf (rOf N (U - e)) (2 ^ ((U - e).toNat - 1))) := by
          show hOf N (U - e) more = _
          unfold hOf
          rw [if_neg (by omega)]
        have HS : Hid (sOf N (U - e) more = (more || decide (0 < rOf N (U - e)))) := rfl
        have HC0 : Hid (rOf N (U - e) = 0 → cmpOf (rOf N (U - e)) (2 ^ ((U - e).toNat - 1)) = -1) := fun h => by
          rw [h]
          unfold cmpOf
          rw [if_pos (Nat.pow_pos (by decide))]
        clear hd
        generalize hc : cmpOf (rOf N (U - e)) (2 ^ ((U - e).toNat - 1)) = c at *
        by_cases hR : rOf N (U - e) = 0
        · obtain rfl : c = -1 := HC0.out hR
          have HR0 : Hid (rOf N (U - e) = 0) := hR
          clear hR HC0
          cases more
          all_goals
            go_wp2_with (first
            | (go_at_call 80; refine (shr_at hvA (by omega) _ (by omega) (by omega)).mono ?_; rintro x w1 ⟨hb1, v1, rfl, h1⟩)
            | (go_at_call 81; refine (sub_any ((hvA.below hb1).below hb2) h2 (by omega) HLE.out).mono ?_; rintro x w3 ⟨hb3, v3, rfl, h3'⟩; have h3 : Nt w3 v3 m (rOf N (U - e)) := (by rw [← HR.out]; exact h3'); clear h3'; obtain ⟨ao3, n3, cap3, rfl, hn3, hn4⟩ := h3.shape; obtain rfl : n3 = 0 := hn3.2 HR0.out; clear hn3)
            | (go_at_call 79; with_reducible refine (shl_at h1 (by omega) _ (by omega) (by omega)).mono ?_; rintro x w2 ⟨hb2, v2, rfl, h2'⟩; have h2 := h2'.fit HFIT.out; clear h2')
            | (go_at_call 79; refine (shl_at (nt_one w3) (by omega) _ (by omega) (by omega)).mono ?_; rintro x w4 ⟨hb4, v4, rfl, h4⟩; rw [Nat.one_mul, show (U - e - 1).toNat = (U - e).toNat - 1 by omega] at h4)
            | (go_at_call 82; refine (cmp_any (m := 40000) (((h3.below (below_one _)).below hb4).mono (by omega)) h4 (by omega)).mono ?_; rintro x w5 ⟨rfl, hb5⟩))
            go_meet
            case rel =>
              refine ⟨_, rfl, ?_, ?_, ?_, bstep (bstep (bstep (bstep (bstep (bstep (below_one _) hb1) hb2) hb3) (below_one _)) hb4) hb5⟩
              · rw [HM.out]
                have h9 := HP.out 0
                rw [HM.out] at h9
                exact Nt.mono (Nt.fit (((((h1.below hb2).below hb3).below (below_one _)).below hb4).below hb5) h9) (by decide)
              · rw [HH.out]
                simp
              · rw [HS.out, HR0.out]
                simp
        · have HR0 : Hid (0 < rOf N (U - e)) := Nat.pos_of_ne_zero hR
          clear hR HC0
          by_cases hc0 : c = 0
          · subst hc0
            cases more
            all_goals
              go_wp2_with (first
            | (go_at_call 80; refine (shr_at hvA (by omega) _ (by omega) (by omega)).mono ?_; rintro x w1 ⟨hb1, v1, rfl, h1⟩)
            | (go_at_call 81; refine (sub_any ((hvA.below hb1).below hb2) h2 (by omega) HLE.out).mono ?_; rintro x w3 ⟨hb3, v3, rfl, h3'⟩; have h3 : Nt w3 v3 m (rOf N (U - e)) := (by rw [← HR.out]; exact h3'); clear h3'; obtain ⟨ao3, n3, cap3, rfl, hn3, hn4⟩ := h3.shape; have hn5 : 0 < n3 := (by have := HR0.out; rcases Nat.eq_zero_or_pos n3 with h | h; have := hn3.1 h; omega; exact h); clear hn3)
            | (go_at_call 79; with_reducible refine (shl_at h1 (by omega) _ (by omega) (by omega)).mono ?_; rintro x w2 ⟨hb2, v2, rfl, h2'⟩; have h2 := h2'.fit HFIT.out; clear h2')
            | (go_at_call 79; refine (shl_at (nt_one w3) (by omega) _ (by omega) (by omega)).mono ?_; rintro x w4 ⟨hb4, v4, rfl, h4⟩; rw [Nat.one_mul, show (U - e - 1).toNat = (U - e).toNat - 1 by omega] at h4)
            | (go_at_call 82; refine (cmp_any (m := 40000) (((h3.below (below_one _)).below hb4).mono (by omega)) h4 (by omega)).mono ?_; rintro x w5 ⟨rfl, hb5⟩))
              go_meet
              case rel =>
                refine ⟨_, rfl, ?_, ?_, ?_, bstep (bstep (bstep (bstep (bstep (bstep (below_one _) hb1) hb2) hb3) (below_one _)) hb4) hb5⟩
                · rw [HM.out]
                  have h9 := HP.out 0
                  rw [HM.out] at h9
                  exact Nt.mono (Nt.fit (((((h1.below hb2).below hb3).below (below_one _)).below hb4).below hb5) h9) (by decide)
                · rw [HH.out]
                  simp
                · rw [HS.out]
                  simp [HR0.out]
          · have hcb : (c == 0) = false := by simpa using hc0
            cases more
            all_goals
              go_wp2_with (first
            | (go_at_call 80; refine (shr_at hvA (by omega) _ (by omega) (by omega)).mono ?_; rintro x w1 ⟨hb1, v1, rfl, h1⟩)
            | (go_at_call 81; refine (sub_any ((hvA.below hb1).below hb2) h2 (by omega) HLE.out).mono ?_; rintro x w3 ⟨hb3, v3, rfl, h3'⟩; have h3 : Nt w3 v3 m (rOf N (U - e)) := (by rw [← HR.out]; exact h3'); clear h3'; obtain ⟨ao3, n3, cap3, rfl, hn3, hn4⟩ := h3.shape; have hn5 : 0 < n3 := (by have := HR0.out; rcases Nat.eq_zero_or_pos n3 with h | h; have := hn3.1 h; omega; exact h); clear hn3)
            | (go_at_call 79; with_reducible refine (shl_at h1 (by omega) _ (by omega) (by omega)).mono ?_; rintro x w2 ⟨hb2, v2, rfl, h2'⟩; have h2 := h2'.fit HFIT.out; clear h2')
            | (go_at_call 79; refine (shl_at (nt_one w3) (by omega) _ (by omega) (by omega)).mono ?_; rintro x w4 ⟨hb4, v4, rfl, h4⟩; rw [Nat.one_mul, show (U - e - 1).toNat = (U - e).toNat - 1 by omega] at h4)
            | (go_at_call 82; refine (cmp_any (m := 40000) (((h3.below (below_one _)).below hb4).mono (by omega)) h4 (by omega)).mono ?_; rintro x w5 ⟨rfl, hb5⟩))
              go_meet
              case rel =>
                refine ⟨_, rfl, ?_, ?_, ?_, bstep (bstep (bstep (bstep (bstep (bstep (below_one _) hb1) hb2) hb3) (below_one _)) hb4) hb5⟩
                · rw [HM.out]
                  have h9 := HP.out 0
                  rw [HM.out] at h9
                  exact Nt.mono (Nt.fit (((((h1.below hb2).below hb3).below (below_one _)).below hb4).below hb5) h9) (by decide)
                · rw [HH.out]
                  simp [hc0]
                · rw [HS.out]
                  simp [HR0.out]
    case rest =>
      obtain ⟨M, hM, hm3, rfl, rfl, hbl⟩ := hcut
      have HK : Hid (kOf mode neg N (U - e) more = M + (if upOf mode neg (M % 2 == 1) (hOf N (U - e) more) (sOf N (U - e) more) then 1 else 0)) := by
        show kOf mode neg N (U - e) more = _
        unfold kOf
        rw [hM]
      have HMlt : Hid (M < 4294967296 ^ 2 - 1) := by
        show M < _
        rw [hM]
        exact Nat.lt_of_lt_of_le (mOf_lt (P := 53) (by omega)) (by decide)
      have HF3 : Hid (fOf t e N (U - e) more = if sOf N (U - e) more then (if e + blen N - 1 < 1 - t then 3 else 1) else 0) := rfl
      clear hM
      generalize hOf N (U - e) more = hh at *
      generalize sOf N (U - e) more = ss at *
      go_upto_if 96 with (first | (go_at_call 84; refine (bit_any hm3).mono ?_; rintro x w' ⟨rfl, hw⟩; obtain rfl := hw.symm) | (go_at_call 83; refine (up_any _ _ _ _ _ _).mono ?_; rintro x w' ⟨rfl, hw⟩; obtain rfl := hw.symm))
      generalize upOf mode neg (M % 2 == 1) hh ss = up at *
      go_cut [20] from 29 (fun sm wx => Nt wx sm 3 (M + (if up then 1 else 0)) ∧ Below w.heap.size w wx)
      case first =>
        cases up
        · go_wp2
          go_meet
          case rel => exact ⟨hm3, hbl⟩
        · go_wp2_with (go_at_call 85; refine (add_any (m := 3) (hm3.below (below_one _)) ((nt_one _).mono (by decide)) (by decide)).mono ?_; rintro x w1 ⟨hb1, v1, rfl, h1⟩)
          go_meet
          case rel => exact ⟨Nt.mono (Nt.fit (k := 2) h1 (by have := HMlt.out; show M + 1 < _; omega)) (by decide), bstep (bstep hbl (below_one _)) hb1⟩
      case rest =>
        obtain ⟨hk3, hbl2⟩ := hcut
        rw [← HK.out] at hk3
        clear hm3 hbl
        go_upto_if 100 with fail
        go_cut [25] from 29 (fun sf wx => sf = .int .i64 (fOf t e N (U - e) more) ∧ wx = wc)
        case first =>
          cases ss
          · go_wp2
            go_meet
            case rel =>
              refine ⟨?_, rfl⟩
              rw [HF3.out]
              simp
          · by_cases ht : e + blen N - 1 < 1 - t
            · go_wp2
              go_meet
              case rel =>
                refine ⟨?_, rfl⟩
                rw [HF3.out]
                simp [ht]
            · go_wp2
              go_meet
              case rel =>
                refine ⟨?_, rfl⟩
                rw [HF3.out]
                simp [ht]
        case rest =>
          obtain ⟨rfl, hw⟩ := hcut
          obtain rfl := hw.symm
          have HE : Hid (Ends p t h U (blen (kOf mode neg N (U - e) more)) ((U - (2 - t - p)) * h + (kOf mode neg N (U - e) more : Nat)) (kOf mode neg N (U - e) more)) := ends_frm HF.out hN HU.out.symm mode neg more rfl
          have HZ : Hid (zOf p t h mode e neg N more = (U - (2 - t - p)) * h + (kOf mode neg N (U - e) more : Nat)) := by
            show zOf p t h mode e neg N more = _
            unfold zOf
            rw [HU.out]
          have HFL : Hid (fOf t e N (uOf p t e N - e) more = fOf t e N (U - e) more) := by
            show fOf t e N (uOf p t e N - e) more = _
            rw [HU.out]
          have hsg := fun w => l1Sign_any HF.out.form neg w
          have hin := fun w => l1Inf_any HF.out neg w
          obtain ⟨sg, hsg0⟩ : ∃ sg : Int, sg = (if neg then S else 0) := ⟨_, rfl⟩
          rw [← hsg0] at hsg hin
          have hS : 0 < S ∧ S ≤ 9223372036854775808 ∧ 1 ≤ (2 * t + 1) * h ∧ (2 * t + 1) * h < S ∧ 0 < h ∧ 2 * h ≤ S := by
            rcases HF.out with ⟨rfl, rfl, rfl, rfl, rfl, rfl, rfl, rfl⟩ | ⟨rfl, rfl, rfl, rfl, rfl, rfl, rfl, rfl⟩ | ⟨rfl, rfl, rfl, rfl, rfl, rfl, rfl, rfl⟩ <;> decide
          obtain ⟨hS0, hS1, hi0, hi1, hh0, hh1⟩ := hS
          have hsg1 : 0 ≤ sg ∧ sg ≤ S := by rw [hsg0]; split <;> omega
          obtain ⟨hsg2, hsg3⟩ := hsg1
          have HSG : Hid (sg = (if neg then S else 0)) := hsg0
          clear hsg0 HK HF3 HMlt
          generalize kOf mode neg N (U - e) more = K at *
          generalize fOf t e N (U - e) more = fl at *
          have hbt := bits_at hk3 (by decide)
          have hnb : ((blen K : Nat) : Int) ≤ 96 := by have := hk3.blen; omega
          have hnb0 : 0 ≤ ((blen K : Nat) : Int) := by omega
          generalize ((blen K : Nat) : Int) = n at *
          rcases HE.out with ⟨o1, o2⟩ | ⟨o1, o2, o3, o4, o5⟩ | ⟨o1, o2, o3, o4, o5, o6, o7⟩ | ⟨o1, o2, o3, o4, o5, o6⟩
          · have HV : Hid (rndV p t h S mode e neg N more = oOf mode ((2 * t + 1) * h) neg + sg ∧ rndF p t h mode e neg N more = 5) := by
              refine ⟨?_, ?_⟩
              · unfold rndV
                rw [HZ.out, if_pos o2, HSG.out]
              · unfold rndF
                rw [HZ.out, if_pos o2]
            clear HE o2 HZ
            generalize (2 * t + 1) * h = i at *
            have fin : ∀ (x : Int), x = oOf mode i neg + sg → Ending.returned (.tuple #[.int .u64 x, .int .i64 5]) = Ending.returned (.tuple #[.int .u64 (rndV p t h S mode e neg N more), .int .i64 (rndF p t h mode e neg N more)]) := fun x hx => by rw [HV.out.1, HV.out.2, hx]
            have HFN : Hid _ := fin
            clear fin
            by_cases m3 : mode = 3
            · subst m3
              go_wp2_with (first | (go_at_call 50; refine (hsg _).mono ?_; rintro x w' ⟨rfl, hw⟩; obtain rfl := hw.symm) | (go_at_call 78; refine hbt.mono ?_; rintro x w' ⟨rfl, hw⟩; obtain rfl := hw.symm) | (go_at_call 51; refine (hin _).mono ?_; rintro x w' ⟨rfl, hw⟩; obtain rfl := hw.symm))
              go_ret2
              exact ⟨HFN.out _ (by unfold oOf; simp; try omega), hbl2⟩
            have b3 : (mode == 3) = false := by simpa using m3
            by_cases m4 : mode = 4
            · subst m4
              cases neg
              all_goals
                go_wp2_with (first | (go_at_call 50; refine (hsg _).mono ?_; rintro x w' ⟨rfl, hw⟩; obtain rfl := hw.symm) | (go_at_call 78; refine hbt.mono ?_; rintro x w' ⟨rfl, hw⟩; obtain rfl := hw.symm) | (go_at_call 51; refine (hin _).mono ?_; rintro x w' ⟨rfl, hw⟩; obtain rfl := hw.symm))
                go_ret2
                exact ⟨HFN.out _ (by unfold oOf; simp; try omega), hbl2⟩
            have b4 : (mode == 4) = false := by simpa using m4
            by_cases m5 : mode = 5
            · subst m5
              cases neg
              all_goals
                go_wp2_with (first | (go_at_call 50; refine (hsg _).mono ?_; rintro x w' ⟨rfl, hw⟩; obtain rfl := hw.symm) | (go_at_call 78; refine hbt.mono ?_; rintro x w' ⟨rfl, hw⟩; obtain rfl := hw.symm) | (go_at_call 51; refine (hin _).mono ?_; rintro x w' ⟨rfl, hw⟩; obtain rfl := hw.symm))
                go_ret2
                exact ⟨HFN.out _ (by unfold oOf; simp; try omega), hbl2⟩
            have b5 : (mode == 5) = false := by simpa using m5
            have HO : Hid (oOf mode i neg = i) := by
              show oOf mode i neg = i
              unfold oOf
              rw [if_neg (by simp [m3, m4, m5])]
            clear m3 m4 m5
            go_wp2_with (first | (go_at_call 50; refine (hsg _).mono ?_; rintro x w' ⟨rfl, hw⟩; obtain rfl := hw.symm) | (go_at_call 78; refine hbt.mono ?_; rintro x w' ⟨rfl, hw⟩; obtain rfl := hw.symm) | (go_at_call 51; refine (hin _).mono ?_; rintro x w' ⟨rfl, hw⟩; obtain rfl := hw.symm))
            go_ret2
            exact ⟨HFN.out _ (by rw [HO.out]), hbl2⟩
          · have HV : Hid (rndV p t h S mode e neg N more = sg + K ∧ rndF p t h mode e neg N more = fl) := by
              refine ⟨?_, ?_⟩
              · unfold rndV
                rw [HZ.out, if_neg o3, HSG.out, o4]
                omega
              · unfold rndF
                rw [HZ.out, if_neg o3, HFL.out]
            clear HE o3 o4 HZ
            go_wp2_with (first | (go_at_call 50; refine (hsg _).mono ?_; rintro x w' ⟨rfl, hw⟩; obtain rfl := hw.symm) | (go_at_call 78; refine hbt.mono ?_; rintro x w' ⟨rfl, hw⟩; obtain rfl := hw.symm) | (go_at_call 86; refine (low_any hk3 (by omega)).mono ?_; rintro x w' ⟨rfl, hw⟩; obtain rfl := hw.symm))
            go_ret2
            refine ⟨?_, hbl2⟩
            rw [HV.out.1, HV.out.2]
            rfl
          · obtain rfl := o4.symm
            have HV : Hid (∀ X x : Int, p + U - 1 + t = X → x = sg + (X * h + K - h) → Ending.returned (.tuple #[.int .u64 x, .int .i64 fl]) = Ending.returned (.tuple #[.int .u64 (rndV p t h S mode e neg N more), .int .i64 (rndF p t h mode e neg N more)])) := by
              intro X x hX hx
              subst hX
              have e1 : rndV p t h S mode e neg N more = x := by
                unfold rndV
                rw [HZ.out, if_neg o3, hx, HSG.out, o5]
                omega
              have e2 : rndF p t h mode e neg N more = fl := by
                unfold rndF
                rw [HZ.out, if_neg o3, HFL.out]
              rw [e1, e2]
            have O7 : Hid ((K : Int) ≤ 2 * h) := by show (K : Int) ≤ 2 * h; omega
            have O6 : Hid ((K : Int) < 2 * h) := o7
            clear HE o3 o5 HZ o6 o7
            go_upto_if 165 with (first | (go_at_call 50; refine (hsg _).mono ?_; rintro x w' ⟨rfl, hw⟩; obtain rfl := hw.symm) | (go_at_call 78; refine hbt.mono ?_; rintro x w' ⟨rfl, hw⟩; obtain rfl := hw.symm))
            have hX0 : 1 ≤ p + U - 1 + t := by omega
            have hX1 : p + U - 1 + t ≤ 2 * t := by omega
            generalize hX : p + U - 1 + t = X at hX0 hX1 ⊢
            have HX : Hid (p + U - 1 + t = X) := hX
            clear hX
            rcases HF.out with ⟨rfl, rfl, rfl, rfl, rfl, rfl, rfl, rfl⟩ | ⟨rfl, rfl, rfl, rfl, rfl, rfl, rfl, rfl⟩ | ⟨rfl, rfl, rfl, rfl, rfl, rfl, rfl, rfl⟩
            · have o8 : (K : Int) < 2048 := by have := O6.out; omega
              go_wp2_with (go_at_call 86; refine (low_any hk3 (by omega)).mono ?_; rintro x w' ⟨rfl, hw⟩; obtain rfl := hw.symm)
              go_ret2
              exact ⟨HV.out X _ HX.out (by omega), hbl2⟩
            · have o8 : (K : Int) < 16777216 := by have := O6.out; omega
              go_wp2_with (go_at_call 86; refine (low_any hk3 (by omega)).mono ?_; rintro x w' ⟨rfl, hw⟩; obtain rfl := hw.symm)
              go_ret2
              exact ⟨HV.out X _ HX.out (by omega), hbl2⟩
            · have o8 : (K : Int) < 9007199254740992 := by have := O6.out; omega
              go_wp2_with (go_at_call 86; refine (low_any hk3 (by omega)).mono ?_; rintro x w' ⟨rfl, hw⟩; obtain rfl := hw.symm)
              go_ret2
              exact ⟨HV.out X _ HX.out (by omega), hbl2⟩
          · subst o4
            have HV : Hid (∀ X x : Int, p + 1 + U - 1 + t = X → x = sg + (X * h) → Ending.returned (.tuple #[.int .u64 x, .int .i64 fl]) = Ending.returned (.tuple #[.int .u64 (rndV p t h S mode e neg N more), .int .i64 (rndF p t h mode e neg N more)])) := by
              intro X x hX hx
              subst hX
              have e1 : rndV p t h S mode e neg N more = x := by
                unfold rndV
                rw [HZ.out, if_neg o3, hx, HSG.out, o5]
                omega
              have e2 : rndF p t h mode e neg N more = fl := by
                unfold rndF
                rw [HZ.out, if_neg o3, HFL.out]
              rw [e1, e2]
            have O7 : Hid ((K : Int) ≤ 2 * h) := by show (K : Int) ≤ 2 * h; omega
            have O6 : Hid ((K : Int) = 2 * h) := o6
            clear HE o3 o5 HZ o6
            go_upto_if 165 with (first | (go_at_call 50; refine (hsg _).mono ?_; rintro x w' ⟨rfl, hw⟩; obtain rfl := hw.symm) | (go_at_call 78; refine hbt.mono ?_; rintro x w' ⟨rfl, hw⟩; obtain rfl := hw.symm))
            have hX0 : 1 ≤ p + 1 + U - 1 + t := by omega
            have hX1 : p + 1 + U - 1 + t ≤ 2 * t := by omega
            generalize hX : p + 1 + U - 1 + t = X at hX0 hX1 ⊢
            have HX : Hid (p + 1 + U - 1 + t = X) := hX
            clear hX
            rcases HF.out with ⟨rfl, rfl, rfl, rfl, rfl, rfl, rfl, rfl⟩ | ⟨rfl, rfl, rfl, rfl, rfl, rfl, rfl, rfl⟩ | ⟨rfl, rfl, rfl, rfl, rfl, rfl, rfl, rfl⟩
            · have o8 : (K : Int) ≤ 2048 := by have := O7.out; omega
              have HK2 : Hid (K / 2 ^ Int.toNat 1 = 1024) := by
                show K / 2 ^ 1 = 1024
                have := O6.out
                omega
              go_wp2_with (first | (go_at_call 80; refine (shr_at hk3 (by decide) 1 (by decide) (by decide)).mono ?_; rintro x w1 ⟨hb1, v1, rfl, h1⟩; rw [HK2.out] at h1) | (go_at_call 86; refine (low_any h1 (by decide)).mono ?_; rintro x w' ⟨rfl, hw⟩; obtain rfl := hw.symm))
              go_ret2
              exact ⟨HV.out X _ HX.out (by omega), bstep hbl2 hb1⟩
            · have o8 : (K : Int) ≤ 16777216 := by have := O7.out; omega
              have HK2 : Hid (K / 2 ^ Int.toNat 1 = 8388608) := by
                show K / 2 ^ 1 = 8388608
                have := O6.out
                omega
              go_wp2_with (first | (go_at_call 80; refine (shr_at hk3 (by decide) 1 (by decide) (by decide)).mono ?_; rintro x w1 ⟨hb1, v1, rfl, h1⟩; rw [HK2.out] at h1) | (go_at_call 86; refine (low_any h1 (by decide)).mono ?_; rintro x w' ⟨rfl, hw⟩; obtain rfl := hw.symm))
              go_ret2
              exact ⟨HV.out X _ HX.out (by omega), bstep hbl2 hb1⟩
            · have o8 : (K : Int) ≤ 9007199254740992 := by have := O7.out; omega
              have HK2 : Hid (K / 2 ^ Int.toNat 1 = 4503599627370496) := by
                show K / 2 ^ 1 = 4503599627370496
                have := O6.out
                omega
              go_wp2_with (first | (go_at_call 80; refine (shr_at hk3 (by decide) 1 (by decide) (by decide)).mono ?_; rintro x w1 ⟨hb1, v1, rfl, h1⟩; rw [HK2.out] at h1) | (go_at_call 86; refine (low_any h1 (by decide)).mono ?_; rintro x w' ⟨rfl, hw⟩; obtain rfl := hw.symm))
              go_ret2
              exact ⟨HV.out X _ HX.out (by omega), bstep hbl2 hb1⟩
end Go.Proofs.YtddbekacdfohpaaGreatDoor.Q
