/- Checks that fail, of the program. -/
import Derived.Test.YtnfhnchomiejcaaCK
import Derived.Test.YtnfhnchomiejcaaAP
namespace Go.Proofs.Ytnfhnchomiejcaa
open Go.RowKit

theorem ils_lf_snoc (l : List Int) (x : Int) : ils (lf (l ++ [x])) (l.length + 1) = ils (lf l) l.length ++ [.int .i64 x] := by
  rw [ils_snoc, lf_new]
  congr 1
  exact ils_congr fun k hk => lf_old hk

theorem own_lf {w : World} {B : Nat} {v : Value} {l : List Int} {x : Int} (h : w.ownsRow B 3 1 v (l.length + 1) (ils (lf l) l.length ++ [.int .i64 x])) : w.ownsRow B 3 1 v (l ++ [x]).length (ils (lf (l ++ [x])) (l ++ [x]).length) := by
  rw [List.length_append, List.length_singleton, ils_lf_snoc]
  exact h

/-- What is told: a list in memory of the call's own. -/
def Pcr (w w' : World) (e : Ending) (N : Nat) (ys : Nat → Int) : Prop := ∃ u, e = .returned u ∧ w'.ownsRow w.heap.size 3 1 u N (ils ys N) ∧ Below w.heap.size w w'

set_option maxHeartbeats 4000000 in
theorem failing_any {w : World} {v u : Value} {M n : Nat} {ms : Nat → Nat} {X : Nat → Nat → Int} {xs : Nat → Int} (hv : Ipp w v M ms X) (hk : Cks M ms X (n : Int)) (hu : Il w u n xs) (hb : ∀ k, k < n → Bit (xs k)) :
    Calls Try.prog 36 #[v, u] w fun e w' => Pcr w w' e (fls ms X xs M).length (lf (fls ms X xs M)) := by
  obtain ⟨i0, hi, hz0, hz1, hz2⟩ := info_parts Try.info3
  have hn := hk.1.1
  have hM := hk.1.2
  have HCK : Hid (∀ k, k < M → Chk (ms k) (X k) (n : Int)) := hk.2
  have HBT : Hid (∀ k, k < n → Bit (xs k)) := hb
  have OW : Hid ((w.alloc (.cells #[] 3)).ownsRow w.heap.size 3 1 (.slice (some ⟨w.heap.size, 0, none⟩) 0 0) (fls ms X xs 0).length (ils (lf (fls ms X xs 0)) (fls ms X xs 0).length)) := own_empty w 3 1
  have BL : Hid (Below w.heap.size w (w.alloc (.cells #[] 3))) := below_one _ _
  obtain ⟨ao, cap, rfl, hcap, hc⟩ := hv
  obtain ⟨bo, cap2, rfl, hcap2, hc2⟩ := hu
  have HC : Hid (0 < M → ∃ b off, ∃ R : Nat → Value, ao = some ⟨b, off, none⟩ ∧ b < w.heap.size ∧ ∀ k, k < M → w.cell? ⟨b, off + k, none⟩ = some (R k) ∧ Il w (R k) (ms k) (X k)) := hc
  have HU : Hid (0 < n → ∃ b off, bo = some ⟨b, off, none⟩ ∧ b < w.heap.size ∧ ∀ k, k < n → w.cell? ⟨b, off + k, none⟩ = some (.int .i64 (xs k))) := hc2
  clear hc hc2 hk hb
  go_enter Try.func36, Try.ntmps36
  go_wp2
  generalize w.alloc (.cells #[] 3) = W at *
  go_loopw [5, 6, 7, 8, 10, 14, 21] (fun o _ _ _ _ i _ wr => ∃ k : Nat, i = .int .i64 k ∧ k ≤ M ∧ Hid (wr.ownsRow w.heap.size 3 1 o (fls ms X xs k).length (ils (lf (fls ms X xs k)) (fls ms X xs k).length) ∧ Below w.heap.size w wr)) (fun _ _ _ _ _ i _ _ => M - (intOf i).toNat)
  case atStart => exact ⟨0, rfl, by omega, OW.out, BL.out⟩
  case round =>
    obtain ⟨k, rfl, hk, HRL⟩ := hrel
    by_cases h1 : k < M
    · obtain ⟨b, off, R, rfl, hlt, hcell⟩ := HC.out (by omega)
      obtain ⟨c0, hil⟩ := hcell k h1
      have hck := HCK.out k h1
      obtain ⟨m, em⟩ : ∃ m, m = ms k := ⟨_, rfl⟩
      rw [← em] at hil hck
      have hm2 := hck.1
      have HPL : Hid (Plc m (X k) (n : Int)) := hck.2
      have EM : Hid (m = ms k) := em
      obtain ⟨qa, qc, hq, hqc, hqq⟩ := hil
      rw [hq] at c0
      have c := (HRL.out.2.cell (p := ⟨b, off + k, none⟩) hlt).trans c0
      have HQ : Hid (0 < m → ∃ b off, qa = some ⟨b, off, none⟩ ∧ b < w.heap.size ∧ ∀ j, j < m → w.cell? ⟨b, off + j, none⟩ = some (.int .i64 (X k j))) := hqq
      clear hcell hqq hq c0 em hck
      go_wp2
      go_loopw [8, 10, 21] (fun s _ j wi => ∃ (q : Nat) (sv : Int), j = .int .i64 q ∧ s = .int .i64 sv ∧ q ≤ m ∧ 0 ≤ sv ∧ sv ≤ (q : Int) ∧ wi = wr ∧ Hid (sv = sm (X k) xs q)) (fun _ _ j _ => m - (intOf j).toNat)
      case atStart => exact ⟨0, 0, rfl, rfl, by omega, by omega, by omega, rfl, rfl⟩
      case round =>
        obtain ⟨q, sv, rfl, rfl, hq, hs0, hs1, rfl, hsv⟩ := hrel
        by_cases h2 : q < m
        · obtain ⟨b2, off2, rfl, hlt2, hcell2⟩ := HQ.out (by omega)
          have hpl := HPL.out.lim q h2
          obtain ⟨p, hp⟩ : ∃ p : Nat, X k q = (p : Int) := ⟨(X k q).toNat, by omega⟩
          have c2 := (HRL.out.2.cell (p := ⟨b2, off2 + q, none⟩) hlt2).trans (hcell2 q h2)
          have hpn : p < n := by omega
          obtain ⟨b3, off3, rfl, hlt3, hcell3⟩ := HU.out (by omega)
          have c3 := (HRL.out.2.cell (p := ⟨b3, off3 + p, none⟩) hlt3).trans (hcell3 p hpn)
          rw [hp] at c2
          obtain ⟨x, hx⟩ : ∃ x, x = xs p := ⟨_, rfl⟩
          have hxb : 0 ≤ x ∧ x ≤ 1 := by rw [hx]; have := HBT.out p hpn; omega
          rw [← hx] at c3
          have HSV : Hid (sv + x = sm (X k) xs (q + 1)) := by show _ = sm (X k) xs q + xs (X k q).toNat; rw [hp, ← hsv.out, hx]; rfl
          clear hcell2 hcell3 hpl hp hx hsv
          go_wp2
          go_roundw
          case rel => exact ⟨q + 1, sv + x, by go_num, rfl, by omega, by omega, by omega, by trivial, HSV.out⟩
          case measure => simp [intOf]; omega
        · obtain rfl : q = m := by omega
          have er : Int.tmod sv 2 = sv % 2 := Int.tmod_eq_emod_of_nonneg hs0
          by_cases ho : sv % 2 = 1
          · have hr : Int.tmod sv 2 = 1 := er.trans ho
            have HL : Hid (fls ms X xs (k + 1) = fls ms X xs k ++ [(k : Int)]) := fls_yes (by rw [← EM.out, ← hsv.out]; exact ho)
            have HO := HRL.out.1
            have HB := HRL.out.2
            have hlen : (fls ms X xs k).length ≤ 64 := by have := fls_len ms X xs k; omega
            have hb3 := below_one wr (.cells #[.int .i64 (k : Int)] 3)
            have HO3 := own_below HO hb3
            have HB3 := bstep HB hb3
            clear hb3 er ho HRL hsv HO HB
            go_wp2_with (at_builtin; refine wpList_append_own _ rfl _ _ 29 rfl w.heap.size 3 i0 (.int .i64 0) 1 8 Try.underlying29 hi hz0 hz1 hz2 rfl (by decide) _ _ _ rfl HO3 ⟨wr.heap.size, 0, none⟩ 1 1 [.int .i64 (k : Int)] rfl rfl (one_new _ _ _) (by simp [Value.oneCell']) (by unfold maxLen; omega) (by omega) HB3.size ?_)
            intro v' w4 hown' hgrow _
            have HB4 : Hid (Below w.heap.size w w4) := grown_below HB3 (Nat.le_refl _) HO3 hgrow
            have HO4 : Hid (w4.ownsRow w.heap.size 3 1 v' (fls ms X xs k ++ [(k : Int)]).length (ils (lf (fls ms X xs k ++ [(k : Int)])) (fls ms X xs k ++ [(k : Int)]).length)) := own_lf hown'
            clear hown' hgrow HB3 HO3
            go_wp2
            go_roundw
            case rel => exact ⟨k + 1, by go_num, by omega, by rw [HL.out]; exact HO4.out, HB4.out⟩
            case measure => simp [intOf]; omega
          · have hr : Int.tmod sv 2 = 0 := by omega
            have HL : Hid (fls ms X xs (k + 1) = fls ms X xs k) := fls_no (by rw [← EM.out, ← hsv.out]; exact ho)
            clear er ho hsv
            go_wp2
            go_roundw
            case rel => exact ⟨k + 1, by go_num, by omega, by rw [HL.out]; exact HRL.out.1, HRL.out.2⟩
            case measure => simp [intOf]; omega
    · obtain rfl : k = M := by omega
      go_wp2
      go_ret
      exact ⟨_, rfl, HRL.out⟩

set_option maxHeartbeats 1000000 in
theorem isChecked_any {w : World} {v u : Value} {M n : Nat} {ms : Nat → Nat} {X : Nat → Nat → Int} {xs : Nat → Int} (hv : Ipp w v M ms X) (hM : M ≤ 1048576) (hms : ∀ k, k < M → ms k ≤ 1048576) (hu : Il w u n xs) (hn : n ≤ 1048576) :
    Calls Try.prog 35 #[v, u] w fun e w' => e = .returned (.bool (yb (Bts n xs ∧ Cks M ms X (n : Int)))) ∧ w' = w := by
  have i1 := iBits_any hu hn
  have i2 := iChecks_any (n := (n : Int)) hv hM hms
  obtain ⟨ao, cap, rfl, hcap, hc⟩ := hv
  obtain ⟨bo, cap2, rfl, hcap2, hc2⟩ := hu
  clear hc hc2 hms
  by_cases h1 : Bts n xs
  · have e : yb (Bts n xs ∧ Cks M ms X (n : Int)) = yb (Cks M ms X (n : Int)) := by
      by_cases h2 : Cks M ms X (n : Int)
      · rw [yb_yes h2, yb_yes ⟨h1, h2⟩]
      · rw [yb_no h2, yb_no (fun q => h2 q.2)]
    rw [e]
    rw [decide_eq_true h1] at i1
    clear e h1
    generalize yb (Cks M ms X (n : Int)) = d at *
    go_enter Try.func35, Try.ntmps35
    go_wp2_with (first | (go_at_call 51; refine i1.mono ?_; rintro e w' ⟨rfl, hw⟩; obtain rfl := hw.symm) | (go_at_call 18; refine i2.mono ?_; rintro e w' ⟨rfl, hw⟩; obtain rfl := hw.symm))
    go_ret
    exact ⟨rfl, rfl⟩
  · rw [yb_no (fun q => h1 q.1)]
    rw [decide_eq_false h1] at i1
    clear i2 h1
    go_enter Try.func35, Try.ntmps35
    go_wp2_with (first | (go_at_call 51; refine i1.mono ?_; rintro e w' ⟨rfl, hw⟩; obtain rfl := hw.symm))
    go_ret
    exact ⟨rfl, rfl⟩

set_option maxHeartbeats 1000000 in
theorem iFails_good {w : World} {v u : Value} {M n : Nat} {ms : Nat → Nat} {X : Nat → Nat → Int} {xs : Nat → Int} (hv : Ipp w v M ms X) (hu : Il w u n xs) (hb : Bts n xs) (hk : Cks M ms X (n : Int)) :
    Calls Try.prog 14 #[v, u] w fun e w' => Pst w w' e (fls ms X xs M).length (lf (fls ms X xs M)) true := by
  have hn := hb.1
  have hM := hk.1.2
  have i1 := isChecked_any hv (by omega) (fun k hk' => by have := (hk.2 k hk').1.2; omega) hu (by omega)
  rw [yb_yes ⟨hb, hk⟩] at i1
  have i2 := failing_any hv hk hu hb.2
  clear hb hk
  go_enter Try.func14, Try.ntmps14
  go_wp2_with (first | (go_at_call 35; refine i1.mono ?_; rintro e w' ⟨rfl, hw⟩; obtain rfl := hw.symm) | (go_at_call 36; refine i2.mono ?_; rintro e w1 ⟨u1, rfl, ho1, hb1⟩))
  go_ret2
  exact ⟨u1, rfl, ho1, hb1⟩

set_option maxHeartbeats 1000000 in
theorem iFails_bad {w : World} {v u : Value} {M n : Nat} {ms : Nat → Nat} {X : Nat → Nat → Int} {xs : Nat → Int} (hv : Ipp w v M ms X) (hM : M ≤ 1048576) (hms : ∀ k, k < M → ms k ≤ 1048576) (hu : Il w u n xs) (hn : n ≤ 1048576) (hb : ¬ (Bts n xs ∧ Cks M ms X (n : Int))) (ys : Nat → Int) :
    Calls Try.prog 14 #[v, u] w fun e w' => Pst w w' e 0 ys false := by
  have i1 := isChecked_any hv hM hms hu hn
  rw [yb_no hb] at i1
  have OW : Hid ((w.alloc (.cells #[] 3)).ownsRow w.heap.size 3 1 (.slice (some ⟨w.heap.size, 0, none⟩) 0 0) 0 (ils ys 0)) := own_empty w 3 1
  have BL : Hid (Below w.heap.size w (w.alloc (.cells #[] 3))) := below_one _ _
  clear hb hms hv hu
  go_enter Try.func14, Try.ntmps14
  go_wp2_with (first | (go_at_call 35; refine i1.mono ?_; rintro e w' ⟨rfl, hw⟩; obtain rfl := hw.symm))
  go_ret2
  exact ⟨_, rfl, OW.out, BL.out⟩
end Go.Proofs.Ytnfhnchomiejcaa
