/- Crossings, both sides. -/
import Derived.Test.YtnnfamgiolognaaAP
import Derived.Test.YtnnfamgiolognaaMK
namespace Go.Proofs.Ytnnfamgiolognaa
open Go.RowKit

/-- A list as a function. -/
def lf (l : List Int) (i : Nat) : Int := l.getD i 0

theorem ils_lf_snoc (l : List Int) (x : Int) : ils (lf (l ++ [x])) (l.length + 1) = ils (lf l) l.length ++ [.int .i64 x] := by
  rw [ils_snoc]
  congr 1
  · refine ils_congr fun k hk => ?_
    unfold lf
    rw [List.getD_eq_getElem?_getD, List.getD_eq_getElem?_getD, List.getElem?_append_left hk]
  · unfold lf
    rw [List.getD_eq_getElem?_getD, List.getElem?_append_right (Nat.le_refl _), Nat.sub_self]
    rfl

theorem own_lf {w : World} {B : Nat} {v : Value} {l : List Int} {x : Int} (h : w.ownsRow B 3 1 v (l.length + 1) (ils (lf l) l.length ++ [.int .i64 x])) : w.ownsRow B 3 1 v (l ++ [x]).length (ils (lf (l ++ [x])) (l ++ [x]).length) := by
  rw [List.length_append, List.length_singleton, ils_lf_snoc]
  exact h

/-- On which side of the band. -/
def sdv (x band : Int) : Int := if band < x then 1 else if x < -band then -1 else 0

/-- The side that was taken last. -/
def csd (band : Int) (xs : Nat → Int) : Nat → Int
  | 0 => 0
  | k + 1 => if sdv (xs k) band = 0 then csd band xs k else sdv (xs k) band

/-- The crossings. -/
def crl (band : Int) (xs : Nat → Int) : Nat → List Int
  | 0 => []
  | k + 1 => if sdv (xs k) band ≠ 0 ∧ csd band xs k = - sdv (xs k) band then crl band xs k ++ [(k : Int)] else crl band xs k

theorem sdv_cases (x band : Int) : sdv x band = 1 ∨ sdv x band = 0 ∨ sdv x band = -1 := by
  unfold sdv
  split
  · exact .inl rfl
  · split
    · exact .inr (.inr rfl)
    · exact .inr (.inl rfl)

theorem csd_cases (band : Int) (xs : Nat → Int) (k : Nat) : csd band xs k = 1 ∨ csd band xs k = 0 ∨ csd band xs k = -1 := by
  induction k with
  | zero => exact .inr (.inl rfl)
  | succ k ih =>
    rw [csd]
    split
    · exact ih
    · exact sdv_cases _ _

theorem crl_len (band : Int) (xs : Nat → Int) (k : Nat) : (crl band xs k).length ≤ k := by
  induction k with
  | zero => exact Nat.le_refl _
  | succ k ih =>
    rw [crl]
    split
    · rw [List.length_append, List.length_singleton]; omega
    · omega

theorem crl_yes {band : Int} {xs : Nat → Int} {k : Nat} (h : sdv (xs k) band ≠ 0) (h1 : csd band xs k = - sdv (xs k) band) : crl band xs (k + 1) = crl band xs k ++ [(k : Int)] := by rw [crl, if_pos ⟨h, h1⟩]

theorem crl_no {band : Int} {xs : Nat → Int} {k : Nat} (h : ¬ (sdv (xs k) band ≠ 0 ∧ csd band xs k = - sdv (xs k) band)) : crl band xs (k + 1) = crl band xs k := by rw [crl, if_neg h]

/-- What Crossings tells. -/
def Pcr (w w' : World) (e : Ending) (N : Nat) (ys : Nat → Int) : Prop := ∃ u, e = .returned u ∧ w'.ownsRow w.heap.size 3 1 u N (ils ys N) ∧ Below w.heap.size w w'

theorem side_any (x band : Int) (_ : Smp x) (hb : 0 ≤ band ∧ band ≤ 9223372036854775807) (w : World) : Calls Try.prog 15 #[.int .i64 x, .int .i64 band] w fun e w' => e = .returned (.int .i64 (sdv x band)) ∧ w' = w := by
  unfold sdv
  by_cases h1 : band < x
  · rw [if_pos h1]
    go_enter Try.func15, Try.ntmps15
    go_wp2
    go_ret
    exact ⟨rfl, rfl⟩
  · rw [if_neg h1]
    by_cases h2 : x < -band
    · rw [if_pos h2]
      go_enter Try.func15, Try.ntmps15
      go_wp2
      go_ret
      exact ⟨rfl, rfl⟩
    · rw [if_neg h2]
      go_enter Try.func15, Try.ntmps15
      go_wp2
      go_ret
      exact ⟨rfl, rfl⟩

set_option maxHeartbeats 4000000 in
theorem sCr_good {w : World} {v : Value} {n : Nat} {xs : Nat → Int} {band : Int} (hv : Il w v n xs) (h : Sig n xs) (hb : 0 ≤ band ∧ band ≤ 9223372036854775807) :
    Calls Try.prog 7 #[v, .int .i64 band] w fun e w' => Pcr w w' e (crl band xs n).length (lf (crl band xs n)) := by
  obtain ⟨i0, hi, hz0, hz1, hz2⟩ := info_parts Try.info3
  have h5 := h.1
  have HSM : Hid (∀ k, k < n → Smp (xs k)) := h.2
  have i2 := sSig_any (hv.below (below_one w (.cells #[] 3))) (by omega)
  rw [decide_eq_true h] at i2
  have OW : Hid ((w.alloc (.cells #[] 3)).ownsRow w.heap.size 3 1 (.slice (some ⟨w.heap.size, 0, none⟩) 0 0) (crl band xs 0).length (ils (lf (crl band xs 0)) (crl band xs 0).length)) := own_empty w 3 1
  have BL : Hid (Below w.heap.size w (w.alloc (.cells #[] 3))) := below_one _ _
  obtain ⟨ao, cap, rfl, hcap, hc⟩ := hv
  have HC : Hid (0 < n → ∃ b off, ao = some ⟨b, off, none⟩ ∧ b < w.heap.size ∧ ∀ k, k < n → w.cell? ⟨b, off + k, none⟩ = some (.int .i64 (xs k))) := hc
  clear hc h
  go_enter Try.func7, Try.ntmps7
  go_wp2_with (first | (go_at_call 16; (with_reducible refine i2.mono ?_); rintro e w' ⟨rfl, hw⟩; obtain rfl := hw.symm))
  clear i2
  generalize w.alloc (.cells #[] 3) = W at *
  go_loopw [5, 6, 7, 8] (fun o s i _ wr => ∃ (k : Nat) (sv : Int), i = .int .i64 k ∧ s = .int .i64 sv ∧ k ≤ n ∧ Hid (sv = csd band xs k ∧ wr.ownsRow w.heap.size 3 1 o (crl band xs k).length (ils (lf (crl band xs k)) (crl band xs k).length) ∧ Below w.heap.size w wr)) (fun _ _ i _ _ => n - (intOf i).toNat)
  case atStart => exact ⟨0, 0, rfl, rfl, by omega, rfl, OW.out, BL.out⟩
  case round =>
    obtain ⟨k, sv, rfl, rfl, hk, hrel⟩ := hrel
    by_cases h1 : k < n
    · obtain ⟨b, off, rfl, hlt, hcell⟩ := HC.out (by omega)
      have c := (hrel.out.2.2.cell (p := ⟨b, off + k, none⟩) hlt).trans (hcell k h1)
      have hsm := HSM.out k h1
      have HCL : Hid (sv = csd band xs k) := hrel.out.1
      have HO := hrel.out.2.1
      have HB := hrel.out.2.2
      have hlen : (crl band xs k).length ≤ 512 := by have := crl_len band xs k; omega
      obtain ⟨x, hx⟩ : ∃ x, x = xs k := ⟨_, rfl⟩
      rw [← hx] at c hsm
      have HX : Hid (x = xs k) := hx
      clear hx hcell hrel
      have hs : sv = 1 ∨ sv = 0 ∨ sv = -1 := by rw [HCL.out]; exact csd_cases _ _ _
      by_cases g1 : band < x
      · have SD : Hid (sdv (xs k) band = 1) := by show sdv (xs k) band = 1; unfold sdv; rw [← HX.out, if_pos g1]
        rcases hs with rfl | rfl | rfl
        · have HS : Hid (csd band xs (k + 1) = 1) := by rw [csd, SD.out]; exact if_neg (by decide)
          have HL : Hid (crl band xs (k + 1) = crl band xs k) := crl_no (by rw [SD.out, ← HCL.out]; decide)
          have HH : Hid (wr.ownsRow w.heap.size 3 1 u5 (crl band xs k).length (ils (lf (crl band xs k)) (crl band xs k).length) ∧ Below w.heap.size w wr) := ⟨HO, HB⟩
          clear HO HB
          go_wp2
          go_roundw
          case rel => exact ⟨k + 1, _, by go_num, rfl, by omega, HS.out.symm, by rw [HL.out]; exact HH.out.1, HH.out.2⟩
          case measure => simp [intOf]; omega
        · have HS : Hid (csd band xs (k + 1) = 1) := by rw [csd, SD.out]; exact if_neg (by decide)
          have HL : Hid (crl band xs (k + 1) = crl band xs k) := crl_no (by rw [SD.out, ← HCL.out]; decide)
          have HH : Hid (wr.ownsRow w.heap.size 3 1 u5 (crl band xs k).length (ils (lf (crl band xs k)) (crl band xs k).length) ∧ Below w.heap.size w wr) := ⟨HO, HB⟩
          clear HO HB
          go_wp2
          go_roundw
          case rel => exact ⟨k + 1, _, by go_num, rfl, by omega, HS.out.symm, by rw [HL.out]; exact HH.out.1, HH.out.2⟩
          case measure => simp [intOf]; omega
        · have HS : Hid (csd band xs (k + 1) = 1) := by rw [csd, SD.out]; exact if_neg (by decide)
          have HL : Hid (crl band xs (k + 1) = crl band xs k ++ [(k : Int)]) := crl_yes (by rw [SD.out]; decide) (by have := HCL.out; rw [SD.out]; omega)
          have hb3 := below_one wr (.cells #[.int .i64 (k : Int)] 3)
          have HO3 := own_below HO hb3
          have HB3 := bstep HB hb3
          clear hb3
          go_wp2_with (first | (go_at_call 15; (with_reducible refine (i1 _).mono ?_); rintro e w' ⟨rfl, hw⟩; obtain rfl := hw.symm) | (at_builtin; refine wpList_append_own _ rfl _ _ 24 rfl w.heap.size 3 i0 (.int .i64 0) 1 8 Try.underlying24 hi hz0 hz1 hz2 rfl (by decide) _ _ _ rfl HO3 ⟨wr.heap.size, 0, none⟩ 1 1 [.int .i64 (k : Int)] rfl rfl (one_new _ _ _) (by simp [Value.oneCell']) (by unfold maxLen; omega) (by omega) HB3.size ?_))
          intro v' w4 hown' hgrow _
          have HB4 : Hid (Below w.heap.size w w4) := grown_below HB3 (Nat.le_refl _) HO3 hgrow
          have HO4 : Hid (w4.ownsRow w.heap.size 3 1 v' (crl band xs k ++ [(k : Int)]).length (ils (lf (crl band xs k ++ [(k : Int)])) (crl band xs k ++ [(k : Int)]).length)) := own_lf hown'
          clear hown' hgrow HB3 HO3
          go_wp2
          go_roundw
          case rel => exact ⟨k + 1, _, by go_num, rfl, by omega, HS.out.symm, by rw [HL.out]; exact HO4.out, HB4.out⟩
          case measure => simp [intOf]; omega
      · by_cases g2 : x < -band
        · have SD : Hid (sdv (xs k) band = -1) := by show sdv (xs k) band = -1; unfold sdv; rw [← HX.out, if_neg g1, if_pos g2]
          rcases hs with rfl | rfl | rfl
          · have HS : Hid (csd band xs (k + 1) = -1) := by rw [csd, SD.out]; exact if_neg (by decide)
            have HL : Hid (crl band xs (k + 1) = crl band xs k ++ [(k : Int)]) := crl_yes (by rw [SD.out]; decide) (by have := HCL.out; rw [SD.out]; omega)
            have hb3 := below_one wr (.cells #[.int .i64 (k : Int)] 3)
            have HO3 := own_below HO hb3
            have HB3 := bstep HB hb3
            clear hb3
            go_wp2_with (first | (go_at_call 15; (with_reducible refine (i1 _).mono ?_); rintro e w' ⟨rfl, hw⟩; obtain rfl := hw.symm) | (at_builtin; refine wpList_append_own _ rfl _ _ 24 rfl w.heap.size 3 i0 (.int .i64 0) 1 8 Try.underlying24 hi hz0 hz1 hz2 rfl (by decide) _ _ _ rfl HO3 ⟨wr.heap.size, 0, none⟩ 1 1 [.int .i64 (k : Int)] rfl rfl (one_new _ _ _) (by simp [Value.oneCell']) (by unfold maxLen; omega) (by omega) HB3.size ?_))
            intro v' w4 hown' hgrow _
            have HB4 : Hid (Below w.heap.size w w4) := grown_below HB3 (Nat.le_refl _) HO3 hgrow
            have HO4 : Hid (w4.ownsRow w.heap.size 3 1 v' (crl band xs k ++ [(k : Int)]).length (ils (lf (crl band xs k ++ [(k : Int)])) (crl band xs k ++ [(k : Int)]).length)) := own_lf hown'
            clear hown' hgrow HB3 HO3
            go_wp2
            go_roundw
            case rel => exact ⟨k + 1, _, by go_num, rfl, by omega, HS.out.symm, by rw [HL.out]; exact HO4.out, HB4.out⟩
            case measure => simp [intOf]; omega
          · have HS : Hid (csd band xs (k + 1) = -1) := by rw [csd, SD.out]; exact if_neg (by decide)
            have HL : Hid (crl band xs (k + 1) = crl band xs k) := crl_no (by rw [SD.out, ← HCL.out]; decide)
            have HH : Hid (wr.ownsRow w.heap.size 3 1 u5 (crl band xs k).length (ils (lf (crl band xs k)) (crl band xs k).length) ∧ Below w.heap.size w wr) := ⟨HO, HB⟩
            clear HO HB
            go_wp2
            go_roundw
            case rel => exact ⟨k + 1, _, by go_num, rfl, by omega, HS.out.symm, by rw [HL.out]; exact HH.out.1, HH.out.2⟩
            case measure => simp [intOf]; omega
          · have HS : Hid (csd band xs (k + 1) = -1) := by rw [csd, SD.out]; exact if_neg (by decide)
            have HL : Hid (crl band xs (k + 1) = crl band xs k) := crl_no (by rw [SD.out, ← HCL.out]; decide)
            have HH : Hid (wr.ownsRow w.heap.size 3 1 u5 (crl band xs k).length (ils (lf (crl band xs k)) (crl band xs k).length) ∧ Below w.heap.size w wr) := ⟨HO, HB⟩
            clear HO HB
            go_wp2
            go_roundw
            case rel => exact ⟨k + 1, _, by go_num, rfl, by omega, HS.out.symm, by rw [HL.out]; exact HH.out.1, HH.out.2⟩
            case measure => simp [intOf]; omega
        · have SD : Hid (sdv (xs k) band = 0) := by show sdv (xs k) band = 0; unfold sdv; rw [← HX.out, if_neg g1, if_neg g2]
          rcases hs with rfl | rfl | rfl
          · have HS : Hid (csd band xs (k + 1) = 1) := by rw [csd, SD.out]; rw [if_pos rfl]; exact HCL.out.symm
            have HL : Hid (crl band xs (k + 1) = crl band xs k) := crl_no (by rw [SD.out, ← HCL.out]; decide)
            have HH : Hid (wr.ownsRow w.heap.size 3 1 u5 (crl band xs k).length (ils (lf (crl band xs k)) (crl band xs k).length) ∧ Below w.heap.size w wr) := ⟨HO, HB⟩
            clear HO HB
            go_wp2
            go_roundw
            case rel => exact ⟨k + 1, _, by go_num, rfl, by omega, HS.out.symm, by rw [HL.out]; exact HH.out.1, HH.out.2⟩
            case measure => simp [intOf]; omega
          · have HS : Hid (csd band xs (k + 1) = 0) := by rw [csd, SD.out]; rw [if_pos rfl]; exact HCL.out.symm
            have HL : Hid (crl band xs (k + 1) = crl band xs k) := crl_no (by rw [SD.out, ← HCL.out]; decide)
            have HH : Hid (wr.ownsRow w.heap.size 3 1 u5 (crl band xs k).length (ils (lf (crl band xs k)) (crl band xs k).length) ∧ Below w.heap.size w wr) := ⟨HO, HB⟩
            clear HO HB
            go_wp2
            go_roundw
            case rel => exact ⟨k + 1, _, by go_num, rfl, by omega, HS.out.symm, by rw [HL.out]; exact HH.out.1, HH.out.2⟩
            case measure => simp [intOf]; omega
          · have HS : Hid (csd band xs (k + 1) = -1) := by rw [csd, SD.out]; rw [if_pos rfl]; exact HCL.out.symm
            have HL : Hid (crl band xs (k + 1) = crl band xs k) := crl_no (by rw [SD.out, ← HCL.out]; decide)
            have HH : Hid (wr.ownsRow w.heap.size 3 1 u5 (crl band xs k).length (ils (lf (crl band xs k)) (crl band xs k).length) ∧ Below w.heap.size w wr) := ⟨HO, HB⟩
            clear HO HB
            go_wp2
            go_roundw
            case rel => exact ⟨k + 1, _, by go_num, rfl, by omega, HS.out.symm, by rw [HL.out]; exact HH.out.1, HH.out.2⟩
            case measure => simp [intOf]; omega
    · obtain rfl : n = k := by omega
      go_wp2
      go_ret
      exact ⟨_, rfl, hrel.out.2⟩

set_option maxHeartbeats 4000000 in
theorem iCr_good {w : World} {v : Value} {n : Nat} {xs : Nat → Int} {band : Int} (hv : Il w v n xs) (h : Sig n xs) (hb : 0 ≤ band ∧ band ≤ 9223372036854775807) :
    Calls Try.prog 6 #[v, .int .i64 band] w fun e w' => Pcr w w' e (crl band xs n).length (lf (crl band xs n)) := by
  obtain ⟨i0, hi, hz0, hz1, hz2⟩ := info_parts Try.info3
  have h5 := h.1
  have HSM : Hid (∀ k, k < n → Smp (xs k)) := h.2
  have i2 := iSig_any (hv.below (below_one w (.cells #[] 3))) (by omega)
  rw [decide_eq_true h] at i2
  have OW : Hid ((w.alloc (.cells #[] 3)).ownsRow w.heap.size 3 1 (.slice (some ⟨w.heap.size, 0, none⟩) 0 0) (crl band xs 0).length (ils (lf (crl band xs 0)) (crl band xs 0).length)) := own_empty w 3 1
  have BL : Hid (Below w.heap.size w (w.alloc (.cells #[] 3))) := below_one _ _
  obtain ⟨ao, cap, rfl, hcap, hc⟩ := hv
  have HC : Hid (0 < n → ∃ b off, ao = some ⟨b, off, none⟩ ∧ b < w.heap.size ∧ ∀ k, k < n → w.cell? ⟨b, off + k, none⟩ = some (.int .i64 (xs k))) := hc
  clear hc h
  go_enter Try.func6, Try.ntmps6
  go_wp2_with (first | (go_at_call 14; (with_reducible refine i2.mono ?_); rintro e w' ⟨rfl, hw⟩; obtain rfl := hw.symm))
  clear i2
  generalize w.alloc (.cells #[] 3) = W at *
  go_loopw [5, 6, 7, 8, 9, 21] (fun o s _ _ _ i wr => ∃ (k : Nat) (sv : Int), i = .int .i64 k ∧ s = .int .i64 sv ∧ k ≤ n ∧ Hid (sv = csd band xs k ∧ wr.ownsRow w.heap.size 3 1 o (crl band xs k).length (ils (lf (crl band xs k)) (crl band xs k).length) ∧ Below w.heap.size w wr)) (fun _ _ _ _ _ i _ => n - (intOf i).toNat)
  case atStart => exact ⟨0, 0, rfl, rfl, by omega, rfl, OW.out, BL.out⟩
  case round =>
    obtain ⟨k, sv, rfl, rfl, hk, hrel⟩ := hrel
    by_cases h1 : k < n
    · obtain ⟨b, off, rfl, hlt, hcell⟩ := HC.out (by omega)
      have c := (hrel.out.2.2.cell (p := ⟨b, off + k, none⟩) hlt).trans (hcell k h1)
      have hsm := HSM.out k h1
      have HCL : Hid (sv = csd band xs k) := hrel.out.1
      have HO := hrel.out.2.1
      have HB := hrel.out.2.2
      have hlen : (crl band xs k).length ≤ 512 := by have := crl_len band xs k; omega
      obtain ⟨x, hx⟩ : ∃ x, x = xs k := ⟨_, rfl⟩
      rw [← hx] at c hsm
      have HX : Hid (x = xs k) := hx
      clear hx hcell hrel
      have hs : sv = 1 ∨ sv = 0 ∨ sv = -1 := by rw [HCL.out]; exact csd_cases _ _ _
      have i1 := side_any x band hsm hb
      have SX : Hid (sdv x band = sdv (xs k) band) := by show sdv x band = _; rw [HX.out]
      rcases sdv_cases x band with g | g | g
      · rw [g] at i1
        have SD : Hid (sdv (xs k) band = 1) := SX.out.symm.trans g
        clear g
        rcases hs with rfl | rfl | rfl
        · have HS : Hid (csd band xs (k + 1) = 1) := by rw [csd, SD.out]; exact if_neg (by decide)
          have HL : Hid (crl band xs (k + 1) = crl band xs k) := crl_no (by rw [SD.out, ← HCL.out]; decide)
          have HH : Hid (wr.ownsRow w.heap.size 3 1 u5 (crl band xs k).length (ils (lf (crl band xs k)) (crl band xs k).length) ∧ Below w.heap.size w wr) := ⟨HO, HB⟩
          clear HO HB
          go_wp2_with (first | (go_at_call 15; (with_reducible refine (i1 _).mono ?_); rintro e w' ⟨rfl, hw⟩; obtain rfl := hw.symm))
          go_roundw
          case rel => exact ⟨k + 1, _, by go_num, rfl, by omega, HS.out.symm, by rw [HL.out]; exact HH.out.1, HH.out.2⟩
          case measure => simp [intOf]; omega
        · have HS : Hid (csd band xs (k + 1) = 1) := by rw [csd, SD.out]; exact if_neg (by decide)
          have HL : Hid (crl band xs (k + 1) = crl band xs k) := crl_no (by rw [SD.out, ← HCL.out]; decide)
          have HH : Hid (wr.ownsRow w.heap.size 3 1 u5 (crl band xs k).length (ils (lf (crl band xs k)) (crl band xs k).length) ∧ Below w.heap.size w wr) := ⟨HO, HB⟩
          clear HO HB
          go_wp2_with (first | (go_at_call 15; (with_reducible refine (i1 _).mono ?_); rintro e w' ⟨rfl, hw⟩; obtain rfl := hw.symm))
          go_roundw
          case rel => exact ⟨k + 1, _, by go_num, rfl, by omega, HS.out.symm, by rw [HL.out]; exact HH.out.1, HH.out.2⟩
          case measure => simp [intOf]; omega
        · have HS : Hid (csd band xs (k + 1) = 1) := by rw [csd, SD.out]; exact if_neg (by decide)
          have HL : Hid (crl band xs (k + 1) = crl band xs k ++ [(k : Int)]) := crl_yes (by rw [SD.out]; decide) (by have := HCL.out; rw [SD.out]; omega)
          have hb3 := below_one wr (.cells #[.int .i64 (k : Int)] 3)
          have HO3 := own_below HO hb3
          have HB3 := bstep HB hb3
          clear hb3
          go_wp2_with (first | (go_at_call 15; (with_reducible refine (i1 _).mono ?_); rintro e w' ⟨rfl, hw⟩; obtain rfl := hw.symm) | (at_builtin; refine wpList_append_own _ rfl _ _ 24 rfl w.heap.size 3 i0 (.int .i64 0) 1 8 Try.underlying24 hi hz0 hz1 hz2 rfl (by decide) _ _ _ rfl HO3 ⟨wr.heap.size, 0, none⟩ 1 1 [.int .i64 (k : Int)] rfl rfl (one_new _ _ _) (by simp [Value.oneCell']) (by unfold maxLen; omega) (by omega) HB3.size ?_))
          intro v' w4 hown' hgrow _
          have HB4 : Hid (Below w.heap.size w w4) := grown_below HB3 (Nat.le_refl _) HO3 hgrow
          have HO4 : Hid (w4.ownsRow w.heap.size 3 1 v' (crl band xs k ++ [(k : Int)]).length (ils (lf (crl band xs k ++ [(k : Int)])) (crl band xs k ++ [(k : Int)]).length)) := own_lf hown'
          clear hown' hgrow HB3 HO3
          go_wp2
          go_roundw
          case rel => exact ⟨k + 1, _, by go_num, rfl, by omega, HS.out.symm, by rw [HL.out]; exact HO4.out, HB4.out⟩
          case measure => simp [intOf]; omega
      · rw [g] at i1
        have SD : Hid (sdv (xs k) band = 0) := SX.out.symm.trans g
        clear g
        rcases hs with rfl | rfl | rfl
        · have HS : Hid (csd band xs (k + 1) = 1) := by rw [csd, SD.out]; rw [if_pos rfl]; exact HCL.out.symm
          have HL : Hid (crl band xs (k + 1) = crl band xs k) := crl_no (by rw [SD.out, ← HCL.out]; decide)
          have HH : Hid (wr.ownsRow w.heap.size 3 1 u5 (crl band xs k).length (ils (lf (crl band xs k)) (crl band xs k).length) ∧ Below w.heap.size w wr) := ⟨HO, HB⟩
          clear HO HB
          go_wp2_with (first | (go_at_call 15; (with_reducible refine (i1 _).mono ?_); rintro e w' ⟨rfl, hw⟩; obtain rfl := hw.symm))
          go_roundw
          case rel => exact ⟨k + 1, _, by go_num, rfl, by omega, HS.out.symm, by rw [HL.out]; exact HH.out.1, HH.out.2⟩
          case measure => simp [intOf]; omega
        · have HS : Hid (csd band xs (k + 1) = 0) := by rw [csd, SD.out]; rw [if_pos rfl]; exact HCL.out.symm
          have HL : Hid (crl band xs (k + 1) = crl band xs k) := crl_no (by rw [SD.out, ← HCL.out]; decide)
          have HH : Hid (wr.ownsRow w.heap.size 3 1 u5 (crl band xs k).length (ils (lf (crl band xs k)) (crl band xs k).length) ∧ Below w.heap.size w wr) := ⟨HO, HB⟩
          clear HO HB
          go_wp2_with (first | (go_at_call 15; (with_reducible refine (i1 _).mono ?_); rintro e w' ⟨rfl, hw⟩; obtain rfl := hw.symm))
          go_roundw
          case rel => exact ⟨k + 1, _, by go_num, rfl, by omega, HS.out.symm, by rw [HL.out]; exact HH.out.1, HH.out.2⟩
          case measure => simp [intOf]; omega
        · have HS : Hid (csd band xs (k + 1) = -1) := by rw [csd, SD.out]; rw [if_pos rfl]; exact HCL.out.symm
          have HL : Hid (crl band xs (k + 1) = crl band xs k) := crl_no (by rw [SD.out, ← HCL.out]; decide)
          have HH : Hid (wr.ownsRow w.heap.size 3 1 u5 (crl band xs k).length (ils (lf (crl band xs k)) (crl band xs k).length) ∧ Below w.heap.size w wr) := ⟨HO, HB⟩
          clear HO HB
          go_wp2_with (first | (go_at_call 15; (with_reducible refine (i1 _).mono ?_); rintro e w' ⟨rfl, hw⟩; obtain rfl := hw.symm))
          go_roundw
          case rel => exact ⟨k + 1, _, by go_num, rfl, by omega, HS.out.symm, by rw [HL.out]; exact HH.out.1, HH.out.2⟩
          case measure => simp [intOf]; omega
      · rw [g] at i1
        have SD : Hid (sdv (xs k) band = -1) := SX.out.symm.trans g
        clear g
        rcases hs with rfl | rfl | rfl
        · have HS : Hid (csd band xs (k + 1) = -1) := by rw [csd, SD.out]; exact if_neg (by decide)
          have HL : Hid (crl band xs (k + 1) = crl band xs k ++ [(k : Int)]) := crl_yes (by rw [SD.out]; decide) (by have := HCL.out; rw [SD.out]; omega)
          have hb3 := below_one wr (.cells #[.int .i64 (k : Int)] 3)
          have HO3 := own_below HO hb3
          have HB3 := bstep HB hb3
          clear hb3
          go_wp2_with (first | (go_at_call 15; (with_reducible refine (i1 _).mono ?_); rintro e w' ⟨rfl, hw⟩; obtain rfl := hw.symm) | (at_builtin; refine wpList_append_own _ rfl _ _ 24 rfl w.heap.size 3 i0 (.int .i64 0) 1 8 Try.underlying24 hi hz0 hz1 hz2 rfl (by decide) _ _ _ rfl HO3 ⟨wr.heap.size, 0, none⟩ 1 1 [.int .i64 (k : Int)] rfl rfl (one_new _ _ _) (by simp [Value.oneCell']) (by unfold maxLen; omega) (by omega) HB3.size ?_))
          intro v' w4 hown' hgrow _
          have HB4 : Hid (Below w.heap.size w w4) := grown_below HB3 (Nat.le_refl _) HO3 hgrow
          have HO4 : Hid (w4.ownsRow w.heap.size 3 1 v' (crl band xs k ++ [(k : Int)]).length (ils (lf (crl band xs k ++ [(k : Int)])) (crl band xs k ++ [(k : Int)]).length)) := own_lf hown'
          clear hown' hgrow HB3 HO3
          go_wp2
          go_roundw
          case rel => exact ⟨k + 1, _, by go_num, rfl, by omega, HS.out.symm, by rw [HL.out]; exact HO4.out, HB4.out⟩
          case measure => simp [intOf]; omega
        · have HS : Hid (csd band xs (k + 1) = -1) := by rw [csd, SD.out]; exact if_neg (by decide)
          have HL : Hid (crl band xs (k + 1) = crl band xs k) := crl_no (by rw [SD.out, ← HCL.out]; decide)
          have HH : Hid (wr.ownsRow w.heap.size 3 1 u5 (crl band xs k).length (ils (lf (crl band xs k)) (crl band xs k).length) ∧ Below w.heap.size w wr) := ⟨HO, HB⟩
          clear HO HB
          go_wp2_with (first | (go_at_call 15; (with_reducible refine (i1 _).mono ?_); rintro e w' ⟨rfl, hw⟩; obtain rfl := hw.symm))
          go_roundw
          case rel => exact ⟨k + 1, _, by go_num, rfl, by omega, HS.out.symm, by rw [HL.out]; exact HH.out.1, HH.out.2⟩
          case measure => simp [intOf]; omega
        · have HS : Hid (csd band xs (k + 1) = -1) := by rw [csd, SD.out]; exact if_neg (by decide)
          have HL : Hid (crl band xs (k + 1) = crl band xs k) := crl_no (by rw [SD.out, ← HCL.out]; decide)
          have HH : Hid (wr.ownsRow w.heap.size 3 1 u5 (crl band xs k).length (ils (lf (crl band xs k)) (crl band xs k).length) ∧ Below w.heap.size w wr) := ⟨HO, HB⟩
          clear HO HB
          go_wp2_with (first | (go_at_call 15; (with_reducible refine (i1 _).mono ?_); rintro e w' ⟨rfl, hw⟩; obtain rfl := hw.symm))
          go_roundw
          case rel => exact ⟨k + 1, _, by go_num, rfl, by omega, HS.out.symm, by rw [HL.out]; exact HH.out.1, HH.out.2⟩
          case measure => simp [intOf]; omega
    · obtain rfl : n = k := by omega
      go_wp2
      go_ret
      exact ⟨_, rfl, hrel.out.2⟩

set_option maxHeartbeats 4000000 in
theorem sCr_bad {w : World} {v : Value} {n : Nat} {xs : Nat → Int} {band : Int} (hv : Il w v n xs) (hn : n ≤ 1048576) (h : ¬ (Sig n xs ∧ 0 ≤ band)) (ys : Nat → Int) :
    Calls Try.prog 7 #[v, .int .i64 band] w fun e w' => Pcr w w' e 0 ys := by
  have i2 := sSig_any (hv.below (below_one w (.cells #[] 3))) hn
  have OW : Hid ((w.alloc (.cells #[] 3)).ownsRow w.heap.size 3 1 (.slice (some ⟨w.heap.size, 0, none⟩) 0 0) 0 (ils ys 0)) := own_empty w 3 1
  have BL : Hid (Below w.heap.size w (w.alloc (.cells #[] 3))) := below_one _ _
  obtain ⟨ao, cap, rfl, hcap, hc⟩ := hv
  clear hc
  by_cases h1 : Sig n xs
  · have h2 : ¬ 0 ≤ band := fun hb => h ⟨h1, hb⟩
    rw [decide_eq_true h1] at i2
    clear h1 h
    go_enter Try.func7, Try.ntmps7
    go_wp2_with (first | (go_at_call 16; (with_reducible refine i2.mono ?_); rintro e w' ⟨rfl, hw⟩; obtain rfl := hw.symm))
    go_ret
    exact ⟨_, rfl, OW.out, BL.out⟩
  · rw [decide_eq_false h1] at i2
    clear h1 h
    go_enter Try.func7, Try.ntmps7
    go_wp2_with (first | (go_at_call 16; (with_reducible refine i2.mono ?_); rintro e w' ⟨rfl, hw⟩; obtain rfl := hw.symm))
    go_ret
    exact ⟨_, rfl, OW.out, BL.out⟩

set_option maxHeartbeats 4000000 in
theorem iCr_bad {w : World} {v : Value} {n : Nat} {xs : Nat → Int} {band : Int} (hv : Il w v n xs) (hn : n ≤ 1048576) (h : ¬ (Sig n xs ∧ 0 ≤ band)) (ys : Nat → Int) :
    Calls Try.prog 6 #[v, .int .i64 band] w fun e w' => Pcr w w' e 0 ys := by
  have i2 := iSig_any (hv.below (below_one w (.cells #[] 3))) hn
  have OW : Hid ((w.alloc (.cells #[] 3)).ownsRow w.heap.size 3 1 (.slice (some ⟨w.heap.size, 0, none⟩) 0 0) 0 (ils ys 0)) := own_empty w 3 1
  have BL : Hid (Below w.heap.size w (w.alloc (.cells #[] 3))) := below_one _ _
  obtain ⟨ao, cap, rfl, hcap, hc⟩ := hv
  clear hc
  by_cases h1 : Sig n xs
  · have h2 : ¬ 0 ≤ band := fun hb => h ⟨h1, hb⟩
    rw [decide_eq_true h1] at i2
    clear h1 h
    go_enter Try.func6, Try.ntmps6
    go_wp2_with (first | (go_at_call 14; (with_reducible refine i2.mono ?_); rintro e w' ⟨rfl, hw⟩; obtain rfl := hw.symm))
    go_ret
    exact ⟨_, rfl, OW.out, BL.out⟩
  · rw [decide_eq_false h1] at i2
    clear h1 h
    go_enter Try.func6, Try.ntmps6
    go_wp2_with (first | (go_at_call 14; (with_reducible refine i2.mono ?_); rintro e w' ⟨rfl, hw⟩; obtain rfl := hw.symm))
    go_ret
    exact ⟨_, rfl, OW.out, BL.out⟩

end Go.Proofs.Ytnnfamgiolognaa
