/- Map: the program's, and refusals. -/
import Derived.Test.YtpoiejmpdlmegaaML
namespace Go.Proofs.Ytpoiejmpdlmegaa
open Go.RowKit

/-- Good for Map. -/
abbrev GMp (n : Nat) (xs : Nat → Int) (x : Int) : Prop := Bts n xs ∧ Wid x

theorem lvl_room {n : Nat} {xs : Nat → Int} (hb : ∀ k, k < n → Bit (xs k)) (f : Nat) {h : Nat} (hh : Hlf h) : -15 ≤ lvl n xs f h ∧ lvl n xs f h ≤ 15 := by
  have h1 := ung_lt (n := nba n xs f h) (k := h) (nba_lt hb f h)
  unfold lvl
  generalize ung (nba n xs f h) = u at *
  rcases hh with rfl | rfl | rfl | rfl
  · have h2 : u < 2 := h1
    have h3 : (2 : Int) ^ 1 = 2 := rfl
    omega
  · have h2 : u < 4 := h1
    have h3 : (2 : Int) ^ 2 = 4 := rfl
    omega
  · have h2 : u < 8 := h1
    have h3 : (2 : Int) ^ 3 = 8 := rfl
    omega
  · have h2 : u < 16 := h1
    have h3 : (2 : Int) ^ 4 = 16 := rfl
    omega

set_option maxHeartbeats 8000000 in
theorem iMap_good {w : World} {v : Value} {n h q : Nat} {xs : Nat → Int} (hv : Il w v n xs) (hb : Bts n xs) (hh : Hlf h) (hq : q = (n + 2 * h - 1) / (2 * h)) :
    Calls Try.prog 6 #[.int .i64 ((2 * h : Nat) : Int), v] w fun e w' => Ppk w w' e q (mpz n xs h) true := by
  obtain ⟨i0, hi, hz0, hz1, hz2⟩ := info_parts Try.info31
  have h5 := hb.1
  have h4 : h ≤ 4 ∧ 1 ≤ h := by rcases hh with rfl | rfl | rfl | rfl <;> omega
  have HBT : Hid (Bts n xs) := hb
  have HHH : Hid (Hlf h) := hh
  obtain ⟨wd, hwd⟩ : ∃ wd : Nat, wd = 2 * h := ⟨_, rfl⟩
  rw [← hwd] at hq ⊢
  have i1 := iBits_any (hv.below (below_one w (.cells #[] 31))) (by omega)
  rw [decide_eq_true hb] at i1
  have i2 := iWid_any (wd : Int)
  rw [decide_eq_true (by show Wid _; unfold Wid; rcases hh with rfl | rfl | rfl | rfl <;> omega)] at i2
  have i3 := pieces_any (n := n) (r := wd) (q := q) (by omega) (by omega) (by omega) hq
  have hqb : q * wd ≤ n + wd - 1 := by rw [hq]; exact Nat.div_mul_le_self _ _
  have hq2 : q ≤ 1048 := by have h9 := Nat.le_mul_of_pos_right q (show 0 < wd by omega); omega
  have HQB : Hid (q * wd ≤ n + wd - 1) := hqb
  have e0 : (wd : Int) / 2 = (h : Int) := by omega
  have e1 : (wd : Int).tdiv 2 = (h : Int) := by rw [Int.tdiv_eq_ediv_of_nonneg (by omega)]; exact e0
  have HWD : Hid (wd = 2 * h) := hwd
  have hwb : wd ≤ 8 := by omega
  have OW : Hid ((w.alloc (.cells #[] 31)).ownsRow w.heap.size 31 2 (.slice (some ⟨w.heap.size, 0, none⟩) 0 0) 0 (ils (mpz n xs h) (0 * 2))) := own_empty w 31 2
  have BL : Hid (Below w.heap.size w (w.alloc (.cells #[] 31))) := below_one _ _
  have HV : Hid (Il w v n xs) := hv
  obtain ⟨ao, cap, rfl, hcap, hc⟩ := hv
  clear hc hb hq hh hqb hwd
  go_enter Try.func6, Try.ntmps6
  go_wp2_with (first | (go_at_call 13; (with_reducible refine (i1).mono ?_); rintro e w' ⟨rfl, hw⟩; obtain rfl := hw.symm) | (go_at_call 14; (with_reducible refine (i2 _).mono ?_); rintro e w' ⟨rfl, hw⟩; obtain rfl := hw.symm) | (go_at_call 15; (with_reducible refine (i3 _).mono ?_); rintro e w' ⟨rfl, hw⟩; obtain rfl := hw.symm))
  clear i1 i2 i3
  generalize w.alloc (.cells #[] 31) = W at *
  go_loopw [6, 8, 9, 26] (fun o _ _ i wr => ∃ k : Nat, i = .int .i64 (k : Int) ∧ k ≤ q ∧ Hid (wr.ownsRow w.heap.size 31 2 o k (ils (mpz n xs h) (k * 2)) ∧ Below w.heap.size w wr)) (fun _ _ _ i _ => q - (intOf i).toNat)
  case atStart => exact ⟨0, rfl, by omega, OW.out, BL.out⟩
  case round =>
    obtain ⟨k, rfl, hk, hrel⟩ := hrel
    by_cases h1 : k < q
    · obtain ⟨m, hm⟩ : ∃ m : Nat, m = k * wd := ⟨_, rfl⟩
      have hmb : m ≤ 2000 := by
        have h9 := Nat.mul_le_mul_right wd (show k ≤ q by omega)
        have h10 := HQB.out
        omega
      have f0 : (k : Int) * (wd : Int) = (m : Int) := by rw [hm]; exact (Int.natCast_mul k wd).symm
      obtain ⟨m2, hm2⟩ : ∃ m2 : Nat, m2 = m + h := ⟨_, rfl⟩
      have f1 : (m : Int) + (h : Int) = (m2 : Int) := by omega
      have i4 := place_any (f := m) (h := h) (HV.out.below hrel.out.2) HBT.out (by omega) HHH.out
      have i5 := place_any (f := m2) (h := h) (HV.out.below hrel.out.2) HBT.out (by omega) HHH.out
      obtain ⟨x, hx⟩ : ∃ x, x = lvl n xs m h := ⟨_, rfl⟩
      obtain ⟨y, hy⟩ : ∃ y, y = lvl n xs m2 h := ⟨_, rfl⟩
      rw [← hx] at i4
      rw [← hy] at i5
      have hxx : x = lvl n xs (k * (2 * h)) h := by rw [hx, hm, HWD.out]
      have hyy : y = lvl n xs (k * (2 * h) + h) h := by rw [hy, hm2, hm, HWD.out]
      have HX : Hid (x = lvl n xs (k * (2 * h)) h ∧ y = lvl n xs (k * (2 * h) + h) h) := ⟨hxx, hyy⟩
      have hb3 := below_one wr (.cells #[.int .i64 x, .int .i64 y] 31)
      have HO3 := own_below hrel.out.1 hb3
      have HB3 := bstep hrel.out.2 hb3
      clear hx hy hxx hyy hm hm2 hb3 hrel
      go_wp2_with (first | (go_at_call 16; (with_reducible refine (i4).mono ?_); rintro e w' ⟨rfl, hw⟩; obtain rfl := hw.symm) | (go_at_call 16; (with_reducible refine (i5).mono ?_); rintro e w' ⟨rfl, hw⟩; obtain rfl := hw.symm) | (at_builtin; refine wpList_append_own _ rfl _ _ 27 rfl w.heap.size 31 i0 (.agg #[.int .i64 0, .int .i64 0]) 2 16 Try.underlying27 hi hz0 hz1 hz2 rfl (by decide) _ _ _ rfl HO3 ⟨wr.heap.size, 0, none⟩ 1 1 [.int .i64 x, .int .i64 y] rfl rfl (two_new _ _ _ _) (by simp [Value.oneCell']) (by unfold maxLen; omega) (by omega) HB3.size ?_))
      intro v' w4 hown' hgrow _
      have HB4 : Hid (Below w.heap.size w w4) := grown_below HB3 (Nat.le_refl _) HO3 hgrow
      rw [mpz_snoc n xs h k HX.out.1 HX.out.2] at hown'
      have HO4 : Hid (w4.ownsRow w.heap.size 31 2 v' (k + 1) (ils (mpz n xs h) ((k + 1) * 2))) := hown'
      clear hown' hgrow HB3 HO3
      go_wp2
      go_roundw
      case rel => exact ⟨k + 1, by go_num, by omega, HO4.out, HB4.out⟩
      case measure => simp [intOf]; omega
    · obtain rfl : q = k := by omega
      go_wp2
      go_ret2
      exact ⟨_, rfl, hrel.out.1, hrel.out.2⟩

set_option maxHeartbeats 2000000 in
theorem iMap_bad {w : World} {v : Value} {n : Nat} {xs : Nat → Int} {x : Int} (hv : Il w v n xs) (hn : n ≤ 1048576) (h : ¬ GMp n xs x) (ys : Nat → Int) :
    Calls Try.prog 6 #[.int .i64 x, v] w fun e w' => Ppk w w' e 0 ys false := by
  have i1 := iBits_any (hv.below (below_one w (.cells #[] 31))) hn
  have i2 := iWid_any x
  obtain ⟨ao, cap, rfl, hcap, hc⟩ := hv
  clear hc
  by_cases c1 : Bts n xs
  · rw [decide_eq_true c1] at i1
    rw [decide_eq_false (fun c2 => h ⟨c1, c2⟩)] at i2
    clear h c1
    go_enter Try.func6, Try.ntmps6
    go_wp2_with (first | (go_at_call 13; (with_reducible refine (i1).mono ?_); rintro e w' ⟨rfl, hw⟩; obtain rfl := hw.symm) | (go_at_call 14; (with_reducible refine (i2 _).mono ?_); rintro e w' ⟨rfl, hw⟩; obtain rfl := hw.symm))
    go_ret2
    exact ⟨_, rfl, own_empty w 31 2, below_one _ _⟩
  · rw [decide_eq_false c1] at i1
    clear h c1
    clear i2
    go_enter Try.func6, Try.ntmps6
    go_wp2_with (first | (go_at_call 13; (with_reducible refine (i1).mono ?_); rintro e w' ⟨rfl, hw⟩; obtain rfl := hw.symm))
    go_ret2
    exact ⟨_, rfl, own_empty w 31 2, below_one _ _⟩
set_option maxHeartbeats 2000000 in
theorem sMap_bad {w : World} {v : Value} {n : Nat} {xs : Nat → Int} {x : Int} (hv : Il w v n xs) (hn : n ≤ 1048576) (h : ¬ GMp n xs x) (ys : Nat → Int) :
    Calls Try.prog 7 #[.int .i64 x, v] w fun e w' => Ppk w w' e 0 ys false := by
  have i1 := sBits_any (hv.below (below_one w (.cells #[] 31))) hn
  have i2 := sWid_any x
  obtain ⟨ao, cap, rfl, hcap, hc⟩ := hv
  clear hc
  by_cases c1 : Bts n xs
  · rw [decide_eq_true c1] at i1
    rw [decide_eq_false (fun c2 => h ⟨c1, c2⟩)] at i2
    clear h c1
    go_enter Try.func7, Try.ntmps7
    go_wp2_with (first | (go_at_call 17; (with_reducible refine (i1).mono ?_); rintro e w' ⟨rfl, hw⟩; obtain rfl := hw.symm) | (go_at_call 18; (with_reducible refine (i2 _).mono ?_); rintro e w' ⟨rfl, hw⟩; obtain rfl := hw.symm))
    go_ret2
    exact ⟨_, rfl, own_empty w 31 2, below_one _ _⟩
  · rw [decide_eq_false c1] at i1
    clear h c1
    clear i2
    go_enter Try.func7, Try.ntmps7
    go_wp2_with (first | (go_at_call 17; (with_reducible refine (i1).mono ?_); rintro e w' ⟨rfl, hw⟩; obtain rfl := hw.symm))
    go_ret2
    exact ⟨_, rfl, own_empty w 31 2, below_one _ _⟩
end Go.Proofs.Ytpoiejmpdlmegaa
