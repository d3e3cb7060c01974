/- Thicken: both sides. -/
import Derived.Test.YtgkcofjhajjjgabKB
namespace Go.Proofs.Ytgkcofjhajjjgab
open Go.RowKit

theorem made_zero (k : Nat) : (madeCells (Value.int .i64 0).cells (k * 1)).toList = ils (fun _ => 0) k := by
  apply List.ext_getElem?
  intro i
  by_cases h : i < k
  · rw [ils_get h]
    simp [madeCells, Value.cells, h, Nat.mod_one]
  · rw [List.getElem?_eq_none (by rw [Array.length_toList, size_madeCells]; omega), List.getElem?_eq_none (by rw [ils_length]; omega)]

/-- A list of noughts made. -/
def mkd (W : World) (k : Nat) : World := W.alloc (.cells (madeCells (Value.int .i64 0).cells (k * 1)) 3)

theorem mkd_run (W : World) {k : Nat} (hk : k ≤ 1048576) : (Instr.makeSlice 22 (.int .i64 (k : Int)) (.int .i64 (k : Int))).run Try.prog W = .ok (.slice (some ⟨W.heap.size, 0, none⟩) k k) (mkd W k) := by
  obtain ⟨i0, hi, hz0, hz1, hz2⟩ := info_parts Try.info3
  have h := run_make (P := Try.prog) W 22 3 i0 (.int .i64 0) Try.underlying22 hi hz0 .i64 .i64 k k (by omega) (Int.le_refl _) (by rw [hz2]; omega) (by omega)
  rw [Int.toNat_natCast, hz1] at h
  exact h

theorem mkd_own (W : World) {B k : Nat} (hk : k ≤ 1048576) (hB : B ≤ W.heap.size) : (mkd W k).ownsRow B 3 1 (.slice (some ⟨W.heap.size, 0, none⟩) k k) k (ils (fun _ => 0) k) := by
  have h := World.ownsRow_lit (base := B) (e := 3) (size := 1) W (madeCells (Value.int .i64 0).cells (k * 1)) k hB (by unfold maxLen; omega) (size_madeCells _ _)
  rw [made_zero] at h
  exact h

theorem mkd_below (W : World) (k : Nat) : Below W.heap.size W (mkd W k) := below_one _ _

theorem mkd_size (W : World) (k : Nat) : (mkd W k).heap.size = W.heap.size + 1 := Array.size_push _

/-- What is told by Thicken. -/
def thk (q : Nat) (ks xs : Nat → Int) (i : Nat) : Int := if Kt q ks i then xs (kc q ks i) else 0
/-- .. when the first j numbers are put in their places. -/
def thj (q : Nat) (ks xs : Nat → Int) (j i : Nat) : Int := if Kt q ks i ∧ kc q ks i < j then xs (kc q ks i) else 0

theorem thj_zero (q : Nat) (ks xs : Nat → Int) : thj q ks xs 0 = fun _ => 0 := by
  funext i
  rw [thj, if_neg (fun h => by omega)]

theorem thj_step {q : Nat} {ks xs : Nat → Int} {j p : Nat} (hp : Kt q ks p) (hj : kc q ks p = j) : (fun i => if i = p then xs j else thj q ks xs j i) = thj q ks xs (j + 1) := by
  funext i
  by_cases h : i = p
  · subst h
    rw [if_pos rfl, thj, if_pos ⟨hp, by omega⟩, hj]
  · rw [if_neg h, thj, thj]
    by_cases h1 : Kt q ks i ∧ kc q ks i < j
    · rw [if_pos h1, if_pos ⟨h1.1, by omega⟩]
    · rw [if_neg h1, if_neg]
      rintro ⟨h2, h3⟩
      by_cases h4 : kc q ks i < j
      · exact h1 ⟨h2, h4⟩
      · exact h (kt_one h2 hp (by omega))

theorem thj_all {q : Nat} {ks xs : Nat → Int} {n i : Nat} (h : i < n) : thj q ks xs (kc q ks n) i = thk q ks xs i := by
  unfold thj thk
  by_cases h1 : Kt q ks i
  · rw [if_pos h1, if_pos ⟨h1, kc_lt h h1⟩]
  · rw [if_neg h1, if_neg (fun h9 => h1 h9.1)]

set_option maxHeartbeats 4000000 in
theorem iThk_good {w : World} {v u : Value} {m q : Nat} {xs ks : Nat → Int} (hv : Il w v m xs) (hu : Il w u q ks) {n : Nat} (hn : n ≤ 1024) (hq : Kp q ks) (hm : kc q ks n = m) : Calls Try.prog 7 #[v, u, .int .i64 n] w fun e w' => Pst w w' e n (thk q ks xs) true := by
  have i1 := iKeep_any hu (by have := hq.1; omega)
  rw [decide_eq_true hq] at i1
  have i2 := places_any hu hq hn
  have hq0 := hq.pos
  have hq1 := hq.1
  have hN := kc_le q ks n
  clear hq
  obtain ⟨ao, cap, rfl, hcap, hc⟩ := hv
  obtain ⟨bo, cap2, rfl, hcap2, hc2⟩ := hu
  have HC : Hid (0 < m → ∃ b off, ao = some ⟨b, off, none⟩ ∧ b < w.heap.size ∧ ∀ k, k < m → w.cell? ⟨b, off + k, none⟩ = some (.int .i64 (xs k))) := hc
  clear hc hc2
  have HN : Hid (kc q ks n = m) := hm
  rw [hm] at hN i2
  clear hm
  have MR : Hid (∀ W : World, (Instr.makeSlice 22 (.int .i64 (n : Int)) (.int .i64 (n : Int))).run Try.prog W = .ok (.slice (some ⟨W.heap.size, 0, none⟩) n n) (mkd W n)) := fun W => mkd_run W (by omega)
  go_enter Try.func7, Try.ntmps7
  go_wp2_with (first | (go_at_call 15; (with_reducible refine (i1).mono ?_); rintro e w' ⟨rfl, hw⟩; obtain rfl := hw.symm) | (go_at_call 16; (with_reducible refine i2.mono ?_); rintro e w3 ⟨pl, rfl, hop, hb3⟩; have OP : Hid (Il w3 pl m (fun j => (pf q ks n j : Int))) := il_of_own hop; have BL3 : Hid (Below w.heap.size w w3) := hb3; have MR3 := MR.out w3; clear hop hb3; obtain ⟨po, cap3, rfl, hcap3, hc3⟩ := OP.out; have HC3 : Hid (0 < m → ∃ b off, po = some ⟨b, off, none⟩ ∧ b < w3.heap.size ∧ ∀ k, k < m → w3.cell? ⟨b, off + k, none⟩ = some (.int .i64 ((fun j => (pf q ks n j : Int)) k))) := hc3; clear hc3 OP))
  clear i1 i2 MR MR3
  have OT : Hid ((mkd w3 n).ownsRow w3.heap.size 3 1 (.slice (some ⟨w3.heap.size, 0, none⟩) n n) n (ils (thj q ks xs 0) n)) := by rw [thj_zero]; exact mkd_own w3 (by omega) (Nat.le_refl _)
  have BT : Hid (Below w3.heap.size w3 (mkd w3 n)) := mkd_below _ _
  generalize mkd w3 n = W3 at *
  go_loopw [10, 11, 37] (fun _ _ i wr => ∃ (k : Nat), i = .int .i64 k ∧ k ≤ m ∧ Hid (wr.ownsRow w3.heap.size 3 1 (.slice (some ⟨w3.heap.size, 0, none⟩) n n) n (ils (thj q ks xs k) n) ∧ Below w3.heap.size w3 wr)) (fun _ _ i _ => m - (intOf i).toNat)
  case atStart => exact ⟨0, rfl, by omega, OT.out, BT.out⟩
  case round =>
    obtain ⟨k, rfl, hk, hrel⟩ := hrel
    by_cases h1 : k < m
    · obtain ⟨b3, off3, rfl, hlt3, hcell3⟩ := HC3.out (by omega)
      have c3 := (hrel.out.2.cell (p := ⟨b3, off3 + k, none⟩) hlt3).trans (hcell3 k h1)
      obtain ⟨p, hp⟩ : ∃ p : Nat, p = pf q ks n k := ⟨_, rfl⟩
      obtain ⟨hpn, hp2, hp3⟩ := pf_told (q := q) (ks := ks) (n := n) (j := k) (by rw [HN.out]; exact h1)
      replace c3 : wr.cell? ⟨b3, off3 + k, none⟩ = some (.int .i64 (p : Int)) := by rw [hp]; exact c3
      rw [← hp] at hpn hp2 hp3
      obtain ⟨b, off, rfl, hlt, hcell⟩ := HC.out (by omega)
      have c := ((BL3.out.trans (hrel.out.2.mono BL3.out.size)).cell (p := ⟨b, off + k, none⟩) hlt).trans (hcell k h1)
      have hrow := hrel.out.1
      have hfz := hrow.frozenAt p
      have hst := (hrow.stored p (.int .i64 (xs k))).1
      have hce := hrow.cellAt p (by omega)
      rw [ils_get hpn] at hce
      rw [ils_put, thj_step hp2 hp3] at hst
      have HS : Hid _ := hst
      have HB2 : Hid (Below w3.heap.size w3 wr) := hrel.out.2
      clear hst hrow hcell hcell3 hrel hp hp2 hp3
      generalize thj q ks xs k p = y at hce
      go_wp2
      go_roundw
      case rel => exact ⟨k + 1, by go_num, by omega, HS.out, HB2.out.setCell (Nat.le_refl _) _⟩
      case measure => simp [intOf]; omega
    · obtain rfl : m = k := by omega
      have hrow := hrel.out.1
      rw [ils_congr (g := thk q ks xs) (fun i hi => by rw [← HN.out]; exact thj_all hi)] at hrow
      have HS : Hid (wr.ownsRow w3.heap.size 3 1 (.slice (some ⟨w3.heap.size, 0, none⟩) n n) n (ils (thk q ks xs) n)) := hrow
      have HB2 : Hid (Below w3.heap.size w3 wr) := hrel.out.2
      clear hrow hrel
      go_wp2
      go_ret2
      exact ⟨_, rfl, own_base HS.out BL3.out.size, bstep BL3.out HB2.out⟩

set_option maxHeartbeats 4000000 in
theorem iThk_len {w : World} {v u : Value} {m q : Nat} {xs ks : Nat → Int} (hv : Il w v m xs) (hu : Il w u q ks) {n : Nat} (hn : n ≤ 1024) (hq : Kp q ks) (_ : m ≤ 1048576) (hm : kc q ks n ≠ m) (ys : Nat → Int) : Calls Try.prog 7 #[v, u, .int .i64 n] w fun e w' => Pst w w' e 0 ys false := by
  have i1 := iKeep_any hu (by have := hq.1; omega)
  rw [decide_eq_true hq] at i1
  have i2 := places_any hu hq hn
  have hN := kc_le q ks n
  clear hq
  obtain ⟨ao, cap, rfl, hcap, hc⟩ := hv
  obtain ⟨bo, cap2, rfl, hcap2, hc2⟩ := hu
  clear hc hc2
  obtain ⟨N, hNe⟩ : ∃ N : Nat, N = kc q ks n := ⟨_, rfl⟩
  rw [← hNe] at hN i2 hm
  clear hNe
  go_enter Try.func7, Try.ntmps7
  go_wp2_with (first | (go_at_call 15; (with_reducible refine (i1).mono ?_); rintro e w' ⟨rfl, hw⟩; obtain rfl := hw.symm) | (go_at_call 16; (with_reducible refine i2.mono ?_); rintro e w3 ⟨pl, rfl, hop, hb3⟩; have BL3 : Hid (Below w.heap.size w w3) := hb3; obtain ⟨po, cap3, rfl, hcap3, hc3⟩ := il_of_own hop; clear hop hb3 hc3))
  go_ret2
  exact ⟨_, rfl, own_base (own_empty w3 3 1) BL3.out.size, bstep BL3.out (below_one _ _)⟩

set_option maxHeartbeats 4000000 in
theorem iThk_bad {w : World} {v u : Value} {m q : Nat} {xs ks : Nat → Int} (hv : Il w v m xs) (hu : Il w u q ks) (hq9 : q ≤ 1048576) {x : Int} (h : ¬ (Kp q ks ∧ 0 ≤ x ∧ x ≤ 1024)) (ys : Nat → Int) : Calls Try.prog 7 #[v, u, .int .i64 x] w fun e w' => Pst w w' e 0 ys false := by
  have i1 := iKeep_any hu hq9
  obtain ⟨ao, cap, rfl, hcap, hc⟩ := hv
  obtain ⟨bo, cap2, rfl, hcap2, hc2⟩ := hu
  clear hc hc2
  by_cases h1 : Kp q ks
  · rw [decide_eq_true h1] at i1
    have h2 : ¬ (0 ≤ x ∧ x ≤ 1024) := fun h9 => h ⟨h1, h9⟩
    clear h h1
    by_cases h3 : x < 0
    · go_enter Try.func7, Try.ntmps7
      go_wp2_with (first | (go_at_call 15; (with_reducible refine (i1).mono ?_); rintro e w' ⟨rfl, hw⟩; obtain rfl := hw.symm))
      go_ret2
      exact ⟨_, rfl, own_empty w 3 1, below_one _ _⟩
    · have h4 : 1024 < x := by omega
      clear h2
      go_enter Try.func7, Try.ntmps7
      go_wp2_with (first | (go_at_call 15; (with_reducible refine (i1).mono ?_); rintro e w' ⟨rfl, hw⟩; obtain rfl := hw.symm))
      go_ret2
      exact ⟨_, rfl, own_empty w 3 1, below_one _ _⟩
  · rw [decide_eq_false h1] at i1
    clear h h1
    go_enter Try.func7, Try.ntmps7
    go_wp2_with (first | (go_at_call 15; (with_reducible refine (i1).mono ?_); rintro e w' ⟨rfl, hw⟩; obtain rfl := hw.symm))
    go_ret2
    exact ⟨_, rfl, own_empty w 3 1, below_one _ _⟩

set_option maxHeartbeats 2000000 in
theorem sThk_bad {w : World} {v u : Value} {m q : Nat} {xs ks : Nat → Int} (hv : Il w v m xs) (hu : Il w u q ks) (hq9 : q ≤ 1048576) {x : Int} (h : ¬ (Kp q ks ∧ 0 ≤ x ∧ x ≤ 1024)) (ys : Nat → Int) :
    Calls Try.prog 5 #[v, u, .int .i64 x] w fun e w' => Pst w w' e 0 ys false := by
  have i1 := sKeep_any (hu.below (below_one w (.cells #[] 3))) hq9
  have i2 := in_any x 0 1024
  obtain ⟨ao, cap, rfl, hcap, hc⟩ := hv
  obtain ⟨bo, cap2, rfl, hcap2, hc2⟩ := hu
  clear hc hc2
  by_cases c1 : Kp q ks
  · rw [decide_eq_true c1] at i1
    rw [decide_eq_false (fun c2 => h ⟨c1, c2⟩)] at i2
    clear h c1
    go_enter Try.func5, Try.ntmps5
    go_wp2_with (first | (go_at_call 13; (with_reducible refine (i1).mono ?_); rintro e w' ⟨rfl, hw⟩; obtain rfl := hw.symm) | (go_at_call 14; (with_reducible refine (i2 _).mono ?_); rintro e w' ⟨rfl, hw⟩; obtain rfl := hw.symm))
    go_ret2
    exact ⟨_, rfl, own_empty w 3 1, below_one _ _⟩
  · rw [decide_eq_false c1] at i1
    clear h c1
    clear i2
    go_enter Try.func5, Try.ntmps5
    go_wp2_with (first | (go_at_call 13; (with_reducible refine (i1).mono ?_); rintro e w' ⟨rfl, hw⟩; obtain rfl := hw.symm))
    go_ret2
    exact ⟨_, rfl, own_empty w 3 1, below_one _ _⟩
set_option maxHeartbeats 4000000 in
theorem sThk_any {w : World} {v u : Value} {m q : Nat} {xs ks : Nat → Int} (hv : Il w v m xs) (hu : Il w u q ks) {n : Nat} (hn : n ≤ 1024) (hq : Kp q ks) (hm9 : m ≤ 1048576) (ys : Nat → Int) : Calls Try.prog 5 #[v, u, .int .i64 n] w fun e w' => (kc q ks n = m ∧ Pst w w' e n (thk q ks xs) true) ∨ (kc q ks n ≠ m ∧ Pst w w' e 0 ys false) := by
  obtain ⟨i0, hi, hz0, hz1, hz2⟩ := info_parts Try.info3
  have i1 := sKeep_any (hu.below (below_one w (.cells #[] 3))) (by have := hq.1; omega)
  rw [decide_eq_true hq] at i1
  have i2 := in_any (n : Int) 0 1024
  rw [decide_eq_true (by omega)] at i2
  have hq0 := hq.pos
  have hq1 := hq.1
  clear hq
  have OW : Hid ((w.alloc (.cells #[] 3)).ownsRow w.heap.size 3 1 (.slice (some ⟨w.heap.size, 0, none⟩) 0 0) 0 (ils (thk q ks xs) 0)) := own_empty w 3 1
  have BL : Hid (Below w.heap.size w (w.alloc (.cells #[] 3))) := below_one _ _
  obtain ⟨ao, cap, rfl, hcap, hc⟩ := hv
  obtain ⟨bo, cap2, rfl, hcap2, hc2⟩ := hu
  have HC : Hid (0 < m → ∃ b off, ao = some ⟨b, off, none⟩ ∧ b < w.heap.size ∧ ∀ k, k < m → w.cell? ⟨b, off + k, none⟩ = some (.int .i64 (xs k))) := hc
  have HC2 : Hid (0 < q → ∃ b off, bo = some ⟨b, off, none⟩ ∧ b < w.heap.size ∧ ∀ k, k < q → w.cell? ⟨b, off + k, none⟩ = some (.int .i64 (ks k))) := hc2
  clear hc hc2
  go_enter Try.func5, Try.ntmps5
  go_wp2_with (first | (go_at_call 13; (with_reducible refine (i1).mono ?_); rintro e w' ⟨rfl, hw⟩; obtain rfl := hw.symm) | (go_at_call 14; (with_reducible refine (i2 _).mono ?_); rintro e w' ⟨rfl, hw⟩; obtain rfl := hw.symm))
  clear i1 i2
  generalize w.alloc (.cells #[] 3) = W at *
  go_loopw [8, 9, 10, 11] (fun o a i _ wr => ∃ (k K : Nat), i = .int .i64 k ∧ a = .int .i64 K ∧ k ≤ n ∧ K ≤ k ∧ K ≤ m ∧ Hid (K = kc q ks k ∧ wr.ownsRow w.heap.size 3 1 o k (ils (thk q ks xs) k) ∧ Below w.heap.size w wr)) (fun _ _ i _ _ => n - (intOf i).toNat)
  case atStart => exact ⟨0, 0, rfl, rfl, by omega, by omega, by omega, rfl, OW.out, BL.out⟩
  case round =>
    obtain ⟨k, K, rfl, rfl, hk, hKk, hKm, hrel⟩ := hrel
    by_cases h1 : k < n
    · obtain ⟨b2, off2, rfl, hlt2, hcell2⟩ := HC2.out (by omega)
      obtain ⟨r, hr⟩ : ∃ r : Nat, r = k % q := ⟨_, rfl⟩
      have hrq : r < q := by rw [hr]; exact Nat.mod_lt _ (by omega)
      have m1 : (k : Int).tmod (q : Int) = (r : Int) := by rw [Int.tmod_eq_emod_of_nonneg (by omega), hr]; exact_mod_cast rfl
      have m2 : (k : Int) % (q : Int) = (r : Int) := by rw [hr]; exact_mod_cast rfl
      have HR : Hid (r = k % q) := hr
      clear hr
      have c2 := (hrel.out.2.2.cell (p := ⟨b2, off2 + r, none⟩) hlt2).trans (hcell2 r hrq)
      have HO := hrel.out.2.1
      have HB := hrel.out.2.2
      have HK : Hid (K = kc q ks k) := hrel.out.1
      by_cases h2 : Kt q ks k
      · have h3 : ks r = 1 := by rw [HR.out]; exact h2
        rw [h3] at c2
        have H2 : Hid (Kt q ks k) := h2
        by_cases h4 : K < m
        · obtain ⟨b, off, rfl, hlt, hcell⟩ := HC.out (by omega)
          have c := (hrel.out.2.2.cell (p := ⟨b, off + K, none⟩) hlt).trans (hcell K h4)
          obtain ⟨z, hz⟩ : ∃ z, z = xs K := ⟨_, rfl⟩
          rw [← hz] at c
          have HZ : Hid (z = thk q ks xs k) := by rw [hz, thk, if_pos h2, HK.out]; exact rfl
          have h5 : ((K : Int) == (m : Int)) = false := by simp only [beq_eq_false_iff_ne]; omega
          clear h2 h3 hcell hcell2 hrel hz
          have hb3 := below_one wr (.cells #[.int .i64 z] 3)
          have HO3 := own_below HO hb3
          have HB3 := bstep HB hb3
          clear hb3
          go_wp2_with (first | (at_builtin; refine wpList_append_own _ rfl _ _ 22 rfl w.heap.size 3 i0 (.int .i64 0) 1 8 Try.underlying22 hi hz0 hz1 hz2 rfl (by decide) _ _ _ rfl HO3 ⟨wr.heap.size, 0, none⟩ 1 1 [.int .i64 z] rfl rfl (one_new _ _ _) (by simp [Value.oneCell']) (by unfold maxLen; omega) (by omega) HB3.size ?_))
          intro v' w4 hown' hgrow _
          have HB4 : Hid (Below w.heap.size w w4) := grown_below HB3 (Nat.le_refl _) HO3 hgrow
          rw [show Value.int .i64 z = .int .i64 (thk q ks xs k) from congrArg _ HZ.out, ← ils_snoc (thk q ks xs) k] at hown'
          have HO4 : Hid (w4.ownsRow w.heap.size 3 1 v' (k + 1) (ils (thk q ks xs) (k + 1))) := hown'
          clear hown' hgrow HB3 HO3
          go_wp2
          go_roundw
          case rel => exact ⟨k + 1, K + 1, by go_num, by go_num, by omega, by omega, by omega, by rw [kc_yes H2.out, ← HK.out], HO4.out, HB4.out⟩
          case measure => simp [intOf]; omega
        · obtain rfl : m = K := by omega
          have HB5 : Hid (Below w.heap.size w wr) := HB
          clear h2 h3 hcell2 hrel HO HB
          go_wp2
          go_ret2
          have h9 := kc_lt h1 H2.out
          refine .inr ⟨by have := HK.out; omega, ?_⟩
          exact ⟨_, rfl, own_base (own_empty wr 3 1) HB5.out.size, bstep HB5.out (below_one _ _)⟩
      · have h3 : (ks r == 1) = false := by rw [HR.out]; simp only [beq_eq_false_iff_ne]; exact h2
        have H2 : Hid (¬ Kt q ks k) := h2
        have HZ : Hid (0 = thk q ks xs k) := by rw [thk, if_neg h2]; exact rfl
        generalize ks r = x at *
        clear h2 hcell2 hrel
        have hb3 := below_one wr (.cells #[.int .i64 0] 3)
        have HO3 := own_below HO hb3
        have HB3 := bstep HB hb3
        clear hb3
        go_wp2_with (first | (at_builtin; refine wpList_append_own _ rfl _ _ 22 rfl w.heap.size 3 i0 (.int .i64 0) 1 8 Try.underlying22 hi hz0 hz1 hz2 rfl (by decide) _ _ _ rfl HO3 ⟨wr.heap.size, 0, none⟩ 1 1 [.int .i64 0] rfl rfl (one_new _ _ _) (by simp [Value.oneCell']) (by unfold maxLen; omega) (by omega) HB3.size ?_))
        intro v' w4 hown' hgrow _
        have HB4 : Hid (Below w.heap.size w w4) := grown_below HB3 (Nat.le_refl _) HO3 hgrow
        rw [show Value.int .i64 0 = .int .i64 (thk q ks xs k) from congrArg _ HZ.out, ← ils_snoc (thk q ks xs) k] at hown'
        have HO4 : Hid (w4.ownsRow w.heap.size 3 1 v' (k + 1) (ils (thk q ks xs) (k + 1))) := hown'
        clear hown' hgrow HB3 HO3
        go_wp2
        go_roundw
        case rel => exact ⟨k + 1, K, by go_num, rfl, by omega, by omega, by omega, by rw [kc_no H2.out, ← HK.out], HO4.out, HB4.out⟩
        case measure => simp [intOf]; omega
    · obtain rfl : n = k := by omega
      have HK : Hid (K = kc q ks n) := hrel.out.1
      by_cases h4 : K = m
      · obtain rfl : m = K := h4.symm
        go_wp2
        go_ret2
        refine .inl ⟨HK.out.symm, ?_⟩
        exact ⟨_, rfl, hrel.out.2.1, hrel.out.2.2⟩
      · have HB5 : Hid (Below w.heap.size w wr) := hrel.out.2.2
        clear hrel
        go_wp2
        go_ret2
        refine .inr ⟨by have := HK.out; omega, ?_⟩
        exact ⟨_, rfl, own_base (own_empty wr 3 1) HB5.out.size, bstep HB5.out (below_one _ _)⟩
end Go.Proofs.Ytgkcofjhajjjgab
