/- Unpack8: the document's, and refusals. -/
import Derived.Test.YtpjpkkgcnnmljaaPU
namespace Go.Proofs.Ytpjpkkgcnnmljaa
open Go.RowKit

set_option maxHeartbeats 8000000 in
theorem sUnp_good {w : World} {v : Value} {m n : Nat} {bs : Nat → Int} (hv : Bl w v m bs) (hby : Byt m bs) (h : GUn m (n : Int)) (ht : ∀ i, n ≤ i → i < 8 * m → ubv bs i = 0) :
    Calls Try.prog 16 #[v, .int .i64 (n : Int)] w fun e w' => Pst w w' e n (ubv bs) true := by
  obtain ⟨i0, hi, hz0, hz1, hz2⟩ := info_parts Try.info3
  obtain ⟨h1, h2, h3⟩ := h
  have hnm : n ≤ 8 * m := by omega
  have hmb : m ≤ 128 := by omega
  have i1 := in_any (n : Int) 0 1024
  rw [decide_eq_true (by omega)] at i1
  have e0 : ((n : Int) + 7) / 8 = (m : Int) := h3.symm
  have e00 : ((n : Int) + 7).tdiv 8 = (m : Int) := by rw [Int.tdiv_eq_ediv_of_nonneg (by omega)]; exact e0
  have HBY : Hid (Byt m bs) := hby
  have HT : Hid (∀ i, n ≤ i → i < 8 * m → ubv bs i = 0) := ht
  obtain ⟨M, hM⟩ : ∃ M : Nat, M = 8 * m := ⟨_, rfl⟩
  have eM : 8 * (m : Int) = (M : Int) := by omega
  have HM : Hid (M = 8 * m) := hM
  have hMb : M ≤ 1024 := by omega
  have hnM : n ≤ M := by omega
  have OW : Hid ((w.alloc (.cells #[] 3)).ownsRow w.heap.size 3 1 (.slice (some ⟨w.heap.size, 0, none⟩) 0 0) (min 0 n) (ils (ubv bs) (min 0 n))) := by rw [Nat.zero_min]; exact own_empty w 3 1
  have BL : Hid (Below w.heap.size w (w.alloc (.cells #[] 3))) := below_one _ _
  obtain ⟨ao, cap, rfl, hcap, hc⟩ := hv
  have HC : Hid (0 < m → ∃ b off, ao = some ⟨b, off, none⟩ ∧ b < w.heap.size ∧ ∀ k, k < m → w.cell? ⟨b, off + k, none⟩ = some (.int .u8 (bs k))) := hc
  clear hc hby h3 hM ht
  go_enter Try.func16, Try.ntmps16
  go_wp2_with (first | (go_at_call 14; (with_reducible refine (i1 _).mono ?_); rintro e w' ⟨rfl, hw⟩; obtain rfl := hw.symm))
  clear i1
  generalize w.alloc (.cells #[] 3) = W at *
  go_loopw [6, 7, 8] (fun o i _ wr => ∃ k : Nat, i = .int .i64 (k : Int) ∧ k ≤ M ∧ Hid (wr.ownsRow w.heap.size 3 1 o (min k n) (ils (ubv bs) (min k n)) ∧ Below w.heap.size w wr ∧ ∀ j, n ≤ j → j < k → ubv bs j = 0)) (fun _ i _ _ => M - (intOf i).toNat)
  case atStart => exact ⟨0, rfl, by omega, OW.out, BL.out, fun j _ hj => absurd hj (by omega)⟩
  case round =>
    obtain ⟨k, rfl, hk, hrel⟩ := hrel
    by_cases h4 : k < M
    · have hMm := HM.out
      obtain ⟨b, off, rfl, hlt, hcell⟩ := HC.out (by omega)
      obtain ⟨q, hq⟩ : ∃ q : Nat, q = k / 8 := ⟨_, rfl⟩
      obtain ⟨r, hr⟩ : ∃ r : Nat, r = k % 8 := ⟨_, rfl⟩
      obtain ⟨d, hd⟩ : ∃ d : Nat, d = 7 - r := ⟨_, rfl⟩
      have hqm : q < m := by omega
      have hby := HBY.out q hqm
      obtain ⟨y, hy⟩ : ∃ y : Nat, (y : Int) = bs q := ⟨(bs q).toNat, by omega⟩
      have c := (hrel.out.2.1.cell (p := ⟨b, off + q, none⟩) hlt).trans (hcell q hqm)
      rw [← hy] at c hby
      have f1 : (k : Int) / 8 = (q : Int) := by omega
      have f2 : (k : Int).tdiv 8 = (q : Int) := by rw [Int.tdiv_eq_ediv_of_nonneg (by omega)]; exact f1
      have f3 : (k : Int) % 8 = (r : Int) := by omega
      have f4 : (k : Int).tmod 8 = (r : Int) := by rw [Int.tmod_eq_emod_of_nonneg (by omega)]; exact f3
      have f5 : 7 - (r : Int) = (d : Int) := by omega
      have f6 : IntKind.u64.wrap (d : Int) = (d : Int) := by rw [IntKind.wrap_u64]; omega
      have hd7 : d ≤ 7 := by omega
      obtain ⟨s, hs⟩ : ∃ s : Nat, s = y / 2 ^ d := ⟨_, rfl⟩
      have hsy : s ≤ y := by rw [hs]; exact Nat.div_le_self _ _
      have f7 : (y : Int) / 2 ^ d = (s : Int) := by rw [hs, Int.natCast_ediv, Int.natCast_pow]; rfl
      have f8 : IntKind.i64.wrap (s : Int) = (s : Int) := wrap_nat (by omega)
      have hub : ubv bs k = (s : Int) % 2 := by unfold ubv; rw [← hq, ← hy, ← hr, ← hd, f7]
      have hz : ubv bs k = 0 ∨ ubv bs k = 1 := ubv_bit bs k
      obtain ⟨z, hzd⟩ : ∃ z, z = ubv bs k := ⟨_, rfl⟩
      have HZ : Hid (z = ubv bs k) := hzd
      rw [← hzd] at hub hz
      have f9 : (s : Int) % 2 = z := hub.symm
      have f10 : (s : Int).tmod 2 = z := by rw [Int.tmod_eq_emod_of_nonneg (by omega)]; exact f9
      have HO0 := hrel.out.1
      have HB := hrel.out.2.1
      have HJ : Hid (∀ j, n ≤ j → j < k → ubv bs j = 0) := hrel.out.2.2
      clear hq hr hd hs hy hub hzd hcell hrel hMm
      by_cases h5 : k < n
      · have HO : wr.ownsRow w.heap.size 3 1 u6 k (ils (ubv bs) k) := by rw [Nat.min_eq_left (by omega)] at HO0; exact HO0
        have HJ2 : Hid (∀ j, n ≤ j → j < k + 1 → ubv bs j = 0) := fun j hj hj2 => absurd hj (by omega)
        clear HO0 hz
        have hb3 := below_one wr (.cells #[.int .i64 z] 3)
        have HO3 := own_below HO hb3
        have HB3 := bstep HB hb3
        clear hb3
        go_wp2_with (first | (at_builtin; refine wpList_append_own _ rfl _ _ 40 rfl w.heap.size 3 i0 (.int .i64 0) 1 8 Try.underlying40 hi hz0 hz1 hz2 rfl (by decide) _ _ _ rfl HO3 ⟨wr.heap.size, 0, none⟩ 1 1 [.int .i64 z] rfl rfl (one_new _ _ _) (by simp [Value.oneCell']) (by unfold maxLen; omega) (by omega) HB3.size ?_))
        intro v' w4 hown' hgrow _
        have HB4 : Hid (Below w.heap.size w w4) := grown_below HB3 (Nat.le_refl _) HO3 hgrow
        rw [show Value.int .i64 z = .int .i64 (ubv bs k) from congrArg _ HZ.out, ← ils_snoc (ubv bs) k] at hown'
        have HO4 : Hid (w4.ownsRow w.heap.size 3 1 v' (k + 1) (ils (ubv bs) (k + 1))) := hown'
        clear hown' hgrow HB3 HO3
        go_wp2
        go_roundw
        case rel => exact ⟨k + 1, by go_num, by omega, by rw [Nat.min_eq_left (by omega)]; exact HO4.out, HB4.out, HJ2.out⟩
        case measure => simp [intOf]; omega
      · have HP : Hid (wr.ownsRow w.heap.size 3 1 u6 (min (k + 1) n) (ils (ubv bs) (min (k + 1) n)) ∧ Below w.heap.size w wr) := by
          rw [Nat.min_eq_right (by omega)] at HO0 ⊢
          exact ⟨HO0, HB⟩
        rcases hz with rfl | rfl
        · have HJ2 : Hid (∀ j, n ≤ j → j < k + 1 → ubv bs j = 0) := fun j hj hj2 => by
            by_cases h8 : j = k
            · subst h8; exact HZ.out.symm
            · exact HJ.out j hj (by omega)
          clear HO0 HB
          go_wp2
          go_roundw
          case rel => exact ⟨k + 1, by go_num, by omega, HP.out.1, HP.out.2, HJ2.out⟩
          case measure => simp [intOf]; omega
        · exact absurd (HT.out k (by omega) (by have := HM.out; omega)) (by rw [← HZ.out]; omega)
    · obtain rfl : M = k := by omega
      have HF : Hid (wr.ownsRow w.heap.size 3 1 u6 n (ils (ubv bs) n) ∧ Below w.heap.size w wr) := by
        have h9 := hrel.out.1
        rw [Nat.min_eq_right hnM] at h9
        exact ⟨h9, hrel.out.2.1⟩
      clear hrel
      go_wp2
      go_ret2
      exact ⟨_, rfl, HF.out⟩

set_option maxHeartbeats 8000000 in
theorem sUnp_tail {w : World} {v : Value} {m n : Nat} {bs : Nat → Int} (hv : Bl w v m bs) (hby : Byt m bs) (h : GUn m (n : Int)) (hx : ∃ i, n ≤ i ∧ i < 8 * m ∧ ubv bs i = 1) (ys : Nat → Int) :
    Calls Try.prog 16 #[v, .int .i64 (n : Int)] w fun e w' => Pst w w' e 0 ys false := by
  obtain ⟨i0, hi, hz0, hz1, hz2⟩ := info_parts Try.info3
  obtain ⟨h1, h2, h3⟩ := h
  have hnm : n ≤ 8 * m := by omega
  have hmb : m ≤ 128 := by omega
  have i1 := in_any (n : Int) 0 1024
  rw [decide_eq_true (by omega)] at i1
  have e0 : ((n : Int) + 7) / 8 = (m : Int) := h3.symm
  have e00 : ((n : Int) + 7).tdiv 8 = (m : Int) := by rw [Int.tdiv_eq_ediv_of_nonneg (by omega)]; exact e0
  have HBY : Hid (Byt m bs) := hby
  have HX : Hid (∃ i, n ≤ i ∧ i < 8 * m ∧ ubv bs i = 1) := hx
  obtain ⟨M, hM⟩ : ∃ M : Nat, M = 8 * m := ⟨_, rfl⟩
  have eM : 8 * (m : Int) = (M : Int) := by omega
  have HM : Hid (M = 8 * m) := hM
  have hMb : M ≤ 1024 := by omega
  have hnM : n ≤ M := by omega
  have OW : Hid ((w.alloc (.cells #[] 3)).ownsRow w.heap.size 3 1 (.slice (some ⟨w.heap.size, 0, none⟩) 0 0) (min 0 n) (ils (ubv bs) (min 0 n))) := by rw [Nat.zero_min]; exact own_empty w 3 1
  have BL : Hid (Below w.heap.size w (w.alloc (.cells #[] 3))) := below_one _ _
  obtain ⟨ao, cap, rfl, hcap, hc⟩ := hv
  have HC : Hid (0 < m → ∃ b off, ao = some ⟨b, off, none⟩ ∧ b < w.heap.size ∧ ∀ k, k < m → w.cell? ⟨b, off + k, none⟩ = some (.int .u8 (bs k))) := hc
  clear hc hby h3 hM hx
  go_enter Try.func16, Try.ntmps16
  go_wp2_with (first | (go_at_call 14; (with_reducible refine (i1 _).mono ?_); rintro e w' ⟨rfl, hw⟩; obtain rfl := hw.symm))
  clear i1
  generalize w.alloc (.cells #[] 3) = W at *
  go_loopw [6, 7, 8] (fun o i _ wr => ∃ k : Nat, i = .int .i64 (k : Int) ∧ k ≤ M ∧ Hid (wr.ownsRow w.heap.size 3 1 o (min k n) (ils (ubv bs) (min k n)) ∧ Below w.heap.size w wr ∧ ∀ j, n ≤ j → j < k → ubv bs j = 0)) (fun _ i _ _ => M - (intOf i).toNat)
  case atStart => exact ⟨0, rfl, by omega, OW.out, BL.out, fun j _ hj => absurd hj (by omega)⟩
  case round =>
    obtain ⟨k, rfl, hk, hrel⟩ := hrel
    by_cases h4 : k < M
    · have hMm := HM.out
      obtain ⟨b, off, rfl, hlt, hcell⟩ := HC.out (by omega)
      obtain ⟨q, hq⟩ : ∃ q : Nat, q = k / 8 := ⟨_, rfl⟩
      obtain ⟨r, hr⟩ : ∃ r : Nat, r = k % 8 := ⟨_, rfl⟩
      obtain ⟨d, hd⟩ : ∃ d : Nat, d = 7 - r := ⟨_, rfl⟩
      have hqm : q < m := by omega
      have hby := HBY.out q hqm
      obtain ⟨y, hy⟩ : ∃ y : Nat, (y : Int) = bs q := ⟨(bs q).toNat, by omega⟩
      have c := (hrel.out.2.1.cell (p := ⟨b, off + q, none⟩) hlt).trans (hcell q hqm)
      rw [← hy] at c hby
      have f1 : (k : Int) / 8 = (q : Int) := by omega
      have f2 : (k : Int).tdiv 8 = (q : Int) := by rw [Int.tdiv_eq_ediv_of_nonneg (by omega)]; exact f1
      have f3 : (k : Int) % 8 = (r : Int) := by omega
      have f4 : (k : Int).tmod 8 = (r : Int) := by rw [Int.tmod_eq_emod_of_nonneg (by omega)]; exact f3
      have f5 : 7 - (r : Int) = (d : Int) := by omega
      have f6 : IntKind.u64.wrap (d : Int) = (d : Int) := by rw [IntKind.wrap_u64]; omega
      have hd7 : d ≤ 7 := by omega
      obtain ⟨s, hs⟩ : ∃ s : Nat, s = y / 2 ^ d := ⟨_, rfl⟩
      have hsy : s ≤ y := by rw [hs]; exact Nat.div_le_self _ _
      have f7 : (y : Int) / 2 ^ d = (s : Int) := by rw [hs, Int.natCast_ediv, Int.natCast_pow]; rfl
      have f8 : IntKind.i64.wrap (s : Int) = (s : Int) := wrap_nat (by omega)
      have hub : ubv bs k = (s : Int) % 2 := by unfold ubv; rw [← hq, ← hy, ← hr, ← hd, f7]
      have hz : ubv bs k = 0 ∨ ubv bs k = 1 := ubv_bit bs k
      obtain ⟨z, hzd⟩ : ∃ z, z = ubv bs k := ⟨_, rfl⟩
      have HZ : Hid (z = ubv bs k) := hzd
      rw [← hzd] at hub hz
      have f9 : (s : Int) % 2 = z := hub.symm
      have f10 : (s : Int).tmod 2 = z := by rw [Int.tmod_eq_emod_of_nonneg (by omega)]; exact f9
      have HO0 := hrel.out.1
      have HB := hrel.out.2.1
      have HJ : Hid (∀ j, n ≤ j → j < k → ubv bs j = 0) := hrel.out.2.2
      clear hq hr hd hs hy hub hzd hcell hrel hMm
      by_cases h5 : k < n
      · have HO : wr.ownsRow w.heap.size 3 1 u6 k (ils (ubv bs) k) := by rw [Nat.min_eq_left (by omega)] at HO0; exact HO0
        have HJ2 : Hid (∀ j, n ≤ j → j < k + 1 → ubv bs j = 0) := fun j hj hj2 => absurd hj (by omega)
        clear HO0 hz
        have hb3 := below_one wr (.cells #[.int .i64 z] 3)
        have HO3 := own_below HO hb3
        have HB3 := bstep HB hb3
        clear hb3
        go_wp2_with (first | (at_builtin; refine wpList_append_own _ rfl _ _ 40 rfl w.heap.size 3 i0 (.int .i64 0) 1 8 Try.underlying40 hi hz0 hz1 hz2 rfl (by decide) _ _ _ rfl HO3 ⟨wr.heap.size, 0, none⟩ 1 1 [.int .i64 z] rfl rfl (one_new _ _ _) (by simp [Value.oneCell']) (by unfold maxLen; omega) (by omega) HB3.size ?_))
        intro v' w4 hown' hgrow _
        have HB4 : Hid (Below w.heap.size w w4) := grown_below HB3 (Nat.le_refl _) HO3 hgrow
        rw [show Value.int .i64 z = .int .i64 (ubv bs k) from congrArg _ HZ.out, ← ils_snoc (ubv bs) k] at hown'
        have HO4 : Hid (w4.ownsRow w.heap.size 3 1 v' (k + 1) (ils (ubv bs) (k + 1))) := hown'
        clear hown' hgrow HB3 HO3
        go_wp2
        go_roundw
        case rel => exact ⟨k + 1, by go_num, by omega, by rw [Nat.min_eq_left (by omega)]; exact HO4.out, HB4.out, HJ2.out⟩
        case measure => simp [intOf]; omega
      · have HP : Hid (wr.ownsRow w.heap.size 3 1 u6 (min (k + 1) n) (ils (ubv bs) (min (k + 1) n)) ∧ Below w.heap.size w wr) := by
          rw [Nat.min_eq_right (by omega)] at HO0 ⊢
          exact ⟨HO0, HB⟩
        rcases hz with rfl | rfl
        · have HJ2 : Hid (∀ j, n ≤ j → j < k + 1 → ubv bs j = 0) := fun j hj hj2 => by
            by_cases h8 : j = k
            · subst h8; exact HZ.out.symm
            · exact HJ.out j hj (by omega)
          clear HO0 HB
          go_wp2
          go_roundw
          case rel => exact ⟨k + 1, by go_num, by omega, HP.out.1, HP.out.2, HJ2.out⟩
          case measure => simp [intOf]; omega
        · have HE : Hid ((wr.alloc (.cells #[] 3)).ownsRow w.heap.size 3 1 (.slice (some ⟨wr.heap.size, 0, none⟩) 0 0) 0 (ils ys 0) ∧ Below w.heap.size w (wr.alloc (.cells #[] 3))) := ⟨own_base (own_empty wr 3 1) HB.size, bstep HB (below_one _ _)⟩
          clear HO0 HB
          go_wp2
          go_ret2
          exact ⟨_, rfl, HE.out⟩
    · obtain rfl : M = k := by omega
      exact absurd HX.out (fun ⟨i, hi1, hi2, hi3⟩ => by
        have h9 := hrel.out.2.2 i hi1 (by have := HM.out; omega)
        rw [hi3] at h9
        omega)

set_option maxHeartbeats 2000000 in
theorem sUnp_bad {w : World} {v : Value} {m : Nat} {bs : Nat → Int} {n : Int} (hv : Bl w v m bs) (_ : m ≤ 1048576) (h : ¬ GUn m n) (ys : Nat → Int) :
    Calls Try.prog 16 #[v, .int .i64 n] w fun e w' => Pst w w' e 0 ys false := by
  have i1 := in_any n 0 1024
  obtain ⟨ao, cap, rfl, hcap, hc⟩ := hv
  clear hc
  by_cases c1 : 0 ≤ n ∧ n ≤ 1024
  · rw [decide_eq_true c1] at i1
    obtain ⟨q, hq⟩ : ∃ q : Nat, (q : Int) = (n + 7) / 8 := ⟨((n + 7) / 8).toNat, by omega⟩
    have e0 : (n + 7) / 8 = (q : Int) := hq.symm
    have e00 : (n + 7).tdiv 8 = (q : Int) := by rw [Int.tdiv_eq_ediv_of_nonneg (by omega)]; exact e0
    have e1 : ((m : Int) != (q : Int)) = true := by
      have h9 : ¬ ((m : Int) = (q : Int)) := fun e => h ⟨c1.1, c1.2, by omega⟩
      simp only [bne_iff_ne, ne_eq]
      exact h9
    have e2 : ¬ ((m : Int) = (q : Int)) := by simpa using e1
    have e3 : ¬ (m = q) := by omega
    clear h hq
    go_enter Try.func16, Try.ntmps16
    go_wp2_with (first | (go_at_call 14; (with_reducible refine (i1 _).mono ?_); rintro e w' ⟨rfl, hw⟩; obtain rfl := hw.symm))
    go_ret2
    exact ⟨_, rfl, own_empty w 3 1, below_one _ _⟩
  · rw [decide_eq_false c1] at i1
    clear h c1
    go_enter Try.func16, Try.ntmps16
    go_wp2_with (first | (go_at_call 14; (with_reducible refine (i1 _).mono ?_); rintro e w' ⟨rfl, hw⟩; obtain rfl := hw.symm))
    go_ret2
    exact ⟨_, rfl, own_empty w 3 1, below_one _ _⟩

set_option maxHeartbeats 2000000 in
theorem iUnp_bad {w : World} {v : Value} {m : Nat} {bs : Nat → Int} {n : Int} (hv : Bl w v m bs) (_ : m ≤ 1048576) (h : ¬ GUn m n) (ys : Nat → Int) :
    Calls Try.prog 40 #[v, .int .i64 n] w fun e w' => Pst w w' e 0 ys false := by
  obtain ⟨ao, cap, rfl, hcap, hc⟩ := hv
  clear hc
  by_cases c1 : n < 0
  · clear h
    go_enter Try.func40, Try.ntmps40
    go_wp2
    go_ret2
    exact ⟨_, rfl, own_empty w 3 1, below_one _ _⟩
  · by_cases c2 : 1024 < n
    · clear h
      go_enter Try.func40, Try.ntmps40
      go_wp2
      go_ret2
      exact ⟨_, rfl, own_empty w 3 1, below_one _ _⟩
    · obtain ⟨n, rfl⟩ : ∃ k : Nat, n = (k : Int) := ⟨n.toNat, by omega⟩
      obtain ⟨q, hq⟩ : ∃ q : Nat, q = (n + 7) / 8 := ⟨_, rfl⟩
      have i1 : ∀ W, Calls Try.prog 48 #[.int .i64 (n : Int), .int .i64 8] W fun e w' => e = .returned (.int .i64 (q : Int)) ∧ w' = W := pieces_any (n := n) (r := 8) (q := q) (by omega) (by omega) (by omega) (by rw [hq]; omega)
      have h9 : ¬ ((m : Int) = (q : Int)) := fun e => h ⟨by omega, by omega, by omega⟩
      have e1 : ((m : Int) != (q : Int)) = true := by
        simp only [bne_iff_ne, ne_eq]
        exact h9
      have e3 : ¬ (m = q) := by omega
      clear h hq
      go_enter Try.func40, Try.ntmps40
      go_wp2_with (first | (go_at_call 48; (with_reducible refine (i1 _).mono ?_); rintro e w' ⟨rfl, hw⟩; obtain rfl := hw.symm))
      go_ret2
      exact ⟨_, rfl, own_empty w 3 1, below_one _ _⟩
end Go.Proofs.Ytpjpkkgcnnmljaa
