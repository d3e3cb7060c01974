/- Places kept; Thin: both sides. -/
import Derived.Test.YtgkcofjhajjjgaaKA
import Derived.Test.YtgkcofjhajjjgaaAW
namespace Go.Proofs.Ytgkcofjhajjjgaa
open Go.RowKit

theorem apart_base {w : World} {B s n g : Nat} {e : TypeId} {t o : Value} {xs : List Value} (h : w.ownsRow B e s t n xs) (ho : o.ownBlock = some g) (hg : g < B) : Apart t o :=
  .inr (fun e => by have := World.ownsRow.lt h g (e.trans ho); omega)

set_option maxHeartbeats 4000000 in
theorem places_any {w : World} {v : Value} {q n : Nat} {ks : Nat → Int} (hv : Il w v q ks) (hq : Kp q ks) (hn : n ≤ 1024) : Calls Try.prog 51 #[v, .int .i64 n] w fun e w' => ∃ u, e = .returned u ∧ w'.ownsRow w.heap.size 3 1 u (kc q ks n) (ils (fun j => (pf q ks n j : Int)) (kc q ks n)) ∧ Below w.heap.size w w' := by
  obtain ⟨i0, hi, hz0, hz1, hz2⟩ := info_parts Try.info3
  have hq0 := hq.pos
  have hq1 := hq.1
  clear hq
  have OW : Hid ((w.alloc (.cells #[] 3)).ownsRow w.heap.size 3 1 (.slice (some ⟨w.heap.size, 0, none⟩) 0 0) 0 (ils (fun j => (pf q ks 0 j : Int)) (kc q ks 0))) := own_empty w 3 1
  have BL : Hid (Below w.heap.size w (w.alloc (.cells #[] 3))) := below_one _ _
  obtain ⟨bo, cap, rfl, hcap, hc⟩ := hv
  have HC : Hid (0 < q → ∃ b off, bo = some ⟨b, off, none⟩ ∧ b < w.heap.size ∧ ∀ k, k < q → w.cell? ⟨b, off + k, none⟩ = some (.int .i64 (ks k))) := hc
  clear hc
  go_enter Try.func51, Try.ntmps51
  go_wp2
  generalize w.alloc (.cells #[] 3) = W at *
  go_loopw [5, 6, 9] (fun o _ i wr => ∃ (k : Nat), i = .int .i64 k ∧ k ≤ n ∧ Hid (wr.ownsRow w.heap.size 3 1 o (kc q ks k) (ils (fun j => (pf q ks k j : Int)) (kc q ks k)) ∧ Below w.heap.size w wr)) (fun _ _ i _ => n - (intOf i).toNat)
  case atStart => exact ⟨0, rfl, by omega, OW.out, BL.out⟩
  case round =>
    obtain ⟨k, rfl, hk, hrel⟩ := hrel
    by_cases h1 : k < n
    · obtain ⟨b, off, rfl, hlt, hcell⟩ := HC.out (by omega)
      obtain ⟨r, hr⟩ : ∃ r : Nat, r = k % q := ⟨_, rfl⟩
      have hrq : r < q := by rw [hr]; exact Nat.mod_lt _ (by omega)
      have m1 : (k : Int).tmod (q : Int) = (r : Int) := by rw [Int.tmod_eq_emod_of_nonneg (by omega), hr]; exact_mod_cast rfl
      have m2 : (k : Int) % (q : Int) = (r : Int) := by rw [hr]; exact_mod_cast rfl
      have HR : Hid (r = k % q) := hr
      clear hr
      have c := (hrel.out.2.cell (p := ⟨b, off + r, none⟩) hlt).trans (hcell r hrq)
      have HO := hrel.out.1
      have HB := hrel.out.2
      have hkc := kc_le q ks k
      by_cases h2 : Kt q ks k
      · have h3 : ks r = 1 := by rw [HR.out]; exact h2
        rw [h3] at c
        have H2 : Hid (Kt q ks k) := h2
        clear h2 h3 hcell hrel
        obtain ⟨K, hK⟩ : ∃ K : Nat, K = kc q ks k := ⟨_, rfl⟩
        obtain ⟨L, hL⟩ : ∃ L, L = ils (fun j => (pf q ks k j : Int)) (kc q ks k) := ⟨_, rfl⟩
        rw [← hL, ← hK] at HO
        rw [← hK] at hkc
        have HK : Hid (K = kc q ks k) := hK
        have HL : Hid (L = ils (fun j => (pf q ks k j : Int)) (kc q ks k)) := hL
        clear hK hL
        have hb3 := below_one wr (.cells #[.int .i64 (k : Int)] 3)
        have HO3 := own_below HO hb3
        have HB3 := bstep HB hb3
        clear hb3
        go_wp2_with (first | (at_builtin; refine wpList_append_own _ rfl _ _ 24 rfl w.heap.size 3 i0 (.int .i64 0) 1 8 Try.underlying24 hi hz0 hz1 hz2 rfl (by decide) _ _ _ rfl HO3 ⟨wr.heap.size, 0, none⟩ 1 1 [.int .i64 (k : Int)] rfl rfl (one_new _ _ _) (by simp [Value.oneCell']) (by unfold maxLen; omega) (by omega) HB3.size ?_))
        intro v' w4 hown' hgrow _
        have HB4 : Hid (Below w.heap.size w w4) := grown_below HB3 (Nat.le_refl _) HO3 hgrow
        have HO4 : Hid (w4.ownsRow w.heap.size 3 1 v' (K + 1) (L ++ [.int .i64 (k : Int)])) := hown'
        clear hown' hgrow HB3 HO3
        go_wp2
        go_roundw
        case rel => exact ⟨k + 1, by go_num, by omega, by rw [← ils_pf H2.out, kc_yes H2.out, ← HL.out, ← HK.out]; exact HO4.out, HB4.out⟩
        case measure => simp [intOf]; omega
      · have h3 : (ks r == 1) = false := by rw [HR.out]; simp only [beq_eq_false_iff_ne]; exact h2
        have H2 : Hid (¬ Kt q ks k) := h2
        have HO5 : Hid _ := HO
        have HB5 : Hid _ := HB
        generalize ks r = x at *
        clear h2 hcell hrel HO HB
        go_wp2
        go_roundw
        case rel => exact ⟨k + 1, by go_num, by omega, by rw [← ils_pf_no H2.out, kc_no H2.out]; exact HO5.out, HB5.out⟩
        case measure => simp [intOf]; omega
    · obtain rfl : n = k := by omega
      go_wp2
      go_ret
      exact ⟨_, rfl, hrel.out.1, hrel.out.2⟩

set_option maxHeartbeats 4000000 in
theorem iThin_good {w : World} {v u : Value} {n q : Nat} {xs ks : Nat → Int} (hv : Il w v n xs) (hu : Il w u q ks) (hn : n ≤ 1024) (hq : Kp q ks) : Calls Try.prog 20 #[v, u] w fun e w' => Pst w w' e (kc q ks n) (tf q ks xs n) true := by
  obtain ⟨i0, hi, hz0, hz1, hz2⟩ := info_parts Try.info3
  have i1 := iKeep_any (hu.below (below_one w (.cells #[] 3))) (by have := hq.1; omega)
  rw [decide_eq_true hq] at i1
  have i2 := places_any (hu.below (below_one w (.cells #[] 3))) hq hn
  have hq0 := hq.pos
  have hq1 := hq.1
  have hN := kc_le q ks n
  clear hq
  have OW : Hid ((w.alloc (.cells #[] 3)).ownsRow w.heap.size 3 1 (.slice (some ⟨w.heap.size, 0, none⟩) 0 0) 0 (ils (tf q ks xs n) 0)) := own_empty w 3 1
  have BL : Hid (Below w.heap.size w (w.alloc (.cells #[] 3))) := below_one _ _
  obtain ⟨ao, cap, rfl, hcap, hc⟩ := hv
  obtain ⟨bo, cap2, rfl, hcap2, hc2⟩ := hu
  have HC : Hid (0 < n → ∃ b off, ao = some ⟨b, off, none⟩ ∧ b < w.heap.size ∧ ∀ k, k < n → w.cell? ⟨b, off + k, none⟩ = some (.int .i64 (xs k))) := hc
  have HC2 : Hid (0 < q → ∃ b off, bo = some ⟨b, off, none⟩ ∧ b < w.heap.size ∧ ∀ k, k < q → w.cell? ⟨b, off + k, none⟩ = some (.int .i64 (ks k))) := hc2
  clear hc hc2
  obtain ⟨N, hNe⟩ : ∃ N : Nat, N = kc q ks n := ⟨_, rfl⟩
  have HN : Hid (N = kc q ks n) := hNe
  rw [← hNe] at hN i2
  rw [← hNe]
  clear hNe
  go_enter Try.func20, Try.ntmps20
  go_wp2_with (first | (go_at_call 50; (with_reducible refine (i1).mono ?_); rintro e w' ⟨rfl, hw⟩; obtain rfl := hw.symm) | (go_at_call 51; (with_reducible refine i2.mono ?_); rintro e w3 ⟨pl, rfl, hop, hb3⟩; have OP : Hid (w3.ownsRow (w.alloc (.cells #[] 3)).heap.size 3 1 pl N (ils (fun j => (pf q ks n j : Int)) N)) := hop; have OW3 : Hid (w3.ownsRow w.heap.size 3 1 (.slice (some ⟨w.heap.size, 0, none⟩) 0 0) 0 (ils (tf q ks xs n) 0)) := own_below OW.out hb3; have BL3 : Hid (Below w.heap.size w w3) := bstep BL.out hb3; have AP3 : Hid (Apart pl (.slice (some ⟨w.heap.size, 0, none⟩) 0 0)) := apart_base (g := w.heap.size) hop rfl (by rw [show (w.alloc (.cells #[] 3)).heap.size = w.heap.size + 1 from Array.size_push _]; omega); obtain ⟨po, cap3, rfl, hcap3, hc3⟩ := il_of_own hop; clear hop hb3 hc3))
  clear i1 i2 OW BL
  go_loopw [6, 8, 24] (fun o _ i wr => ∃ (k : Nat), i = .int .i64 k ∧ k ≤ N ∧ Hid (wr.ownsRow w.heap.size 3 1 o k (ils (tf q ks xs n) k) ∧ Below w.heap.size w wr ∧ wr.ownsRow (w.alloc (.cells #[] 3)).heap.size 3 1 (.slice po N cap3) N (ils (fun j => (pf q ks n j : Int)) N) ∧ Apart (.slice po N cap3) o)) (fun _ _ i _ => N - (intOf i).toNat)
  case atStart => exact ⟨0, rfl, by omega, OW3.out, BL3.out, OP.out, AP3.out⟩
  case round =>
    obtain ⟨k, rfl, hk, hrel⟩ := hrel
    by_cases h1 : k < N
    · obtain ⟨po2, cap4, he, _, hc4⟩ := il_of_own hrel.out.2.2.1
      injection he with e1 e2 e3
      obtain ⟨b3, off3, e4, hlt3, hcell3⟩ := hc4 (by omega)
      rw [e4] at e1
      subst e1
      clear e2 e3 e4 hc4
      have c3 := hcell3 k h1
      obtain ⟨p, hp⟩ : ∃ p : Nat, p = pf q ks n k := ⟨_, rfl⟩
      have hpn : p < n := by rw [hp]; exact (pf_told (by rw [← HN.out]; exact h1)).1
      rw [show (fun j => (pf q ks n j : Int)) k = (p : Int) by rw [hp]] at c3
      obtain ⟨b, off, rfl, hlt, hcell⟩ := HC.out (by omega)
      have c := (hrel.out.2.1.cell (p := ⟨b, off + p, none⟩) hlt).trans (hcell p hpn)
      have HO := hrel.out.1
      have HB := hrel.out.2.1
      have HP := hrel.out.2.2.1
      have HA : Hid _ := hrel.out.2.2.2
      obtain ⟨z, hz⟩ : ∃ z, z = xs p := ⟨_, rfl⟩
      rw [← hz] at c
      have HZ : Hid (z = tf q ks xs n k) := by rw [hz, hp]; exact (tf_pf (by rw [← HN.out]; exact h1)).symm
      clear hz hp hcell hcell3 hrel
      have hb3 := below_one wr (.cells #[.int .i64 z] 3)
      have HO3 := own_below HO hb3
      have HB3 := bstep HB hb3
      have HP3 := own_below HP hb3
      clear hb3 HP
      go_wp2_with (first | (at_builtin; refine wpList_app _ rfl _ _ 24 rfl w.heap.size 3 i0 (.int .i64 0) 1 8 Try.underlying24 hi hz0 hz1 hz2 rfl (by decide) _ _ _ rfl HO3 ⟨wr.heap.size, 0, none⟩ 1 1 [.int .i64 z] rfl rfl (one_new _ _ _) (by simp [Value.oneCell']) (by unfold maxLen; omega) (by omega) HB3.size (by omega) ?_))
      intro v' w4 hown' hgrow hwh
      have HP4 : Hid (w4.ownsRow (w.alloc (.cells #[] 3)).heap.size 3 1 (.slice (some ⟨b3, off3, none⟩) N cap3) N (ils (fun j => (pf q ks n j : Int)) N)) := own_grown HP3 hgrow HA.out
      have HA4 : Hid (Apart (.slice (some ⟨b3, off3, none⟩) N cap3) v') := apart_app HP3 HA.out (hwh.imp id (fun h => h.1.trans (congrArg some (Array.size_push _).symm)))
      have HB4 : Hid (Below w.heap.size w w4) := grown_below HB3 (Nat.le_refl _) HO3 hgrow
      rw [show Value.int .i64 z = .int .i64 (tf q ks xs n k) from congrArg _ HZ.out, ← ils_snoc (tf q ks xs n) k] at hown'
      have HO4 : Hid (w4.ownsRow w.heap.size 3 1 v' (k + 1) (ils (tf q ks xs n) (k + 1))) := hown'
      clear hown' hgrow hwh HB3 HO3 HP3 HA
      go_wp2
      go_roundw
      case rel => exact ⟨k + 1, by go_num, by omega, HO4.out, HB4.out, HP4.out, HA4.out⟩
      case measure => simp [intOf]; omega
    · obtain rfl : N = k := by omega
      go_wp2
      go_ret2
      exact ⟨_, rfl, hrel.out.1, hrel.out.2.1⟩

set_option maxHeartbeats 2000000 in
theorem iThin_bad {w : World} {v u : Value} {n q : Nat} {xs ks : Nat → Int} (hv : Il w v n xs) (hu : Il w u q ks) (hq9 : q ≤ 1048576) (h : ¬ (n ≤ 1024 ∧ Kp q ks)) (ys : Nat → Int) :
    Calls Try.prog 20 #[v, u] w fun e w' => Pst w w' e 0 ys false := by
  have i2 := iKeep_any (hu.below (below_one w (.cells #[] 3))) hq9
  obtain ⟨ao, cap, rfl, hcap, hc⟩ := hv
  obtain ⟨bo, cap2, rfl, hcap2, hc2⟩ := hu
  clear hc hc2
  by_cases c1 : n ≤ 1024
  · skip
    rw [decide_eq_false (fun c2 => h ⟨c1, c2⟩)] at i2
    clear h
    go_enter Try.func20, Try.ntmps20
    go_wp2_with (first | (go_at_call 50; (with_reducible refine (i2).mono ?_); rintro e w' ⟨rfl, hw⟩; obtain rfl := hw.symm))
    go_ret2
    exact ⟨_, rfl, own_empty w 3 1, below_one _ _⟩
  · skip
    clear h
    clear i2
    go_enter Try.func20, Try.ntmps20
    go_wp2
    go_ret2
    exact ⟨_, rfl, own_empty w 3 1, below_one _ _⟩
set_option maxHeartbeats 2000000 in
theorem sThin_bad {w : World} {v u : Value} {n q : Nat} {xs ks : Nat → Int} (hv : Il w v n xs) (hu : Il w u q ks) (hq9 : q ≤ 1048576) (h : ¬ (n ≤ 1024 ∧ Kp q ks)) (ys : Nat → Int) :
    Calls Try.prog 21 #[v, u] w fun e w' => Pst w w' e 0 ys false := by
  have i2 := sKeep_any (hu.below (below_one w (.cells #[] 3))) hq9
  obtain ⟨ao, cap, rfl, hcap, hc⟩ := hv
  obtain ⟨bo, cap2, rfl, hcap2, hc2⟩ := hu
  clear hc hc2
  by_cases c1 : n ≤ 1024
  · skip
    rw [decide_eq_false (fun c2 => h ⟨c1, c2⟩)] at i2
    clear h
    go_enter Try.func21, Try.ntmps21
    go_wp2_with (first | (go_at_call 52; (with_reducible refine (i2).mono ?_); rintro e w' ⟨rfl, hw⟩; obtain rfl := hw.symm))
    go_ret2
    exact ⟨_, rfl, own_empty w 3 1, below_one _ _⟩
  · skip
    clear h
    clear i2
    go_enter Try.func21, Try.ntmps21
    go_wp2
    go_ret2
    exact ⟨_, rfl, own_empty w 3 1, below_one _ _⟩
set_option maxHeartbeats 4000000 in
theorem sThin_good {w : World} {v u : Value} {n q : Nat} {xs ks : Nat → Int} (hv : Il w v n xs) (hu : Il w u q ks) (hn : n ≤ 1024) (hq : Kp q ks) : Calls Try.prog 21 #[v, u] w fun e w' => Pst w w' e (kc q ks n) (tf q ks xs n) true := by
  obtain ⟨i0, hi, hz0, hz1, hz2⟩ := info_parts Try.info3
  have i1 := sKeep_any (hu.below (below_one w (.cells #[] 3))) (by have := hq.1; omega)
  rw [decide_eq_true hq] at i1
  have hq0 := hq.pos
  have hq1 := hq.1
  clear hq
  have OW : Hid ((w.alloc (.cells #[] 3)).ownsRow w.heap.size 3 1 (.slice (some ⟨w.heap.size, 0, none⟩) 0 0) 0 (ils (tf q ks xs 0) (kc q ks 0))) := own_empty w 3 1
  have BL : Hid (Below w.heap.size w (w.alloc (.cells #[] 3))) := below_one _ _
  obtain ⟨ao, cap, rfl, hcap, hc⟩ := hv
  obtain ⟨bo, cap2, rfl, hcap2, hc2⟩ := hu
  have HC : Hid (0 < n → ∃ b off, ao = some ⟨b, off, none⟩ ∧ b < w.heap.size ∧ ∀ k, k < n → w.cell? ⟨b, off + k, none⟩ = some (.int .i64 (xs k))) := hc
  have HC2 : Hid (0 < q → ∃ b off, bo = some ⟨b, off, none⟩ ∧ b < w.heap.size ∧ ∀ k, k < q → w.cell? ⟨b, off + k, none⟩ = some (.int .i64 (ks k))) := hc2
  clear hc hc2
  go_enter Try.func21, Try.ntmps21
  go_wp2_with (first | (go_at_call 52; (with_reducible refine (i1).mono ?_); rintro e w' ⟨rfl, hw⟩; obtain rfl := hw.symm))
  clear i1
  generalize w.alloc (.cells #[] 3) = W at *
  go_loopw [6, 7] (fun o i wr => ∃ (k : Nat), i = .int .i64 k ∧ k ≤ n ∧ Hid (wr.ownsRow w.heap.size 3 1 o (kc q ks k) (ils (tf q ks xs k) (kc q ks k)) ∧ Below w.heap.size w wr)) (fun _ i _ => n - (intOf i).toNat)
  case atStart => exact ⟨0, rfl, by omega, OW.out, BL.out⟩
  case round =>
    obtain ⟨k, rfl, hk, hrel⟩ := hrel
    by_cases h1 : k < n
    · obtain ⟨b, off, rfl, hlt, hcell⟩ := HC.out (by omega)
      obtain ⟨b2, off2, rfl, hlt2, hcell2⟩ := HC2.out (by omega)
      obtain ⟨r, hr⟩ : ∃ r : Nat, r = k % q := ⟨_, rfl⟩
      have hrq : r < q := by rw [hr]; exact Nat.mod_lt _ (by omega)
      have m1 : (k : Int).tmod (q : Int) = (r : Int) := by rw [Int.tmod_eq_emod_of_nonneg (by omega), hr]; exact_mod_cast rfl
      have m2 : (k : Int) % (q : Int) = (r : Int) := by rw [hr]; exact_mod_cast rfl
      have HR : Hid (r = k % q) := hr
      clear hr
      have c := (hrel.out.2.cell (p := ⟨b, off + k, none⟩) hlt).trans (hcell k h1)
      have c2 := (hrel.out.2.cell (p := ⟨b2, off2 + r, none⟩) hlt2).trans (hcell2 r hrq)
      have HO := hrel.out.1
      have HB := hrel.out.2
      have hkc := kc_le q ks k
      by_cases h2 : Kt q ks k
      · have h3 : ks r = 1 := by rw [HR.out]; exact h2
        rw [h3] at c2
        have H2 : Hid (Kt q ks k) := h2
        clear h2 h3 hcell hcell2 hrel
        obtain ⟨K, hK⟩ : ∃ K : Nat, K = kc q ks k := ⟨_, rfl⟩
        obtain ⟨L, hL⟩ : ∃ L, L = ils (tf q ks xs k) (kc q ks k) := ⟨_, rfl⟩
        obtain ⟨z, hz⟩ : ∃ z, z = xs k := ⟨_, rfl⟩
        rw [← hz] at c
        rw [← hL, ← hK] at HO
        rw [← hK] at hkc
        have HK : Hid (K = kc q ks k) := hK
        have HL : Hid (L = ils (tf q ks xs k) (kc q ks k)) := hL
        have HZ : Hid (z = xs k) := hz
        clear hK hL hz
        have hb3 := below_one wr (.cells #[.int .i64 z] 3)
        have HO3 := own_below HO hb3
        have HB3 := bstep HB hb3
        clear hb3
        go_wp2_with (first | (at_builtin; refine wpList_append_own _ rfl _ _ 24 rfl w.heap.size 3 i0 (.int .i64 0) 1 8 Try.underlying24 hi hz0 hz1 hz2 rfl (by decide) _ _ _ rfl HO3 ⟨wr.heap.size, 0, none⟩ 1 1 [.int .i64 z] rfl rfl (one_new _ _ _) (by simp [Value.oneCell']) (by unfold maxLen; omega) (by omega) HB3.size ?_))
        intro v' w4 hown' hgrow _
        have HB4 : Hid (Below w.heap.size w w4) := grown_below HB3 (Nat.le_refl _) HO3 hgrow
        have HO4 : Hid (w4.ownsRow w.heap.size 3 1 v' (K + 1) (L ++ [.int .i64 z])) := hown'
        clear hown' hgrow HB3 HO3
        go_wp2
        go_roundw
        case rel => exact ⟨k + 1, by go_num, by omega, by rw [← ils_tf H2.out, kc_yes H2.out, ← HL.out, ← HK.out, ← HZ.out]; exact HO4.out, HB4.out⟩
        case measure => simp [intOf]; omega
      · have h3 : (ks r == 1) = false := by rw [HR.out]; simp only [beq_eq_false_iff_ne]; exact h2
        have H2 : Hid (¬ Kt q ks k) := h2
        have HO5 : Hid _ := HO
        have HB5 : Hid _ := HB
        generalize ks r = x at *
        clear h2 hcell hcell2 hrel HO HB
        go_wp2
        go_roundw
        case rel => exact ⟨k + 1, by go_num, by omega, by rw [← ils_tf_no H2.out, kc_no H2.out]; exact HO5.out, HB5.out⟩
        case measure => simp [intOf]; omega
    · obtain rfl : n = k := by omega
      go_wp2
      go_ret2
      exact ⟨_, rfl, hrel.out.1, hrel.out.2⟩
end Go.Proofs.Ytgkcofjhajjjgaa
