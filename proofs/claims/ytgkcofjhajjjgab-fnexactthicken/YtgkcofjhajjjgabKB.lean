/- Places kept; Thin: both sides. -/
import Derived.Test.YtgkcofjhajjjgabKA
import Derived.Test.YtgkcofjhajjjgabAW
namespace Go.Proofs.Ytgkcofjhajjjgab
open Go.RowKit

theorem apart_base {w : World} {B s n g : Nat} {e : TypeId} {t o : Value} {xs : List Value} (h : w.ownsRow B e s t n xs) (ho : o.ownBlock = some g) (hg : g < B) : Apart t o :=
  .inr (fun e => by have := World.ownsRow.lt h g (e.trans ho); omega)

set_option maxHeartbeats 4000000 in
theorem places_any {w : World} {v : Value} {q n : Nat} {ks : Nat → Int} (hv : Il w v q ks) (hq : Kp q ks) (hn : n ≤ 1024) : Calls Try.prog 16 #[v, .int .i64 n] w fun e w' => ∃ u, e = .returned u ∧ w'.ownsRow w.heap.size 3 1 u (kc q ks n) (ils (fun j => (pf q ks n j : Int)) (kc q ks n)) ∧ Below w.heap.size w w' := by
  obtain ⟨i0, hi, hz0, hz1, hz2⟩ := info_parts Try.info3
  have hq0 := hq.pos
  have hq1 := hq.1
  clear hq
  have OW : Hid ((w.alloc (.cells #[] 3)).ownsRow w.heap.size 3 1 (.slice (some ⟨w.heap.size, 0, none⟩) 0 0) 0 (ils (fun j => (pf q ks 0 j : Int)) (kc q ks 0))) := own_empty w 3 1
  have BL : Hid (Below w.heap.size w (w.alloc (.cells #[] 3))) := below_one _ _
  obtain ⟨bo, cap, rfl, hcap, hc⟩ := hv
  have HC : Hid (0 < q → ∃ b off, bo = some ⟨b, off, none⟩ ∧ b < w.heap.size ∧ ∀ k, k < q → w.cell? ⟨b, off + k, none⟩ = some (.int .i64 (ks k))) := hc
  clear hc
  go_enter Try.func16, Try.ntmps16
  go_wp2
  generalize w.alloc (.cells #[] 3) = W at *
  go_loopw [5, 6, 9] (fun o _ i wr => ∃ (k : Nat), i = .int .i64 k ∧ k ≤ n ∧ Hid (wr.ownsRow w.heap.size 3 1 o (kc q ks k) (ils (fun j => (pf q ks k j : Int)) (kc q ks k)) ∧ Below w.heap.size w wr)) (fun _ _ i _ => n - (intOf i).toNat)
  case atStart => exact ⟨0, rfl, by omega, OW.out, BL.out⟩
  case round =>
    obtain ⟨k, rfl, hk, hrel⟩ := hrel
    by_cases h1 : k < n
    · obtain ⟨b, off, rfl, hlt, hcell⟩ := HC.out (by omega)
      obtain ⟨r, hr⟩ : ∃ r : Nat, r = k % q := ⟨_, rfl⟩
      have hrq : r < q := by rw [hr]; exact Nat.mod_lt _ (by omega)
      have m1 : (k : Int).tmod (q : Int) = (r : Int) := by rw [Int.tmod_eq_emod_of_nonneg (by omega), hr]; exact_mod_cast rfl
      have m2 : (k : Int) % (q : Int) = (r : Int) := by rw [hr]; exact_mod_cast rfl
      have HR : Hid (r = k % q) := hr
      clear hr
      have c := (hrel.out.2.cell (p := ⟨b, off + r, none⟩) hlt).trans (hcell r hrq)
      have HO := hrel.out.1
      have HB := hrel.out.2
      have hkc := kc_le q ks k
      by_cases h2 : Kt q ks k
      · have h3 : ks r = 1 := by rw [HR.out]; exact h2
        rw [h3] at c
        have H2 : Hid (Kt q ks k) := h2
        clear h2 h3 hcell hrel
        obtain ⟨K, hK⟩ : ∃ K : Nat, K = kc q ks k := ⟨_, rfl⟩
        obtain ⟨L, hL⟩ : ∃ L, L = ils (fun j => (pf q ks k j : Int)) (kc q ks k) := ⟨_, rfl⟩
        rw [← hL, ← hK] at HO
        rw [← hK] at hkc
        have HK : Hid (K = kc q ks k) := hK
        have HL : Hid (L = ils (fun j => (pf q ks k j : Int)) (kc q ks k)) := hL
        clear hK hL
        have hb3 := below_one wr (.cells #[.int .i64 (k : Int)] 3)
        have HO3 := own_below HO hb3
        have HB3 := bstep HB hb3
        clear hb3
        go_wp2_with (first | (at_builtin; refine wpList_append_own _ rfl _ _ 22 rfl w.heap.size 3 i0 (.int .i64 0) 1 8 Try.underlying22 hi hz0 hz1 hz2 rfl (by decide) _ _ _ rfl HO3 ⟨wr.heap.size, 0, none⟩ 1 1 [.int .i64 (k : Int)] rfl rfl (one_new _ _ _) (by simp [Value.oneCell']) (by unfold maxLen; omega) (by omega) HB3.size ?_))
        intro v' w4 hown' hgrow _
        have HB4 : Hid (Below w.heap.size w w4) := grown_below HB3 (Nat.le_refl _) HO3 hgrow
        have HO4 : Hid (w4.ownsRow w.heap.size 3 1 v' (K + 1) (L ++ [.int .i64 (k : Int)])) := hown'
        clear hown' hgrow HB3 HO3
        go_wp2
        go_roundw
        case rel => exact ⟨k + 1, by go_num, by omega, by rw [← ils_pf H2.out, kc_yes H2.out, ← HL.out, ← HK.out]; exact HO4.out, HB4.out⟩
        case measure => simp [intOf]; omega
      · have h3 : (ks r == 1) = false := by rw [HR.out]; simp only [beq_eq_false_iff_ne]; exact h2
        have H2 : Hid (¬ Kt q ks k) := h2
        have HO5 : Hid _ := HO
        have HB5 : Hid _ := HB
        generalize ks r = x at *
        clear h2 hcell hrel HO HB
        go_wp2
        go_roundw
        case rel => exact ⟨k + 1, by go_num, by omega, by rw [← ils_pf_no H2.out, kc_no H2.out]; exact HO5.out, HB5.out⟩
        case measure => simp [intOf]; omega
    · obtain rfl : n = k := by omega
      go_wp2
      go_ret
      exact ⟨_, rfl, hrel.out.1, hrel.out.2⟩
end Go.Proofs.Ytgkcofjhajjjgab
