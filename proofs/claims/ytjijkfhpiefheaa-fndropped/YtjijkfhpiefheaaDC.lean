/- What a ring drops: the model. -/
import Derived.Test.YtjijkfhpiefheaaDB
import Derived.WalkKit
import Derived.WalkSpells
import Derived.WalkLawsBesides
import Derived.Deep.QuietTactic
import Derived.BigQuiet
import Derived.BigRegion
import Derived.Deep.Cut
namespace Go.Proofs.Ytjijkfhpiefheaa
open Go.RowKit

set_option maxHeartbeats 4000000 in
theorem sDrop_any {w : World} {v1 v2 : Value} {n1 n2 : Nat} {xs1 xs2 : Nat → Int} (c : Int) (hv1 : Il w v1 n1 xs1) (hv2 : Il w v2 n2 xs2) (h1 : n1 ≤ 1048576) (h2 : n2 ≤ 1048576) :
    Calls Try.prog 8 #[.int .i64 c, v1, v2] w fun e w' => Drp c n1 n2 xs1 xs2 e ∧ Below w.heap.size w w' := by
  obtain ⟨ao1, cap1, rfl, hcap1, hc1⟩ := hv1
  obtain ⟨ao2, cap2, rfl, hcap2, hc2⟩ := hv2
  have HC1 : Hid (0 < n1 → ∃ b off, ao1 = some ⟨b, off, none⟩ ∧ b < w.heap.size ∧ ∀ k, k < n1 → w.cell? ⟨b, off + k, none⟩ = some (.int .i64 (xs1 k))) := hc1
  have HC2 : Hid (0 < n2 → ∃ b off, ao2 = some ⟨b, off, none⟩ ∧ b < w.heap.size ∧ ∀ k, k < n2 → w.cell? ⟨b, off + k, none⟩ = some (.int .i64 (xs2 k))) := hc2
  clear hc1 hc2
  have k0 := in_any c 1 1000 w
  by_cases g0 : 1 ≤ c ∧ c ≤ 1000
  rotate_left
  · rw [decide_eq_false g0] at k0
    have HN : Hid (¬ Rok c n1 n2 xs1 xs2) := fun h => g0 h.1
    clear g0
    go_enter Try.func8, Try.ntmps8
    go_wp2_with (go_at_call 17; (with_reducible refine (k0).mono ?_); rintro e w' ⟨rfl, hw⟩; obtain rfl := hw.symm)
    go_ret3
    exact ⟨drp_no HN.out, Below.refl _ _⟩
  rw [decide_eq_true g0] at k0
  by_cases g1 : n1 = n2
  rotate_left
  · have HN : Hid (¬ Rok c n1 n2 xs1 xs2) := fun h => g1 h.2.1
    go_enter Try.func8, Try.ntmps8
    go_wp2_with (go_at_call 17; (with_reducible refine (k0).mono ?_); rintro e w' ⟨rfl, hw⟩; obtain rfl := hw.symm)
    go_ret3
    exact ⟨drp_no HN.out, Below.refl _ _⟩
  subst g1
  by_cases n5 : n1 ≤ 512
  rotate_left
  · have HN : Hid (¬ Rok c n1 n1 xs1 xs2) := fun h => n5 h.2.2.1.1
    go_enter Try.func8, Try.ntmps8
    go_wp2_with (go_at_call 17; (with_reducible refine (k0).mono ?_); rintro e w' ⟨rfl, hw⟩; obtain rfl := hw.symm)
    go_ret3
    exact ⟨drp_no HN.out, Below.refl _ _⟩
  go_enter Try.func8, Try.ntmps8
  go_wp2_with (go_at_call 17; (with_reducible refine (k0).mono ?_); rintro e w' ⟨rfl, hw⟩; obtain rfl := hw.symm)
  go_loopw [12, 9, 10, 11] (fun i l d g wr => wr = w ∧ ∃ k : Nat, i = .int .i64 k ∧ k ≤ n1 ∧ Hid (∀ j, j < k → Tk (xs1 j)) ∧ Hid (∀ j, j < k → Tk (xs2 j)) ∧ d = .int .i64 (rst c xs1 xs2 k).2.1 ∧ g = .int .i64 (rst c xs1 xs2 k).2.2 ∧ l = .int .i64 (rst c xs1 xs2 k).1) (fun i _ _ _ _ => n1 - (intOf i).toNat)
  case atStart => exact ⟨rfl, 0, rfl, by omega, fun j hj => absurd hj (by omega), fun j hj => absurd hj (by omega), rfl, rfl, rfl⟩
  case round =>
    obtain ⟨rfl, k, rfl, hk, ha1, ha2, rfl, rfl, rfl⟩ := hrel
    by_cases hk1 : k < n1
    · obtain ⟨b, off, rfl, hlt, hcell⟩ := HC1.out (by omega)
      obtain ⟨b2, off2, rfl, hlt2, hcell2⟩ := HC2.out (by omega)
      have c1 : wr.cell? ⟨b, off + k, none⟩ = some (.int .i64 (xs1 k)) := hcell k hk1
      have c2 : wr.cell? ⟨b2, off2 + k, none⟩ = some (.int .i64 (xs2 k)) := hcell2 k hk1
      clear hcell hcell2
      have j1 := in_any (xs1 k) 0 1000 wr
      have j2 := in_any (xs2 k) 0 1000 wr
      have hl := rst_lim (c := c) (by omega) ha1.out ha2.out k (Nat.le_refl k)
      have e1 : Hid (rst c xs1 xs2 (k + 1) = (max 0 (min ((rst c xs1 xs2 k).1 + xs1 k) c - xs2 k), (rst c xs1 xs2 k).2.1 + max 0 ((rst c xs1 xs2 k).1 + xs1 k - c), (rst c xs1 xs2 k).2.2 + max 0 (-(min ((rst c xs1 xs2 k).1 + xs1 k) c - xs2 k)))) := rfl
      generalize (rst c xs1 xs2 k).1 = L at *
      generalize (rst c xs1 xs2 k).2.1 = D at *
      generalize (rst c xs1 xs2 k).2.2 = P at *
      by_cases t1 : 0 ≤ xs1 k ∧ xs1 k ≤ 1000
      rotate_left
      · have HN : Hid (¬ Rok c n1 n1 xs1 xs2) := fun h => t1 (h.2.2.1.2 k hk1)
        rw [decide_eq_false t1] at j1
        clear t1
        go_wp2_with (go_at_call 17; (with_reducible refine (j1).mono ?_); rintro e w' ⟨rfl, hw⟩; obtain rfl := hw.symm)
        go_ret3
        exact ⟨drp_no HN.out, Below.refl _ _⟩
      rw [decide_eq_true t1] at j1
      by_cases t2 : 0 ≤ xs2 k ∧ xs2 k ≤ 1000
      rotate_left
      · have HN : Hid (¬ Rok c n1 n1 xs1 xs2) := fun h => t2 (h.2.2.2.2 k hk1)
        rw [decide_eq_false t2] at j2
        clear t2
        go_wp2_with (first | (go_at_call 17; (with_reducible refine (j1).mono ?_); rintro e w' ⟨rfl, hw⟩; obtain rfl := hw.symm) | (go_at_call 17; (with_reducible refine (j2).mono ?_); rintro e w' ⟨rfl, hw⟩; obtain rfl := hw.symm))
        go_ret3
        exact ⟨drp_no HN.out, Below.refl _ _⟩
      rw [decide_eq_true t2] at j2
      by_cases u1 : L + xs1 k > c
      · by_cases u2 : c - xs2 k < 0
        · go_wp2_with (first | (go_at_call 17; (with_reducible refine (j1).mono ?_); rintro e w' ⟨rfl, hw⟩; obtain rfl := hw.symm) | (go_at_call 17; (with_reducible refine (j2).mono ?_); rintro e w' ⟨rfl, hw⟩; obtain rfl := hw.symm))
          go_roundw
          case rel => exact ⟨trivial, k + 1, by go_num, by omega, tk_more ha1.out t1, tk_more ha2.out t2, by rw [e1.out]; exact congrArg _ (by simp only []; omega), by rw [e1.out]; exact congrArg _ (by simp only []; omega), by rw [e1.out]; exact congrArg _ (by simp only []; omega)⟩
          case measure => simp [intOf]; omega
        · go_wp2_with (first | (go_at_call 17; (with_reducible refine (j1).mono ?_); rintro e w' ⟨rfl, hw⟩; obtain rfl := hw.symm) | (go_at_call 17; (with_reducible refine (j2).mono ?_); rintro e w' ⟨rfl, hw⟩; obtain rfl := hw.symm))
          go_roundw
          case rel => exact ⟨trivial, k + 1, by go_num, by omega, tk_more ha1.out t1, tk_more ha2.out t2, by rw [e1.out]; exact congrArg _ (by simp only []; omega), by rw [e1.out]; exact congrArg _ (by simp only []; omega), by rw [e1.out]; exact congrArg _ (by simp only []; omega)⟩
          case measure => simp [intOf]; omega
      · by_cases u2 : L + xs1 k - xs2 k < 0
        · go_wp2_with (first | (go_at_call 17; (with_reducible refine (j1).mono ?_); rintro e w' ⟨rfl, hw⟩; obtain rfl := hw.symm) | (go_at_call 17; (with_reducible refine (j2).mono ?_); rintro e w' ⟨rfl, hw⟩; obtain rfl := hw.symm))
          go_roundw
          case rel => exact ⟨trivial, k + 1, by go_num, by omega, tk_more ha1.out t1, tk_more ha2.out t2, by rw [e1.out]; exact congrArg _ (by simp only []; omega), by rw [e1.out]; exact congrArg _ (by simp only []; omega), by rw [e1.out]; exact congrArg _ (by simp only []; omega)⟩
          case measure => simp [intOf]; omega
        · go_wp2_with (first | (go_at_call 17; (with_reducible refine (j1).mono ?_); rintro e w' ⟨rfl, hw⟩; obtain rfl := hw.symm) | (go_at_call 17; (with_reducible refine (j2).mono ?_); rintro e w' ⟨rfl, hw⟩; obtain rfl := hw.symm))
          go_roundw
          case rel => exact ⟨trivial, k + 1, by go_num, by omega, tk_more ha1.out t1, tk_more ha2.out t2, by rw [e1.out]; exact congrArg _ (by simp only []; omega), by rw [e1.out]; exact congrArg _ (by simp only []; omega), by rw [e1.out]; exact congrArg _ (by simp only []; omega)⟩
          case measure => simp [intOf]; omega
    · obtain rfl : k = n1 := by omega
      have HR : Hid (Rok c k k xs1 xs2) := ⟨g0, rfl, ⟨n5, ha1.out⟩, ⟨n5, ha2.out⟩⟩
      go_wp2
      go_ret3
      exact ⟨⟨_, _, _, rfl, fun _ => ⟨rfl, rfl, rfl⟩, fun h => absurd HR.out h⟩, Below.refl _ _⟩

end Go.Proofs.Ytjijkfhpiefheaa
