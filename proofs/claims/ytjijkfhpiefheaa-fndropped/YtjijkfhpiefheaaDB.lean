/- What a ring drops: the program. -/
import Derived.Test.YtjijkfhpiefheaaDA
import Derived.WalkKit
import Derived.WalkSpells
import Derived.WalkLawsBesides
import Derived.Deep.QuietTactic
import Derived.BigQuiet
import Derived.BigRegion
import Derived.Deep.Cut
namespace Go.Proofs.Ytjijkfhpiefheaa
open Go.RowKit

/-- What lies in a ring, was dropped, was missing, behind k ticks. -/
def rst (c : Int) (g t : Nat → Int) : Nat → Int × Int × Int
  | 0 => (0, 0, 0)
  | k + 1 => (max 0 (min ((rst c g t k).1 + g k) c - t k), (rst c g t k).2.1 + max 0 ((rst c g t k).1 + g k - c), (rst c g t k).2.2 + max 0 (-(min ((rst c g t k).1 + g k) c - t k)))

theorem rst_lim {c : Int} {g t : Nat → Int} (hc : 1 ≤ c ∧ c ≤ 1001) {n : Nat} (hg : ∀ k, k < n → Tk (g k)) (ht : ∀ k, k < n → Tk (t k)) : ∀ k, k ≤ n → (0 ≤ (rst c g t k).1 ∧ (rst c g t k).1 ≤ c) ∧ (0 ≤ (rst c g t k).2.1 ∧ (rst c g t k).2.1 ≤ 1001 * k) ∧ (0 ≤ (rst c g t k).2.2 ∧ (rst c g t k).2.2 ≤ 1001 * k) := by
  intro k
  induction k with
  | zero => intro _; refine ⟨⟨?_, ?_⟩, ⟨?_, ?_⟩, ?_, ?_⟩ <;> simp [rst] <;> omega
  | succ k ih =>
    intro h
    have h0 := ih (by omega)
    have h1 := hg k (by omega)
    have h2 := ht k (by omega)
    unfold Tk at h1 h2
    simp only [rst]
    omega

/-- When a ring is told of. -/
def Rok (c : Int) (n m : Nat) (g t : Nat → Int) : Prop := (1 ≤ c ∧ c ≤ 1000) ∧ n = m ∧ Tks n g ∧ Tks n t

/-- What Dropped answers. -/
def Drp (c : Int) (n m : Nat) (g t : Nat → Int) (e : Ending) : Prop :=
  ∃ d p : Int, ∃ o : Bool, e = .returned (.tuple #[.int .i64 d, .int .i64 p, .bool o]) ∧ (Rok c n m g t → d = (rst c g t n).2.1 ∧ p = (rst c g t n).2.2 ∧ o = true) ∧ (¬ Rok c n m g t → d = 0 ∧ p = 0 ∧ o = false)

theorem drp_no {c : Int} {n m : Nat} {g t : Nat → Int} (h : ¬ Rok c n m g t) : Drp c n m g t (.returned (.tuple #[.int .i64 0, .int .i64 0, .bool false])) := ⟨0, 0, false, rfl, fun x => absurd x h, fun _ => ⟨rfl, rfl, rfl⟩⟩

set_option maxHeartbeats 4000000 in
theorem iDrop_any {w : World} {v1 v2 : Value} {n1 n2 : Nat} {xs1 xs2 : Nat → Int} (c : Int) (hv1 : Il w v1 n1 xs1) (hv2 : Il w v2 n2 xs2) (h1 : n1 ≤ 1048576) (h2 : n2 ≤ 1048576) :
    Calls Try.prog 7 #[.int .i64 c, v1, v2] w fun e w' => Drp c n1 n2 xs1 xs2 e ∧ Below w.heap.size w w' := by
  have H1 : Hid (Il w v1 n1 xs1) := hv1
  have H2 : Hid (Il w v2 n2 xs2) := hv2
  obtain ⟨ao1, cap1, rfl, hcap1, hc1⟩ := hv1
  obtain ⟨ao2, cap2, rfl, hcap2, hc2⟩ := hv2
  have HC1 : Hid (0 < n1 → ∃ b off, ao1 = some ⟨b, off, none⟩ ∧ b < w.heap.size ∧ ∀ k, k < n1 → w.cell? ⟨b, off + k, none⟩ = some (.int .i64 (xs1 k))) := hc1
  have HC2 : Hid (0 < n2 → ∃ b off, ao2 = some ⟨b, off, none⟩ ∧ b < w.heap.size ∧ ∀ k, k < n2 → w.cell? ⟨b, off + k, none⟩ = some (.int .i64 (xs2 k))) := hc2
  clear hc1 hc2
  by_cases g0 : 1 ≤ c ∧ c ≤ 1000
  rotate_left
  · have k0 := count_any c 1000 w
    rw [decide_eq_false g0] at k0
    have HN : Hid (¬ Rok c n1 n2 xs1 xs2) := fun h => g0 h.1
    clear g0
    go_enter Try.func7, Try.ntmps7
    go_wp2_with (go_at_call 15; (with_reducible refine (k0).mono ?_); rintro e w' ⟨rfl, hw⟩; obtain rfl := hw.symm)
    go_ret3
    exact ⟨drp_no HN.out, Below.refl _ _⟩
  have k0 := count_any c 1000 w
  rw [decide_eq_true g0] at k0
  by_cases g1 : n1 = n2
  rotate_left
  · have HN : Hid (¬ Rok c n1 n2 xs1 xs2) := fun h => g1 h.2.1
    go_enter Try.func7, Try.ntmps7
    go_wp2_with (go_at_call 15; (with_reducible refine (k0).mono ?_); rintro e w' ⟨rfl, hw⟩; obtain rfl := hw.symm)
    go_ret3
    exact ⟨drp_no HN.out, Below.refl _ _⟩
  subst g1
  by_cases g2 : Tks n1 xs1
  rotate_left
  · have HN : Hid (¬ Rok c n1 n1 xs1 xs2) := fun h => g2 h.2.2.1
    have k1 := ticks_any H1.out h1 false (decide_eq_false g2).symm
    clear g2
    go_enter Try.func7, Try.ntmps7
    go_wp2_with (first | (go_at_call 15; (with_reducible refine (k0).mono ?_); rintro e w' ⟨rfl, hw⟩; obtain rfl := hw.symm) | (go_at_call 16; refine (k1).mono ?_; rintro e w' ⟨rfl, hb⟩; have BW : Hid (Below w.heap.size w w') := hb; clear hb k1))
    go_ret3
    exact ⟨drp_no HN.out, BW.out⟩
  have k1 := ticks_any H1.out h1 true (decide_eq_true g2).symm
  by_cases g3 : Tks n1 xs2
  rotate_left
  · have HN : Hid (¬ Rok c n1 n1 xs1 xs2) := fun h => g3 h.2.2.2
    have HK : Hid (¬ Tks n1 xs2) := g3
    clear g3 g2
    go_enter Try.func7, Try.ntmps7
    go_wp2_with (first | (go_at_call 15; (with_reducible refine (k0).mono ?_); rintro e w' ⟨rfl, hw⟩; obtain rfl := hw.symm) | (go_at_call 16; refine (k1).mono ?_; rintro e W1 ⟨rfl, hb⟩; have BW : Hid (Below w.heap.size w W1) := hb; clear hb k1) | (go_at_call 16; refine (ticks_any (H2.out.below BW.out) h1 false (decide_eq_false HK.out).symm).mono ?_; rintro e w' ⟨rfl, hb⟩; have BX : Hid (Below w.heap.size w w') := bstep BW.out hb; clear hb))
    go_ret3
    exact ⟨drp_no HN.out, BX.out⟩
  have HK : Hid (Tks n1 xs1 ∧ Tks n1 xs2) := ⟨g2, g3⟩
  have n5 : n1 ≤ 512 := g2.1
  have HR : Hid (Rok c n1 n1 xs1 xs2) := ⟨g0, rfl, g2, g3⟩
  have LIM : Hid (∀ k, k ≤ n1 → (0 ≤ (rst c xs1 xs2 k).1 ∧ (rst c xs1 xs2 k).1 ≤ c) ∧ (0 ≤ (rst c xs1 xs2 k).2.1 ∧ (rst c xs1 xs2 k).2.1 ≤ 1001 * k) ∧ (0 ≤ (rst c xs1 xs2 k).2.2 ∧ (rst c xs1 xs2 k).2.2 ≤ 1001 * k)) := rst_lim (by omega) g2.2 g3.2
  clear g2 g3
  go_enter Try.func7, Try.ntmps7
  go_wp2_with (first | (go_at_call 15; (with_reducible refine (k0).mono ?_); rintro e w' ⟨rfl, hw⟩; obtain rfl := hw.symm) | (go_at_call 16; refine (k1).mono ?_; rintro e W1 ⟨rfl, hb⟩; have BW : Hid (Below w.heap.size w W1) := hb; clear hb k1) | (go_at_call 16; (fail_if_success have := BX); refine (ticks_any (H2.out.below BW.out) h1 true (decide_eq_true HK.out.2).symm).mono ?_; rintro e W2 ⟨rfl, hb⟩; have BX : Hid (Below w.heap.size w W2) := bstep BW.out hb; clear hb))
  go_loopw [36, 9, 10, 11] (fun i d g l wr => wr = W2 ∧ ∃ k : Nat, i = .int .i64 k ∧ k ≤ n1 ∧ d = .int .i64 (rst c xs1 xs2 k).2.1 ∧ g = .int .i64 (rst c xs1 xs2 k).2.2 ∧ l = .int .i64 (rst c xs1 xs2 k).1) (fun i _ _ _ _ => n1 - (intOf i).toNat)
  case atStart => exact ⟨rfl, 0, rfl, by omega, rfl, rfl, rfl⟩
  case round =>
    obtain ⟨rfl, k, rfl, hk, rfl, rfl, rfl⟩ := hrel
    by_cases hk1 : k < n1
    · obtain ⟨b, off, rfl, hlt, hcell⟩ := HC1.out (by omega)
      obtain ⟨b2, off2, rfl, hlt2, hcell2⟩ := HC2.out (by omega)
      have c1 : wr.cell? ⟨b, off + k, none⟩ = some (.int .i64 (xs1 k)) := (BX.out.cell (p := ⟨b, off + k, none⟩) hlt).trans (hcell k hk1)
      have c2 : wr.cell? ⟨b2, off2 + k, none⟩ = some (.int .i64 (xs2 k)) := (BX.out.cell (p := ⟨b2, off2 + k, none⟩) hlt2).trans (hcell2 k hk1)
      clear hcell hcell2
      have hl := LIM.out k hk
      have t1 := HK.out.1.2 k hk1
      have t2 := HK.out.2.2 k hk1
      unfold Tk at t1 t2
      have e1 : Hid (rst c xs1 xs2 (k + 1) = (max 0 (min ((rst c xs1 xs2 k).1 + xs1 k) c - xs2 k), (rst c xs1 xs2 k).2.1 + max 0 ((rst c xs1 xs2 k).1 + xs1 k - c), (rst c xs1 xs2 k).2.2 + max 0 (-(min ((rst c xs1 xs2 k).1 + xs1 k) c - xs2 k)))) := rfl
      generalize (rst c xs1 xs2 k).1 = L at *
      generalize (rst c xs1 xs2 k).2.1 = D at *
      generalize (rst c xs1 xs2 k).2.2 = P at *
      go_wp2
      go_roundw
      case rel => exact ⟨trivial, k + 1, by go_num, by omega, by rw [e1.out]; exact congrArg _ (by simp only []; (repeat' split) <;> omega), by rw [e1.out]; exact congrArg _ (by simp only []; (repeat' split) <;> omega), by rw [e1.out]; exact congrArg _ (by simp only []; (repeat' split) <;> omega)⟩
      case measure => simp [intOf]; omega
    · obtain rfl : k = n1 := by omega
      go_wp2
      go_ret3
      exact ⟨⟨_, _, _, rfl, fun _ => ⟨rfl, rfl, rfl⟩, fun h => absurd HR.out h⟩, BX.out⟩

end Go.Proofs.Ytjijkfhpiefheaa
