/- FnCombs: a comb of a ramp is a gathering; the draws; the law. -/
import Derived.Test.YtgcmlcbmolfjmaaRE
import Derived.Test.YtgcmlcbmolfjmaaC2
import Derived.Test.YtgcmlcbmolfjmaaD4
namespace Go.Proofs.Ytgcmlcbmolfjmaa
open Go.RowKit

theorem psum_rsum (xs : Nat → Int) (k : Nat) : ∀ j, j ≤ k + 1 → psum xs k j = rsum xs (k + 1) - rsum xs (k + 1 - j)
  | 0, _ => by simp [psum]
  | j + 1, h => by
    have ih := psum_rsum xs k j (by omega)
    have e : rsum xs (k + 1 - j) = rsum xs (k + 1 - (j + 1)) + xs (k - j) := by
      rw [show k + 1 - j = k - j + 1 by omega, show k + 1 - (j + 1) = k - j by omega]
      rfl
    unfold psum
    rw [ih, e]
    omega

theorem cmb_ramp (m : Nat) (xs : Nat → Int) (k : Nat) : cmb m (fun k => rsum xs (k + 1)) k = gat m xs k := by
  unfold cmb aheadOf gat
  rw [psum_rsum xs k _ (by omega)]
  by_cases h : m ≤ k
  · rw [if_pos h, Nat.min_eq_left (by omega)]
    show rsum xs (k + 1) - rsum xs (k - m + 1) = _
    rw [show k - m + 1 = k + 1 - m by omega]
  · rw [if_neg h, Nat.min_eq_right (by omega), Nat.sub_self]
    rfl

set_option maxHeartbeats 1000000 in
theorem same_yes {w : World} {u v : Value} {n : Nat} {xs ys : Nat → Int} (hu : Il w u n xs) (hv : Il w v n ys) (hn : n ≤ 1048576) (he : ∀ k, k < n → xs k = ys k) : Calls Try.prog 11 #[u, v] w fun e w' => e = .returned (.bool true) ∧ Below w.heap.size w w' := by
  obtain ⟨ao, cap, rfl, hcap, hc⟩ := hu
  obtain ⟨ao2, cap2, rfl, hcap2, hc2⟩ := hv
  have HC : Hid (0 < n → ∃ b off, ao = some ⟨b, off, none⟩ ∧ b < w.heap.size ∧ ∀ k, k < n → w.cell? ⟨b, off + k, none⟩ = some (.int .i64 (xs k))) := hc
  have HC2 : Hid (0 < n → ∃ b off, ao2 = some ⟨b, off, none⟩ ∧ b < w.heap.size ∧ ∀ k, k < n → w.cell? ⟨b, off + k, none⟩ = some (.int .i64 (ys k))) := hc2
  have HE : Hid (∀ k, k < n → xs k = ys k) := he
  clear hc hc2 he
  go_enter Try.func11, Try.ntmps11
  go_wp2
  go_loopw [5] (fun i wr => ∃ k : Nat, i = .int .i64 k ∧ k ≤ n ∧ Hid (Below w.heap.size w wr)) (fun i _ => n - (intOf i).toNat)
  case atStart => exact ⟨0, rfl, by omega, Below.refl _ _⟩
  case round =>
    obtain ⟨k, rfl, hk, hrel⟩ := hrel
    by_cases h1 : k < n
    · obtain ⟨b, off, rfl, hlt, hcell⟩ := HC.out (by omega)
      obtain ⟨b2, off2, rfl, hlt2, hcell2⟩ := HC2.out (by omega)
      have c := (hrel.out.cell (p := ⟨b, off + k, none⟩) hlt).trans (hcell k h1)
      have c2 := (hrel.out.cell (p := ⟨b2, off2 + k, none⟩) hlt2).trans (hcell2 k h1)
      rw [← HE.out k h1] at c2
      clear hcell hcell2
      go_wp2_with (go_quiet (fail))
      go_roundw
      case rel => exact ⟨k + 1, by go_num, by omega, by first | exact hrel.out | exact below_drewN hrel.out _⟩
      case measure => simp [intOf]; omega
    · obtain rfl : k = n := by omega
      go_wp2
      go_ret
      exact ⟨rfl, hrel.out⟩

theorem dcomb_x {w : World} {a : Option Addr} {len cap : Nat} (hr : Row w a len) (hl : len ≤ 1048576) :
    Calls Try.prog 12 #[.slice a len cap] w fun e w' => ∃ (u : Value) (k : Int), e = .returned (.tuple #[u, .int .i64 k]) ∧ Hid ((∃ n ys, n ≤ 513 ∧ Il w' u n ys) ∧ Below w.heap.size w w') := by
  have HR : Hid (Row w a len) := hr
  clear hr
  obtain ⟨c, hcd⟩ : ∃ c, w.heap.size = c := ⟨_, rfl⟩
  have HN : Hid (Calls Try.prog 23 #[.slice a len cap] w fun e w' => e = .returned (.pointer (some ⟨c, 0, none⟩)) ∧ Cu w' c a len cap ∧ Below w.heap.size w w') := by have := new_x (cap := cap) HR.out (by omega); rw [← hcd]; exact this
  have HCD : Hid (w.heap.size ≤ c) := Nat.le_of_eq hcd
  clear hcd
  go_enter Try.func12, Try.ntmps12
  go_wp2_with (first
    | (go_at_call 23; refine HN.out.mono ?_; rintro e w1 ⟨rfl, hc, hb⟩; have HC1 : Hid (Cu w1 c a len cap) := hc; have B1 : Hid (Below w.heap.size w w1) := hb; clear hc hb)
    | (go_at_call 25; refine (size_x a len cap 30 hl).mono ?_; rintro e w' ⟨z, rfl, hz5, _, hz6, hw⟩; obtain rfl := hw.symm; have hz7 := hz6 (by omega); clear hz6)
    | (go_at_call 24; refine (dany_x HC1.out z (by omega)).mono ?_; rintro e w3 ⟨v, n, ys, rfl, hn, hI, hc, hk⟩; have F3 : Hid (n ≤ 513 ∧ w3.ownsRow w1.heap.size 3 1 v n (ils ys n)) := ⟨hn, hI⟩; have L2 : Hid (c < w1.heap.size) := HC1.out.lt; have K3 : Hid (Keep c w1 w3) := hk; have i20 := pick_lit [1, 2, 3, 7, 512, 513, 0, 5] (by decide) (by decide) hc; clear hc hk hI hn)
    | (go_at_call 26; refine i20.mono ?_; rintro e w4 ⟨lv, rfl, hc, hk⟩; have B4 : Hid (Below w.heap.size w w4) := Below.keep B1.out (K3.out.trans hk) HCD.out; have F4 : Hid (∃ n ys, n ≤ 513 ∧ Il w4 v n ys) := ⟨n, ys, F3.out.1, il_of_own (own_keep F3.out.2 hk L2.out)⟩; clear hc hk))
  go_ret2
  exact ⟨_, _, rfl, F4.out, B4.out⟩
end Go.Proofs.Ytgcmlcbmolfjmaa
