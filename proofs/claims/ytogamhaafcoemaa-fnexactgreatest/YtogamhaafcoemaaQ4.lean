/- Least and Greatest of the model. -/
import Derived.Test.YtogamhaafcoemaaQ3
import Derived.Test.YtogamhaafcoemaaH7
import Derived.Test.YtogamhaafcoemaaOO
namespace Go.Proofs.Ytogamhaafcoemaa
open Go.RowKit

theorem bst_none {mx : Bool} {xs : Nat → Nat} {k : Nat} (h : cn (xs k) = none) : ∀ j, k < j → bst mx xs j = none := by
  intro j
  induction j with
  | zero => omega
  | succ j ih =>
    intro hj
    by_cases c : k = j
    · subst c
      show pick mx (bst mx xs k) (cn (xs k)) = none
      rw [h]
      cases bst mx xs k <;> rfl
    · show pick mx (bst mx xs j) (cn (xs j)) = none
      rw [ih (by omega)]
      rfl

theorem ord_vals (S x y : Int) : ord S x y = -1 ∨ ord S x y = 0 ∨ ord S x y = 1 := by
  unfold ord
  repeat' split
  all_goals simp

set_option maxHeartbeats 4000000 in
theorem best_spec {w : World} {v : Value} {n : Nat} {xs : Nat → Nat} (mx : Bool) (sgn : Int) (hsg : sgn = (if mx then 1 else -1)) (hv : Fl w v n xs) (hxs : ∀ k, k < n → xs k < 18446744073709551616) (hn : n ≤ 1048576) :
    Calls Try.prog 15 #[v, .int .i64 sgn] w fun e w' => ∃ S, e = .returned (.float .f64 S) ∧ cn S = (if n ≤ 200 ∧ n ≠ 0 then bst mx xs n else some 0) ∧ Below w.heap.size w w' := by
  have hl := list_spec hv hn
  obtain ⟨ao, cap, rfl, hcap, hc⟩ := hv
  have HC : Hid _ := hc
  clear hc
  have HSG : Hid _ := hsg
  clear hsg
  by_cases h2 : n ≤ 200
  · rw [decide_eq_true h2] at hl
    by_cases h3 : n = 0
    · rw [if_neg (fun h => h.2 h3)]
      subst h3
      go_enter Try.func15, Try.ntmps15
      go_wp2_with (go_at_call 23; refine hl.mono ?_; rintro e w' ⟨rfl, hw⟩; obtain rfl := hw.symm)
      go_ret
      exact ⟨_, rfl, cn_zero, Below.refl _ _⟩
    · rw [if_pos ⟨h2, h3⟩]
      have p0 : ((n : Int) == 0) = false := by simp; omega
      have p2 : 0 < n := by omega
      obtain ⟨b, off, rfl, hlt, c⟩ := at_later HC.out (Below.refl w.heap.size w) (Nat.le_refl _) p2
      rw [Nat.add_zero] at c
      clear h3
      go_enter Try.func15, Try.ntmps15
      go_wp2_with (go_at_call 23; refine hl.mono ?_; rintro e w' ⟨rfl, hw⟩; obtain rfl := hw.symm)
      go_loopw [5, 6] (fun s i wr => ∃ k S : Nat, i = .int .i64 k ∧ s = .float .f64 S ∧ k ≤ n ∧ Hid (cn S = bst mx xs k ∧ S < 18446744073709551616 ∧ (0 < k → cn S = some S) ∧ Below w.heap.size w wr)) (fun _ i _ => n - (intOf i).toNat)
      case atStart => exact ⟨0, xs 0, rfl, rfl, by omega, rfl, hxs 0 p2, fun h => by omega, Below.refl _ _⟩
      case round =>
        obtain ⟨k, S, rfl, rfl, hk, hrel⟩ := hrel
        by_cases h1 : k < n
        · obtain ⟨b', off', e, _, c2⟩ := at_later HC.out hrel.out.2.2.2 (Nat.le_refl _) h1
          cases e
          have i1 : (0 : Int) ≤ (k : Int) := by omega
          have i2 : (k : Int) < (n : Int) := by omega
          cases hx : (Ieee.double.read (xs k)).isNaN with
          | true =>
            have o1 := order_nan hx
            have hcn := bst_none (mx := mx) (cn_none hx) n h1
            have HN : Hid _ := hcn
            have hna := nan_any
            clear hcn hx
            go_wp2
            go_region_held3 (fun W => W.cell? ⟨b, off + k, none⟩ = some (.float .f64 (xs k))) (go_keep) (first | (go_at_call 21; refine absurd ?_ ?_))
            go_wp2_with (go_at_call 24; refine (hna _).mono ?_; rintro e w2 ⟨⟨r, rfl, hr⟩, hb2⟩; have HR : Hid _ := hr; clear hr)
            go_ret
            exact ⟨_, rfl, HR.out.trans HN.out.symm, bstep hrel.out.2.2.2.drew hb2⟩
          | false =>
            have o1 := order_same hx
            have ht1 := fun w => to_spec (xs k) (hxs k h1) w
            have hS : cn S = some S := by
              by_cases hk0 : 0 < k
              · exact hrel.out.2.2.1 hk0
              · obtain rfl : k = 0 := by omega
                have := hrel.out.1
                rw [show bst mx xs 0 = cn (xs 0) from rfl, cn_some hx] at this
                have e : S = xs 0 := by
                  cases hs : (Ieee.double.read S).isNaN with
                  | true => rw [cn_none hs] at this; cases this
                  | false => rw [cn_some hs] at this; exact Option.some.inj this
                rw [e]; exact cn_some hx
            go_wp2
            go_region_held3 (fun W => W.cell? ⟨b, off + k, none⟩ = some (.float .f64 (xs k))) (go_keep) (first | (go_at_call 21; refine absurd ?_ ?_))
            have hSn : (Ieee.double.read S).isNaN = false := by
              cases hs : (Ieee.double.read S).isNaN with
              | true => rw [cn_none hs] at hS; cases hS
              | false => rfl
            have ht2 := fun w => to_spec S hrel.out.2.1 w
            rw [show tb (xs k) = xs k by simp [tb, hx]] at ht1
            rw [show tb S = S by simp [tb, hSn]] at ht2
            have hx1 := hxs k h1
            have hS1 := hrel.out.2.1
            have hor := fun w => sorder_yes dbl.form (xs k : Nat) (S : Nat) w (by omega) (by omega) (by omega) (by omega)
            have hpk : bst mx xs (k + 1) = some (if ord 9223372036854775808 (xs k : Nat) (S : Nat) = (if mx then 1 else -1) then xs k else S) := by
              show pick mx (bst mx xs k) (cn (xs k)) = _
              rw [← hrel.out.1, hS, cn_some hx]
              rfl
            have hcx := cn_some hx
            have hov := ord_vals 9223372036854775808 (xs k : Nat) (S : Nat)
            rw [← HSG.out] at hpk
            have hsv : sgn = 1 ∨ sgn = -1 := by
              have := HSG.out
              cases mx
              · right; simpa using this
              · left; simpa using this
            generalize ord 9223372036854775808 (xs k : Nat) (S : Nat) = o at *
            have HX : Hid _ := hcx
            have HS : Hid _ := hS
            have HL : Hid _ := hx1
            have HM : Hid _ := hS1
            clear hcx hS hx hSn hS1 hx1
            rcases hov with rfl | rfl | rfl <;> rcases hsv with rfl | rfl
            all_goals
              have HP : Hid _ := hpk
              clear hpk
              go_wp2_with (first
                | (go_at_call 21; (with_reducible refine (ht1 _).mono ?_); rintro e w1 ⟨rfl, hb1⟩; have c3 := keepc hb1 c2)
                | (go_at_call 21; (with_reducible refine (ht2 _).mono ?_); rintro e w2 ⟨rfl, hb2⟩; have c4 := keepc hb2 c3)
                | (go_at_call 25; refine (hor _).mono ?_; rintro e w' ⟨rfl, hw⟩; obtain rfl := hw.symm))
              go_roundw
              case rel =>
                first
                  | exact ⟨k + 1, S, by go_num, rfl, by omega, HS.out.trans HP.out.symm, HM.out, fun _ => HS.out, bstep (bstep hrel.out.2.2.2.drew hb1) hb2⟩
                  | exact ⟨k + 1, xs k, by go_num, rfl, by omega, HX.out.trans HP.out.symm, HL.out, fun _ => HX.out, bstep (bstep hrel.out.2.2.2.drew hb1) hb2⟩
              case measure => simp [intOf]; omega
        · obtain rfl : k = n := by omega
          go_wp2
          go_ret
          exact ⟨_, rfl, hrel.out.1, hrel.out.2.2.2⟩
  · rw [if_neg (fun h => h2 h.1)]
    rw [decide_eq_false h2] at hl
    go_enter Try.func15, Try.ntmps15
    go_wp2_with (go_at_call 23; refine hl.mono ?_; rintro e w' ⟨rfl, hw⟩; obtain rfl := hw.symm)
    go_ret
    exact ⟨_, rfl, cn_zero, Below.refl _ _⟩
end Go.Proofs.Ytogamhaafcoemaa
