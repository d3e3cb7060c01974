/- GfMul: the law. -/
import Derived.Test.YtikajjdapbkbeaaGA
namespace Go.Proofs.Ytikajjdapbkbeaa
open Go.RowKit

theorem iByte_any (x : Int) (w : World) : Calls Try.prog 42 #[.int .i64 x] w fun e w' => e = .returned (.bool (decide (0 ≤ x ∧ x ≤ 255))) ∧ w' = w := by
  obtain ⟨d, hd⟩ : ∃ d, d = decide (0 ≤ x ∧ x ≤ 255) := ⟨_, rfl⟩
  rw [← hd]
  have HD : Hid (d = decide (0 ≤ x ∧ x ≤ 255)) := hd
  clear hd
  by_cases h1 : 0 ≤ x
  · go_enter Try.func42, Try.ntmps42
    go_wp2
    go_ret
    refine ⟨congrArg (fun z => Ending.returned (.bool z)) ?_, rfl⟩
    rw [HD.out]
    exact decide_eq_decide.2 ⟨fun h => ⟨h1, by omega⟩, fun h => by omega⟩
  · go_enter Try.func42, Try.ntmps42
    go_wp2
    go_ret
    refine ⟨congrArg (fun z => Ending.returned (.bool z)) ?_, rfl⟩
    rw [HD.out]
    exact (decide_eq_false (fun h => by omega)).symm

theorem sMul_no {x y : Int} (h : ¬ ((0 ≤ x ∧ x ≤ 255) ∧ 0 ≤ y ∧ y ≤ 255)) (w : World) : Calls Try.prog 19 #[.int .i64 x, .int .i64 y] w fun e w' => e = .returned (.int .i64 0) ∧ w' = w := by
  have i1 := sByte_any x
  by_cases h1 : 0 ≤ x ∧ x ≤ 255
  · rw [decide_eq_true h1] at i1
    have i2 := sByte_any y
    rw [decide_eq_false (fun h9 => h ⟨h1, h9⟩)] at i2
    clear h h1
    go_enter Try.func19, Try.ntmps19
    go_wp2_with (first | (go_at_call 41; (with_reducible refine (i1 _).mono ?_); rintro e w' ⟨rfl, hw⟩; obtain rfl := hw.symm) | (go_at_call 41; (with_reducible refine (i2 _).mono ?_); rintro e w' ⟨rfl, hw⟩; obtain rfl := hw.symm))
    go_ret
    exact ⟨rfl, rfl⟩
  · rw [decide_eq_false h1] at i1
    clear h h1
    go_enter Try.func19, Try.ntmps19
    go_wp2_with (first | (go_at_call 41; (with_reducible refine (i1 _).mono ?_); rintro e w' ⟨rfl, hw⟩; obtain rfl := hw.symm))
    go_ret
    exact ⟨rfl, rfl⟩

theorem iMul_no {x y : Int} (h : ¬ ((0 ≤ x ∧ x ≤ 255) ∧ 0 ≤ y ∧ y ≤ 255)) (w : World) : Calls Try.prog 20 #[.int .i64 x, .int .i64 y] w fun e w' => e = .returned (.int .i64 0) ∧ w' = w := by
  have i1 := iByte_any x
  by_cases h1 : 0 ≤ x ∧ x ≤ 255
  · rw [decide_eq_true h1] at i1
    have i2 := iByte_any y
    rw [decide_eq_false (fun h9 => h ⟨h1, h9⟩)] at i2
    clear h h1
    go_enter Try.func20, Try.ntmps20
    go_wp2_with (first | (go_at_call 42; (with_reducible refine (i1 _).mono ?_); rintro e w' ⟨rfl, hw⟩; obtain rfl := hw.symm) | (go_at_call 42; (with_reducible refine (i2 _).mono ?_); rintro e w' ⟨rfl, hw⟩; obtain rfl := hw.symm))
    go_ret
    exact ⟨rfl, rfl⟩
  · rw [decide_eq_false h1] at i1
    clear h h1
    go_enter Try.func20, Try.ntmps20
    go_wp2_with (first | (go_at_call 42; (with_reducible refine (i1 _).mono ?_); rintro e w' ⟨rfl, hw⟩; obtain rfl := hw.symm))
    go_ret
    exact ⟨rfl, rfl⟩

set_option maxRecDepth 20000 in
theorem iMul_yes {a b : Nat} (ha : a < 256) (hb : b < 256) (w : World) : Calls Try.prog 20 #[.int .i64 (a : Int), .int .i64 (b : Int)] w fun e w' => e = .returned (.int .i64 ((gm a b : Nat) : Int)) ∧ w' = w := by
  have i1 := iByte_any (a : Int)
  rw [decide_eq_true (by omega)] at i1
  have i2 := iByte_any (b : Int)
  rw [decide_eq_true (by omega)] at i2
  have i3 := times_any ha hb
  have h8 := gm_lt ha b
  generalize gm a b = z at *
  go_enter Try.func20, Try.ntmps20
  go_wp2_with (first | (go_at_call 42; (with_reducible refine (i1 _).mono ?_); rintro e w' ⟨rfl, hw⟩; obtain rfl := hw.symm) | (go_at_call 42; (with_reducible refine (i2 _).mono ?_); rintro e w' ⟨rfl, hw⟩; obtain rfl := hw.symm) | (go_at_call 43; (with_reducible refine (i3 _).mono ?_); rintro e w' ⟨rfl, hw⟩; obtain rfl := hw.symm))
  go_ret
  exact ⟨rfl, rfl⟩

theorem walk_gm (x y : Int) (w : World) : Calls Try.prog 5 #[.int .i64 x, .int .i64 y] w fun e w' => e = .returned (.bool true) ∧ Below w.heap.size w w' := by
  obtain ⟨z, i1, i2⟩ : ∃ z : Int, (∀ w, Calls Try.prog 19 #[.int .i64 x, .int .i64 y] w fun e w' => e = .returned (.int .i64 z) ∧ w' = w) ∧ (∀ w, Calls Try.prog 20 #[.int .i64 x, .int .i64 y] w fun e w' => e = .returned (.int .i64 z) ∧ w' = w) := by
    by_cases h : (0 ≤ x ∧ x ≤ 255) ∧ 0 ≤ y ∧ y ≤ 255
    · obtain ⟨a, rfl⟩ : ∃ a : Nat, x = (a : Int) := ⟨x.toNat, by omega⟩
      obtain ⟨b, rfl⟩ : ∃ b : Nat, y = (b : Int) := ⟨y.toNat, by omega⟩
      exact ⟨_, sMul_yes (by omega) (by omega), iMul_yes (by omega) (by omega)⟩
    · exact ⟨0, sMul_no h, iMul_no h⟩
  go_enter Try.func5, Try.ntmps5
  go_wp2_with (first | (go_at_call 19; (with_reducible refine (i1 _).mono ?_); rintro e w' ⟨rfl, hw⟩; obtain rfl := hw.symm) | (go_at_call 20; (with_reducible refine (i2 _).mono ?_); rintro e w' ⟨rfl, hw⟩; obtain rfl := hw.symm))
  go_ret
  exact ⟨rfl, Below.refl _ _⟩
end Go.Proofs.Ytikajjdapbkbeaa
