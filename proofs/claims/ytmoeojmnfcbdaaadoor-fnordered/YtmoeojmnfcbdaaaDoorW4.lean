/- The walk of the law of Order: it answers true, and old memory stays as it was. -/
import Derived.Test.YtmoeojmnfcbdaaaDoorW2
import Derived.Test.YtmoeojmnfcbdaaaDoorW3
namespace Go.Proofs.YtmoeojmnfcbdaaaDoor
open Go.RowKit

theorem ord_eq (S x y : Int) (hx0 : 0 ≤ x) (hy0 : 0 ≤ y) : cmp3 (rk S x 1) (rk S y 1) = ord S x y := by
  unfold cmp3 rk ord
  by_cases hx : x < S <;> by_cases hy : y < S
  · rw [if_pos hx, if_pos hy]
    repeat' split
    all_goals omega
  · rw [if_pos hx, if_neg hy]
    repeat' split
    all_goals omega
  · rw [if_neg hx, if_pos hy]
    repeat' split
    all_goals omega
  · rw [if_neg hx, if_neg hy]
    repeat' split
    all_goals omega

theorem div_no {x D : Int} (h0 : 0 < D) (h1 : D ≤ x) : (x / D == 0) = false := by
  rw [beq_eq_false_iff_ne]
  intro h
  have := (Int.le_ediv_iff_mul_le h0 (a := 1) (b := x)).2 (by omega)
  omega

theorem order_bad {f wd p t S D : Int} (hF : Form f wd p t S D) (x y : Int) (w : World) (hs : Shp w) (h : D ≤ x ∨ D ≤ y) :
    Calls Tryd.prog 6 #[.int .i64 f, .int .u64 x, .int .u64 y] w fun e w' => e = .returned (.int .i64 2) ∧ w' = w := by
  have hD : 0 < D := by rcases hF with ⟨_, _, _, _, _, rfl⟩ | ⟨_, _, _, _, _, rfl⟩ | ⟨_, _, _, _, _, rfl⟩ <;> decide
  have hxa := fun w hs => isBits_any hF x w hs
  have hya := fun w hs => isBits_any hF y w hs
  by_cases hx : D ≤ x
  · rw [div_no hD hx] at hxa
    go_enter Tryd.func6, Tryd.ntmps6
    go_wp2_with (go_at_call 11; refine (hxa _ hs).mono ?_; rintro e w' ⟨rfl, rfl⟩)
    go_ret
    exact ⟨rfl, rfl⟩
  · rw [div_no hD (by omega)] at hya
    by_cases hxd : (x / D == 0) = true
    · rw [hxd] at hxa
      go_enter Tryd.func6, Tryd.ntmps6
      go_wp2_with (go_at_call 11; (first | with_reducible refine (hxa _ hs).mono ?_ | with_reducible refine (hya _ hs).mono ?_); rintro e w' ⟨rfl, rfl⟩)
      go_ret
      exact ⟨rfl, rfl⟩
    · rw [Bool.eq_false_iff.2 hxd] at hxa
      go_enter Tryd.func6, Tryd.ntmps6
      go_wp2_with (go_at_call 11; refine (hxa _ hs).mono ?_; rintro e w' ⟨rfl, rfl⟩)
      go_ret
      exact ⟨rfl, rfl⟩

theorem sorder_bad {f wd p t S D : Int} (hF : Form f wd p t S D) (x y : Int) (w : World) (hx0 : 0 ≤ x) (hx1 : x < 18446744073709551616) (hy0 : 0 ≤ y) (hy1 : y < 18446744073709551616) (h : D ≤ x ∨ D ≤ y) :
    Calls Tryd.prog 7 #[.int .i64 f, .int .u64 x, .int .u64 y] w fun e w' => e = .returned (.int .i64 2) ∧ w' = w := by
  have hD : 0 < D := by rcases hF with ⟨_, _, _, _, _, rfl⟩ | ⟨_, _, _, _, _, rfl⟩ | ⟨_, _, _, _, _, rfl⟩ <;> decide
  have hxa := fun w => l1Are_any hF x hx0 hx1 w
  have hya := fun w => l1Are_any hF y hy0 hy1 w
  clear hx1 hy1
  by_cases hx : D ≤ x
  · rw [div_no hD hx] at hxa
    go_enter Tryd.func7, Tryd.ntmps7
    go_wp2_with (go_at_call 14; refine (hxa _).mono ?_; rintro e w' ⟨rfl, rfl⟩)
    go_ret
    exact ⟨rfl, rfl⟩
  · rw [div_no hD (by omega)] at hya
    by_cases hxd : (x / D == 0) = true
    · rw [hxd] at hxa
      go_enter Tryd.func7, Tryd.ntmps7
      go_wp2_with (go_at_call 14; (first | with_reducible refine (hxa _).mono ?_ | with_reducible refine (hya _).mono ?_); rintro e w' ⟨rfl, rfl⟩)
      go_ret
      exact ⟨rfl, rfl⟩
    · rw [Bool.eq_false_iff.2 hxd] at hxa
      go_enter Tryd.func7, Tryd.ntmps7
      go_wp2_with (go_at_call 14; refine (hxa _).mono ?_; rintro e w' ⟨rfl, rfl⟩)
      go_ret
      exact ⟨rfl, rfl⟩

/-- Both sides answer one and the same number. -/
theorem order_both (f x y : Int) (hx0 : 0 ≤ x) (hx1 : x < 18446744073709551616) (hy0 : 0 ≤ y) (hy1 : y < 18446744073709551616) :
    ∃ r : Int, (∀ w, Calls Tryd.prog 7 #[.int .i64 f, .int .u64 x, .int .u64 y] w fun e w' => e = .returned (.int .i64 r) ∧ w' = w) ∧
      (∀ w, Shp w → Calls Tryd.prog 6 #[.int .i64 f, .int .u64 x, .int .u64 y] w fun e w' => e = .returned (.int .i64 r) ∧ Below w.heap.size w w') := by
  by_cases hf : f < 1 ∨ 3 < f
  · exact ⟨2, fun w => sorder_no f x y w hf, fun w _ => (order_no f x y w hf).mono fun e w' h => ⟨h.1, h.2 ▸ Below.refl _ _⟩⟩
  · obtain ⟨wd, p, t, S, D, hF⟩ : ∃ wd p t S D, Form f wd p t S D := by
      have : f = 1 ∨ f = 2 ∨ f = 3 := by omega
      rcases this with rfl | rfl | rfl
      · exact ⟨16, 11, 15, 32768, 65536, Or.inl ⟨rfl, rfl, rfl, rfl, rfl, rfl⟩⟩
      · exact ⟨32, 24, 127, 2147483648, 4294967296, Or.inr (Or.inl ⟨rfl, rfl, rfl, rfl, rfl, rfl⟩)⟩
      · exact ⟨64, 53, 1023, 9223372036854775808, 18446744073709551616, Or.inr (Or.inr ⟨rfl, rfl, rfl, rfl, rfl, rfl⟩)⟩
    by_cases h : D ≤ x ∨ D ≤ y
    · exact ⟨2, fun w => sorder_bad hF x y w hx0 hx1 hy0 hy1 h, fun w hs => (order_bad hF x y w hs h).mono fun e w' h => ⟨h.1, h.2 ▸ Below.refl _ _⟩⟩
    · refine ⟨ord S x y, fun w => sorder_yes hF x y w hx0 (by omega) hy0 (by omega), fun w hs => ?_⟩
      rw [← ord_eq S x y hx0 hy0]
      exact order_yes hF x y w hs hx0 (by omega) hy0 (by omega)

end Go.Proofs.YtmoeojmnfcbdaaaDoor
