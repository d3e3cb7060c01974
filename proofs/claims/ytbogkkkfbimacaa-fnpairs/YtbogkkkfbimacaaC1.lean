/- Bytes that come in; small whole numbers drawn from them. -/
import Derived.Test.YtbogkkkfbimacaaV1
import Derived.Test.YtbogkkkfbimacaaP2
namespace Go.Proofs.Ytbogkkkfbimacaa
open Go.RowKit

/-- What is known of the bytes that came in: each element's cell. -/
def Row (w : World) (a : Option Addr) (n : Nat) : Prop := ∀ i, i < n → ∃ b off z, a = some ⟨b, off, none⟩ ∧ b < w.heap.size ∧ w.cell? ⟨b, off + i, none⟩ = some (.int .u8 z) ∧ 0 ≤ z ∧ z < 256

theorem Row.below {w w' : World} {a : Option Addr} {n : Nat} (h : Row w a n) (hb : Below w.heap.size w w') : Row w' a n := by
  intro i hi
  obtain ⟨b, off, z, rfl, hlt, hc, h0, h1⟩ := h i hi
  exact ⟨b, off, z, rfl, Nat.lt_of_lt_of_le hlt hb.size, (hb.cell (p := ⟨b, off + i, none⟩) hlt).trans hc, h0, h1⟩

set_option maxHeartbeats 1000000 in
theorem big_any {w : World} (a : Option Addr) (n cap : Nat) (_ : n ≤ 9223372036854775807) : Calls Try.prog 7 #[.slice a n cap] w fun e w' => e = .returned (.bool (decide (1048576 < (n : Int)))) ∧ w' = w := by
  go_enter Try.func7, Try.ntmps7
  go_wp2
  go_ret
  exact ⟨rfl, rfl⟩

set_option maxHeartbeats 1000000 in
theorem at_any {w : World} {a : Option Addr} {n cap : Nat} (hr : Row w a n) (hn : n ≤ 1048576) (i : Nat) (hi : i ≤ 100) : Calls Try.prog 17 #[.slice a n cap, .int .i64 i] w fun e w' => ∃ v : Nat, e = .returned (.int .i64 v) ∧ v < 256 ∧ w' = w := by
  by_cases h : i < n
  · obtain ⟨b, off, z, rfl, hlt, hc, h0, h1⟩ := hr i h
    clear hr
    obtain ⟨k, rfl⟩ : ∃ k : Nat, z = k := ⟨z.toNat, by omega⟩
    go_enter Try.func17, Try.ntmps17
    go_wp2
    go_ret
    exact ⟨k, rfl, by omega, rfl⟩
  · clear hr
    go_enter Try.func17, Try.ntmps17
    go_wp2
    go_ret
    refine ⟨(i * 7 + n) % 256, ?_, by omega, rfl⟩
    first | rfl | (congr 2; omega)

/-- The float of a whole number. -/
abbrev fk (n : Int) : Nat := floatOfInt .f64 n

theorem fk_V (n : Int) : V (fk n) n := by
  refine ⟨decide (n < 0), rfl, ?_⟩
  unfold sg
  by_cases h : n < 0
  · simp [h]; omega
  · simp [h]; omega

set_option maxHeartbeats 2000000 in
theorem gauss_any {w : World} {a : Option Addr} {n cap : Nat} (hr : Row w a n) (hn : n ≤ 1048576) (i : Nat) (hi : i ≤ 90) : Calls Try.prog 16 #[.slice a n cap, .int .i64 i] w fun e w' => ∃ x y : Int, e = .returned (Pv (fk x) (fk y)) ∧ (-2 ≤ x ∧ x ≤ 2) ∧ (-2 ≤ y ∧ y ≤ 2) ∧ Below w.heap.size w w' := by
  have hST := rStore
  have HR : Hid (Row w a n) := hr
  clear hr
  have hB := below_one w (.cells #[.float .f64 0, .float .f64 0] 26)
  go_enter Try.func16, Try.ntmps16
  go_wp2_with (first
    | (go_at_call 17; (fail_if_success have := lu); refine (at_any (HR.out.below hB) hn i (by omega)).mono ?_; rintro e w' ⟨u, rfl, lu, hw⟩; obtain rfl := hw.symm)
    | (go_at_call 17; refine (at_any (HR.out.below hB) hn (i + 1) (by omega)).mono ?_; rintro e w' ⟨v, rfl, lv, hw⟩; obtain rfl := hw.symm))
  refine bodyPost_ret (v := Pv (fk ((u : Int) % 5 - 2)) (fk ((v : Int) % 5 - 2))) (by simp [results, Try.results16, go_sem]) rfl ⟨_, _, rfl, by omega, by omega, ?_⟩
  exact below_one _ _
end Go.Proofs.Ytbogkkkfbimacaa
