/- Arrays of sixteen bytes compared. -/
import Derived.Test.YtpjpkkgcnnmljaaGS
import Derived.ChangeKeysEq
namespace Go.Proofs.Ytpjpkkgcnnmljaa
open Go.RowKit

theorem cells5 : Try.prog.cellsOf 5 = 1 := by kernel_rfl
theorem under16 : Try.prog.underlying 74 = some (.array 16 5) := by kernel_rfl

theorem item_step (xs ys : Array Value) (i : Nat) (is : List Nat) (a : Nat) (w : World) (hx : (part 5 xs (i * 1)).run Try.prog w = .ok (.int .u8 (a : Int)) w) (hy : (part 5 ys (i * 1)).run Try.prog w = .ok (.int .u8 0) w) :
    (Op.eqItems 9999 5 1 xs ys (i :: is)).run Try.prog w = if a = 0 then (Op.eqItems 9999 5 1 xs ys is).run Try.prog w else .ok false w := by
  have h3 := run_equalIn_int (P := Try.prog) w 9998 5 .u8 .u8 (a : Int) 0 Try.underlying5
  simp only [Op.eqItems, Sem.run_bind, hx, hy, Result.andThen_ok, h3]
  by_cases h : a = 0
  · subst h
    simp
  · have h4 : ((a : Int) == 0) = false := by simp only [beq_eq_false_iff_ne]; omega
    rw [h4, if_neg h]
    simp

set_option maxHeartbeats 4000000 in
theorem eql16 (f : Nat → Nat) (w : World) {r : Bool} (hr : r = true ↔ ∀ k, k < 16 → f k = 0) : (Op.equalIn 10000 74 (agv f) (.agg #[.int .u8 0, .int .u8 0, .int .u8 0, .int .u8 0, .int .u8 0, .int .u8 0, .int .u8 0, .int .u8 0, .int .u8 0, .int .u8 0, .int .u8 0, .int .u8 0, .int .u8 0, .int .u8 0, .int .u8 0, .int .u8 0])).run Try.prog w = .ok r w := by
  obtain ⟨i5, hi5⟩ : ∃ i, Try.prog.info? 5 = some i := by
    obtain ⟨i0, hi, _⟩ := info_parts Try.info5
    exact ⟨i0, hi⟩
  rw [run_equalIn_array (P := Try.prog) w 9999 _ _ under16 hi5, cells5, show List.range 16 = [0, 1, 2, 3, 4, 5, 6, 7, 8, 9, 10, 11, 12, 13, 14, 15] from rfl]
  rw [item_step _ _ 0 _ (f 0) w (by simp [part, go_sem]) (by simp [part, go_sem])]
  by_cases h0 : f 0 = 0
  rotate_left
  · rw [if_neg h0]
    cases r with
    | true => exact absurd (hr.1 rfl 0 (by omega)) h0
    | false => rfl
  rw [if_pos h0]
  rw [item_step _ _ 1 _ (f 1) w (by simp [part, go_sem]) (by simp [part, go_sem])]
  by_cases h1 : f 1 = 0
  rotate_left
  · rw [if_neg h1]
    cases r with
    | true => exact absurd (hr.1 rfl 1 (by omega)) h1
    | false => rfl
  rw [if_pos h1]
  rw [item_step _ _ 2 _ (f 2) w (by simp [part, go_sem]) (by simp [part, go_sem])]
  by_cases h2 : f 2 = 0
  rotate_left
  · rw [if_neg h2]
    cases r with
    | true => exact absurd (hr.1 rfl 2 (by omega)) h2
    | false => rfl
  rw [if_pos h2]
  rw [item_step _ _ 3 _ (f 3) w (by simp [part, go_sem]) (by simp [part, go_sem])]
  by_cases h3 : f 3 = 0
  rotate_left
  · rw [if_neg h3]
    cases r with
    | true => exact absurd (hr.1 rfl 3 (by omega)) h3
    | false => rfl
  rw [if_pos h3]
  rw [item_step _ _ 4 _ (f 4) w (by simp [part, go_sem]) (by simp [part, go_sem])]
  by_cases h4 : f 4 = 0
  rotate_left
  · rw [if_neg h4]
    cases r with
    | true => exact absurd (hr.1 rfl 4 (by omega)) h4
    | false => rfl
  rw [if_pos h4]
  rw [item_step _ _ 5 _ (f 5) w (by simp [part, go_sem]) (by simp [part, go_sem])]
  by_cases h5 : f 5 = 0
  rotate_left
  · rw [if_neg h5]
    cases r with
    | true => exact absurd (hr.1 rfl 5 (by omega)) h5
    | false => rfl
  rw [if_pos h5]
  rw [item_step _ _ 6 _ (f 6) w (by simp [part, go_sem]) (by simp [part, go_sem])]
  by_cases h6 : f 6 = 0
  rotate_left
  · rw [if_neg h6]
    cases r with
    | true => exact absurd (hr.1 rfl 6 (by omega)) h6
    | false => rfl
  rw [if_pos h6]
  rw [item_step _ _ 7 _ (f 7) w (by simp [part, go_sem]) (by simp [part, go_sem])]
  by_cases h7 : f 7 = 0
  rotate_left
  · rw [if_neg h7]
    cases r with
    | true => exact absurd (hr.1 rfl 7 (by omega)) h7
    | false => rfl
  rw [if_pos h7]
  rw [item_step _ _ 8 _ (f 8) w (by simp [part, go_sem]) (by simp [part, go_sem])]
  by_cases h8 : f 8 = 0
  rotate_left
  · rw [if_neg h8]
    cases r with
    | true => exact absurd (hr.1 rfl 8 (by omega)) h8
    | false => rfl
  rw [if_pos h8]
  rw [item_step _ _ 9 _ (f 9) w (by simp [part, go_sem]) (by simp [part, go_sem])]
  by_cases h9 : f 9 = 0
  rotate_left
  · rw [if_neg h9]
    cases r with
    | true => exact absurd (hr.1 rfl 9 (by omega)) h9
    | false => rfl
  rw [if_pos h9]
  rw [item_step _ _ 10 _ (f 10) w (by simp [part, go_sem]) (by simp [part, go_sem])]
  by_cases h10 : f 10 = 0
  rotate_left
  · rw [if_neg h10]
    cases r with
    | true => exact absurd (hr.1 rfl 10 (by omega)) h10
    | false => rfl
  rw [if_pos h10]
  rw [item_step _ _ 11 _ (f 11) w (by simp [part, go_sem]) (by simp [part, go_sem])]
  by_cases h11 : f 11 = 0
  rotate_left
  · rw [if_neg h11]
    cases r with
    | true => exact absurd (hr.1 rfl 11 (by omega)) h11
    | false => rfl
  rw [if_pos h11]
  rw [item_step _ _ 12 _ (f 12) w (by simp [part, go_sem]) (by simp [part, go_sem])]
  by_cases h12 : f 12 = 0
  rotate_left
  · rw [if_neg h12]
    cases r with
    | true => exact absurd (hr.1 rfl 12 (by omega)) h12
    | false => rfl
  rw [if_pos h12]
  rw [item_step _ _ 13 _ (f 13) w (by simp [part, go_sem]) (by simp [part, go_sem])]
  by_cases h13 : f 13 = 0
  rotate_left
  · rw [if_neg h13]
    cases r with
    | true => exact absurd (hr.1 rfl 13 (by omega)) h13
    | false => rfl
  rw [if_pos h13]
  rw [item_step _ _ 14 _ (f 14) w (by simp [part, go_sem]) (by simp [part, go_sem])]
  by_cases h14 : f 14 = 0
  rotate_left
  · rw [if_neg h14]
    cases r with
    | true => exact absurd (hr.1 rfl 14 (by omega)) h14
    | false => rfl
  rw [if_pos h14]
  rw [item_step _ _ 15 _ (f 15) w (by simp [part, go_sem]) (by simp [part, go_sem])]
  by_cases h15 : f 15 = 0
  rotate_left
  · rw [if_neg h15]
    cases r with
    | true => exact absurd (hr.1 rfl 15 (by omega)) h15
    | false => rfl
  rw [if_pos h15]
  have h : r = true := hr.2 (fun k hk => by
    match k, hk with
    | 0, _ => exact h0
    | 1, _ => exact h1
    | 2, _ => exact h2
    | 3, _ => exact h3
    | 4, _ => exact h4
    | 5, _ => exact h5
    | 6, _ => exact h6
    | 7, _ => exact h7
    | 8, _ => exact h8
    | 9, _ => exact h9
    | 10, _ => exact h10
    | 11, _ => exact h11
    | 12, _ => exact h12
    | 13, _ => exact h13
    | 14, _ => exact h14
    | 15, _ => exact h15
    | k + 16, hk => exact absurd hk (by omega))
  rw [h]
  simp [Op.eqItems]
end Go.Proofs.Ytpjpkkgcnnmljaa
