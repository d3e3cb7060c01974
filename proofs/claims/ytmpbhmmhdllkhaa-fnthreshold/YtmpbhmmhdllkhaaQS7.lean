/- The model's whole numbers: the walk of what is shifted up. -/
import Derived.Test.YtmpbhmmhdllkhaaQS6
namespace Go.Proofs.Ytmpbhmmhdllkhaa.Q
open Go.RowKit

set_option maxHeartbeats 2000000 in
theorem shl_any {w : World} {v : Value} {m A : Nat} (ha : Nt w v m A) (hm : m ≤ 900000) (q r : Nat) (hr : r < 32) (hq : q ≤ 10000) :
    Calls Try.prog 15 #[v, .int .i64 (32 * (q : Int) + r)] w fun e w' => Below w.heap.size w w' ∧ ∃ v', e = .returned v' ∧ Nt w' v' (q + m + 1) (A * 2 ^ (32 * q + r)) := by
  obtain ⟨i0, hi, hz0, hz1, hz2⟩ := info_parts Try.info48
  obtain ⟨n, hn, hh, ht⟩ := ha
  obtain ⟨ao, cap, rfl, hcap, hcell⟩ := hh.shape
  have HLA : Hid (A < 4294967296 ^ n) := hh.1
  have HC : Hid (∀ k, k < n → ∃ g, ao = some ⟨g, 0, none⟩ ∧ 0 ≤ g ∧ g < w.heap.size ∧ w.cell? ⟨g, k, none⟩ = some (.int .u32 ((wd A k : Nat) : Int))) := hcell
  clear hh hcell ht
  by_cases hn0 : n = 0
  · subst hn0
    have HA : Hid (A = 0) := by have := HLA.out; show A = 0; simpa using this
    go_enter Try.func15, Try.ntmps15
    go_wp2
    go_ret
    refine ⟨below_one _, _, rfl, 0, by omega, ?_, Or.inl rfl⟩
    rw [HA.out, Nat.zero_mul]
    exact (hol_empty w).zero
  have e1 : (32 * (q : Int) + r).tdiv 32 = q := by rw [Int.tdiv_eq_ediv_of_nonneg (by omega)]; omega
  have e2 : (32 * (q : Int) + r).tmod 32 = r := by rw [Int.tmod_eq_emod_of_nonneg (by omega)]; omega
  have hn1 : ((n : Int) == 0) = false := by simp; omega
  go_enter Try.func15, Try.ntmps15
  go_wp2_with (at_make; refine wpList_make_full _ rfl _ _ 37 rfl w.heap.size 48 i0 (.int .u32 0) 1 Try.underlying37 hi hz0 hz1 .i64 .i64 _ _ (q + n + 1) rfl rfl (by omega) (by omega) (by rw [hz2]; omega) (by unfold maxLen; omega) (Nat.le_refl _) ?_; intro w1 hown hgrow)
  have HM : Hid (ShlRel A q r (q + n + 1) w.heap.size w w1 0) := by
    refine ⟨?_, (Below.refl _ _).grown hgrow (Nat.le_refl _) (fun k hk => by cases hk)⟩
    rw [Nat.pow_zero, Nat.mod_one, Nat.zero_mul]
    exact hol_made hown
  clear hown hgrow
  go_loopw [6] (fun i wr => ∃ k : Nat, i = .int .i64 k ∧ k ≤ n ∧ Hid (ShlRel A q r (q + n + 1) w.heap.size w wr k)) (fun i _ => n - (intOf i).toNat)
  case atStart => exact ⟨0, by go_num, by omega, HM⟩
  case round =>
    obtain ⟨k, rfl, hk, hrel⟩ := hrel
    obtain ⟨hH, hbl⟩ := hrel.out
    have hsz := hbl.size
    by_cases h1 : k < n
    · obtain ⟨g, rfl, hc⟩ := cells_of HC.out hbl (Nat.le_refl _) h1
      have wa := wd_lt A k
      have s3 := (shl_words (A := A) (q := q) (k := k) hr).2.2
      have c1 := hH.cell (q + k) (by omega)
      have c2 := hH.cell (q + k + 1) (by omega)
      have f1 := hH.free (q + k)
      have f2 := hH.free (q + k + 1)
      rw [s3 (q + k + 1) (by omega)] at c2
      have R : ∀ y, wd (A % 4294967296 ^ k * 2 ^ (32 * q + r)) (q + k) = y → _ := fun y hy => shlRel_next hrel.out h1 rfl hr y hy
      generalize wd (A % 4294967296 ^ k * 2 ^ (32 * q + r)) (q + k) = y at *
      have HR := R y rfl
      have HR : Hid _ := HR
      clear HC s3 R hrel hH hbl
      go_wp2
      go_roundw
      case rel => exact ⟨k + 1, by go_num, by omega, HR⟩
      case measure => simp [intOf]; omega
    · obtain rfl : k = n := by omega
      rw [mod_past HLA.out (Nat.le_refl _)] at hH
      have HH := hH.zero
      clear HC hrel hH
      go_wp2_with (go_at_call 22; refine (trim_any HH (by omega)).mono ?_; rintro e w' ⟨rfl, v', rfl, hv⟩)
      go_ret
      refine ⟨hbl, _, rfl, ?_⟩
      obtain ⟨n', hn', r⟩ := hv
      exact ⟨n', by omega, r⟩
end Go.Proofs.Ytmpbhmmhdllkhaa.Q
