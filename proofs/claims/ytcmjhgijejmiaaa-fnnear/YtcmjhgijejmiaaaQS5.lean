/- The model's whole numbers: what is shifted down. -/
import Derived.Test.YtcmjhgijejmiaaaQS4
namespace Go.Proofs.Ytcmjhgijejmiaaa.Q
open Go.RowKit

theorem two_wd (A i : Nat) : wd A i + wd A (i + 1) * 4294967296 = A / 4294967296 ^ i % 18446744073709551616 := by
  unfold wd
  rw [Nat.pow_succ, ← Nat.div_div_eq_div_mul]
  omega

theorem shr_word (A q j r : Nat) (hr : r < 32) : (wd A (q + j) + wd A (q + j + 1) * 4294967296) / 2 ^ r % 4294967296 = wd (A / 2 ^ (32 * q + r)) j := by
  rw [two_wd]
  unfold wd
  have e1 : A / 2 ^ (32 * q + r) / 4294967296 ^ j = A / 4294967296 ^ (q + j) / 2 ^ r := by
    rw [Nat.div_div_eq_div_mul, Nat.div_div_eq_div_mul]
    congr 1
    rw [Nat.pow_add 2, Nat.pow_mul, Nat.pow_add 4294967296, show (2 : Nat) ^ 32 = 4294967296 by decide]
    ac_rfl
  rw [e1]
  generalize A / 4294967296 ^ (q + j) = Q
  have e2 : (18446744073709551616 : Nat) = 2 ^ r * 2 ^ (64 - r) := by rw [← Nat.pow_add, show r + (64 - r) = 64 by omega]
  rw [e2, Nat.mod_mul_right_div_self]
  have e3 : 2 ^ (64 - r) = 4294967296 * 2 ^ (32 - r) := by rw [show (4294967296 : Nat) = 2 ^ 32 by decide, ← Nat.pow_add]; congr 1; omega
  rw [e3, Nat.mod_mul_right_mod]

theorem shr_wordI (A q j r : Nat) (hr : r < 32) : (((wd A (q + j) : Nat) : Int) + ((wd A (q + j + 1) : Nat) : Int) * 4294967296) / 2 ^ r % 4294967296 = ((wd (A / 2 ^ (32 * q + r)) j : Nat) : Int) := by
  rw [← shr_word A q j r hr, Int.natCast_emod, Int.natCast_ediv, Int.natCast_add, Int.natCast_mul, Int.natCast_pow]
  rfl

theorem shr_end {A n q r j : Nat} (hA : A < 4294967296 ^ n) (hj : n ≤ q + j) : A / 2 ^ (32 * q + r) % 4294967296 ^ j = A / 2 ^ (32 * q + r) := by
  apply Nat.mod_eq_of_lt
  rw [Nat.div_lt_iff_lt_mul (Nat.pow_pos (by decide))]
  refine Nat.lt_of_lt_of_le hA ?_
  have e : 4294967296 ^ j * 2 ^ (32 * q + r) = 4294967296 ^ (q + j) * 2 ^ r := by
    rw [Nat.pow_add 2, Nat.pow_mul, Nat.pow_add 4294967296, show (2 : Nat) ^ 32 = 4294967296 by decide]
    ac_rfl
  rw [e]
  exact Nat.le_trans (Nat.pow_le_pow_right (by decide) hj) (Nat.le_mul_of_pos_right _ (Nat.pow_pos (by decide)))

/-- What the loop of l1Shr holds on to. -/
def ShrRel (N b : Nat) (w wr : World) (v : Value) (j : Nat) : Prop := Hol b wr v j (N % 4294967296 ^ j) ∧ Below b w wr

theorem shrRel_next {N b : Nat} {w wr w1 : World} {v v' : Value} {j : Nat} {x : Int} {o : Obj} (h : ShrRel N b w wr v j) (hB : b ≤ wr.heap.size) (hx : x = ((wd N j : Nat) : Int))
    (hown : w1.ownsRow b 64 1 v' (j + 1) (wds j (N % 4294967296 ^ j) ++ [.int .u32 x])) (hgrow : (wr.alloc o).grownBy w1 v.ownBlock) : ShrRel N b w w1 v' (j + 1) := by
  obtain ⟨h1, h2⟩ := app_step h.1 _ hx (wd_lt _ _) h.2 hB hown hgrow
  refine ⟨?_, h2⟩
  rw [mod_succ]
  exact h1

set_option maxRecDepth 20000 in
set_option maxHeartbeats 2000000 in
theorem shr_any {w : World} {v : Value} {m A : Nat} (ha : Nt w v m A) (hm : m ≤ 900000) (q r : Nat) (hr : r < 32) (hq : q ≤ 1000000) :
    Calls Try.prog 35 #[v, .int .i64 (32 * (q : Int) + r)] w fun e w' => Below w.heap.size w w' ∧ ∃ v', e = .returned v' ∧ Nt w' v' m (A / 2 ^ (32 * q + r)) := by
  obtain ⟨i0, hi, hz0, hz1, hz2⟩ := info_parts Try.info64
  obtain ⟨n, hn, hh, ht⟩ := ha
  obtain ⟨ao, cap, rfl, hcap, hcell⟩ := hh.shape
  have HLA : Hid (A < 4294967296 ^ n) := hh.1
  have HC : Hid (∀ k, k < n → ∃ g, ao = some ⟨g, 0, none⟩ ∧ 0 ≤ g ∧ g < w.heap.size ∧ w.cell? ⟨g, k, none⟩ = some (.int .u32 ((wd A k : Nat) : Int))) := hcell
  clear hh hcell ht
  have e1 : (32 * (q : Int) + r).tdiv 32 = q := by rw [Int.tdiv_eq_ediv_of_nonneg (by omega)]; omega
  have e2 : (32 * (q : Int) + r).tmod 32 = r := by rw [Int.tmod_eq_emod_of_nonneg (by omega)]; omega
  go_enter Try.func35, Try.ntmps35
  go_wp2
  go_loopw [5, 6] (fun v i wr => ∃ j : Nat, i = .int .i64 ((q : Int) + j) ∧ (q + j ≤ n ∨ j = 0) ∧ Hid (ShrRel (A / 2 ^ (32 * q + r)) w.heap.size w wr v j)) (fun _ i _ => (n + 1) - (intOf i).toNat)
  case atStart => exact ⟨0, by go_num, Or.inr rfl, by rw [Nat.pow_zero, Nat.mod_one]; exact hol_empty w, below_one _⟩
  case round =>
    obtain ⟨j, rfl, hj, hrel⟩ := hrel
    obtain ⟨hH, hbl⟩ := hrel.out
    have hsz := hbl.size
    by_cases h1 : q + j < n
    · obtain ⟨g, rfl, hc⟩ := cells_of HC.out hbl (Nat.le_refl _) h1
      have wa := wd_lt A (q + j)
      have wb := wd_lt A (q + j + 1)
      by_cases h2 : q + j + 1 < n
      · obtain ⟨g2, hg2, hc2⟩ := cells_of HC.out hbl (Nat.le_refl _) h2
        cases hg2
        clear HC
        go_wp2_with (at_builtin; refine wpList_append_own _ rfl _ _ 57 rfl w.heap.size 64 i0 (.int .u32 0) 1 4 Try.underlying57 hi hz0 hz1 hz2 rfl (by decide) _ _ _ rfl (hH.2.alloc _) ⟨wr.heap.size, 0, none⟩ 1 1 [.int .u32 _] rfl rfl (one_new _ _) (one_cell _) (by unfold maxLen; omega) (by omega) (by simp; omega) ?_)
        intro v' w1 hown' hgrow _
        have R : Hid (ShrRel (A / 2 ^ (32 * q + r)) w.heap.size w w1 v' (j + 1)) := shrRel_next hrel.out hsz (shr_wordI A q j r hr) hown' hgrow
        clear hown' hgrow hH hbl hrel
        go_wp2
        go_roundw
        case rel => exact ⟨j + 1, by go_num, Or.inl (by omega), R⟩
        case measure => simp [intOf]; omega
      · have z : wd A (q + j + 1) = 0 := wd_past HLA.out (by omega)
        clear HC
        go_wp2_with (at_builtin; refine wpList_append_own _ rfl _ _ 57 rfl w.heap.size 64 i0 (.int .u32 0) 1 4 Try.underlying57 hi hz0 hz1 hz2 rfl (by decide) _ _ _ rfl (hH.2.alloc _) ⟨wr.heap.size, 0, none⟩ 1 1 [.int .u32 _] rfl rfl (one_new _ _) (one_cell _) (by unfold maxLen; omega) (by omega) (by simp; omega) ?_)
        intro v' w1 hown' hgrow _
        have R : Hid (ShrRel (A / 2 ^ (32 * q + r)) w.heap.size w w1 v' (j + 1)) := shrRel_next hrel.out hsz (by have := shr_wordI A q j r hr; rw [z] at this; simpa using this) hown' hgrow
        clear hown' hgrow hH hbl hrel
        go_wp2
        go_roundw
        case rel => exact ⟨j + 1, by go_num, Or.inl (by omega), R⟩
        case measure => simp [intOf]; omega
    · have HE : Hid (A / 2 ^ (32 * q + r) % 4294967296 ^ j = A / 2 ^ (32 * q + r)) := shr_end HLA.out (by omega)
      have HH : Hid (Hol 0 wr u5 j (A / 2 ^ (32 * q + r))) := by
        have := hH.zero
        rwa [HE.out] at this
      have hjm : j ≤ m := by omega
      clear hH hrel HC
      go_wp2_with (go_at_call 42; refine (trim_any HH.out (by omega)).mono ?_; rintro e w' ⟨rfl, v', rfl, hv⟩)
      go_ret
      refine ⟨hbl, _, rfl, ?_⟩
      obtain ⟨n', hn', r⟩ := hv
      exact ⟨n', by omega, r⟩
end Go.Proofs.Ytcmjhgijejmiaaa.Q
