/- The model's whole numbers: differences, and what is shifted down. -/
import Derived.Test.YtacenbapmelncaaDoorQS3
namespace Go.Proofs.YtacenbapmelncaaDoor.Q
open Go.RowKit

theorem sub_step {A B S C C' k x : Nat} (h : A % 4294967296 ^ k + C * 4294967296 ^ k = S + B % 4294967296 ^ k) (hx : x + C + wd B k = wd A k + C' * 4294967296) :
    A % 4294967296 ^ (k + 1) + C' * 4294967296 ^ (k + 1) = (S + x * 4294967296 ^ k) + B % 4294967296 ^ (k + 1) := by
  rw [mod_succ, mod_succ, pow_succ']
  generalize 4294967296 ^ k = P at *
  have e := congrArg (· * P) hx
  simp only [Nat.add_mul] at e
  have e2 : C' * (P * 4294967296) = C' * 4294967296 * P := by ac_rfl
  omega

/-- What the loop of l1Sub holds on to. -/
def SubRel (A B b : Nat) (w wr : World) (v : Value) (k C : Nat) : Prop := ∃ S, A % 4294967296 ^ k + C * 4294967296 ^ k = S + B % 4294967296 ^ k ∧ Hol b wr v k S ∧ Below b w wr

theorem subRel_next {A B b : Nat} {w wr w1 : World} {v v' : Value} {k C : Nat} {x : Int} {o : Obj} {S : Nat} (he : A % 4294967296 ^ k + C * 4294967296 ^ k = S + B % 4294967296 ^ k) (hH : Hol b wr v k S) (hbl : Below b w wr) (hB : b ≤ wr.heap.size)
    (X C' : Nat) (hX : X + C + wd B k = wd A k + C' * 4294967296) (hx1 : X < 4294967296) (hx : x = (X : Int)) (hown : w1.ownsRow b 35 1 v' (k + 1) (wds k S ++ [.int .u32 x])) (hgrow : (wr.alloc o).grownBy w1 v.ownBlock) :
    SubRel A B b w w1 v' (k + 1) C' := by
  obtain ⟨h1, h2⟩ := app_step hH X hx hx1 hbl hB hown hgrow
  exact ⟨_, sub_step he hX, h1, h2⟩

set_option maxHeartbeats 2000000 in
theorem sub_any {w : World} {v u : Value} {m A B : Nat} (ha : Nt w v m A) (hb : Nt w u m B) (hm : m ≤ 900000) (hAB : B ≤ A) :
    Calls Tryd.prog 13 #[v, u] w fun e w' => Below w.heap.size w w' ∧ ∃ v', e = .returned v' ∧ Nt w' v' m (A - B) := by
  obtain ⟨i0, hi, hz0, hz1, hz2⟩ := info_parts Tryd.info35
  obtain ⟨n, hn, hh, ht⟩ := ha
  obtain ⟨p, hp, hh2, ht2⟩ := hb
  obtain ⟨ao, cap, rfl, hcap, hcell⟩ := hh.shape
  obtain ⟨bo, cap2, rfl, hcap2, hcell2⟩ := hh2.shape
  have HLA : Hid (A < 4294967296 ^ n) := hh.1
  have HLB : Hid (B < 4294967296 ^ p) := hh2.1
  have HLB2 : Hid (B < 4294967296 ^ n) := Nat.lt_of_le_of_lt hAB hh.1
  have HAB : Hid (B ≤ A) := hAB
  have HC : Hid (∀ k, k < n → ∃ g, ao = some ⟨g, 0, none⟩ ∧ 0 ≤ g ∧ g < w.heap.size ∧ w.cell? ⟨g, k, none⟩ = some (.int .u32 ((wd A k : Nat) : Int))) := hcell
  have HC2 : Hid (∀ k, k < p → ∃ g, bo = some ⟨g, 0, none⟩ ∧ 0 ≤ g ∧ g < w.heap.size ∧ w.cell? ⟨g, k, none⟩ = some (.int .u32 ((wd B k : Nat) : Int))) := hcell2
  clear hh hh2 hcell hcell2 ht ht2 hAB
  go_enter Tryd.func13, Tryd.ntmps13
  go_wp2
  go_loopw [5, 6, 7] (fun v c i wr => ∃ k C : Nat, i = .int .i64 k ∧ c = .int .i64 C ∧ C ≤ 1 ∧ k ≤ n ∧ Hid (SubRel A B w.heap.size w wr v k C)) (fun _ _ i _ => (n + 1) - (intOf i).toNat)
  case atStart => exact ⟨0, 0, rfl, rfl, by decide, by omega, 0, by rw [Nat.pow_zero, Nat.mod_one, Nat.mod_one], hol_empty w, below_one _⟩
  case round =>
    obtain ⟨k, C, rfl, rfl, hC, hk, hrel⟩ := hrel
    obtain ⟨S, he, hH, hbl⟩ := hrel.out
    have hsz := hbl.size
    have wa := wd_lt A k
    have wb := wd_lt B k
    by_cases h1 : k < n
    · obtain ⟨g, rfl, hc⟩ := cells_of HC.out hbl (Nat.le_refl _) h1
      have HS : Hid (A % 4294967296 ^ k + C * 4294967296 ^ k = S + B % 4294967296 ^ k) := he
      by_cases h2 : k < p
      · obtain ⟨g2, rfl, hc2⟩ := cells_of HC2.out hbl (Nat.le_refl _) h2
        clear he hrel HC HC2
        by_cases h3 : wd A k < C + wd B k
        · have h4 : ((wd A k : Nat) : Int) - C - wd B k < 0 := by omega
          go_wp2_with (at_builtin; refine wpList_append_own _ rfl _ _ 25 rfl w.heap.size 35 i0 (.int .u32 0) 1 4 Tryd.underlying25 hi hz0 hz1 hz2 rfl (by decide) _ _ _ rfl (hH.2.alloc _) ⟨wr.heap.size, 0, none⟩ 1 1 [.int .u32 _] rfl rfl (one_new _ _) (one_cell _) (by unfold maxLen; omega) (by omega) (by simp; omega) ?_)
          intro v' w1 hown' hgrow _
          have R : Hid (SubRel A B w.heap.size w w1 v' (k + 1) 1) := subRel_next HS.out hH hbl hsz (wd A k + 4294967296 - C - wd B k) 1 (by omega) (by omega) (by omega) hown' hgrow
          clear hown' hgrow hH hbl
          go_wp2
          go_roundw
          case rel => exact ⟨k + 1, 1, by go_num, by go_num, by omega, by omega, R⟩
          case measure => simp [intOf]; omega
        · have h4 : ¬ ((wd A k : Nat) : Int) - C - wd B k < 0 := by omega
          go_wp2_with (at_builtin; refine wpList_append_own _ rfl _ _ 25 rfl w.heap.size 35 i0 (.int .u32 0) 1 4 Tryd.underlying25 hi hz0 hz1 hz2 rfl (by decide) _ _ _ rfl (hH.2.alloc _) ⟨wr.heap.size, 0, none⟩ 1 1 [.int .u32 _] rfl rfl (one_new _ _) (one_cell _) (by unfold maxLen; omega) (by omega) (by simp; omega) ?_)
          intro v' w1 hown' hgrow _
          have R : Hid (SubRel A B w.heap.size w w1 v' (k + 1) 0) := subRel_next HS.out hH hbl hsz (wd A k - C - wd B k) 0 (by omega) (by omega) (by omega) hown' hgrow
          clear hown' hgrow hH hbl
          go_wp2
          go_roundw
          case rel => exact ⟨k + 1, 0, by go_num, by go_num, by omega, by omega, R⟩
          case measure => simp [intOf]; omega
      · have z2 : Hid (wd B k = 0) := wd_past HLB.out (by omega)
        clear he hrel HC HC2
        by_cases h3 : wd A k < C
        · have h4 : ((wd A k : Nat) : Int) - C < 0 := by omega
          go_wp2_with (at_builtin; refine wpList_append_own _ rfl _ _ 25 rfl w.heap.size 35 i0 (.int .u32 0) 1 4 Tryd.underlying25 hi hz0 hz1 hz2 rfl (by decide) _ _ _ rfl (hH.2.alloc _) ⟨wr.heap.size, 0, none⟩ 1 1 [.int .u32 _] rfl rfl (one_new _ _) (one_cell _) (by unfold maxLen; omega) (by omega) (by simp; omega) ?_)
          intro v' w1 hown' hgrow _
          have R : Hid (SubRel A B w.heap.size w w1 v' (k + 1) 1) := subRel_next HS.out hH hbl hsz (wd A k + 4294967296 - C) 1 (by have := z2.out; omega) (by omega) (by omega) hown' hgrow
          clear hown' hgrow hH hbl
          go_wp2
          go_roundw
          case rel => exact ⟨k + 1, 1, by go_num, by go_num, by omega, by omega, R⟩
          case measure => simp [intOf]; omega
        · have h4 : ¬ ((wd A k : Nat) : Int) - C < 0 := by omega
          go_wp2_with (at_builtin; refine wpList_append_own _ rfl _ _ 25 rfl w.heap.size 35 i0 (.int .u32 0) 1 4 Tryd.underlying25 hi hz0 hz1 hz2 rfl (by decide) _ _ _ rfl (hH.2.alloc _) ⟨wr.heap.size, 0, none⟩ 1 1 [.int .u32 _] rfl rfl (one_new _ _) (one_cell _) (by unfold maxLen; omega) (by omega) (by simp; omega) ?_)
          intro v' w1 hown' hgrow _
          have R : Hid (SubRel A B w.heap.size w w1 v' (k + 1) 0) := subRel_next HS.out hH hbl hsz (wd A k - C) 0 (by have := z2.out; omega) (by omega) (by omega) hown' hgrow
          clear hown' hgrow hH hbl
          go_wp2
          go_roundw
          case rel => exact ⟨k + 1, 0, by go_num, by go_num, by omega, by omega, R⟩
          case measure => simp [intOf]; omega
    · obtain rfl : k = n := by omega
      rw [mod_past HLA.out (Nat.le_refl _), mod_past HLB2.out (Nat.le_refl _)] at he
      have HE : Hid (A - B = S) := by
        show A - B = S
        have := HAB.out
        have h3 := hH.1
        rcases (show C = 0 ∨ C = 1 by omega) with rfl | rfl <;> omega
      have HH : Hid (Hol 0 wr u5 k S) := hH.zero
      clear he hrel HC HC2
      go_wp2_with (go_at_call 19; refine (trim_any HH.out (by omega)).mono ?_; rintro e w' ⟨rfl, v', rfl, hv⟩)
      go_ret
      refine ⟨hbl, _, rfl, ?_⟩
      rw [HE.out]
      obtain ⟨n', hn', r⟩ := hv
      exact ⟨n', by omega, r⟩
end Go.Proofs.YtacenbapmelncaaDoor.Q
