/- Quiet. -/
import Derived.Test.YtmecmdiideedfaaLM
namespace Go.Proofs.Ytmecmdiideedfaa
open Go.RowKit

/-- Made 0, and counted. -/
abbrev Qc (L x : Int) : Prop := (wrap64 (-L) < x ∧ x < L) ∧ ¬ x = 0

/-- What stays of a number. -/
def qv (L x : Int) : Int := if Qc L x then 0 else x

/-- How many of the first k were made 0. -/
def qct (L : Int) (xs : Nat → Int) : Nat → Nat
  | 0 => 0
  | k + 1 => qct L xs k + (if Qc L (xs k) then 1 else 0)

theorem qct_le (L : Int) (xs : Nat → Int) : ∀ k, qct L xs k ≤ k
  | 0 => Nat.le_refl _
  | k + 1 => by have := qct_le L xs k; unfold qct; split <;> omega

/-- What Quiet tells. -/
def Pq (w w' : World) (e : Ending) (n : Nat) (ys : Nat → Int) (c : Nat) : Prop := ∃ u, e = .returned (.tuple #[u, .int .i64 (c : Int)]) ∧ w'.ownsRow w.heap.size 3 1 u n (ils ys n) ∧ Below w.heap.size w w'

set_option maxHeartbeats 2000000 in
theorem sQuiet_any {w : World} {v : Value} {n : Nat} {xs : Nat → Int} (L : Int) (hv : Il w v n xs) (hn : n ≤ 1048576) :
    Calls Try.prog 17 #[v, .int .i64 L] w fun e w' => Pq w w' e n (fun k => qv L (xs k)) (qct L xs n) := by
  obtain ⟨i0, hi, hz0, hz1, hz2⟩ := info_parts Try.info3
  obtain ⟨ao, cap, rfl, hcap, hc⟩ := hv
  have HC : Hid (0 < n → ∃ b off, ao = some ⟨b, off, none⟩ ∧ b < w.heap.size ∧ ∀ k, k < n → w.cell? ⟨b, off + k, none⟩ = some (.int .i64 (xs k))) := hc
  clear hc
  go_enter Try.func17, Try.ntmps17
  go_wp2
  go_loopw [6, 7, 8, 9] (fun o s i _ wr => ∃ k : Nat, i = .int .i64 k ∧ s = .int .i64 (qct L xs k : Int) ∧ k ≤ n ∧ Hid (wr.ownsRow w.heap.size 3 1 o k (ils (fun k => qv L (xs k)) k) ∧ Below w.heap.size w wr)) (fun _ _ i _ _ => n - (intOf i).toNat)
  case atStart => exact ⟨0, rfl, rfl, by omega, own_empty w 3 1, below_one _ _⟩
  case round =>
    obtain ⟨k, rfl, rfl, hk, hrel⟩ := hrel
    by_cases h1 : k < n
    · obtain ⟨b, off, rfl, hlt, hcell⟩ := HC.out (by omega)
      have c : wr.cell? ⟨b, off + k, none⟩ = some (.int .i64 (xs k)) := (hrel.out.2.cell (p := ⟨b, off + k, none⟩) hlt).trans (hcell k h1)
      clear hcell
      have hq := qct_le L xs k
      have e1 : Hid (qct L xs (k + 1) = qct L xs k + (if Qc L (xs k) then 1 else 0)) := rfl
      have hb3 := below_one wr (.cells #[.int .i64 (qv L (xs k))] 3)
      have HO3 := own_below hrel.out.1 hb3
      have HB3 := bstep hrel.out.2 hb3
      clear hb3
      have e2 : Hid (qv L (xs k) = if Qc L (xs k) then 0 else xs k) := rfl
      obtain ⟨Y, e4⟩ : ∃ Y, Hid (qv L (xs k) = Y) := ⟨_, rfl⟩
      rw [e4.out] at e2
      rw [e4.out] at HO3 HB3
      generalize qct L xs k = C at hq e1
      by_cases ha : wrap64 (-L) < xs k
      · by_cases hb : xs k < L
        · by_cases hz : xs k = 0
          · have hqn : ¬ Qc L (xs k) := fun h => h.2 hz
            obtain rfl : Y = 0 := e2.out.trans ((if_neg hqn).trans hz)
            have e3 : Hid (qct L xs (k + 1) = C + 0) := e1.out.trans (by rw [if_neg hqn])
            clear e1 e2
            go_wp2_with (first | (at_builtin; refine wpList_append_own _ rfl _ _ 22 rfl w.heap.size 3 i0 (.int .i64 0) 1 8 Try.underlying22 hi hz0 hz1 hz2 rfl (by decide) _ _ _ rfl HO3 ⟨wr.heap.size, 0, none⟩ 1 1 [.int .i64 0] rfl rfl (one_new _ _ _) (by simp [Value.oneCell']) (by unfold maxLen; omega) (by omega) HB3.size ?_))
            intro v' w4 hown' hgrow _
            have HB4 : Hid _ := grown_below HB3 (Nat.le_refl _) HO3 hgrow
            have HO4 : Hid (w4.ownsRow w.heap.size 3 1 v' (k + 1) (ils (fun k => qv L (xs k)) (k + 1))) := by show w4.ownsRow w.heap.size 3 1 v' (k + 1) (ils (fun k => qv L (xs k)) (k + 1)); rw [ils_snoc]; simp only [e4.out]; exact hown'
            clear hown' hgrow HB3 HO3
            go_wp2
            go_roundw
            case rel => exact ⟨k + 1, by go_num, by rw [e3.out]; go_num, by omega, HO4.out, HB4.out⟩
            case measure => simp [intOf]; omega
          · have hqn : Qc L (xs k) := ⟨⟨ha, hb⟩, hz⟩
            obtain rfl : Y = 0 := e2.out.trans (if_pos hqn)
            have e3 : Hid (qct L xs (k + 1) = C + 1) := e1.out.trans (by rw [if_pos hqn])
            clear e1 e2
            go_wp2_with (first | (at_builtin; refine wpList_append_own _ rfl _ _ 22 rfl w.heap.size 3 i0 (.int .i64 0) 1 8 Try.underlying22 hi hz0 hz1 hz2 rfl (by decide) _ _ _ rfl HO3 ⟨wr.heap.size, 0, none⟩ 1 1 [.int .i64 0] rfl rfl (one_new _ _ _) (by simp [Value.oneCell']) (by unfold maxLen; omega) (by omega) HB3.size ?_))
            intro v' w4 hown' hgrow _
            have HB4 : Hid _ := grown_below HB3 (Nat.le_refl _) HO3 hgrow
            have HO4 : Hid (w4.ownsRow w.heap.size 3 1 v' (k + 1) (ils (fun k => qv L (xs k)) (k + 1))) := by show w4.ownsRow w.heap.size 3 1 v' (k + 1) (ils (fun k => qv L (xs k)) (k + 1)); rw [ils_snoc]; simp only [e4.out]; exact hown'
            clear hown' hgrow HB3 HO3
            go_wp2
            go_roundw
            case rel => exact ⟨k + 1, by go_num, by rw [e3.out]; go_num, by omega, HO4.out, HB4.out⟩
            case measure => simp [intOf]; omega
        · have hqn : ¬ Qc L (xs k) := fun h => hb h.1.2
          obtain rfl : Y = xs k := e2.out.trans (if_neg hqn)
          have e3 : Hid (qct L xs (k + 1) = C + 0) := e1.out.trans (by rw [if_neg hqn])
          clear e1 e2
          go_wp2_with (first | (at_builtin; refine wpList_append_own _ rfl _ _ 22 rfl w.heap.size 3 i0 (.int .i64 0) 1 8 Try.underlying22 hi hz0 hz1 hz2 rfl (by decide) _ _ _ rfl HO3 ⟨wr.heap.size, 0, none⟩ 1 1 [.int .i64 (xs k)] rfl rfl (one_new _ _ _) (by simp [Value.oneCell']) (by unfold maxLen; omega) (by omega) HB3.size ?_))
          intro v' w4 hown' hgrow _
          have HB4 : Hid _ := grown_below HB3 (Nat.le_refl _) HO3 hgrow
          have HO4 : Hid (w4.ownsRow w.heap.size 3 1 v' (k + 1) (ils (fun k => qv L (xs k)) (k + 1))) := by show w4.ownsRow w.heap.size 3 1 v' (k + 1) (ils (fun k => qv L (xs k)) (k + 1)); rw [ils_snoc]; simp only [e4.out]; exact hown'
          clear hown' hgrow HB3 HO3
          go_wp2
          go_roundw
          case rel => exact ⟨k + 1, by go_num, by rw [e3.out]; go_num, by omega, HO4.out, HB4.out⟩
          case measure => simp [intOf]; omega
      · have hqn : ¬ Qc L (xs k) := fun h => ha h.1.1
        obtain rfl : Y = xs k := e2.out.trans (if_neg hqn)
        have e3 : Hid (qct L xs (k + 1) = C + 0) := e1.out.trans (by rw [if_neg hqn])
        clear e1 e2
        go_wp2_with (first | (at_builtin; refine wpList_append_own _ rfl _ _ 22 rfl w.heap.size 3 i0 (.int .i64 0) 1 8 Try.underlying22 hi hz0 hz1 hz2 rfl (by decide) _ _ _ rfl HO3 ⟨wr.heap.size, 0, none⟩ 1 1 [.int .i64 (xs k)] rfl rfl (one_new _ _ _) (by simp [Value.oneCell']) (by unfold maxLen; omega) (by omega) HB3.size ?_))
        intro v' w4 hown' hgrow _
        have HB4 : Hid _ := grown_below HB3 (Nat.le_refl _) HO3 hgrow
        have HO4 : Hid (w4.ownsRow w.heap.size 3 1 v' (k + 1) (ils (fun k => qv L (xs k)) (k + 1))) := by show w4.ownsRow w.heap.size 3 1 v' (k + 1) (ils (fun k => qv L (xs k)) (k + 1)); rw [ils_snoc]; simp only [e4.out]; exact hown'
        clear hown' hgrow HB3 HO3
        go_wp2
        go_roundw
        case rel => exact ⟨k + 1, by go_num, by rw [e3.out]; go_num, by omega, HO4.out, HB4.out⟩
        case measure => simp [intOf]; omega
    · obtain rfl : k = n := by omega
      go_wp2
      go_ret2
      exact ⟨_, rfl, hrel.out.1, hrel.out.2⟩

set_option maxHeartbeats 2000000 in
theorem iQuiet_any {w : World} {v : Value} {n : Nat} {xs : Nat → Int} (L : Int) (hv : Il w v n xs) (hn : n ≤ 1048576) :
    Calls Try.prog 18 #[v, .int .i64 L] w fun e w' => Pq w w' e n (fun k => qv L (xs k)) (qct L xs n) := by
  obtain ⟨i0, hi, hz0, hz1, hz2⟩ := info_parts Try.info3
  obtain ⟨ao, cap, rfl, hcap, hc⟩ := hv
  have HC : Hid (0 < n → ∃ b off, ao = some ⟨b, off, none⟩ ∧ b < w.heap.size ∧ ∀ k, k < n → w.cell? ⟨b, off + k, none⟩ = some (.int .i64 (xs k))) := hc
  clear hc
  obtain ⟨w1, hm, hrow, hgr⟩ := run_makeSlice_full (P := Try.prog) w w.heap.size 22 3 i0 (.int .i64 0) 1 Try.underlying22 hi hz0 hz1 .i64 .i64 n (by omega) (by rw [hz2]; omega) (by unfold maxLen; omega) (Nat.le_refl _)
  have hbl : Below w.heap.size w w1 := (Below.refl _ _).grown hgr (Nat.le_refl _) (fun _ h => by cases h)
  have HL : Hid (∀ k, k < n → (madeCells (Value.int .i64 0).cells (n * 1)).toList[k]? = some (.int .i64 0)) := fun k hk => by rw [made_zero, ils_get hk]
  generalize hL : (madeCells (Value.int .i64 0).cells (n * 1)).toList = L0 at hrow HL
  have hLn : L0.length = n := by rw [← hL, Array.length_toList, size_madeCells, Nat.mul_one]
  clear hL hgr hi hz0 hz1 hz2
  have HR : Hid (w1.ownsRow w.heap.size 3 1 (.slice (some ⟨w.heap.size, 0, none⟩) n n) n L0) := hrow
  have HB : Hid (Below w.heap.size w w1) := hbl
  clear hrow hbl
  go_enter Try.func18, Try.ntmps18
  go_wp2
  go_loopw [7, 8, 9, 15] (fun s _ _ i wr => ∃ k : Nat, i = .int .i64 k ∧ s = .int .i64 (qct L xs k : Int) ∧ k ≤ n ∧ Hid (wr.ownsRow w.heap.size 3 1 (.slice (some ⟨w.heap.size, 0, none⟩) n n) n (ils (fun k => qv L (xs k)) k ++ L0.drop k) ∧ Below w.heap.size w wr)) (fun _ _ _ i _ => n - (intOf i).toNat)
  case atStart => exact ⟨0, rfl, rfl, by omega, HR.out, HB.out⟩
  case round =>
    obtain ⟨k, rfl, rfl, hk, hrel⟩ := hrel
    obtain ⟨hrow, hbl⟩ := hrel.out
    by_cases h1 : k < n
    · obtain ⟨b, off, rfl, hlt, hcell⟩ := HC.out (by omega)
      have c : wr.cell? ⟨b, off + k, none⟩ = some (.int .i64 (xs k)) := (hbl.cell (p := ⟨b, off + k, none⟩) hlt).trans (hcell k h1)
      have hfz := hrow.frozenAt k
      have hst := hrow.stored k (.int .i64 (qv L (xs k)))
      have hce := hrow.cellAt k (by omega)
      have hl0 := HL.out k h1
      rw [List.getElem?_append_right (by rw [ils_length]; exact Nat.le_refl _), ils_length, Nat.sub_self, List.getElem?_drop, Nat.add_zero, hl0] at hce
      have hsn : qv L (xs k) = 0 → wr.ownsRow w.heap.size 3 1 (.slice (some ⟨w.heap.size, 0, none⟩) n n) n (ils (fun k => qv L (xs k)) (k + 1) ++ L0.drop (k + 1)) := fun h => by
        rw [ils_snoc, List.append_assoc]
        simp only [h]
        have e0 : [Value.int .i64 0] ++ L0.drop (k + 1) = L0.drop k := by
          rw [List.drop_eq_getElem_cons (by omega : k < L0.length)]
          rw [List.getElem?_eq_getElem (by omega)] at hl0
          rw [Option.some.inj hl0]; rfl
        rw [e0]; exact hrow
      rw [ils_set (fun k => qv L (xs k)) k L0 (by omega)] at hst
      have HST : Hid _ := hst.1
      have HSN : Hid _ := hsn
      have HB2 : Hid _ := hbl
      clear hst hbl hrow hcell hrel hsn
      have hq := qct_le L xs k
      have e1 : Hid (qct L xs (k + 1) = qct L xs k + (if Qc L (xs k) then 1 else 0)) := rfl
      generalize qct L xs k = C at hq e1
      by_cases ha : wrap64 (-L) < xs k
      · by_cases hb : xs k < L
        · by_cases hz : xs k = 0
          · have hqn : ¬ Qc L (xs k) := fun h => h.2 hz
            have e3 : Hid (qct L xs (k + 1) = C + 0) := e1.out.trans (by rw [if_neg hqn])
            clear e1
            have e4 : qv L (xs k) = 0 := (if_neg hqn).trans hz
            have HSN := HSN.out e4
            go_wp2
            go_roundw
            case rel => exact ⟨k + 1, by go_num, by rw [e3.out]; go_num, by omega, HSN, HB2.out⟩
            case measure => simp [intOf]; omega
          · have hqn : Qc L (xs k) := ⟨⟨ha, hb⟩, hz⟩
            have e3 : Hid (qct L xs (k + 1) = C + 1) := e1.out.trans (by rw [if_pos hqn])
            clear e1
            have e4 : qv L (xs k) = 0 := if_pos hqn
            have HSN := HSN.out e4
            go_wp2
            go_roundw
            case rel => exact ⟨k + 1, by go_num, by rw [e3.out]; go_num, by omega, HSN, HB2.out⟩
            case measure => simp [intOf]; omega
        · have hqn : ¬ Qc L (xs k) := fun h => hb h.1.2
          have e3 : Hid (qct L xs (k + 1) = C + 0) := e1.out.trans (by rw [if_neg hqn])
          clear e1
          have e4 : qv L (xs k) = xs k := if_neg hqn
          rw [e4] at HST
          go_wp2
          go_roundw
          case rel => exact ⟨k + 1, by go_num, by rw [e3.out]; go_num, by omega, HST.out, HB2.out.setCell (Nat.le_refl _) _⟩
          case measure => simp [intOf]; omega
      · have hqn : ¬ Qc L (xs k) := fun h => ha h.1.1
        have e3 : Hid (qct L xs (k + 1) = C + 0) := e1.out.trans (by rw [if_neg hqn])
        clear e1
        have e4 : qv L (xs k) = xs k := if_neg hqn
        rw [e4] at HST
        go_wp2
        go_roundw
        case rel => exact ⟨k + 1, by go_num, by rw [e3.out]; go_num, by omega, HST.out, HB2.out.setCell (Nat.le_refl _) _⟩
        case measure => simp [intOf]; omega
    · obtain rfl : k = n := by omega
      rw [List.drop_eq_nil_of_le (by omega), List.append_nil] at hrow
      have HR2 : Hid _ := hrow
      clear hrow hrel
      go_wp2
      go_ret2
      exact ⟨_, rfl, HR2.out, hbl⟩
end Go.Proofs.Ytmecmdiideedfaa
