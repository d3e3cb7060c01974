/- What lies on wires; whether a block can fire. -/
import Derived.Test.YtlccicbgepfbbaaWE
import Derived.BigQuiet
import Derived.Deep.QuietTactic
namespace Go.Proofs.Ytlccicbgepfbbaa
open Go.RowKit

/-- A wire's number of samples behind one firing. -/
def stp1 (s : Wr) (b h : Int) : Int := if s.to = b then h - s.ta else h
def stp2 (s : Wr) (b h : Int) : Int := if s.fr = b then h + s.gi else h
def frd (ss : Nat → Wr) (b : Int) (h : Nat → Int) (i : Nat) : Int := stp2 (ss i) b (stp1 (ss i) b (h i))

/-- What lies there at first. -/
def hav (ss : Nat → Wr) (i : Nat) : Int := (ss i).ha

/-- Whether a block can fire. -/
def Can (k : Nat) (ss : Nat → Wr) (h : Nat → Int) (b : Int) : Prop := ∀ i, i < k → (ss i).to = b → (ss i).ta ≤ h i
instance (k : Nat) (ss : Nat → Wr) (h : Nat → Int) (b : Int) : Decidable (Can k ss h b) := by unfold Can; infer_instance

/-- Wires with other samples on them. -/
def nt (ss : Nat → Wr) (h : Nat → Int) (i : Nat) : Wr := ⟨(ss i).fr, (ss i).to, (ss i).gi, (ss i).ta, h i⟩

/-- Numbers far from an int's ends. -/
def Fit (k : Nat) (ss : Nat → Wr) (h : Nat → Int) : Prop := ∀ i, i < k → (-1000000000 ≤ h i ∧ h i ≤ 1000000000) ∧ (1 ≤ (ss i).gi ∧ (ss i).gi ≤ 64) ∧ (1 ≤ (ss i).ta ∧ (ss i).ta ≤ 64)

theorem zs_put4 (f : Nat → Wr) (k : Nat) (y : Int) : (fun j => if j = k * 5 + 4 then y else zs f j) = zs (fun i => if i = k then ⟨(f k).fr, (f k).to, (f k).gi, (f k).ta, y⟩ else f i) := by
  funext j
  unfold zs
  show (if j = k * 5 + 4 then y else (f (j / 5)).n (j % 5)) = (if j / 5 = k then (⟨(f k).fr, (f k).to, (f k).gi, (f k).ta, y⟩ : Wr) else f (j / 5)).n (j % 5)
  by_cases h : j / 5 = k
  · have h5 : j % 5 < 5 := Nat.mod_lt _ (by decide)
    by_cases h4 : j % 5 = 4
    · rw [if_pos (by omega), if_pos h, h4]; rfl
    · rw [if_neg (by omega), if_pos h, h]
      match hm : j % 5, h5 with
      | 0, _ => rfl
      | 1, _ => rfl
      | 2, _ => rfl
      | 3, _ => rfl
      | 4, _ => exact absurd hm h4
  · rw [if_neg (by omega), if_neg h]

theorem zs_congr {f g : Nat → Wr} {n : Nat} (h : ∀ i, i < n → f i = g i) : ils (zs f) (n * 5) = ils (zs g) (n * 5) := ils_congr fun j hj => by
  unfold zs
  rw [h (j / 5) (by omega)]

theorem below_dn (w : World) (n : Nat) : Below w.heap.size w (w.drewN n) := ⟨rfl, rfl, rfl, Nat.le_refl _, fun _ _ => rfl⟩

theorem wp5 (v : Int) (h : -4000000000000000000 ≤ v ∧ v ≤ 4000000000000000000) : wrap64 v = v := by
  unfold wrap64
  omega

set_option maxHeartbeats 4000000 in
theorem sHave_any {w : World} {v : Value} {m : Nat} {ss : Nat → Wr} (hv : Il5 w v m ss) (hm : m ≤ 1048576) :
    Calls Try.prog 46 #[v] w fun e w' => ∃ u, e = .returned u ∧ w'.ownsRow w.heap.size 3 1 u m (ils (hav ss) m) ∧ Below w.heap.size w w' := by
  obtain ⟨i0, hi, hz0, hz1, hz2⟩ := info_parts Try.info3
  have OW : Hid ((w.alloc (.cells #[] 3)).ownsRow w.heap.size 3 1 (.slice (some ⟨w.heap.size, 0, none⟩) 0 0) 0 (ils (hav ss) 0)) := own_empty w 3 1
  have BL : Hid (Below w.heap.size w (w.alloc (.cells #[] 3))) := below_one _ _
  obtain ⟨ao, cap, rfl, hcap, hc⟩ := hv
  have HC : Hid (0 < m → ∃ b off, ao = some ⟨b, off, none⟩ ∧ b < w.heap.size ∧ ∀ k, k < m → w.cell? ⟨b, off + k * 5, none⟩ = some (.int .i64 (ss k).fr) ∧ w.cell? ⟨b, off + k * 5 + 1, none⟩ = some (.int .i64 (ss k).to) ∧ w.cell? ⟨b, off + k * 5 + 2, none⟩ = some (.int .i64 (ss k).gi) ∧ w.cell? ⟨b, off + k * 5 + 3, none⟩ = some (.int .i64 (ss k).ta) ∧ w.cell? ⟨b, off + k * 5 + 4, none⟩ = some (.int .i64 (ss k).ha)) := hc
  clear hc
  go_enter Try.func46, Try.ntmps46
  go_wp2
  generalize w.alloc (.cells #[] 3) = W at *
  go_loopw [3, 4] (fun o i wr => ∃ k : Nat, i = .int .i64 k ∧ k ≤ m ∧ Hid (wr.ownsRow w.heap.size 3 1 o k (ils (hav ss) k) ∧ Below w.heap.size w wr)) (fun _ i _ => m - (intOf i).toNat)
  case atStart => exact ⟨0, rfl, by omega, OW.out, BL.out⟩
  case round =>
    obtain ⟨k, rfl, hk, hrel⟩ := hrel
    by_cases h1 : k < m
    · have HO0 := hrel.out.1
      have HBL : Hid (Below w.heap.size w wr) := hrel.out.2
      clear hrel
      obtain ⟨b, off, rfl, hlt, hcell⟩ := HC.out (by omega)
      have hb := HBL.out
      obtain ⟨c0, c1, c2, c3, c4⟩ := hcell k h1
      obtain ⟨c0, c1, c2, c3, c4⟩ : wr.cell? ⟨b, off + k * 5, none⟩ = some (.int .i64 (ss k).fr) ∧ wr.cell? ⟨b, off + k * 5 + 1, none⟩ = some (.int .i64 (ss k).to) ∧ wr.cell? ⟨b, off + k * 5 + 2, none⟩ = some (.int .i64 (ss k).gi) ∧ wr.cell? ⟨b, off + k * 5 + 3, none⟩ = some (.int .i64 (ss k).ta) ∧ wr.cell? ⟨b, off + k * 5 + 4, none⟩ = some (.int .i64 (ss k).ha) := ⟨(hb.cell (p := ⟨b, off + k * 5, none⟩) hlt).trans c0, (hb.cell (p := ⟨b, off + k * 5 + 1, none⟩) hlt).trans c1, (hb.cell (p := ⟨b, off + k * 5 + 2, none⟩) hlt).trans c2, (hb.cell (p := ⟨b, off + k * 5 + 3, none⟩) hlt).trans c3, (hb.cell (p := ⟨b, off + k * 5 + 4, none⟩) hlt).trans c4⟩
      clear hcell hlt hb
      have HO := HO0
      have HB := HBL.out
      have hb3 := below_one wr (.cells #[.int .i64 (ss k).ha] 3)
      have HO3 : Hid _ := own_below HO hb3
      have HB3 : Hid _ := bstep HB hb3
      clear hb3 HO HB HO0
      go_wp2_with (first | (at_builtin; refine wpList_append_own _ rfl _ _ 27 rfl w.heap.size 3 i0 (.int .i64 0) 1 8 Try.underlying27 hi hz0 hz1 hz2 rfl (by decide) _ _ _ rfl HO3.out ⟨wr.heap.size, 0, none⟩ 1 1 [.int .i64 (ss k).ha] rfl rfl (one_new _ _ _) (by simp [Value.oneCell']) (by unfold maxLen; omega) (by omega) HB3.out.size ?_))
      intro v' w4 hown' hgrow _
      have HB4 : Hid (Below w.heap.size w w4) := grown_below HB3.out (Nat.le_refl _) HO3.out hgrow
      rw [show Value.int .i64 (ss k).ha = .int .i64 (hav ss k) from rfl, ← ils_snoc (hav ss) k] at hown'
      have HO4 : Hid (w4.ownsRow w.heap.size 3 1 v' (k + 1) (ils (hav ss) (k + 1))) := hown'
      clear hown' hgrow HB3 HO3
      go_wp2
      go_roundw
      case rel => exact ⟨k + 1, by go_num, by omega, HO4.out, HB4.out⟩
      case measure => simp [intOf]; omega
    · obtain rfl : k = m := by omega
      have HR : Hid _ := hrel.out
      clear hrel
      go_wp2
      go_ret
      exact ⟨_, rfl, HR.out.1, HR.out.2⟩

set_option maxHeartbeats 4000000 in
theorem iLie_any {w : World} {v : Value} {m : Nat} {ss : Nat → Wr} (hv : Il5 w v m ss) (hm : m ≤ 1048576) :
    Calls Try.prog 52 #[v] w fun e w' => ∃ u, e = .returned u ∧ w'.ownsRow w.heap.size 3 1 u m (ils (hav ss) m) ∧ Below w.heap.size w w' := by
  obtain ⟨i0, hi, hz0, hz1, hz2⟩ := info_parts Try.info3
  have OW : Hid ((w.alloc (.cells #[] 3)).ownsRow w.heap.size 3 1 (.slice (some ⟨w.heap.size, 0, none⟩) 0 0) 0 (ils (hav ss) 0)) := own_empty w 3 1
  have BL : Hid (Below w.heap.size w (w.alloc (.cells #[] 3))) := below_one _ _
  obtain ⟨ao, cap, rfl, hcap, hc⟩ := hv
  have HC : Hid (0 < m → ∃ b off, ao = some ⟨b, off, none⟩ ∧ b < w.heap.size ∧ ∀ k, k < m → w.cell? ⟨b, off + k * 5, none⟩ = some (.int .i64 (ss k).fr) ∧ w.cell? ⟨b, off + k * 5 + 1, none⟩ = some (.int .i64 (ss k).to) ∧ w.cell? ⟨b, off + k * 5 + 2, none⟩ = some (.int .i64 (ss k).gi) ∧ w.cell? ⟨b, off + k * 5 + 3, none⟩ = some (.int .i64 (ss k).ta) ∧ w.cell? ⟨b, off + k * 5 + 4, none⟩ = some (.int .i64 (ss k).ha)) := hc
  clear hc
  go_enter Try.func52, Try.ntmps52
  go_wp2
  generalize w.alloc (.cells #[] 3) = W at *
  go_loopw [3, 9] (fun o i wr => ∃ k : Nat, i = .int .i64 k ∧ k ≤ m ∧ Hid (wr.ownsRow w.heap.size 3 1 o k (ils (hav ss) k) ∧ Below w.heap.size w wr)) (fun _ i _ => m - (intOf i).toNat)
  case atStart => exact ⟨0, rfl, by omega, OW.out, BL.out⟩
  case round =>
    obtain ⟨k, rfl, hk, hrel⟩ := hrel
    by_cases h1 : k < m
    · have HO0 := hrel.out.1
      have HBL : Hid (Below w.heap.size w wr) := hrel.out.2
      clear hrel
      obtain ⟨b, off, rfl, hlt, hcell⟩ := HC.out (by omega)
      have hb := HBL.out
      obtain ⟨c0, c1, c2, c3, c4⟩ := hcell k h1
      obtain ⟨c0, c1, c2, c3, c4⟩ : wr.cell? ⟨b, off + k * 5, none⟩ = some (.int .i64 (ss k).fr) ∧ wr.cell? ⟨b, off + k * 5 + 1, none⟩ = some (.int .i64 (ss k).to) ∧ wr.cell? ⟨b, off + k * 5 + 2, none⟩ = some (.int .i64 (ss k).gi) ∧ wr.cell? ⟨b, off + k * 5 + 3, none⟩ = some (.int .i64 (ss k).ta) ∧ wr.cell? ⟨b, off + k * 5 + 4, none⟩ = some (.int .i64 (ss k).ha) := ⟨(hb.cell (p := ⟨b, off + k * 5, none⟩) hlt).trans c0, (hb.cell (p := ⟨b, off + k * 5 + 1, none⟩) hlt).trans c1, (hb.cell (p := ⟨b, off + k * 5 + 2, none⟩) hlt).trans c2, (hb.cell (p := ⟨b, off + k * 5 + 3, none⟩) hlt).trans c3, (hb.cell (p := ⟨b, off + k * 5 + 4, none⟩) hlt).trans c4⟩
      clear hcell hlt hb
      have hb2 : Below wr.heap.size wr ((ss k).w wr) := below_one _ _
      have hn := one_new ((ss k).w wr) (.int .i64 (ss k).ha) 3
      rw [show ((ss k).w wr).heap.size = wr.heap.size + 1 by simp] at hn
      have ON : Hid _ := hn
      clear hn
      have HO := own_below HO0 hb2
      have HB := bstep HBL.out hb2
      clear hb2
      have hb3 := below_one ((ss k).w wr) (.cells #[.int .i64 (ss k).ha] 3)
      have HO3 : Hid _ := own_below HO hb3
      have HB3 : Hid _ := bstep HB hb3
      clear hb3 HO HB HO0
      go_wp2_with (first | (at_builtin; refine wpList_append_own _ rfl _ _ 27 rfl w.heap.size 3 i0 (.int .i64 0) 1 8 Try.underlying27 hi hz0 hz1 hz2 rfl (by decide) _ _ _ rfl HO3.out ⟨wr.heap.size + 1, 0, none⟩ 1 1 [.int .i64 (ss k).ha] rfl rfl ON.out (by simp [Value.oneCell']) (by unfold maxLen; omega) (by omega) HB3.out.size ?_))
      intro v' w4 hown' hgrow _
      have HB4 : Hid (Below w.heap.size w w4) := grown_below HB3.out (Nat.le_refl _) HO3.out hgrow
      rw [show Value.int .i64 (ss k).ha = .int .i64 (hav ss k) from rfl, ← ils_snoc (hav ss) k] at hown'
      have HO4 : Hid (w4.ownsRow w.heap.size 3 1 v' (k + 1) (ils (hav ss) (k + 1))) := hown'
      clear hown' hgrow HB3 HO3
      go_wp2
      go_roundw
      case rel => exact ⟨k + 1, by go_num, by omega, HO4.out, HB4.out⟩
      case measure => simp [intOf]; omega
    · obtain rfl : k = m := by omega
      have HR : Hid _ := hrel.out
      clear hrel
      go_wp2
      go_ret
      exact ⟨_, rfl, HR.out.1, HR.out.2⟩

set_option maxHeartbeats 4000000 in
theorem iCan_any {w : World} {v : Value} {m : Nat} {ss : Nat → Wr} (bb : Int) (hv : Il5 w v m ss) (hm : m ≤ 1048576) :
    Calls Try.prog 51 #[v, .int .i64 bb] w fun e w' => e = .returned (.bool (decide (Can m ss (hav ss) bb))) ∧ Below w.heap.size w w' := by
  obtain ⟨d, hd⟩ : ∃ d, d = decide (Can m ss (hav ss) bb) := ⟨_, rfl⟩
  rw [← hd]
  have HD : Hid (d = decide (Can m ss (hav ss) bb)) := hd
  clear hd
  obtain ⟨ao, cap, rfl, hcap, hc⟩ := hv
  have HC : Hid (0 < m → ∃ b off, ao = some ⟨b, off, none⟩ ∧ b < w.heap.size ∧ ∀ k, k < m → w.cell? ⟨b, off + k * 5, none⟩ = some (.int .i64 (ss k).fr) ∧ w.cell? ⟨b, off + k * 5 + 1, none⟩ = some (.int .i64 (ss k).to) ∧ w.cell? ⟨b, off + k * 5 + 2, none⟩ = some (.int .i64 (ss k).gi) ∧ w.cell? ⟨b, off + k * 5 + 3, none⟩ = some (.int .i64 (ss k).ta) ∧ w.cell? ⟨b, off + k * 5 + 4, none⟩ = some (.int .i64 (ss k).ha)) := hc
  clear hc
  go_enter Try.func51, Try.ntmps51
  go_wp2
  go_loopw [9] (fun i wr => ∃ k : Nat, i = .int .i64 k ∧ k ≤ m ∧ Hid ((∀ i, i < k → (ss i).to = bb → (ss i).ta ≤ (ss i).ha) ∧ Below w.heap.size w wr)) (fun i _ => m - (intOf i).toNat)
  case atStart => exact ⟨0, rfl, by omega, fun i hi => by omega, Below.refl _ _⟩
  case round =>
    obtain ⟨k, rfl, hk, hrel⟩ := hrel
    by_cases h1 : k < m
    · have HQ : Hid (∀ i, i < k → (ss i).to = bb → (ss i).ta ≤ (ss i).ha) := hrel.out.1
      have HBL : Hid (Below w.heap.size w wr) := hrel.out.2
      clear hrel
      obtain ⟨b, off, rfl, hlt, hcell⟩ := HC.out (by omega)
      have hb := HBL.out
      obtain ⟨c0, c1, c2, c3, c4⟩ := hcell k h1
      obtain ⟨c0, c1, c2, c3, c4⟩ : wr.cell? ⟨b, off + k * 5, none⟩ = some (.int .i64 (ss k).fr) ∧ wr.cell? ⟨b, off + k * 5 + 1, none⟩ = some (.int .i64 (ss k).to) ∧ wr.cell? ⟨b, off + k * 5 + 2, none⟩ = some (.int .i64 (ss k).gi) ∧ wr.cell? ⟨b, off + k * 5 + 3, none⟩ = some (.int .i64 (ss k).ta) ∧ wr.cell? ⟨b, off + k * 5 + 4, none⟩ = some (.int .i64 (ss k).ha) := ⟨(hb.cell (p := ⟨b, off + k * 5, none⟩) hlt).trans c0, (hb.cell (p := ⟨b, off + k * 5 + 1, none⟩) hlt).trans c1, (hb.cell (p := ⟨b, off + k * 5 + 2, none⟩) hlt).trans c2, (hb.cell (p := ⟨b, off + k * 5 + 3, none⟩) hlt).trans c3, (hb.cell (p := ⟨b, off + k * 5 + 4, none⟩) hlt).trans c4⟩
      clear hcell hlt hb
      have B2 : Hid (Below w.heap.size w ((ss k).w wr)) := bstep HBL.out (below_one _ _)
      by_cases ht : (ss k).to = bb
      · have B2 : Hid (Below w.heap.size w (wr.alloc (.cells #[.int .i64 (ss k).fr, .int .i64 bb, .int .i64 (ss k).gi, .int .i64 (ss k).ta, .int .i64 (ss k).ha] 31))) := bstep HBL.out (below_one _ _)
        by_cases hl : (ss k).ha < (ss k).ta
        · have HN : Hid (¬ Can m ss (hav ss) bb) := fun h => by have := h k h1 ht; unfold hav at this; omega
          rw [ht] at c1
          clear ht
          go_wp2
          go_ret
          rw [HD.out, show decide (Can m ss (hav ss) bb) = false from decide_eq_false HN.out]
          exact ⟨rfl, B2.out⟩
        · have HN : Hid (∀ i, i < k + 1 → (ss i).to = bb → (ss i).ta ≤ (ss i).ha) := all_snoc HQ.out (fun _ => by omega)
          rw [ht] at c1
          clear ht
          go_wp2
          go_roundw
          case rel => exact ⟨k + 1, by go_num, by omega, HN.out, B2.out⟩
          case measure => simp [intOf]; omega
      · have HN : Hid (∀ i, i < k + 1 → (ss i).to = bb → (ss i).ta ≤ (ss i).ha) := all_snoc HQ.out (fun h => absurd h ht)
        go_wp2
        go_roundw
        case rel => exact ⟨k + 1, by go_num, by omega, HN.out, B2.out⟩
        case measure => simp [intOf]; omega
    · obtain rfl : k = m := by omega
      have HR : Hid _ := hrel.out
      clear hrel
      go_wp2
      go_ret
      rw [HD.out, show decide (Can k ss (hav ss) bb) = true from decide_eq_true HR.out.1]
      exact ⟨rfl, HR.out.2⟩

set_option maxHeartbeats 4000000 in
theorem sCan_any {w : World} {v u : Value} {m : Nat} {ss : Nat → Wr} {h : Nat → Int} (bb : Int) (hv : Il5 w v m ss) (hu : Il w u m h) (hm : m ≤ 1048576) :
    Calls Try.prog 47 #[v, u, .int .i64 bb] w fun e w' => e = .returned (.bool (decide (Can m ss h bb))) ∧ Below w.heap.size w w' := by
  obtain ⟨d, hd⟩ : ∃ d, d = decide (Can m ss h bb) := ⟨_, rfl⟩
  rw [← hd]
  have HD : Hid (d = decide (Can m ss h bb)) := hd
  clear hd
  obtain ⟨ao, cap, rfl, hcap, hc⟩ := hv
  have HC : Hid (0 < m → ∃ b off, ao = some ⟨b, off, none⟩ ∧ b < w.heap.size ∧ ∀ k, k < m → w.cell? ⟨b, off + k * 5, none⟩ = some (.int .i64 (ss k).fr) ∧ w.cell? ⟨b, off + k * 5 + 1, none⟩ = some (.int .i64 (ss k).to) ∧ w.cell? ⟨b, off + k * 5 + 2, none⟩ = some (.int .i64 (ss k).gi) ∧ w.cell? ⟨b, off + k * 5 + 3, none⟩ = some (.int .i64 (ss k).ta) ∧ w.cell? ⟨b, off + k * 5 + 4, none⟩ = some (.int .i64 (ss k).ha)) := hc
  clear hc
  obtain ⟨bo, cap2, rfl, hcap2, hc2⟩ := hu
  have HC2 : Hid (0 < m → ∃ b off, bo = some ⟨b, off, none⟩ ∧ b < w.heap.size ∧ ∀ k, k < m → w.cell? ⟨b, off + k, none⟩ = some (.int .i64 (h k))) := hc2
  clear hc2
  go_enter Try.func47, Try.ntmps47
  go_wp2
  go_loopw [7] (fun i wr => ∃ k : Nat, i = .int .i64 k ∧ k ≤ m ∧ Hid ((∀ i, i < k → (ss i).to = bb → (ss i).ta ≤ h i) ∧ Below w.heap.size w wr)) (fun i _ => m - (intOf i).toNat)
  case atStart => exact ⟨0, rfl, by omega, fun i hi => by omega, Below.refl _ _⟩
  case round =>
    obtain ⟨k, rfl, hk, hrel⟩ := hrel
    by_cases h1 : k < m
    · have HQ : Hid (∀ i, i < k → (ss i).to = bb → (ss i).ta ≤ h i) := hrel.out.1
      have HBL : Hid (Below w.heap.size w wr) := hrel.out.2
      clear hrel
      obtain ⟨b2, off2, rfl, hlt2, hcell2⟩ := HC2.out (by omega)
      have c5 := (HBL.out.cell (p := ⟨b2, off2 + k, none⟩) hlt2).trans (hcell2 k h1)
      clear hcell2 hlt2
      obtain ⟨b, off, rfl, hlt, hcell⟩ := HC.out (by omega)
      have hb := HBL.out
      obtain ⟨c0, c1, c2, c3, c4⟩ := hcell k h1
      obtain ⟨c0, c1, c2, c3, c4⟩ : wr.cell? ⟨b, off + k * 5, none⟩ = some (.int .i64 (ss k).fr) ∧ wr.cell? ⟨b, off + k * 5 + 1, none⟩ = some (.int .i64 (ss k).to) ∧ wr.cell? ⟨b, off + k * 5 + 2, none⟩ = some (.int .i64 (ss k).gi) ∧ wr.cell? ⟨b, off + k * 5 + 3, none⟩ = some (.int .i64 (ss k).ta) ∧ wr.cell? ⟨b, off + k * 5 + 4, none⟩ = some (.int .i64 (ss k).ha) := ⟨(hb.cell (p := ⟨b, off + k * 5, none⟩) hlt).trans c0, (hb.cell (p := ⟨b, off + k * 5 + 1, none⟩) hlt).trans c1, (hb.cell (p := ⟨b, off + k * 5 + 2, none⟩) hlt).trans c2, (hb.cell (p := ⟨b, off + k * 5 + 3, none⟩) hlt).trans c3, (hb.cell (p := ⟨b, off + k * 5 + 4, none⟩) hlt).trans c4⟩
      clear hcell hlt hb
      by_cases ht : (ss k).to = bb
      · by_cases hl : h k < (ss k).ta
        · have HN : Hid (¬ Can m ss h bb) := fun g => by have := g k h1 ht; omega
          rw [ht] at c1
          clear ht
          go_wp2
          go_quiet (fail)
          go_wp2
          go_ret
          rw [HD.out, show decide (Can m ss h bb) = false from decide_eq_false HN.out]
          exact ⟨rfl, bstep HBL.out (below_dn _ _)⟩
        · have HN : Hid (∀ i, i < k + 1 → (ss i).to = bb → (ss i).ta ≤ h i) := all_snoc HQ.out (fun _ => by omega)
          rw [ht] at c1
          clear ht
          go_wp2
          go_quiet (fail)
          go_wp2
          go_roundw
          case rel => exact ⟨k + 1, by go_num, by omega, HN.out, bstep HBL.out (below_dn _ _)⟩
          case measure => simp [intOf]; omega
      · have HN : Hid (∀ i, i < k + 1 → (ss i).to = bb → (ss i).ta ≤ h i) := all_snoc HQ.out (fun g => absurd g ht)
        go_wp2
        go_quiet (fail)
        go_wp2
        go_roundw
        case rel => exact ⟨k + 1, by go_num, by omega, HN.out, bstep HBL.out (below_dn _ _)⟩
        case measure => simp [intOf]; omega
    · obtain rfl : k = m := by omega
      have HR : Hid _ := hrel.out
      clear hrel
      go_wp2
      go_ret
      rw [HD.out, show decide (Can k ss h bb) = true from decide_eq_true HR.out.1]
      exact ⟨rfl, HR.out.2⟩
end Go.Proofs.Ytlccicbgepfbbaa
