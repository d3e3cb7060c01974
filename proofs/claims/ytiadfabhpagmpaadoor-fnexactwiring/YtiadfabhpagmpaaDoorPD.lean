/- Doors that are free. -/
import Derived.Test.YtiadfabhpagmpaaDoorPC
import Derived.WalkKit
import Derived.WalkSpells
import Derived.WalkLawsBesides
import Derived.Deep.QuietTactic
import Derived.BigQuiet
import Derived.BigRegion
import Derived.Deep.Cut
namespace Go.Proofs.YtiadfabhpagmpaaDoor
open Go.RowKit

/-- How many links go into b. -/
def dcn (ls : Nat → Lk) (b : Int) : Nat → Nat
  | 0 => 0
  | k + 1 => dcn ls b k + if (ls k).to = b then 1 else 0

theorem dcn_le (ls : Nat → Lk) (b : Int) : ∀ k, dcn ls b k ≤ k
  | 0 => Nat.le_refl _
  | k + 1 => by
    have := dcn_le ls b k
    show dcn ls b k + _ ≤ k + 1
    split <;> omega

set_option maxHeartbeats 4000000 in
theorem free_any {w : World} {d : Nat} {v u : Value} {n m : Nat} {ns : Nat → Nd} {ls : Nat → Lk} (hK : Kds w) (c0 : w.cell? ⟨d, 0, none⟩ = some v) (c1 : w.cell? ⟨d, 1, none⟩ = some u) (hv : Nl w v n ns) (hu : Ll w u m ls) (hm : m ≤ 1048576) (b q : Nat) (hb : b < n) (hn : n ≤ 1048576) (hq : (ns b).kd = (q : Int)) (hq9 : q < 9) :
    Calls Tryd.prog 41 #[.pointer (some ⟨d, 0, none⟩), .int .i64 (b : Int)] w fun e w' => e = .returned (.int .i64 (dors q - (dcn ls (b : Int) m : Int))) ∧ Below w.heap.size w w' := by
  have hd : d < w.heap.size := World.block_lt_of_cell? _ _ c0
  obtain ⟨ao, cap, rfl, hcap⟩ := hv.open
  obtain ⟨bo, cap2, rfl, hcap2⟩ := hu.open
  obtain ⟨nb, noff, rfl, hnl, hnc⟩ := hv.cells (by omega)
  have c2 := (hnc b hb).2.1
  rw [hq] at c2
  obtain ⟨_, _, kd1, _, _⟩ := hK.kc q hq9
  have hl4 : 4 < w.heap.size := World.block_lt_of_cell? _ _ kd1
  have hc2 := hu.cells
  have HC : Hid (0 < m → ∃ b off, bo = some ⟨b, off, none⟩ ∧ b < w.heap.size ∧ ∀ k, k < m → w.cell? ⟨b, off + k * 2, none⟩ = some (.int .i64 (ls k).fr) ∧ w.cell? ⟨b, off + k * 2 + 1, none⟩ = some (.int .i64 (ls k).to)) := hc2
  have hdr : 0 ≤ dors q ∧ dors q ≤ 2 := by unfold dors; split <;> (try split) <;> omega
  clear hv hu hc2 hnc hq hK
  generalize dors q = dr at kd1 hdr ⊢
  go_enter Tryd.func41, Tryd.ntmps41
  go_upto_region 3 with fail
  go_loopw [26, 5, 7] (fun i x _ wr => ∃ k : Nat, i = .int .i64 k ∧ k ≤ m ∧ x = .int .i64 (dr - (dcn ls (b : Int) k : Int)) ∧ Hid (Below w.heap.size w wr)) (fun i _ _ _ => m - (intOf i).toNat)
  case atStart => exact ⟨0, rfl, by omega, by simp [dcn], Below.refl _ _⟩
  case round =>
    obtain ⟨k, rfl, hk, rfl, hbl⟩ := hrel
    have hle := dcn_le ls (b : Int) k
    by_cases h1 : k < m
    · obtain ⟨lb, loff, rfl, hlt, hcell⟩ := HC.out (by omega)
      obtain ⟨l0, l1⟩ := hcell k h1
      have l0 := keepc hbl.out l0
      have l1 := keepc hbl.out l1
      have hb2 : lb < wr.heap.size := Nat.lt_of_lt_of_le hlt hbl.out.size
      have hbl2 : Hid (Below w.heap.size w (wr.alloc (.cells #[.int .i64 (ls k).fr, .int .i64 (ls k).to] 50))) := bstep hbl.out (below_one _ _)
      clear hcell hlt
      have e1 : Hid (dcn ls (b : Int) (k + 1) = dcn ls (b : Int) k + if (ls k).to = (b : Int) then 1 else 0) := rfl
      by_cases h2 : (ls k).to = (b : Int)
      · have e1 : Hid (dcn ls (b : Int) (k + 1) = dcn ls (b : Int) k + 1) := by have := e1.out; rw [if_pos h2] at this; exact this
        have h3 : ((ls k).to == (b : Int)) = true := by simp [h2]
        clear h2
        generalize ls k = l at l0 l1 hbl2 h3
        generalize dcn ls (b : Int) k = cc at hle e1 ⊢
        go_wp2
        go_roundw
        case rel => exact ⟨k + 1, by go_num, by omega, by rw [e1.out]; congr 1; omega, hbl2.out⟩
        case measure => simp [intOf]; omega
      · have e1 : Hid (dcn ls (b : Int) (k + 1) = dcn ls (b : Int) k) := by have := e1.out; rw [if_neg h2] at this; exact this
        have h3 : ((ls k).to == (b : Int)) = false := beq_false_of_ne h2
        generalize ls k = l at l0 l1 hbl2 h3 h2
        generalize dcn ls (b : Int) k = cc at hle e1 ⊢
        go_wp2
        go_roundw
        case rel => exact ⟨k + 1, by go_num, by omega, by rw [e1.out], hbl2.out⟩
        case measure => simp [intOf]; omega
    · have hkn : m = k := by omega
      subst hkn
      go_wp2
      go_ret
      exact ⟨rfl, hbl.out⟩

/-- No door is free. -/
def Full (n m : Nat) (ns : Nat → Nd) (ls : Nat → Lk) : Prop := ∀ b, b < n → dors (ns b).kd.toNat ≤ (dcn ls (b : Int) m : Int)

set_option maxHeartbeats 4000000 in
theorem whole_any {w : World} {d : Nat} {v u : Value} {n m : Nat} {ns : Nat → Nd} {ls : Nat → Lk} (hK : Kds w) (c0 : w.cell? ⟨d, 0, none⟩ = some v) (c1 : w.cell? ⟨d, 1, none⟩ = some u) (hv : Nl w v n ns) (hu : Ll w u m ls) (hm : m ≤ 1048576) (hn : n ≤ 1048576) (hk : ∀ b, b < n → 1 ≤ (ns b).kd ∧ (ns b).kd ≤ 8) :
    Calls Tryd.prog 26 #[.pointer (some ⟨d, 0, none⟩)] w fun e w' => ∃ r : Bool, e = .returned (.bool r) ∧ (r = true ↔ Full n m ns ls ∧ 0 < n) ∧ Below w.heap.size w w' := by
  have hd : d < w.heap.size := World.block_lt_of_cell? _ _ c0
  have HK : Hid (Kds w) := hK
  have HV : Hid (Nl w v n ns) := hv
  have HU : Hid (Ll w u m ls) := hu
  have C0 : Hid (w.cell? ⟨d, 0, none⟩ = some v) := c0
  have C1 : Hid (w.cell? ⟨d, 1, none⟩ = some u) := c1
  have HQ : Hid (∀ b, b < n → 1 ≤ (ns b).kd ∧ (ns b).kd ≤ 8) := hk
  obtain ⟨ao, cap, rfl, hcap⟩ := hv.open
  clear hv hu hK hk c1
  go_enter Tryd.func26, Tryd.ntmps26
  go_upto_region 2 with fail
  clear c0
  go_loopw [10, 3] (fun i _ wr => ∃ k : Nat, i = .int .i64 k ∧ k ≤ n ∧ Hid (∀ b, b < k → dors (ns b).kd.toNat ≤ (dcn ls (b : Int) m : Int)) ∧ Hid (Below w.heap.size w wr)) (fun i _ _ => n - (intOf i).toNat)
  case atStart => exact ⟨0, rfl, by omega, fun b hb => absurd hb (by omega), Below.refl _ _⟩
  case round =>
    obtain ⟨k, rfl, hk, hall, hbl⟩ := hrel
    by_cases h1 : k < n
    · have hq := HQ.out k h1
      obtain ⟨q, hq2⟩ : ∃ q : Nat, (ns k).kd = (q : Int) := ⟨(ns k).kd.toNat, by omega⟩
      have i1 := free_any (HK.out.below hbl.out) (keepc hbl.out C0.out) (keepc hbl.out C1.out) (HV.out.below hbl.out) (HU.out.below hbl.out) hm k q h1 hn hq2 (by omega)
      have hdr : 0 ≤ dors q ∧ dors q ≤ 2 := by unfold dors; split <;> (try split) <;> omega
      have hle := dcn_le ls (k : Int) m
      have HE : Hid (dors (ns k).kd.toNat = dors q) := by show dors _ = _; rw [hq2]; rfl
      clear hq hq2
      by_cases h2 : dors q ≤ (dcn ls (k : Int) m : Int)
      · have HN : Hid (∀ b, b < k + 1 → dors (ns b).kd.toNat ≤ (dcn ls (b : Int) m : Int)) := fun b hb => by
          rcases Nat.lt_or_ge b k with h3 | h3
          · exact hall.out b h3
          · obtain rfl : b = k := by omega
            rw [HE.out]
            exact h2
        generalize dors q = dq at *
        generalize dcn ls (k : Int) m = dc at *
        go_wp2_with (go_at_call 41; (with_reducible refine i1.mono ?_); rintro e w5 ⟨rfl, hb5⟩; have B5 : Hid (Below w.heap.size w w5) := bstep hbl.out hb5; clear hb5)
        go_roundw
        case rel => exact ⟨k + 1, by go_num, by omega, HN.out, B5.out⟩
        case measure => simp [intOf]; omega
      · have H2 : Hid (¬ Full n m ns ls) := fun h => h2 (by have := h k h1; rw [HE.out] at this; exact this)
        generalize dors q = dq at *
        generalize dcn ls (k : Int) m = dc at *
        go_wp2_with (go_at_call 41; (with_reducible refine i1.mono ?_); rintro e w5 ⟨rfl, hb5⟩; have B5 : Hid (Below w.heap.size w w5) := bstep hbl.out hb5; clear hb5)
        go_ret
        exact ⟨_, rfl, ⟨fun h => (by cases h), fun h => absurd h.1 H2.out⟩, B5.out⟩
    · have hkn : n = k := by omega
      subst hkn
      have C0' := keepc hbl.out C0.out
      have hd2 : d < wr.heap.size := Nat.lt_of_lt_of_le hd hbl.out.size
      by_cases h3 : 0 < n
      · go_wp2
        go_ret
        exact ⟨true, rfl, ⟨fun _ => ⟨hall.out, h3⟩, fun _ => rfl⟩, hbl.out⟩
      · go_wp2
        go_ret
        exact ⟨false, rfl, ⟨fun h => (by cases h), fun h => absurd h.2 h3⟩, hbl.out⟩

end Go.Proofs.YtiadfabhpagmpaaDoor
