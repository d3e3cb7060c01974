/- Plans alike, plans handed over. -/
import Derived.Test.YtiadfabhpagmpaaDoorPL
import Derived.WalkKit
import Derived.WalkSpells
import Derived.WalkLawsBesides
import Derived.Deep.QuietTactic
import Derived.BigQuiet
import Derived.BigRegion
import Derived.Deep.Cut
import Derived.BigRegion
namespace Go.Proofs.YtiadfabhpagmpaaDoor
open Go.RowKit

theorem eqNode_yes (x : Nd) (w : World) : Calls Tryd.prog 42 #[x.v, x.v] w fun e w' => e = .returned (.bool true) ∧ Below w.heap.size w w' := by
  have b2 : Below w.heap.size w ((w.alloc (.cells #[.string x.nm, .int .i64 x.kd, .int .i64 x.nn] 47)).alloc (.cells #[.string x.nm, .int .i64 x.kd, .int .i64 x.nn] 47)) := bstep (below_one _ _) (below_one _ _)
  go_enter Tryd.func42, Tryd.ntmps42
  go_wp2
  go_ret
  exact ⟨rfl, b2⟩

theorem eqLink_yes (x : Lk) (w : World) : Calls Tryd.prog 43 #[x.v, x.v] w fun e w' => e = .returned (.bool true) ∧ Below w.heap.size w w' := by
  have b2 : Below w.heap.size w ((w.alloc (.cells #[.int .i64 x.fr, .int .i64 x.to] 50)).alloc (.cells #[.int .i64 x.fr, .int .i64 x.to] 50)) := bstep (below_one _ _) (below_one _ _)
  go_enter Tryd.func43, Tryd.ntmps43
  go_wp2
  go_ret
  exact ⟨rfl, b2⟩

set_option maxHeartbeats 2000000 in
theorem eqNodes_yes {w : World} {v u : Value} {n : Nat} {ns : Nat → Nd} (hv : Nl w v n ns) (hu : Nl w u n ns) (hn : n ≤ 1048576) :
    Calls Tryd.prog 27 #[v, u] w fun e w' => e = .returned (.bool true) ∧ Below w.heap.size w w' := by
  obtain ⟨ao, cap, rfl, hcap⟩ := hv.open
  obtain ⟨bo, cap2, rfl, hcap2⟩ := hu.open
  have HC : Hid ((0 < n → ∃ b off, ao = some ⟨b, off, none⟩ ∧ b < w.heap.size ∧ ∀ k, k < n → w.cell? ⟨b, off + k * 3, none⟩ = some (.string (ns k).nm) ∧ w.cell? ⟨b, off + k * 3 + 1, none⟩ = some (.int .i64 (ns k).kd) ∧ w.cell? ⟨b, off + k * 3 + 2, none⟩ = some (.int .i64 (ns k).nn))) := hv.cells
  have HC2 : Hid ((0 < n → ∃ b off, bo = some ⟨b, off, none⟩ ∧ b < w.heap.size ∧ ∀ k, k < n → w.cell? ⟨b, off + k * 3, none⟩ = some (.string (ns k).nm) ∧ w.cell? ⟨b, off + k * 3 + 1, none⟩ = some (.int .i64 (ns k).kd) ∧ w.cell? ⟨b, off + k * 3 + 2, none⟩ = some (.int .i64 (ns k).nn))) := hu.cells
  clear hv hu
  go_enter Tryd.func27, Tryd.ntmps27
  go_wp2
  go_loopw [5] (fun i wr => ∃ k : Nat, i = .int .i64 k ∧ k ≤ n ∧ Hid (Below w.heap.size w wr)) (fun i _ => n - (intOf i).toNat)
  case atStart => exact ⟨0, rfl, by omega, Below.refl _ _⟩
  case round =>
    obtain ⟨k, rfl, hk, hbl⟩ := hrel
    by_cases h1 : k < n
    · obtain ⟨b, off, rfl, hlt, hcell⟩ := HC.out (by omega)
      obtain ⟨b2, off2, rfl, hlt2, hcell2⟩ := HC2.out (by omega)
      obtain ⟨c0, c1, c2⟩ := hcell k h1
      obtain ⟨d0, d1, d2⟩ := hcell2 k h1
      have ra : Hid (∀ X, Below w.heap.size w X → X.cell? ⟨b, off + k * 3, none⟩ = some (.string (ns k).nm) ∧ X.cell? ⟨b, off + k * 3 + 1, none⟩ = some (.int .i64 (ns k).kd) ∧ X.cell? ⟨b, off + k * 3 + 2, none⟩ = some (.int .i64 (ns k).nn)) := fun X hb => ⟨keepc hb c0, keepc hb c1, keepc hb c2⟩
      have rb : Hid (∀ X, Below w.heap.size w X → X.cell? ⟨b2, off2 + k * 3, none⟩ = some (.string (ns k).nm) ∧ X.cell? ⟨b2, off2 + k * 3 + 1, none⟩ = some (.int .i64 (ns k).kd) ∧ X.cell? ⟨b2, off2 + k * 3 + 2, none⟩ = some (.int .i64 (ns k).nn)) := fun X hb => ⟨keepc hb d0, keepc hb d1, keepc hb d2⟩
      have hs := eqNode_yes (ns k)
      have l0 : Below w.heap.size w wr.drew := hbl.out.drew
      have hb1 : b < wr.heap.size := Nat.lt_of_lt_of_le hlt hbl.out.size
      have hb2 : b2 < wr.heap.size := Nat.lt_of_lt_of_le hlt2 hbl.out.size
      clear hcell hcell2 hlt hlt2 c0 c1 c2 d0 d1 d2
      generalize ns k = x at ra rb hs
      go_upto_region 6 with fail
      refine wp_region_any (by kernel_rfl) ?_
      change wpAny _ _ _ _ _ _ _ (World.drew _)
      refine wpI_any (I := fun X => Below w.heap.size w X) _ _ _ _ ?_
      refine wpI_take (i := 0) (v := ?_) rfl (by kernel_rfl) (by kernel_rfl) (by kernel_rfl) (fun _ _ _ h => h) ⟨by rfl, ?_⟩ ?_
      rotate_left
      · intro X hI; go_simp; try go_bits
        try rw [if_pos (by omega)]
        try with_reducible rfl
      refine wpI_take (i := 1) (v := ?_) rfl (by kernel_rfl) (by kernel_rfl) (by kernel_rfl) (fun _ _ _ h => h) ⟨by rfl, ?_⟩ ?_
      rotate_left
      · intro X hI; go_simp; try go_bits
        try rw [if_pos (by omega)]
        try with_reducible rfl
      refine wpI_take (i := 2) (v := ?_) rfl (by kernel_rfl) (by kernel_rfl) (by kernel_rfl) (fun _ _ _ h => h) ⟨by rfl, ?_⟩ ?_
      rotate_left
      · intro X hI; go_simp; try go_bits
        try rw [if_pos (by omega)]
        try with_reducible rfl
      refine wpI_take (i := 3) (v := ?_) rfl (by kernel_rfl) (by kernel_rfl) (by kernel_rfl) (fun _ _ _ h => h) ⟨by rfl, ?_⟩ ?_
      rotate_left
      · intro X hI; obtain ⟨c0, c1, c2⟩ := ra.out X hI; go_simp; try go_bits
        try rw [if_pos (by omega)]
        try with_reducible rfl
      refine wpI_take (i := 4) (v := ?_) rfl (by kernel_rfl) (by kernel_rfl) (by kernel_rfl) (fun _ _ _ h => h) ⟨by rfl, ?_⟩ ?_
      rotate_left
      · intro X hI; go_simp; try go_bits
        try rw [if_pos (by omega)]
        try with_reducible rfl
      refine wpI_take (i := 5) (v := ?_) rfl (by kernel_rfl) (by kernel_rfl) (by kernel_rfl) (fun _ _ _ h => h) ⟨by rfl, ?_⟩ ?_
      rotate_left
      · intro X hI; go_simp; try go_bits
        try rw [if_pos (by omega)]
        try with_reducible rfl
      refine wpI_take (i := 6) (v := ?_) rfl (by kernel_rfl) (by kernel_rfl) (by kernel_rfl) (fun _ _ _ h => h) ⟨by rfl, ?_⟩ ?_
      rotate_left
      · intro X hI; go_simp; try go_bits
        try rw [if_pos (by omega)]
        try with_reducible rfl
      refine wpI_take (i := 7) (v := ?_) rfl (by kernel_rfl) (by kernel_rfl) (by kernel_rfl) (fun _ _ _ h => h) ⟨by rfl, ?_⟩ ?_
      rotate_left
      · intro X hI; obtain ⟨d0, d1, d2⟩ := rb.out X hI; go_simp; try go_bits
        try rw [if_pos (by omega)]
        try with_reducible rfl
      refine wpI_only (i := 8) rfl (by kernel_rfl) l0 (by rfl) ?_
      intro K hK
      go_simp
      go_wp2_with (go_at_call 42; refine (hs _).mono ?_; rintro e x8 ⟨rfl, hb8⟩; have l1 := l0.trans (hb8.mono l0.size))
      refine wpI_only (i := 9) rfl (by kernel_rfl) l1 (by rfl) ?_
      intro K hK
      go_simp
      try go_bits
      refine hK _ _ ?_
      refine wpI_done l1 (by kernel_rfl) ?_ _
      go_wp2
      go_roundw
      case rel => exact ⟨k + 1, by go_num, by omega, l1⟩
      case measure => simp [intOf]; omega
    · obtain rfl : k = n := by omega
      go_wp2
      go_ret
      exact ⟨rfl, hbl.out⟩

set_option maxHeartbeats 2000000 in
theorem eqLinks_yes {w : World} {v u : Value} {n : Nat} {ns : Nat → Lk} (hv : Ll w v n ns) (hu : Ll w u n ns) (hn : n ≤ 1048576) :
    Calls Tryd.prog 28 #[v, u] w fun e w' => e = .returned (.bool true) ∧ Below w.heap.size w w' := by
  obtain ⟨ao, cap, rfl, hcap⟩ := hv.open
  obtain ⟨bo, cap2, rfl, hcap2⟩ := hu.open
  have HC : Hid ((0 < n → ∃ b off, ao = some ⟨b, off, none⟩ ∧ b < w.heap.size ∧ ∀ k, k < n → w.cell? ⟨b, off + k * 2, none⟩ = some (.int .i64 (ns k).fr) ∧ w.cell? ⟨b, off + k * 2 + 1, none⟩ = some (.int .i64 (ns k).to))) := hv.cells
  have HC2 : Hid ((0 < n → ∃ b off, bo = some ⟨b, off, none⟩ ∧ b < w.heap.size ∧ ∀ k, k < n → w.cell? ⟨b, off + k * 2, none⟩ = some (.int .i64 (ns k).fr) ∧ w.cell? ⟨b, off + k * 2 + 1, none⟩ = some (.int .i64 (ns k).to))) := hu.cells
  clear hv hu
  go_enter Tryd.func28, Tryd.ntmps28
  go_wp2
  go_loopw [5] (fun i wr => ∃ k : Nat, i = .int .i64 k ∧ k ≤ n ∧ Hid (Below w.heap.size w wr)) (fun i _ => n - (intOf i).toNat)
  case atStart => exact ⟨0, rfl, by omega, Below.refl _ _⟩
  case round =>
    obtain ⟨k, rfl, hk, hbl⟩ := hrel
    by_cases h1 : k < n
    · obtain ⟨b, off, rfl, hlt, hcell⟩ := HC.out (by omega)
      obtain ⟨b2, off2, rfl, hlt2, hcell2⟩ := HC2.out (by omega)
      obtain ⟨c0, c1⟩ := hcell k h1
      obtain ⟨d0, d1⟩ := hcell2 k h1
      have ra : Hid (∀ X, Below w.heap.size w X → X.cell? ⟨b, off + k * 2, none⟩ = some (.int .i64 (ns k).fr) ∧ X.cell? ⟨b, off + k * 2 + 1, none⟩ = some (.int .i64 (ns k).to)) := fun X hb => ⟨keepc hb c0, keepc hb c1⟩
      have rb : Hid (∀ X, Below w.heap.size w X → X.cell? ⟨b2, off2 + k * 2, none⟩ = some (.int .i64 (ns k).fr) ∧ X.cell? ⟨b2, off2 + k * 2 + 1, none⟩ = some (.int .i64 (ns k).to)) := fun X hb => ⟨keepc hb d0, keepc hb d1⟩
      have hs := eqLink_yes (ns k)
      have l0 : Below w.heap.size w wr.drew := hbl.out.drew
      have hb1 : b < wr.heap.size := Nat.lt_of_lt_of_le hlt hbl.out.size
      have hb2 : b2 < wr.heap.size := Nat.lt_of_lt_of_le hlt2 hbl.out.size
      clear hcell hcell2 hlt hlt2 c0 c1 d0 d1
      generalize ns k = x at ra rb hs
      go_upto_region 6 with fail
      refine wp_region_any (by kernel_rfl) ?_
      change wpAny _ _ _ _ _ _ _ (World.drew _)
      refine wpI_any (I := fun X => Below w.heap.size w X) _ _ _ _ ?_
      refine wpI_take (i := 0) (v := ?_) rfl (by kernel_rfl) (by kernel_rfl) (by kernel_rfl) (fun _ _ _ h => h) ⟨by rfl, ?_⟩ ?_
      rotate_left
      · intro X hI; go_simp; try go_bits
        try rw [if_pos (by omega)]
        try with_reducible rfl
      refine wpI_take (i := 1) (v := ?_) rfl (by kernel_rfl) (by kernel_rfl) (by kernel_rfl) (fun _ _ _ h => h) ⟨by rfl, ?_⟩ ?_
      rotate_left
      · intro X hI; go_simp; try go_bits
        try rw [if_pos (by omega)]
        try with_reducible rfl
      refine wpI_take (i := 2) (v := ?_) rfl (by kernel_rfl) (by kernel_rfl) (by kernel_rfl) (fun _ _ _ h => h) ⟨by rfl, ?_⟩ ?_
      rotate_left
      · intro X hI; go_simp; try go_bits
        try rw [if_pos (by omega)]
        try with_reducible rfl
      refine wpI_take (i := 3) (v := ?_) rfl (by kernel_rfl) (by kernel_rfl) (by kernel_rfl) (fun _ _ _ h => h) ⟨by rfl, ?_⟩ ?_
      rotate_left
      · intro X hI; obtain ⟨c0, c1⟩ := ra.out X hI; go_simp; try go_bits
        try rw [if_pos (by omega)]
        try with_reducible rfl
      refine wpI_take (i := 4) (v := ?_) rfl (by kernel_rfl) (by kernel_rfl) (by kernel_rfl) (fun _ _ _ h => h) ⟨by rfl, ?_⟩ ?_
      rotate_left
      · intro X hI; go_simp; try go_bits
        try rw [if_pos (by omega)]
        try with_reducible rfl
      refine wpI_take (i := 5) (v := ?_) rfl (by kernel_rfl) (by kernel_rfl) (by kernel_rfl) (fun _ _ _ h => h) ⟨by rfl, ?_⟩ ?_
      rotate_left
      · intro X hI; go_simp; try go_bits
        try rw [if_pos (by omega)]
        try with_reducible rfl
      refine wpI_take (i := 6) (v := ?_) rfl (by kernel_rfl) (by kernel_rfl) (by kernel_rfl) (fun _ _ _ h => h) ⟨by rfl, ?_⟩ ?_
      rotate_left
      · intro X hI; go_simp; try go_bits
        try rw [if_pos (by omega)]
        try with_reducible rfl
      refine wpI_take (i := 7) (v := ?_) rfl (by kernel_rfl) (by kernel_rfl) (by kernel_rfl) (fun _ _ _ h => h) ⟨by rfl, ?_⟩ ?_
      rotate_left
      · intro X hI; obtain ⟨d0, d1⟩ := rb.out X hI; go_simp; try go_bits
        try rw [if_pos (by omega)]
        try with_reducible rfl
      refine wpI_only (i := 8) rfl (by kernel_rfl) l0 (by rfl) ?_
      intro K hK
      go_simp
      go_wp2_with (go_at_call 43; refine (hs _).mono ?_; rintro e x8 ⟨rfl, hb8⟩; have l1 := l0.trans (hb8.mono l0.size))
      refine wpI_only (i := 9) rfl (by kernel_rfl) l1 (by rfl) ?_
      intro K hK
      go_simp
      try go_bits
      refine hK _ _ ?_
      refine wpI_done l1 (by kernel_rfl) ?_ _
      go_wp2
      go_roundw
      case rel => exact ⟨k + 1, by go_num, by omega, l1⟩
      case measure => simp [intOf]; omega
    · obtain rfl : k = n := by omega
      go_wp2
      go_ret
      exact ⟨rfl, hbl.out⟩

set_option maxHeartbeats 4000000 in
theorem eqPlan_yes {w : World} {v u v2 u2 : Value} {n m : Nat} {ns : Nat → Nd} {ls : Nat → Lk} (hv : Nl w v n ns) (hu : Ll w u m ls) (hv2 : Nl w v2 n ns) (hu2 : Ll w u2 m ls) (hn : n ≤ 1048576) (hm : m ≤ 1048576) :
    Calls Tryd.prog 9 #[.agg #[v, u], .agg #[v2, u2]] w fun e w' => e = .returned (.bool true) ∧ Below w.heap.size w w' := by
  obtain ⟨ao, cap, rfl, hcap⟩ := hv.open
  obtain ⟨bo, cap2, rfl, hcap2⟩ := hu.open
  obtain ⟨co, cap3, rfl, hcap3⟩ := hv2.open
  obtain ⟨d0, cap4, rfl, hcap4⟩ := hu2.open
  obtain ⟨w1, hw1⟩ : ∃ w1, w1 = (w.alloc (.cells #[.slice ao n cap, .slice bo m cap2] 31)).alloc (.cells #[.slice co n cap3, .slice d0 m cap4] 31) := ⟨_, rfl⟩
  have BX : Hid (Below w.heap.size w w1) := by rw [hw1]; exact bstep (below_one _ _) (below_one _ _)
  have p0 : w1.cell? ⟨w.heap.size, 0, none⟩ = some (.slice ao n cap) := by rw [hw1]; exact keepc (below_one _ _) (by simp)
  have p1 : w1.cell? ⟨w.heap.size, 1, none⟩ = some (.slice bo m cap2) := by rw [hw1]; exact keepc (below_one _ _) (by simp)
  have q0 : w1.cell? ⟨w.heap.size + 1, 0, none⟩ = some (.slice co n cap3) := by rw [hw1]; simp
  have q1 : w1.cell? ⟨w.heap.size + 1, 1, none⟩ = some (.slice d0 m cap4) := by rw [hw1]; simp
  have P1 : Hid (w1.cell? ⟨w.heap.size, 1, none⟩ = some (.slice bo m cap2)) := p1
  have Q1 : Hid (w1.cell? ⟨w.heap.size + 1, 1, none⟩ = some (.slice d0 m cap4)) := q1
  have HU : Hid (Ll w (.slice bo m cap2) m ls ∧ Ll w (.slice d0 m cap4) m ls) := ⟨hu, hu2⟩
  have i1 := eqNodes_yes (hv.below BX.out) (hv2.below BX.out) hn
  clear hv hu hv2 hu2 p1 q1
  go_enter Tryd.func9, Tryd.ntmps9
  go_upto_region 1 with fail
  rw [← hw1]
  clear hw1
  have h0 := World.block_lt_of_cell? _ _ p0
  have h1 := World.block_lt_of_cell? _ _ q0
  go_upto_region 3 with (go_at_call 27; (with_reducible refine i1.mono ?_); rintro e w5 ⟨rfl, hb5⟩; have B5 : Hid (Below w.heap.size w w5) := bstep BX.out hb5; have p1 := keepc hb5 P1.out; have q1 := keepc hb5 Q1.out; clear hb5)
  have i2 := eqLinks_yes (HU.out.1.below B5.out) (HU.out.2.below B5.out) hm
  have h2 := World.block_lt_of_cell? _ _ p1
  have h3 := World.block_lt_of_cell? _ _ q1
  clear i1 p0 q0 h0 h1
  go_wp2_with (go_at_call 28; (with_reducible refine i2.mono ?_); rintro e w6 ⟨rfl, hb6⟩; have B6 : Hid (Below w.heap.size w w6) := bstep B5.out hb6; clear hb6)
  go_ret
  exact ⟨rfl, B6.out⟩

set_option maxHeartbeats 8000000 in
theorem toPlan_any {w : World} {v u : Value} {n m : Nat} {ns : Nat → Nd} {ls : Nat → Lk} (hv : Nl w v n ns) (hu : Ll w u m ls) (hn : n ≤ 1048576) (hm : m ≤ 1048576) :
    Calls Tryd.prog 7 #[.agg #[v, u]] w fun e w' => Below w.heap.size w w' ∧ ∃ v' u', e = .returned (.agg #[v', u']) ∧ Nl w' v' n ns ∧ Ll w' u' m ls := by
  obtain ⟨ao, cap, rfl, hcap⟩ := hv.open
  obtain ⟨bo, cap2, rfl, hcap2⟩ := hu.open
  have HV : Hid (Nl w (.slice ao n cap) n ns) := hv
  have HU : Hid (Ll w (.slice bo m cap2) m ls) := hu
  clear hv hu
  obtain ⟨wa, hwa⟩ : ∃ wa, wa = w.alloc (.cells #[.slice ao n cap, .slice bo m cap2] 25) := ⟨_, rfl⟩
  obtain ⟨wb, hwb⟩ : ∃ wb, wb = wa.alloc (.cells #[.slice none 0 0, .slice none 0 0] 31) := ⟨_, rfl⟩
  obtain ⟨w1, hw1⟩ : ∃ w1, w1 = wb.alloc (.cells #[.slice none 0 0, .slice none 0 0] 31) := ⟨_, rfl⟩
  have sa : wa.heap.size = w.heap.size + 1 := by rw [hwa]; simp
  have sb : wb.heap.size = w.heap.size + 1 + 1 := by rw [hwb, ← sa]; simp
  have s1 : w1.heap.size = w.heap.size + 3 := by rw [hw1]; simp [sb]
  have Ba : Below w.heap.size w wa := by rw [hwa]; exact below_one _ _
  have Bb : Below wa.heap.size wa wb := by rw [hwb]; exact below_one _ _
  have Bc : Below wb.heap.size wb w1 := by rw [hw1]; exact below_one _ _
  have BX : Hid (Below w.heap.size w w1) := bstep (bstep Ba Bb) Bc
  have p0 : w1.cell? ⟨w.heap.size, 0, none⟩ = some (.slice ao n cap) := keepc Bc (keepc Bb (by rw [hwa]; simp))
  have p1 : w1.cell? ⟨w.heap.size, 1, none⟩ = some (.slice bo m cap2) := keepc Bc (keepc Bb (by rw [hwa]; simp))
  have r0 : w1.cell? ⟨w.heap.size + 1, 0, none⟩ = some (.slice none 0 0) := by rw [← sa]; exact keepc Bc (by rw [hwb]; simp)
  have r1 : w1.cell? ⟨w.heap.size + 1, 1, none⟩ = some (.slice none 0 0) := by rw [← sa]; exact keepc Bc (by rw [hwb]; simp)
  have o0 : w1.cell? ⟨w.heap.size + 1 + 1, 0, none⟩ = some (.slice none 0 0) := by rw [← sb, hw1]; simp
  have o1 : w1.cell? ⟨w.heap.size + 1 + 1, 1, none⟩ = some (.slice none 0 0) := by rw [← sb, hw1]; simp
  have rf : ∀ o, w1.frozen? ⟨w.heap.size + 1, o, none⟩ = false := fun o => by rw [← sa, hw1, hwb]; simp
  have of : ∀ o, w1.frozen? ⟨w.heap.size + 1 + 1, o, none⟩ = false := fun o => by rw [← sb, hw1]; simp
  go_enter Tryd.func7, Tryd.ntmps7
  go_upto_region 2 with fail
  rw [← hwa, ← hwb, ← hw1]
  clear hwa hwb hw1 Ba Bb Bc sa sb
  obtain ⟨A, hA⟩ : ∃ A, A = w.heap.size := ⟨_, rfl⟩
  have HA : Hid (A = w.heap.size) := hA
  have hlt : A < w1.heap.size ∧ A + 1 < w1.heap.size ∧ A + 1 + 1 < w1.heap.size := by omega
  rw [← hA] at p0 p1 r0 r1 o0 o1 rf of ⊢
  have P1 : Hid (w1.cell? ⟨A, 1, none⟩ = some (.slice bo m cap2)) := p1
  have R0 : Hid (w1.cell? ⟨A + 1, 0, none⟩ = some (.slice none 0 0)) := r0
  have R1 : Hid (w1.cell? ⟨A + 1, 1, none⟩ = some (.slice none 0 0)) := r1
  have O0 : Hid (w1.cell? ⟨A + 1 + 1, 0, none⟩ = some (.slice none 0 0)) := o0
  have O1 : Hid (w1.cell? ⟨A + 1 + 1, 1, none⟩ = some (.slice none 0 0)) := o1
  have RF : Hid (∀ o, w1.frozen? ⟨A + 1, o, none⟩ = false) := rf
  have OF : Hid (∀ o, w1.frozen? ⟨A + 1 + 1, o, none⟩ = false) := of
  clear p1 r0 r1 o0 o1 rf of s1 hA
  have t1 := toNodes_any (HV.out.below BX.out) hn
  go_upto_region 3 with (go_at_call 22; (with_reducible refine t1.mono ?_); rintro e w5 ⟨hb5, v5, rfl, ho5⟩; obtain ⟨va, vc, rfl⟩ := own_op ho5; have B5 : Hid (Below w1.heap.size w1 w5) := hb5; have V5 : Hid (w5.ownsRow w1.heap.size 47 3 (.slice va n vc) n (vls (ndc ns) (n * 3))) := ho5; have c5 := keepc hb5 O0.out; have f5 : w5.frozen? ⟨A + 1 + 1, 0, none⟩ = false := (hb5.frozen (p := ⟨A + 1 + 1, 0, none⟩) hlt.2.2).trans (OF.out 0); clear hb5 ho5)
  clear t1 p0 c5 f5
  have HGE : Hid (w.heap.size ≤ A + 1 + 1) := by show w.heap.size ≤ A + 1 + 1; rw [← HA.out]; omega
  have B6 : Hid (Below w.heap.size w (w5.setCell ⟨A + 1 + 1, 0, none⟩ (.slice va n vc))) := (bstep BX.out B5.out).setCell (p := ⟨A + 1 + 1, 0, none⟩) HGE.out _
  have V6 : Hid ((w5.setCell ⟨A + 1 + 1, 0, none⟩ (.slice va n vc)).ownsRow w1.heap.size 47 3 (.slice va n vc) n (vls (ndc ns) (n * 3))) := own_other V5.out (fun e => by have := (World.ownsRow.lt V5.out _ e).1; omega)
  have C0 : Hid ((w5.setCell ⟨A + 1 + 1, 0, none⟩ (.slice va n vc)).cell? ⟨A + 1 + 1, 0, none⟩ = some (.slice va n vc)) := World.cell?_setCell_same' _ _ _ (by rw [keepc B5.out O0.out]; rfl)
  have C1 : Hid ((w5.setCell ⟨A + 1 + 1, 0, none⟩ (.slice va n vc)).cell? ⟨A + 1 + 1, 1, none⟩ = some (.slice none 0 0)) := (World.cell?_setCell_other _ _ _ _ (by simp)).trans (keepc B5.out O1.out)
  have D0 : Hid ((w5.setCell ⟨A + 1 + 1, 0, none⟩ (.slice va n vc)).cell? ⟨A + 1, 0, none⟩ = some (.slice none 0 0)) := (World.cell?_setCell_other _ _ _ _ (by simp)).trans (keepc B5.out R0.out)
  have D1 : Hid ((w5.setCell ⟨A + 1 + 1, 0, none⟩ (.slice va n vc)).cell? ⟨A + 1, 1, none⟩ = some (.slice none 0 0)) := (World.cell?_setCell_other _ _ _ _ (by simp)).trans (keepc B5.out R1.out)
  have p1 : (w5.setCell ⟨A + 1 + 1, 0, none⟩ (.slice va n vc)).cell? ⟨A, 1, none⟩ = some (.slice bo m cap2) := (World.cell?_setCell_other _ _ _ _ (by simp)).trans (keepc B5.out P1.out)
  have DF : Hid (∀ o, (w5.setCell ⟨A + 1 + 1, 0, none⟩ (.slice va n vc)).frozen? ⟨A + 1, o, none⟩ = false) := fun o => by have := (B5.out.frozen (p := ⟨A + 1, o, none⟩) hlt.2.1).trans (RF.out o); simpa using this
  have CF : Hid (∀ o, (w5.setCell ⟨A + 1 + 1, 0, none⟩ (.slice va n vc)).frozen? ⟨A + 1 + 1, o, none⟩ = false) := fun o => by have := (B5.out.frozen (p := ⟨A + 1 + 1, o, none⟩) hlt.2.2).trans (OF.out o); simpa using this
  have S6 : w1.heap.size ≤ (w5.setCell ⟨A + 1 + 1, 0, none⟩ (.slice va n vc)).heap.size := by simpa [World.setCell] using B5.out.size
  generalize w5.setCell ⟨A + 1 + 1, 0, none⟩ (.slice va n vc) = w6 at B6 V6 C0 C1 D0 D1 p1 DF CF S6 ⊢
  have t2 := toLinks_any (HU.out.below B6.out) hm
  have hpl : A < w6.heap.size := by omega
  go_upto_region 4 with (go_at_call 23; (with_reducible refine t2.mono ?_); rintro e w7 ⟨hb7, u7, rfl, ho7⟩; obtain ⟨ua, uc, rfl⟩ := own_op ho7; have B7 : Hid (Below w6.heap.size w6 w7) := hb7; have U7 : Hid (w7.ownsRow w6.heap.size 50 2 (.slice ua m uc) m (vls (lkc ls) (m * 2))) := ho7; have c7 := keepc hb7 C1.out; have f7 : w7.frozen? ⟨A + 1 + 1, 1, none⟩ = false := (hb7.frozen (p := ⟨A + 1 + 1, 1, none⟩) (by show A + 1 + 1 < w6.heap.size; omega)).trans (CF.out 1); clear hb7 ho7)
  clear t2 c7 f7 p1 hpl
  have B8 : Hid (Below w.heap.size w (w7.setCell ⟨A + 1 + 1, 1, none⟩ (.slice ua m uc))) := (bstep B6.out B7.out).setCell (p := ⟨A + 1 + 1, 1, none⟩) HGE.out _
  have V8 : Hid ((w7.setCell ⟨A + 1 + 1, 1, none⟩ (.slice ua m uc)).ownsRow w1.heap.size 47 3 (.slice va n vc) n (vls (ndc ns) (n * 3))) := own_other (own_below V6.out B7.out) (fun e => by have := (World.ownsRow.lt V6.out _ e).1; omega)
  have U8 : Hid ((w7.setCell ⟨A + 1 + 1, 1, none⟩ (.slice ua m uc)).ownsRow w6.heap.size 50 2 (.slice ua m uc) m (vls (lkc ls) (m * 2))) := own_other U7.out (fun e => by have := (World.ownsRow.lt U7.out _ e).1; omega)
  have e0 : (w7.setCell ⟨A + 1 + 1, 1, none⟩ (.slice ua m uc)).cell? ⟨A + 1 + 1, 0, none⟩ = some (.slice va n vc) := (World.cell?_setCell_other _ _ _ _ (by simp)).trans (keepc B7.out C0.out)
  have e1 : (w7.setCell ⟨A + 1 + 1, 1, none⟩ (.slice ua m uc)).cell? ⟨A + 1 + 1, 1, none⟩ = some (.slice ua m uc) := World.cell?_setCell_same' _ _ _ (by rw [keepc B7.out C1.out]; rfl)
  have d0 : (w7.setCell ⟨A + 1 + 1, 1, none⟩ (.slice ua m uc)).cell? ⟨A + 1, 0, none⟩ = some (.slice none 0 0) := (World.cell?_setCell_other _ _ _ _ (by simp)).trans (keepc B7.out D0.out)
  have d1 : (w7.setCell ⟨A + 1 + 1, 1, none⟩ (.slice ua m uc)).cell? ⟨A + 1, 1, none⟩ = some (.slice none 0 0) := (World.cell?_setCell_other _ _ _ _ (by simp)).trans (keepc B7.out D1.out)
  have df : ∀ o, (w7.setCell ⟨A + 1 + 1, 1, none⟩ (.slice ua m uc)).frozen? ⟨A + 1, o, none⟩ = false := fun o => by have := (B7.out.frozen (p := ⟨A + 1, o, none⟩) (by show A + 1 < w6.heap.size; omega)).trans (DF.out o); simpa using this
  have S8 : w6.heap.size ≤ (w7.setCell ⟨A + 1 + 1, 1, none⟩ (.slice ua m uc)).heap.size := by simpa [World.setCell] using B7.out.size
  generalize w7.setCell ⟨A + 1 + 1, 1, none⟩ (.slice ua m uc) = w8 at B8 V8 U8 e0 e1 d0 d1 df S8 ⊢
  have f0 := df 0
  have f1 := df 1
  clear df
  go_wp2
  refine bodyPost_ret (v := .agg #[.slice va n vc, .slice ua m uc]) (by simp [results, go_sem, d0, d1]) rfl ?_
  have HG1 : w.heap.size ≤ A + 1 := by rw [← HA.out]; omega
  refine ⟨(B8.out.setCell (p := ⟨A + 1, 0, none⟩) HG1 _).setCell (p := ⟨A + 1, 1, none⟩) HG1 _, _, _, rfl, nl_of_own (own_other (own_other V8.out (fun e => by have := (World.ownsRow.lt V8.out _ e).1; omega)) (fun e => by have := (World.ownsRow.lt V8.out _ e).1; omega)), ll_of_own (own_other (own_other U8.out (fun e => by have := (World.ownsRow.lt U8.out _ e).1; omega)) (fun e => by have := (World.ownsRow.lt U8.out _ e).1; omega))⟩

end Go.Proofs.YtiadfabhpagmpaaDoor
