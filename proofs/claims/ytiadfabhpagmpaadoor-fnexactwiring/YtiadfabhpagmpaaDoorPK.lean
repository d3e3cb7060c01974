/- Plans measured. -/
import Derived.Test.YtiadfabhpagmpaaDoorPE
import Derived.WalkKit
import Derived.WalkSpells
import Derived.WalkLawsBesides
import Derived.Deep.QuietTactic
import Derived.BigQuiet
import Derived.BigRegion
import Derived.Deep.Cut
namespace Go.Proofs.YtiadfabhpagmpaaDoor
open Go.RowKit

theorem szNode_any (x : Nd) (hx : x.nm.size ≤ 9223372036854775807) (l : Int) (hl : 0 ≤ l ∧ l ≤ 1048576) (w : World) : Calls Tryd.prog 33 #[x.v, .int .i64 l] w fun e w' => ∃ r : Int, e = .returned (.int .i64 r) ∧ (r = -1 ∨ (0 ≤ r ∧ r ≤ l ∧ x.nm.size ≤ 1048576)) ∧ Below w.heap.size w w' := by
  have hb : Hid (Below w.heap.size w (w.alloc (.cells #[.string x.nm, .int .i64 x.kd, .int .i64 x.nn] 71))) := below_one w _
  by_cases h : l - (x.nm.size : Int) < 0
  · go_enter Tryd.func33, Tryd.ntmps33
    go_wp2
    go_ret
    exact ⟨_, rfl, .inl rfl, hb.out⟩
  · go_enter Tryd.func33, Tryd.ntmps33
    go_wp2
    go_ret
    exact ⟨_, rfl, .inr ⟨by omega, by omega, by omega⟩, hb.out⟩

set_option maxHeartbeats 4000000 in
theorem szNodes_any {w : World} {v : Value} {n : Nat} {ns : Nat → Nd} (hv : Nl w v n ns) (hn : n ≤ 9223372036854775807) (hs : ∀ i, i < n → (ns i).nm.size ≤ 9223372036854775807) :
    Calls Tryd.prog 16 #[v, .int .i64 1048576] w fun e w' => ∃ r : Int, e = .returned (.int .i64 r) ∧ (r = -1 ∨ (0 ≤ r ∧ r ≤ 1048576 ∧ n ≤ 1048576 ∧ ∀ i, i < n → (ns i).nm.size ≤ 1048576)) ∧ Below w.heap.size w w' := by
  obtain ⟨ao, cap, rfl, hcap⟩ := hv.open
  have HC : Hid (0 < n → ∃ b off, ao = some ⟨b, off, none⟩ ∧ b < w.heap.size ∧ ∀ k, k < n → w.cell? ⟨b, off + k * 3, none⟩ = some (.string (ns k).nm) ∧ w.cell? ⟨b, off + k * 3 + 1, none⟩ = some (.int .i64 (ns k).kd) ∧ w.cell? ⟨b, off + k * 3 + 2, none⟩ = some (.int .i64 (ns k).nn)) := hv.cells
  have HS : Hid (∀ i, i < n → (ns i).nm.size ≤ 9223372036854775807) := hs
  clear hv hs
  by_cases h : 1048576 < n
  · go_enter Tryd.func16, Tryd.ntmps16
    go_wp2
    go_ret
    exact ⟨_, rfl, .inl rfl, Below.refl _ _⟩
  have hn2 : n ≤ 1048576 := by omega
  go_enter Tryd.func16, Tryd.ntmps16
  go_upto_region 5 with fail
  go_loopw [5, 1] (fun i l wr => ∃ (k : Nat) (r : Int), i = .int .i64 k ∧ k ≤ n ∧ l = .int .i64 r ∧ 0 ≤ r ∧ r ≤ 1048576 ∧ Hid (∀ i, i < k → (ns i).nm.size ≤ 1048576) ∧ Hid (Below w.heap.size w wr)) (fun i _ _ => n - (intOf i).toNat)
  case atStart => exact ⟨0, _, rfl, by omega, rfl, by omega, by omega, fun i hi => absurd hi (by omega), Below.refl _ _⟩
  case round =>
    obtain ⟨k, r, rfl, hk, rfl, hr0, hr1, hA, hbl⟩ := hrel
    by_cases h1 : k < n
    · obtain ⟨b, off, rfl, hlt, hcell⟩ := HC.out (by omega)
      obtain ⟨c0, c1, c2⟩ := hcell k h1
      have c0 := keepc hbl.out c0
      have c1 := keepc hbl.out c1
      have c2 := keepc hbl.out c2
      have hbb : b < wr.heap.size := Nat.lt_of_lt_of_le hlt hbl.out.size
      clear hcell hlt
      have iz := szNode_any (ns k) (HS.out k h1) r ⟨hr0, hr1⟩ wr
      obtain ⟨x, hx⟩ : ∃ x, x = ns k := ⟨_, rfl⟩
      have HX : Hid (x = ns k) := hx
      rw [← hx] at c0 c1 c2 iz
      clear hx
      go_upto_region 8 with (go_at_call 33; (with_reducible refine iz.mono ?_); rintro e w5 ⟨r2, rfl, hr2, hb5⟩; have B5 : Hid (Below w.heap.size w w5) := bstep hbl.out hb5; clear hb5)
      clear iz
      rcases hr2 with rfl | ⟨h2, h3, h4⟩
      · go_wp2
        go_ret
        exact ⟨_, rfl, .inl rfl, B5.out⟩
      · have HN : Hid (∀ i, i < k + 1 → (ns i).nm.size ≤ 1048576) := fun i hi => by
          rcases Nat.lt_or_ge i k with h5 | h5
          · exact hA.out i h5
          · obtain rfl : i = k := by omega
            rw [← HX.out]
            exact h4
        go_wp2
        go_roundw
        case rel => exact ⟨k + 1, r2, by go_num, by omega, rfl, by omega, by omega, HN.out, B5.out⟩
        case measure => simp [intOf]; omega
    · have hkn : n = k := by omega
      subst hkn
      go_wp2
      go_ret
      exact ⟨_, rfl, .inr ⟨hr0, hr1, hn2, hA.out⟩, hbl.out⟩

theorem szLinks_any (w : World) (ao : Option Addr) (m cap : Nat) (r : Int) (hr : 0 ≤ r ∧ r ≤ 1048576) (hm : m ≤ 9223372036854775807) : Calls Tryd.prog 17 #[.slice ao m cap, .int .i64 r] w fun e w' => ∃ q : Int, e = .returned (.int .i64 q) ∧ (q = -1 ∨ (0 ≤ q ∧ m ≤ 1048576)) ∧ w' = w := by
  by_cases h : r - (m : Int) < 0
  · go_enter Tryd.func17, Tryd.ntmps17
    go_wp2
    go_ret
    exact ⟨_, rfl, .inl rfl, rfl⟩
  · go_enter Tryd.func17, Tryd.ntmps17
    go_wp2
    go_ret
    exact ⟨_, rfl, .inr ⟨by omega, by omega⟩, rfl⟩

set_option maxHeartbeats 4000000 in
theorem szPlan_any {w : World} {v u : Value} {n m : Nat} {ns : Nat → Nd} {ls : Nat → Lk} (hv : Nl w v n ns) (hu : Ll w u m ls) (hn : n ≤ 9223372036854775807) (hm : m ≤ 9223372036854775807) (hs : ∀ i, i < n → (ns i).nm.size ≤ 9223372036854775807) :
    Calls Tryd.prog 5 #[.agg #[v, u], .int .i64 1048576] w fun e w' => ∃ r : Int, e = .returned (.int .i64 r) ∧ (r = -1 ∨ (0 ≤ r ∧ n ≤ 1048576 ∧ m ≤ 1048576 ∧ ∀ i, i < n → (ns i).nm.size ≤ 1048576)) ∧ Below w.heap.size w w' := by
  obtain ⟨ao, cap, rfl, hcap⟩ := hv.open
  obtain ⟨bo, cap2, rfl, hcap2⟩ := hu.open
  have BX : Hid (Below w.heap.size w (w.alloc (.cells #[.slice ao n cap, .slice bo m cap2] 25))) := below_one _ _
  have pn : (w.alloc (.cells #[.slice ao n cap, .slice bo m cap2] 25)).cell? ⟨w.heap.size, 0, none⟩ = some (.slice ao n cap) := by simp
  have pl : (w.alloc (.cells #[.slice ao n cap, .slice bo m cap2] 25)).cell? ⟨w.heap.size, 1, none⟩ = some (.slice bo m cap2) := by simp
  have iz := szNodes_any (hv.below BX.out) hn hs
  clear hv hu hs
  go_enter Tryd.func5, Tryd.ntmps5
  go_upto_region 1 with fail
  generalize w.alloc (.cells #[.slice ao n cap, .slice bo m cap2] 25) = w1 at BX pn pl iz ⊢
  have hpg := World.block_lt_of_cell? _ _ pn
  have PL : Hid (w1.cell? ⟨w.heap.size, 1, none⟩ = some (.slice bo m cap2)) := pl
  clear pl
  go_upto_region 2 with (go_at_call 16; (with_reducible refine iz.mono ?_); rintro e w5 ⟨r, rfl, hr, hb5⟩; have B5 : Hid (Below w.heap.size w w5) := bstep BX.out hb5; have pl := keepc hb5 PL.out; clear hb5)
  have hpl := World.block_lt_of_cell? _ _ pl
  clear iz pn hpg
  rcases hr with rfl | ⟨h2, h3, h4, h5⟩
  · go_wp2
    go_ret
    exact ⟨_, rfl, .inl rfl, B5.out⟩
  · have HA : Hid (∀ i, i < n → (ns i).nm.size ≤ 1048576) := h5
    clear h5
    have il := szLinks_any w5 bo m cap2 r ⟨h2, h3⟩ hm
    go_upto_region 5 with (go_at_call 17; (with_reducible refine il.mono ?_); rintro e w6 ⟨q, rfl, hq, hw⟩; obtain rfl := hw.symm)
    clear il
    rcases hq with rfl | ⟨h6, h7⟩
    · go_wp2
      go_ret
      exact ⟨_, rfl, .inl rfl, B5.out⟩
    · go_wp2
      go_ret
      exact ⟨_, rfl, .inr ⟨h6, h4, h7, HA.out⟩, B5.out⟩

end Go.Proofs.YtiadfabhpagmpaaDoor
