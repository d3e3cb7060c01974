/- Nodes by name. -/
import Derived.Test.YtiadfabhpagmpaaDoorPB
import Derived.WalkKit
import Derived.WalkSpells
import Derived.WalkLawsBesides
import Derived.Deep.QuietTactic
import Derived.BigQuiet
import Derived.BigRegion
import Derived.Deep.Cut
namespace Go.Proofs.YtiadfabhpagmpaaDoor
open Go.RowKit

theorem str_eq (a b : ByteArray) : (a.toList == b.toList) = decide (a = b) := by
  by_cases h : a = b
  · subst h
    simp
  · rw [decide_eq_false h]
    refine beq_false_of_ne (fun e => h ?_)
    rw [ByteArray.toList_eq, ByteArray.toList_eq] at e
    exact ByteArray.ext (Array.toList_inj.1 e)

theorem hasName_any (x : Nd) (s : ByteArray) (g : Nat) {w : World} (hg : w.cell? ⟨g, 0, none⟩ = some (.string s)) : Calls Tryd.prog 50 #[x.v, .pointer (some ⟨g, 0, none⟩)] w fun e w' => e = .returned (.bool (decide (x.nm = s))) ∧ Below w.heap.size w w' := by
  have hlt : g < w.heap.size := World.block_lt_of_cell? _ _ hg
  have b1 : Hid (Below w.heap.size w (w.alloc (.cells #[.string x.nm, .int .i64 x.kd, .int .i64 x.nn] 47))) := below_one w _
  have hg2 : (w.alloc (.cells #[.string x.nm, .int .i64 x.kd, .int .i64 x.nn] 47)).cell? ⟨g, 0, none⟩ = some (.string s) := keepc b1.out hg
  go_enter Tryd.func50, Tryd.ntmps50
  go_wp2
  go_ret
  refine ⟨?_, b1.out⟩
  show Ending.returned (.bool (x.nm.toList == s.toList)) = _
  rw [str_eq]

/-- The first node of that name, or -1. -/
def FirstNm (n : Nat) (ns : Nat → Nd) (s : ByteArray) (j : Int) : Prop := (∀ k, k < n → (ns k).nm ≠ s) ∧ j = -1 ∨ ∃ k : Nat, j = k ∧ k < n ∧ (ns k).nm = s ∧ ∀ i, i < k → (ns i).nm ≠ s

theorem nm_more {ns : Nat → Nd} {s : ByteArray} {k : Nat} (h : ∀ j, j < k → (ns j).nm ≠ s) (h2 : (ns k).nm ≠ s) : ∀ j, j < k + 1 → (ns j).nm ≠ s := by
  intro j hj
  rcases Nat.lt_or_ge j k with h1 | h1
  · exact h j h1
  · obtain rfl : j = k := by omega
    exact h2

set_option maxHeartbeats 4000000 in
theorem ixn_any {w : World} {v : Value} {n : Nat} {ns : Nat → Nd} (hv : Nl w v n ns) (hn : n ≤ 1048576) (s : ByteArray) (g : Nat) (hg : w.cell? ⟨g, 0, none⟩ = some (.string s)) :
    Calls Tryd.prog 49 #[v, .func (.func 50) #[] #[.pointer (some ⟨g, 0, none⟩)]] w fun e w' => ∃ j, e = .returned (.int .i64 j) ∧ FirstNm n ns s j ∧ Below w.heap.size w w' := by
  obtain ⟨ao, cap, rfl, hcap, hc⟩ := hv
  have HC : Hid (0 < n → ∃ b off, ao = some ⟨b, off, none⟩ ∧ b < w.heap.size ∧ ∀ k, k < n → w.cell? ⟨b, off + k * 3, none⟩ = some (.string (ns k).nm) ∧ w.cell? ⟨b, off + k * 3 + 1, none⟩ = some (.int .i64 (ns k).kd) ∧ w.cell? ⟨b, off + k * 3 + 2, none⟩ = some (.int .i64 (ns k).nn)) := hc
  have HG : Hid (w.cell? ⟨g, 0, none⟩ = some (.string s)) := hg
  clear hc hg
  go_enter Tryd.func49, Tryd.ntmps49
  go_wp2
  go_loopw [8] (fun i wr => ∃ k : Nat, i = .int .i64 k ∧ k ≤ n ∧ Hid (∀ j, j < k → (ns j).nm ≠ s) ∧ Hid (Below w.heap.size w wr)) (fun i _ => n - (intOf i).toNat)
  case atStart => exact ⟨0, rfl, by omega, fun j hj => absurd hj (by omega), Below.refl _ _⟩
  case round =>
    obtain ⟨k, rfl, hk, hall, hbl⟩ := hrel
    by_cases h1 : k < n
    · obtain ⟨b, off, rfl, hlt, hcell⟩ := HC.out (by omega)
      obtain ⟨c0, c1, c2⟩ := hcell k h1
      have c0 := keepc hbl.out c0
      have c1 := keepc hbl.out c1
      have c2 := keepc hbl.out c2
      have hb : b < wr.heap.size := Nat.lt_of_lt_of_le hlt hbl.out.size
      clear hcell hlt
      have tk := hasName_any (ns k) s g (keepc hbl.out HG.out)
      by_cases h2 : (ns k).nm = s
      · have H2 : Hid ((ns k).nm = s) := h2
        rw [decide_eq_true h2] at tk
        clear h2
        generalize hx : ns k = x at c0 c1 c2 tk
        clear hx
        go_wp2_with (go_at_call 50; (with_reducible refine (tk).mono ?_); rintro e w5 ⟨rfl, hb5⟩; have B5 : Hid (Below w.heap.size w w5) := bstep hbl.out hb5; clear hb5)
        go_ret
        exact ⟨_, rfl, .inr ⟨k, rfl, h1, H2.out, hall.out⟩, B5.out⟩
      · have H2 : Hid ((ns k).nm ≠ s) := h2
        rw [decide_eq_false h2] at tk
        clear h2
        generalize hx : ns k = x at c0 c1 c2 tk
        clear hx
        go_wp2_with (go_at_call 50; (with_reducible refine (tk).mono ?_); rintro e w5 ⟨rfl, hb5⟩; have B5 : Hid (Below w.heap.size w w5) := bstep hbl.out hb5; clear hb5)
        go_roundw
        case rel => exact ⟨k + 1, by go_num, by omega, nm_more hall.out H2.out, B5.out⟩
        case measure => simp [intOf]; omega
    · obtain rfl : k = n := by omega
      go_wp2
      go_ret
      exact ⟨_, rfl, .inl ⟨hall.out, rfl⟩, hbl.out⟩

theorem nodeAt_any {w : World} {d : Nat} {v : Value} {n : Nat} {ns : Nat → Nd} (c0 : w.cell? ⟨d, 0, none⟩ = some v) (hv : Nl w v n ns) (hn : n ≤ 1048576) (s : ByteArray) :
    Calls Tryd.prog 39 #[.pointer (some ⟨d, 0, none⟩), .string s] w fun e w' => ∃ j, e = .returned (.int .i64 j) ∧ FirstNm n ns s j ∧ Below w.heap.size w w' := by
  have HV : Hid (Nl (w.alloc (.cells #[.string s] 9)) v n ns) := hv.below (below_one _ _)
  have B1 : Hid (Below w.heap.size w (w.alloc (.cells #[.string s] 9))) := below_one _ _
  have c0' : (w.alloc (.cells #[.string s] 9)).cell? ⟨d, 0, none⟩ = some v := keepc B1.out c0
  have cs : (w.alloc (.cells #[.string s] 9)).cell? ⟨w.heap.size, 0, none⟩ = some (.string s) := by simp
  have CS : Hid _ := cs
  obtain ⟨ao, cap, rfl, _⟩ := hv.open
  clear hv
  have hd : d < w.heap.size := World.block_lt_of_cell? _ _ c0
  go_enter Tryd.func39, Tryd.ntmps39
  go_wp2_with (go_at_call 49; go_loud (refine (ixn_any HV.out hn s w.heap.size CS.out).mono ?_); rintro e w5 ⟨j, rfl, hj, hb5⟩; have B5 : Hid (Below w.heap.size w w5) := bstep B1.out hb5; have HJ : Hid (FirstNm n ns s j) := hj; clear hb5 hj)
  go_ret
  exact ⟨_, rfl, HJ.out, B5.out⟩

end Go.Proofs.YtiadfabhpagmpaaDoor
