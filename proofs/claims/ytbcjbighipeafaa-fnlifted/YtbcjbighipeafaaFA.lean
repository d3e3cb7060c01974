/- Unlift: lengths that come one after the other from the last on. -/
import Derived.Test.YtbcjbighipeafaaLN
import Derived.Test.YtbcjbighipeafaaRQ
import Derived.RangeFuncNested
import Derived.RangeFuncBound
import Derived.RangeFuncCalls
import Derived.RangeFuncLeaves
import Derived.RangeFuncBox
import Derived.Shelf.Abstract
import Derived.Shelf.RegionOpen
import Derived.WalkKit
import Derived.OwnWalkIn
import Derived.TacticsInMore
import Derived.LoopNIn
import Derived.LoopIn
namespace Go.Proofs.Ytbcjbighipeafaa
open Go.RowKit Go.Shelf
attribute [local go_sem] Oper.semAt_some

/-- A place and a length that can be cut off n numbers. -/
abbrev Ln (n : Nat) := { p : Nat × Nat // 1 < p.2 ∧ p.2 ≤ n }

def enl {n : Nat} (x : Ln n) : Array Value := #[.int .i64 (x.1.1 : Int), .int .i64 (x.1.2 : Int)]

/-- Two blocks are as they were. -/
def Kq (b c : Nat) (W W' : World) : Prop := W'.heap[b]? = W.heap[b]? ∧ W'.heap[c]? = W.heap[c]?

theorem Kq.t {b c : Nat} {A B C : World} (h : Kq b c A B) (k : Kq b c B C) : Kq b c A C := ⟨k.1.trans h.1, k.2.trans h.2⟩

theorem take_more {α : Type} (l : List α) {k : Nat} (h : k < l.length) : l.take (k + 1) = l.take k ++ [l[k]] := by simp

set_option maxRecDepth 100000 in
set_option maxHeartbeats 2000000 in
theorem bw1_in (F : Fence) (m : Nat) (h23 : F.fn 45) (hro : F.round = none) (hm : 1 ≤ m) (l Bs b n J cap : Nat) (hJ : J ≤ 1048576) (ls : Nat → Nat) (fs : List (Ln n)) (hfl : fs.length = J) (hf : ∀ k (h : k < fs.length), (fs[k]'h).1 = (J - 1 - k, ls (J - 1 - k))) (Jv Jx : List (Ln n) → World → Prop)
    (hY : ∀ pre x W, Jv pre W → pre.length < J → YieldAt F (m - 1) Try.prog l (enl x) W fun e W' =>
      (e = .returned (.bool true) ∧ Jv (pre ++ [x]) W' ∧ Kq Bs b W W') ∨ (e = .returned (.bool false) ∧ Jx (pre ++ [x]) W'))
    (W : World) (hcap : J ≤ cap) (hBs : W.cell? ⟨Bs, 0, none⟩ = some (.slice (some ⟨b, 0, none⟩) J cap)) (hc : ∀ j, j < J → W.cell? ⟨b, j, none⟩ = some (.int .i64 (ls j : Int))) (h0 : Jv [] W) :
    CallsIn F m Try.prog 45 #[.func (.yield l) #[] #[], .pointer (some ⟨Bs, 0, none⟩)] W fun e W' => (∃ v, e = .returned v) ∧
      ((∃ ys, ys = fs ∧ Jv ys W') ∨ (∃ pre, True ∧ Jx pre W')) := by
  refine callsIn_of_wp Try.func45 rfl h23 ?_ hro
  simp only [Try.ntmps45, List.size_toArray, List.length_cons, List.length_nil, Nat.reduceAdd, Nat.reduceSub, Array.replicate_succ, Array.replicate_zero, List.push_toArray, List.append_toArray, List.nil_append, List.cons_append]
  gi_wp2
  gi_loopw [3] (fun i wr => ∃ k : Nat, k ≤ J ∧ i = .int .i64 ((J : Int) - 1 - (k : Int)) ∧ Jv (fs.take k) wr ∧ Kq Bs b W wr)
    (fun i _ => (intOf i + 1).toNat)
  case atStart => exact ⟨0, Nat.zero_le _, by simp, h0, rfl, rfl⟩
  case round =>
    obtain ⟨k, hk, rfl, hJs, hnx⟩ := hrel
    have hBx : wr.cell? ⟨Bs, 0, none⟩ = some (.slice (some ⟨b, 0, none⟩) J cap) := (World.cell?_of_block (w := W) (a := ⟨Bs, 0, none⟩) hnx.1).trans hBs
    by_cases hlt : k < J
    · obtain ⟨i, hi⟩ : ∃ i : Nat, (J : Int) - 1 - (k : Int) = (i : Int) := ⟨J - 1 - k, by omega⟩
      have hi2 : J - 1 - k = i := by omega
      have hiJ : i < J := by omega
      have hcx : wr.cell? ⟨b, i, none⟩ = some (.int .i64 (ls i : Int)) := (World.cell?_of_block (w := W) (a := ⟨b, i, none⟩) hnx.2).trans (hc i hiJ)
      obtain ⟨fn, tmps, assign, body, hy, hR⟩ := hY _ (fs[k]'(by omega)) wr hJs (by rw [List.length_take]; omega)
      have hfk := hf k (by omega)
      rw [hi2] at hfk
      unfold enl at hy
      rw [hfk] at hy
      dsimp only at hy
      rw [hi]
      clear hfk hf hY
      gi_wp2
      refine hR.mono ?_
      rintro e W3 (⟨rfl, hJ3, hk3⟩ | ⟨rfl, hJx3⟩)
      · gi_wp2
        go_roundw
        case rel => exact ⟨k + 1, by omega, by simp; omega, by rw [take_more fs (by omega)]; exact hJ3, hnx.t hk3⟩
        case measure => simp [intOf]
      · gi_wp2
        refine bodyPost_ret (results_none rfl _ _ _) rfl ?_
        exact ⟨⟨_, rfl⟩, .inr ⟨_, trivial, hJx3⟩⟩
    · obtain rfl : k = J := by omega
      rw [List.take_of_length_le (by omega)] at hJs
      gi_wp2
      go_end0
      exact ⟨⟨_, rfl⟩, .inl ⟨_, rfl, hJs⟩⟩

set_option maxRecDepth 100000 in
set_option maxHeartbeats 1000000 in
theorem bw0_in (F : Fence) (m : Nat) (h23 : F.fn 45) (hro : F.round = none) (l Bs cap : Nat) (ao : Option Addr) {α : Type} (Jv : List α → World → Prop) (W : World) (hBs : W.cell? ⟨Bs, 0, none⟩ = some (.slice ao 0 cap)) (h0 : Jv [] W) :
    CallsIn F m Try.prog 45 #[.func (.yield l) #[] #[], .pointer (some ⟨Bs, 0, none⟩)] W fun e W' => (∃ v, e = .returned v) ∧ Jv [] W' := by
  refine callsIn_of_wp Try.func45 rfl h23 ?_ hro
  simp only [Try.ntmps45, List.size_toArray, List.length_cons, List.length_nil, Nat.reduceAdd, Nat.reduceSub, Array.replicate_succ, Array.replicate_zero, List.push_toArray, List.append_toArray, List.nil_append, List.cons_append]
  gi_wp2
  gi_loopw [3] (fun i wr => i = .int .i64 (-1) ∧ Jv [] wr) (fun _ _ => 0)
  case atStart => exact ⟨rfl, h0⟩
  case round =>
    obtain ⟨rfl, hJs⟩ := hrel
    gi_wp2
    go_end0
    exact ⟨⟨_, rfl⟩, hJs⟩

/-- slices.Backward: the list lies in a box. -/
theorem bw17 (ao : Option Addr) (J cap : Nat) (w : World) : Calls Try.prog 35 #[.slice ao J cap] w fun e w' => e = .returned (.func (.func 45) #[] #[.pointer (some ⟨w.heap.size, 0, none⟩)]) ∧ w' = w.alloc (.cells #[.slice ao J cap] 24) := by
  go_enter Try.func35, Try.ntmps35
  go_wp2
  go_ret
  exact ⟨rfl, rfl⟩

theorem bw_stops (F : Fence) (m : Nat) (h23 : F.fn 45) (hro : F.round = none) (hm : 1 ≤ m) (Bs b n J cap : Nat) (ao : Option Addr) (hJ : J ≤ 1048576) (ls : Nat → Nat) (fs : List (Ln n)) (hfl : fs.length = J) (hf : ∀ k (h : k < fs.length), (fs[k]'h).1 = (J - 1 - k, ls (J - 1 - k))) (w : World) (hBs : Bs < w.heap.size) (hcap : J ≤ cap)
    (hc : w.cell? ⟨Bs, 0, none⟩ = some (.slice ao J cap)) (hao : 0 < J → ao = some ⟨b, 0, none⟩ ∧ b < w.heap.size ∧ ∀ j, j < J → w.cell? ⟨b, j, none⟩ = some (.int .i64 (ls j : Int))) :
    SeqStopsK F m Try.prog 45 #[.pointer (some ⟨Bs, 0, none⟩)] (enl (n := n)) (Kq Bs b) (fun ys => ys = fs) (fun _ => True) J w := fun l Jv Jx W hW _ _ hY h0 => by
  have hc' := (hW.cell (p := ⟨Bs, 0, none⟩) hBs).trans hc
  by_cases hJ0 : 0 < J
  · obtain ⟨rfl, hb, hcs⟩ := hao hJ0
    exact bw1_in F m h23 hro hm l Bs b n J cap hJ ls fs hfl hf Jv Jx hY W hcap hc' (fun j hj => (hW.cell (p := ⟨b, j, none⟩) hb).trans (hcs j hj)) h0
  · obtain rfl : J = 0 := by omega
    exact (bw0_in F m h23 hro l Bs cap ao Jv W hc' h0).mono fun e W' ⟨he, hj⟩ => ⟨he, .inl ⟨_, rfl, by rw [List.length_eq_zero_iff.1 hfl]; exact hj⟩⟩

end Go.Proofs.Ytbcjbighipeafaa
