/- A turned line: what its sums are; lists from the last on. -/
import Derived.Test.YtimjbpmppigaoaaTA
import Derived.RangeFuncNested
import Derived.RangeFuncBound
import Derived.RangeFuncCalls
import Derived.RangeFuncLeaves
import Derived.RangeFuncBox
import Derived.Shelf.Abstract
import Derived.Shelf.RegionOpen
import Derived.WalkKit
import Derived.OwnWalkIn
import Derived.TacticsInMore
import Derived.LoopNIn
import Derived.LoopIn
namespace Go.Proofs.Ytimjbpmppigaoaa
open Go.RowKit Go.Shelf
attribute [local go_sem] Oper.semAt_some

/-- What the samples z add to the sum j steps on. -/
def ts (f z : Nat → Int) (n j : Nat) : Int := dts (fun i => f (j + 1 + i)) z (n - 1 - j)

theorem dts_shf (h z : Nat → Int) (x : Int) : ∀ k, dts h (shf x z) (k + 1) = dts (fun i => h (i + 1)) z k + h 0 * x
  | 0 => by simp [dts, shf]
  | k + 1 => by
    have e := dts_shf h z x k
    have s : shf x z (k + 1) = z k := by simp [shf]
    rw [dts, e, s]
    simp only [dts]
    omega

theorem dts_congr {f f' z z' : Nat → Int} : ∀ {n : Nat}, (∀ i, i < n → f i = f' i ∧ z i = z' i) → dts f z n = dts f' z' n
  | 0, _ => rfl
  | n + 1, h => by
    unfold dts
    rw [dts_congr (fun i hi => h i (by omega)), (h n (by omega)).1, (h n (by omega)).2]

theorem ts_next {f z : Nat → Int} {x : Int} {n i : Nat} (hi : i < n) : tsj f (ts f z n) x (n - 1) i = ts f (shf x z) n i := by
  unfold tsj
  by_cases h : i < n - 1
  · rw [if_pos h]
    unfold ts
    rw [show n - 1 - i = (n - 1 - (i + 1)) + 1 by omega, dts_shf]
    rw [show (fun k => f (i + 1 + (k + 1))) = (fun k => f (i + 1 + 1 + k)) by funext k; congr 1; omega, show i + 1 + 0 = i + 1 from rfl]
  · rw [if_neg h]
    unfold ts
    rw [show n - 1 - i = 0 by omega]
    rfl

theorem ts_sum {f z : Nat → Int} {x : Int} {n : Nat} (hn : 1 ≤ n) : ts f z n 0 + f 0 * x = dts f (shf x z) n := by
  obtain ⟨k, rfl⟩ : ∃ k, n = k + 1 := ⟨n - 1, by omega⟩
  rw [dts_shf]
  unfold ts
  rw [show k + 1 - 1 - 0 = k by omega, show (fun i => f (0 + 1 + i)) = (fun i => f (i + 1)) by funext i; congr 1; omega]

theorem ts_wth {f z : Nat → Int} {n : Nat} (hn : n ≤ 64) (hf : Wth 1000000 n f) (hz : ∀ i, -1000000000 ≤ z i ∧ z i ≤ 1000000000) : Wth 90000000000000000 n (ts f z n) := fun j hj => by
  have := dtb (n := n - 1 - j) (f := fun i => f (j + 1 + i)) (z := z) (fun i hi => hf (j + 1 + i) (by omega)) (fun i _ => hz i) (n - 1 - j) (Nat.le_refl _)
  unfold ts
  omega

theorem ts_zero (f : Nat → Int) (n j : Nat) : ts f (fun _ => 0) n j = 0 := by
  have : ∀ (h : Nat → Int) k, dts h (fun _ => 0) k = 0 := fun h k => by
    induction k with
    | zero => rfl
    | succ k ih => unfold dts; rw [ih]; simp
  exact this _ _

/-- A turned line's step, told by samples. -/
theorem tStep2 {w : World} {B A P n tc bt ot : Nat} {f z : Nat → Int} {x : Int} (h : Tu w B A P n (.slice (some ⟨bt, ot, none⟩) n tc) (ts f z n)) (htc : n ≤ tc) (hc : ∀ k, k < n → w.cell? ⟨bt, ot + k, none⟩ = some (.int .i64 (f k))) (hd : bt ≠ P) (hn0 : 1 ≤ n) (hn : n ≤ 64) (hf : Wth 1000000 n f) (hx : -1000000000 ≤ x ∧ x ≤ 1000000000) (hz : ∀ i, -1000000000 ≤ z i ∧ z i ≤ 1000000000) :
    Calls Try.prog 43 #[.pointer (some ⟨A, 0, none⟩), .int .i64 x] w fun e w' => e = .returned (.int .i64 (dts f (shf x z) n)) ∧ Tu w' B A P n (.slice (some ⟨bt, ot, none⟩) n tc) (ts f (shf x z) n) ∧ Kd (fun k => k = P) w w' := by
  refine (tStep h htc hc hd hn0 hn hf hx (ts_wth hn hf hz)).mono ?_
  rintro e w' ⟨rfl, h1, h2⟩
  refine ⟨by rw [ts_sum hn0], ⟨h1.c0, h1.c1, ?_, h1.ne⟩, h2⟩
  have := h1.own
  rw [ils_congr (fun i hi => ts_next hi)] at this
  exact this

/-- A place and a sample. -/
abbrev El := { p : Nat × Int // -1000000000 ≤ p.2 ∧ p.2 ≤ 1000000000 }

def enl (x : El) : Array Value := #[.int .i64 (x.1.1 : Int), .int .i64 x.1.2]

/-- Samples that came one after the other, the newest first. -/
def zof (l : List El) (i : Nat) : Int := ((l.map (fun x => x.1.2)).reverse).getD i 0

theorem zof_nil : zof [] = fun _ => 0 := rfl

theorem zof_snoc (l : List El) (x : El) : zof (l ++ [x]) = shf x.1.2 (zof l) := by
  funext i
  unfold zof shf
  rw [List.map_append, List.reverse_append]
  cases i with
  | zero => simp
  | succ i => simp

theorem zof_wth (l : List El) (i : Nat) : -1000000000 ≤ zof l i ∧ zof l i ≤ 1000000000 := by
  unfold zof
  rw [List.getD_eq_getElem?_getD]
  cases h : ((l.map (fun x => x.1.2)).reverse)[i]? with
  | none => simp
  | some y =>
    have := List.mem_of_getElem? h
    rw [List.mem_reverse, List.mem_map] at this
    obtain ⟨x, _, rfl⟩ := this
    exact x.2

/-- The list from the last on. -/
def fsO (m : Nat) (st : Nat → Int) (h : Wth 1000000000 m st) : List El := List.ofFn (fun k : Fin m => ⟨(m - 1 - k.val, st (m - 1 - k.val)), h _ (by omega)⟩)

theorem fsO_length (m : Nat) (st : Nat → Int) (h : Wth 1000000000 m st) : (fsO m st h).length = m := List.length_ofFn

theorem fsO_at (m : Nat) (st : Nat → Int) (h : Wth 1000000000 m st) (k : Nat) (hk : k < (fsO m st h).length) : ((fsO m st h)[k]'hk).1 = (m - 1 - k, st (m - 1 - k)) := by
  exact congrArg (fun x : El => x.1) (List.getElem_ofFn (f := fun k : Fin m => (⟨(m - 1 - k.val, st (m - 1 - k.val)), h _ (by omega)⟩ : El)) hk)

theorem zof_fs {m : Nat} {st : Nat → Int} (h : Wth 1000000000 m st) {i : Nat} (hi : i < m) : zof (fsO m st h) i = st i := by
  have hl := fsO_length m st h
  unfold zof
  rw [List.getD_eq_getElem?_getD, List.getElem?_reverse (by simp [hl]; exact hi), List.getElem?_map]
  rw [List.getElem?_eq_getElem (by simp [hl]; omega)]
  simp only [Option.map_some, Option.getD_some]
  rw [fsO_at]
  simp only [List.length_map, hl]
  congr 1
  omega

/-- Two blocks are as they were. -/
def Kq (b c : Nat) (W W' : World) : Prop := W'.heap[b]? = W.heap[b]? ∧ W'.heap[c]? = W.heap[c]?

theorem Kq.t {b c : Nat} {A B C : World} (h : Kq b c A B) (k : Kq b c B C) : Kq b c A C := ⟨k.1.trans h.1, k.2.trans h.2⟩

theorem take_more {α : Type} (l : List α) {k : Nat} (h : k < l.length) : l.take (k + 1) = l.take k ++ [l[k]] := by simp

set_option maxRecDepth 100000 in
set_option maxHeartbeats 2000000 in
theorem bw1_in (F : Fence) (m : Nat) (h28 : F.fn 47) (hro : F.round = none) (hm : 1 ≤ m) (l Bs b J cap : Nat) (hJ : J ≤ 1048576) (ls : Nat → Int) (fs : List (El)) (hfl : fs.length = J) (hf : ∀ k (h : k < fs.length), (fs[k]'h).1 = (J - 1 - k, ls (J - 1 - k))) (Jv Jx : List (El) → World → Prop)
    (hY : ∀ pre x W, Jv pre W → pre.length < J → YieldAt F (m - 1) Try.prog l (enl x) W fun e W' =>
      (e = .returned (.bool true) ∧ Jv (pre ++ [x]) W' ∧ Kq Bs b W W') ∨ (e = .returned (.bool false) ∧ Jx (pre ++ [x]) W'))
    (W : World) (hcap : J ≤ cap) (hBs : W.cell? ⟨Bs, 0, none⟩ = some (.slice (some ⟨b, 0, none⟩) J cap)) (hc : ∀ j, j < J → W.cell? ⟨b, j, none⟩ = some (.int .i64 (ls j))) (h0 : Jv [] W) :
    CallsIn F m Try.prog 47 #[.func (.yield l) #[] #[], .pointer (some ⟨Bs, 0, none⟩)] W fun e W' => (∃ v, e = .returned v) ∧
      ((∃ ys, ys = fs ∧ Jv ys W') ∨ (∃ pre, True ∧ Jx pre W')) := by
  refine callsIn_of_wp Try.func47 rfl h28 ?_ hro
  simp only [Try.ntmps47, List.size_toArray, List.length_cons, List.length_nil, Nat.reduceAdd, Nat.reduceSub, Array.replicate_succ, Array.replicate_zero, List.push_toArray, List.append_toArray, List.nil_append, List.cons_append]
  gi_wp2
  gi_loopw [3] (fun i wr => ∃ k : Nat, k ≤ J ∧ i = .int .i64 ((J : Int) - 1 - (k : Int)) ∧ Jv (fs.take k) wr ∧ Kq Bs b W wr)
    (fun i _ => (intOf i + 1).toNat)
  case atStart => exact ⟨0, Nat.zero_le _, by simp, h0, rfl, rfl⟩
  case round =>
    obtain ⟨k, hk, rfl, hJs, hnx⟩ := hrel
    have hBx : wr.cell? ⟨Bs, 0, none⟩ = some (.slice (some ⟨b, 0, none⟩) J cap) := (World.cell?_of_block (w := W) (a := ⟨Bs, 0, none⟩) hnx.1).trans hBs
    by_cases hlt : k < J
    · obtain ⟨i, hi⟩ : ∃ i : Nat, (J : Int) - 1 - (k : Int) = (i : Int) := ⟨J - 1 - k, by omega⟩
      have hi2 : J - 1 - k = i := by omega
      have hiJ : i < J := by omega
      have hcx : wr.cell? ⟨b, i, none⟩ = some (.int .i64 (ls i)) := (World.cell?_of_block (w := W) (a := ⟨b, i, none⟩) hnx.2).trans (hc i hiJ)
      obtain ⟨fn, tmps, assign, body, hy, hR⟩ := hY _ (fs[k]'(by omega)) wr hJs (by rw [List.length_take]; omega)
      have hfk := hf k (by omega)
      rw [hi2] at hfk
      unfold enl at hy
      rw [hfk] at hy
      dsimp only at hy
      rw [hi]
      clear hfk hf hY
      gi_wp2
      refine hR.mono ?_
      rintro e W3 (⟨rfl, hJ3, hk3⟩ | ⟨rfl, hJx3⟩)
      · gi_wp2
        go_roundw
        case rel => exact ⟨k + 1, by omega, by simp; omega, by rw [take_more fs (by omega)]; exact hJ3, hnx.t hk3⟩
        case measure => simp [intOf]
      · gi_wp2
        refine bodyPost_ret (results_none rfl _ _ _) rfl ?_
        exact ⟨⟨_, rfl⟩, .inr ⟨_, trivial, hJx3⟩⟩
    · obtain rfl : k = J := by omega
      rw [List.take_of_length_le (by omega)] at hJs
      gi_wp2
      go_end0
      exact ⟨⟨_, rfl⟩, .inl ⟨_, rfl, hJs⟩⟩

set_option maxRecDepth 100000 in
set_option maxHeartbeats 1000000 in
theorem bw0_in (F : Fence) (m : Nat) (h28 : F.fn 47) (hro : F.round = none) (l Bs cap : Nat) (ao : Option Addr) {α : Type} (Jv : List α → World → Prop) (W : World) (hBs : W.cell? ⟨Bs, 0, none⟩ = some (.slice ao 0 cap)) (h0 : Jv [] W) :
    CallsIn F m Try.prog 47 #[.func (.yield l) #[] #[], .pointer (some ⟨Bs, 0, none⟩)] W fun e W' => (∃ v, e = .returned v) ∧ Jv [] W' := by
  refine callsIn_of_wp Try.func47 rfl h28 ?_ hro
  simp only [Try.ntmps47, List.size_toArray, List.length_cons, List.length_nil, Nat.reduceAdd, Nat.reduceSub, Array.replicate_succ, Array.replicate_zero, List.push_toArray, List.append_toArray, List.nil_append, List.cons_append]
  gi_wp2
  gi_loopw [3] (fun i wr => i = .int .i64 (-1) ∧ Jv [] wr) (fun _ _ => 0)
  case atStart => exact ⟨rfl, h0⟩
  case round =>
    obtain ⟨rfl, hJs⟩ := hrel
    gi_wp2
    go_end0
    exact ⟨⟨_, rfl⟩, hJs⟩

/-- slices.Backward: the list lies in a box. -/
theorem bw26 (ao : Option Addr) (J cap : Nat) (w : World) : Calls Try.prog 42 #[.slice ao J cap] w fun e w' => e = .returned (.func (.func 47) #[] #[.pointer (some ⟨w.heap.size, 0, none⟩)]) ∧ w' = w.alloc (.cells #[.slice ao J cap] 24) := by
  go_enter Try.func42, Try.ntmps42
  go_wp2
  go_ret
  exact ⟨rfl, rfl⟩

theorem bw_stops (F : Fence) (m : Nat) (h28 : F.fn 47) (hro : F.round = none) (hm : 1 ≤ m) (Bs b J cap : Nat) (ao : Option Addr) (hJ : J ≤ 1048576) (ls : Nat → Int) (fs : List (El)) (hfl : fs.length = J) (hf : ∀ k (h : k < fs.length), (fs[k]'h).1 = (J - 1 - k, ls (J - 1 - k))) (w : World) (hBs : Bs < w.heap.size) (hcap : J ≤ cap)
    (hc : w.cell? ⟨Bs, 0, none⟩ = some (.slice ao J cap)) (hao : 0 < J → ao = some ⟨b, 0, none⟩ ∧ b < w.heap.size ∧ ∀ j, j < J → w.cell? ⟨b, j, none⟩ = some (.int .i64 (ls j))) :
    SeqStopsK F m Try.prog 47 #[.pointer (some ⟨Bs, 0, none⟩)] (enl) (Kq Bs b) (fun ys => ys = fs) (fun _ => True) J w := fun l Jv Jx W hW _ _ hY h0 => by
  have hc' := (hW.cell (p := ⟨Bs, 0, none⟩) hBs).trans hc
  by_cases hJ0 : 0 < J
  · obtain ⟨rfl, hb, hcs⟩ := hao hJ0
    exact bw1_in F m h28 hro hm l Bs b J cap hJ ls fs hfl hf Jv Jx hY W hcap hc' (fun j hj => (hW.cell (p := ⟨b, j, none⟩) hb).trans (hcs j hj)) h0
  · obtain rfl : J = 0 := by omega
    exact (bw0_in F m h28 hro l Bs cap ao Jv W hc' h0).mono fun e W' ⟨he, hj⟩ => ⟨he, .inl ⟨_, rfl, by rw [List.length_eq_zero_iff.1 hfl]; exact hj⟩⟩

end Go.Proofs.Ytimjbpmppigaoaa
