/- The places of a match, one after the other. -/
import Derived.Test.YthfmcfgnegfkdaaMA
import Derived.RangeFuncNested
import Derived.RangeFuncBound
import Derived.RangeFuncCalls
import Derived.RangeFuncLeaves
import Derived.RangeFuncBox
import Derived.Shelf.Abstract
import Derived.Shelf.RegionOpen
import Derived.WalkKit
import Derived.OwnWalkIn
import Derived.TacticsInMore
import Derived.LoopNIn
import Derived.LoopIn
import Derived.Maps.AppendAt
namespace Go.Proofs.Ythfmcfgnegfkdaa
open Go.RowKit Go.Shelf
attribute [local go_sem] Oper.semAt_some

/-- A place and what the match is there. -/
abbrev Pl := Nat × Int

def enp (x : Pl) : Array Value := #[.int .i64 (x.1 : Int), .int .i64 x.2]

/-- What a round keeps: all that is old, and the two boxes. -/
def Kp (n0 B1 B2 : Nat) (W W' : World) : Prop := Below n0 W W' ∧ W'.heap[B1]? = W.heap[B1]? ∧ W'.heap[B2]? = W.heap[B2]?

theorem Kp.t {n0 B1 B2 : Nat} {A B C : World} (h : Kp n0 B1 B2 A B) (k : Kp n0 B1 B2 B C) : Kp n0 B1 B2 A C := ⟨h.1.trans k.1, k.2.1.trans h.2.1, k.2.2.trans h.2.2⟩

theorem Kp.r (n0 B1 B2 : Nat) (A : World) : Kp n0 B1 B2 A A := ⟨Below.refl _ _, rfl, rfl⟩

theorem Kp.b1 {n0 B1 B2 : Nat} {A B : World} {t : TypeId} {v : Value} (h : Kp n0 B1 B2 A B) (k : Boxed A B1 t v) : Boxed B B1 t v := h.2.1.trans k

theorem Kp.b2 {n0 B1 B2 : Nat} {A B : World} {t : TypeId} {v : Value} (h : Kp n0 B1 B2 A B) (k : Boxed A B2 t v) : Boxed B B2 t v := h.2.2.trans k

/-- The places. -/
def fsm (ps xs : Nat → Int) (m J : Nat) : List Pl := (List.range J).map fun k => (k, dsm ps xs k m)

theorem fsm_succ (ps xs : Nat → Int) (m k : Nat) : fsm ps xs m (k + 1) = fsm ps xs m k ++ [(k, dsm ps xs k m)] := by simp [fsm, List.range_succ]

theorem fsm_len (ps xs : Nat → Int) (m k : Nat) : (fsm ps xs m k).length = k := by simp [fsm]

set_option maxRecDepth 100000 in
set_option maxHeartbeats 4000000 in
theorem mt_in (F : Fence) (mf : Nat) (hF : F.fn 27) (hro : F.round = none) (hmf : 1 ≤ mf) (l n0 B1 B2 b off b2 off2 n m J cap cap2 : Nat) (xs ps : Nat → Int) (hx : Wth 1000000 n xs) (hp : Wth 1000000 m ps) (hn : n ≤ 512) (hm : 1 ≤ m) (hmn : m ≤ n) (_ : n ≤ cap) (_ : m ≤ cap2) (hJ : J = n - m + 1)
    (Jv Jx : List Pl → World → Prop)
    (hY : ∀ pre x W, Jv pre W → pre.length < J → YieldAt F (mf - 1) Try.prog l (enp x) W fun e W' =>
      (e = .returned (.bool true) ∧ Jv (pre ++ [x]) W' ∧ Kp n0 B1 B2 W W') ∨ (e = .returned (.bool false) ∧ Jx (pre ++ [x]) W'))
    (W : World) (h1 : Boxed W B1 24 (.slice (some ⟨b, off, none⟩) n cap)) (h2 : Boxed W B2 24 (.slice (some ⟨b2, off2, none⟩) m cap2))
    (hb : b < n0) (hb2 : b2 < n0) (hc : ∀ k, k < n → W.cell? ⟨b, off + k, none⟩ = some (.int .i64 (xs k))) (hc2 : ∀ k, k < m → W.cell? ⟨b2, off2 + k, none⟩ = some (.int .i64 (ps k))) (h0 : Jv [] W) :
    CallsIn F mf Try.prog 27 #[.func (.yield l) #[] #[], .pointer (some ⟨B1, 0, none⟩), .pointer (some ⟨B2, 0, none⟩)] W fun e W' => (∃ v, e = .returned v) ∧
      ((∃ ys, ys = fsm ps xs m J ∧ Jv ys W') ∨ (∃ pre, True ∧ Jx pre W')) := by
  have HX : Hid (Wth 1000000 n xs) := hx
  have HQ : Hid (Wth 1000000 m ps) := hp
  have HC : Hid (∀ k, k < n → W.cell? ⟨b, off + k, none⟩ = some (.int .i64 (xs k))) := hc
  have HC2 : Hid (∀ k, k < m → W.cell? ⟨b2, off2 + k, none⟩ = some (.int .i64 (ps k))) := hc2
  have HY : Hid (∀ pre x W, Jv pre W → pre.length < J → YieldAt F (mf - 1) Try.prog l (enp x) W fun e W' =>
      (e = .returned (.bool true) ∧ Jv (pre ++ [x]) W' ∧ Kp n0 B1 B2 W W') ∨ (e = .returned (.bool false) ∧ Jx (pre ++ [x]) W')) := hY
  have H1 : Hid (Boxed W B1 24 (.slice (some ⟨b, off, none⟩) n cap)) := h1
  have H2 : Hid (Boxed W B2 24 (.slice (some ⟨b2, off2, none⟩) m cap2)) := h2
  have e0 : (n : Int) - (m : Int) + 1 = (J : Int) := by omega
  have hJ2 : J + m = n + 1 := by omega
  have k1 := h1.cell
  have k2 := h2.cell
  clear hx hp hc hc2 hY h1 h2 hJ
  refine callsIn_of_wp Try.func27 rfl hF ?_ hro
  simp only [Try.ntmps27, List.size_toArray, List.length_cons, List.length_nil, Nat.reduceAdd, Nat.reduceSub, Array.replicate_succ, Array.replicate_zero, List.push_toArray, List.append_toArray, List.nil_append, List.cons_append]
  gi_wp2
  clear k1 k2
  gi_loopw [4, 5, 6, 7, 14] (fun _ _ _ _ i wr => ∃ k : Nat, k ≤ J ∧ i = .int .i64 (k : Int) ∧ Hid (Jv (fsm ps xs m k) wr ∧ Kp n0 B1 B2 W wr)) (fun _ _ _ _ i _ => J - (intOf i).toNat)
  case atStart => exact ⟨0, Nat.zero_le _, rfl, h0, Kp.r _ _ _ _⟩
  case round =>
    obtain ⟨i, hi, rfl, hrel⟩ := hrel
    by_cases hlt : i < J
    · have k1 := (hrel.out.2.b1 H1.out).cell
      have k2 := (hrel.out.2.b2 H2.out).cell
      have CX : Hid (∀ k, k < n → wr.cell? ⟨b, off + k, none⟩ = some (.int .i64 (xs k))) := fun k hk => (hrel.out.2.1.cell (p := ⟨b, off + k, none⟩) hb).trans (HC.out k hk)
      have CP : Hid (∀ k, k < m → wr.cell? ⟨b2, off2 + k, none⟩ = some (.int .i64 (ps k))) := fun k hk => (hrel.out.2.1.cell (p := ⟨b2, off2 + k, none⟩) hb2).trans (HC2.out k hk)
      obtain ⟨fn, tmps, assign, body, hy, hR⟩ := HY.out _ (i, dsm ps xs i m) wr hrel.out.1 (by rw [fsm_len]; exact hlt)
      unfold enp at hy
      dsimp only at hy
      obtain ⟨Z, hZ⟩ : ∃ Z, Z = dsm ps xs i m := ⟨_, rfl⟩
      rw [← hZ] at hy
      have HZ : Hid (Z = dsm ps xs i m) := hZ
      have KW : Hid (Kp n0 B1 B2 W wr) := hrel.out.2
      clear hZ hrel
      gi_wp2
      gi_loopw [5, 6, 7, 19] (fun s _ _ j wx => ∃ (k : Nat) (z : Int), k ≤ m ∧ j = .int .i64 (k : Int) ∧ s = .int .i64 z ∧ wx = wr ∧ Hid (z = dsm ps xs i k)) (fun _ _ _ j _ => m - (intOf j).toNat)
      case atStart => exact ⟨0, 0, Nat.zero_le _, rfl, rfl, rfl, rfl⟩
      case round =>
        obtain ⟨k, z, hk, rfl, rfl, rfl, hz⟩ := hrel
        by_cases h3 : k < m
        · have d1 := CP.out k h3
          have d2 := CX.out (i + k) (by omega)
          have e3 : off + ((i : Int) + (k : Int)).toNat = off + (i + k) := by omega
          have f1 := dsm_in HQ.out HX.out (i := i) k (by omega) (by omega)
          have f2 := mul_tap (HQ.out k h3) (HX.out (i + k) (by omega))
          rw [← hz.out] at f1
          have FN : Hid (dsm ps xs i (k + 1) = z + ps k * xs (i + k)) := by show dsm ps xs i (k + 1) = _; rw [dsm, ← hz.out]
          obtain ⟨x, hx⟩ : ∃ x, x = xs (i + k) := ⟨_, rfl⟩
          obtain ⟨y, hy2⟩ : ∃ y, y = ps k := ⟨_, rfl⟩
          rw [← hx] at d2 f2 FN
          rw [← hy2] at d1 f2 FN
          clear hx hy2
          obtain ⟨t, ht⟩ : ∃ t, y * x = t := ⟨_, rfl⟩
          rw [ht] at f2 FN
          gi_wp2
          go_roundw
          case rel => exact ⟨k + 1, z + t, by omega, by go_num, rfl, by trivial, FN.out.symm⟩
          case measure => simp [intOf]; omega
        · obtain rfl : m = k := by omega
          obtain rfl : Z = z := HZ.out.trans hz.out.symm
          gi_wp2
          refine hR.mono ?_
          rintro e W3 (⟨rfl, hJ3, hk3⟩ | ⟨rfl, hJx3⟩)
          · have J3 : Hid (Jv (fsm ps xs m (i + 1)) W3 ∧ Kp n0 B1 B2 W W3) := ⟨by rw [fsm_succ, ← HZ.out]; rw [← HZ.out] at hJ3; exact hJ3, KW.out.t hk3⟩
            clear hJ3 hk3
            gi_wp2
            go_roundw
            case rel => exact ⟨i + 1, by omega, by go_num, J3.out⟩
            case measure => simp [intOf]; omega
          · gi_wp2
            refine bodyPost_ret (results_none rfl _ _ _) rfl ?_
            exact ⟨⟨_, rfl⟩, .inr ⟨_, trivial, hJx3⟩⟩
    · obtain rfl : J = i := by omega
      gi_wp2
      go_end0
      exact ⟨⟨_, rfl⟩, .inl ⟨_, rfl, hrel.out.1⟩⟩

/-- The iterator: both lists lie in boxes. -/
theorem mt_mk (v u : Value) (ao bo : Option Addr) (n m cap cap2 : Nat) (hv : v = .slice ao n cap) (hu : u = .slice bo m cap2) (w : World) : Calls Try.prog 17 #[v, u] w fun e w' => e = .returned (.func (.func 27) #[] #[.pointer (some ⟨w.heap.size, 0, none⟩), .pointer (some ⟨w.heap.size + 1, 0, none⟩)]) ∧ w' = (w.alloc (.cells #[v] 24)).alloc (.cells #[u] 24) := by
  subst hv hu
  go_enter Try.func17, Try.ntmps17
  go_wp2
  go_ret
  exact ⟨rfl, rfl⟩

theorem mt_stops (F : Fence) (mf : Nat) (hF : F.fn 27) (hro : F.round = none) (hmf : 1 ≤ mf) (n0 B1 B2 b off b2 off2 n m J cap cap2 : Nat) (xs ps : Nat → Int) (hx : Wth 1000000 n xs) (hp : Wth 1000000 m ps) (hn : n ≤ 512) (hm : 1 ≤ m) (hmn : m ≤ n) (hcap : n ≤ cap) (hcap2 : m ≤ cap2) (hJ : J = n - m + 1)
    (w : World) (hw : n0 ≤ w.heap.size) (h1 : Boxed w B1 24 (.slice (some ⟨b, off, none⟩) n cap)) (h2 : Boxed w B2 24 (.slice (some ⟨b2, off2, none⟩) m cap2))
    (hb : b < n0) (hb2 : b2 < n0) (hc : ∀ k, k < n → w.cell? ⟨b, off + k, none⟩ = some (.int .i64 (xs k))) (hc2 : ∀ k, k < m → w.cell? ⟨b2, off2 + k, none⟩ = some (.int .i64 (ps k))) :
    SeqStopsK F mf Try.prog 27 #[.pointer (some ⟨B1, 0, none⟩), .pointer (some ⟨B2, 0, none⟩)] enp (Kp n0 B1 B2) (fun ys => ys = fsm ps xs m J) (fun _ => True) J w := fun l Jv Jx W hW _ _ hY h0 =>
  mt_in F mf hF hro hmf l n0 B1 B2 b off b2 off2 n m J cap cap2 xs ps hx hp hn hm hmn hcap hcap2 hJ Jv Jx hY W ((hW.block _ h1.lt).trans h1) ((hW.block _ h2.lt).trans h2) hb hb2
    (fun k hk => (hW.cell (p := ⟨b, off + k, none⟩) (Nat.lt_of_lt_of_le hb hw)).trans (hc k hk)) (fun k hk => (hW.cell (p := ⟨b2, off2 + k, none⟩) (Nat.lt_of_lt_of_le hb2 hw)).trans (hc2 k hk)) h0

end Go.Proofs.Ythfmcfgnegfkdaa
