/- PolyPair: the model's. -/
import Derived.Test.YtainkpnkekombaaL1
namespace Go.Proofs.Ytainkpnkekombaa
open Go.RowKit

/-- The polynomial at a place: behind j steps, the highest power first. -/
def cpoly (xs ys : Nat → Nat) (n : Nat) (x1 x2 : Option Nat) : Nat → Option Nat × Option Nat
  | 0 => (cn (xs (n - 1)), cn (ys (n - 1)))
  | j + 1 => (cop .add (cre (cpoly xs ys n x1 x2 j).1 (cpoly xs ys n x1 x2 j).2 x1 x2) (cn (xs (n - 2 - j))), cop .add (cim (cpoly xs ys n x1 x2 j).1 (cpoly xs ys n x1 x2 j).2 x1 x2) (cn (ys (n - 2 - j))))

theorem cn_zero : cn 0 = some 0 := by decide +kernel

set_option maxHeartbeats 4000000 in
set_option maxRecDepth 10000 in
theorem sPoly_any {w : World} {v : Value} {n : Nat} {xs ys : Nat → Nat} (x1 x2 : Nat) (hv : Fp w v n xs ys) (h0 : 0 < n) (hn : n ≤ 128) :
    Calls Try.prog 6 #[v, Pv x1 x2] w fun e w' => ∃ a b, e = .returned (Pv a b) ∧ cn a = (cpoly xs ys n (cn x1) (cn x2) (n - 1)).1 ∧ cn b = (cpoly xs ys n (cn x1) (cn x2) (n - 1)).2 ∧ Below w.heap.size w w' := by
  obtain ⟨ao, cap, rfl, hcap, hc⟩ := hv
  obtain ⟨b, off, rfl, hlt, hcell⟩ := hc h0
  have rA : ∀ k, k < n → ∀ X, Below w.heap.size w X → X.cell? ⟨b, off + k * 2, none⟩ = some (.float .f64 (xs k)) ∧ X.cell? ⟨b, off + k * 2 + 1, none⟩ = some (.float .f64 (ys k)) := fun k h1 X hX => ⟨(hX.cell (p := ⟨b, off + k * 2, none⟩) hlt).trans (hcell k h1).1, (hX.cell (p := ⟨b, off + k * 2 + 1, none⟩) hlt).trans (hcell k h1).2⟩
  have RA : Hid _ := rA
  have hB0 : Below w.heap.size w ((w.alloc (.cells #[.float .f64 x1, .float .f64 x2] 27)).alloc (.cells #[.float .f64 0, .float .f64 0] 27)) := by
    repeat first | exact Below.refl _ _ | refine Below.alloc ?_ (by simp; try omega) _
  obtain ⟨m, rfl⟩ : ∃ m, n = m + 1 := ⟨n - 1, by omega⟩
  obtain ⟨c0, c1⟩ := rA m (by omega) _ hB0
  have HB0 : Hid _ := hB0
  have hz1 : ((m : Int) + 1 == 0) = false := by simp; omega
  clear hc hcell rA hlt hB0
  have hST := rStore
  go_enter Try.func6, Try.ntmps6
  go_wp2
  go_loopw [6] (fun i wr => ∃ j S1 S2 : Nat, i = .int .i64 ((m : Int) - 1 - j) ∧ j ≤ m ∧ Rb wr w.heap.size x1 x2 ∧ Rb wr (w.heap.size + 1) 0 0 ∧ Rb wr (w.heap.size + 1 + 1) S1 S2 ∧ Hid (cn S1 = (cpoly xs ys (m + 1) (cn x1) (cn x2) j).1 ∧ cn S2 = (cpoly xs ys (m + 1) (cn x1) (cn x2) j).2) ∧ Hid (Below w.heap.size w wr)) (fun i _ => (intOf i + 1).toNat)
  case atStart =>
    refine ⟨0, xs m, ys m, by congr 1; omega, by omega, ((Rb.new _ _ _ 27 rfl).alloc _).alloc _, (Rb.new _ _ _ 27 (by simp)).alloc _, Rb.new _ _ _ 27 (by simp), ⟨rfl, rfl⟩, ?_⟩
    exact HB0.out.alloc (by simp; omega) _
  case round =>
    obtain ⟨j, S1, S2, rfl, hj, f0, t0, s0, hS, hb⟩ := hrel
    by_cases h1 : j < m
    · have ra := RA.out (m - 1 - j) (by omega)
      have s0d := s0.drew
      have hs : w.heap.size + 2 ≤ wr.heap.size := by have := s0.lt; omega
      have hix : (m : Int) - 1 - j < m + 1 := by omega
      have l0 : Below (w.heap.size + 2) wr wr.drew := (Below.refl _ _).drew
      go_upto_region 7 with fail
      refine wp_region_any (by kernel_rfl) ?_
      change wpAny _ _ _ _ _ _ _ (World.drew _)
      refine wpI_any (I := fun X => Below (w.heap.size + 2) wr X) _ _ _ _ ?_
      refine wpI_take (i := 1) (v := ?_) rfl (by kernel_rfl) (by kernel_rfl) (by kernel_rfl) (fun _ _ _ h => h) ⟨by rfl, ?_⟩ ?_
      rotate_left
      · intro X hI; obtain ⟨c0, c1, _, _⟩ := f0.below hI (by omega); go_simp; with_reducible rfl
      refine wpI_take (i := 3) (v := ?_) rfl (by kernel_rfl) (by kernel_rfl) (by kernel_rfl) (fun _ _ _ h => h) ⟨by rfl, ?_⟩ ?_
      rotate_left
      · intro X _; go_simp; with_reducible rfl
      refine wpI_take (i := 4) (v := ?_) rfl (by kernel_rfl) (by kernel_rfl) (by kernel_rfl) (fun _ _ _ h => h) ⟨by rfl, ?_⟩ ?_
      rotate_left
      · intro X _; go_simp; with_reducible rfl
      refine wpI_take (i := 5) (v := ?_) rfl (by kernel_rfl) (by kernel_rfl) (by kernel_rfl) (fun _ _ _ h => h) ⟨by rfl, ?_⟩ ?_
      rotate_left
      · intro X _; go_simp; with_reducible rfl
      refine wpI_take (i := 6) (v := ?_) rfl (by kernel_rfl) (by kernel_rfl) (by kernel_rfl) (fun _ _ _ h => h) ⟨by rfl, ?_⟩ ?_
      rotate_left
      · intro X hI; obtain ⟨c0, c1⟩ := ra X (hb.out.trans (hI.mono (by omega))); go_simp; with_reducible rfl
      refine wpI_only (i := 0) rfl (by kernel_rfl) l0 (by rfl) ?_
      intro K hK
      have l1 := l0
      obtain ⟨c0, c1, _, _⟩ := id s0d
      go_simp
      have s0d_ := s0d
      refine hK _ _ ?_
      refine wpI_only (i := 2) rfl (by kernel_rfl) l1 (by rfl) ?_
      intro K hK
      go_simp
      go_wp2_with (go_at_call 17; refine (sMul_any _ _ _ _ _).mono ?_; rintro e x2 ⟨p1, p2, rfl, ep1, ep2, hb2⟩; have l2 := bgo l1 hs hb2; have s0d__ := s0d_.call hb2)
      refine wpI_only (i := 7) rfl (by kernel_rfl) l2 (by rfl) ?_
      intro K hK
      go_simp
      go_wp2_with (go_at_call 16; refine (sAdd_any _ _ _ _ _).mono ?_; rintro e x7 ⟨q1, q2, rfl, eq1, eq2, hb7⟩; have l3 := bgo l2 hs hb7; have s0d___ := s0d__.call hb7)
      refine wpI_only (i := 8) rfl (by kernel_rfl) l3 (by rfl) ?_
      intro K hK
      have m4 := s0d___.put q1 q2
      have l4 := (l3.setCell (p := ⟨w.heap.size + 1 + 1, 0, none⟩) (Nat.le_refl _) (.float .f64 q1)).setCell (p := ⟨w.heap.size + 1 + 1, 1, none⟩) (Nat.le_refl _) (.float .f64 q2)
      obtain ⟨c0, c1, z0, z1⟩ := s0d___
      go_simp
      refine hK _ _ ?_
      refine wpI_done l4 (by kernel_rfl) ?_ _
      go_wp2
      go_roundw
      case rel => exact ⟨j + 1, q1, q2, by go_num, by omega, f0.below l4 (by omega), t0.below l4 (by omega), m4, ⟨by rw [eq1, ep1, hS.out.1, hS.out.2]; rfl, by rw [eq2, ep2, hS.out.1, hS.out.2]; rfl⟩, hb.out.trans (l4.mono (by omega))⟩
      case measure => simp [intOf]; omega
    · obtain rfl : j = m := by omega
      obtain ⟨e0, e1, _, _⟩ := id s0
      obtain ⟨g0, g1, g2, g3⟩ := id t0
      go_wp2
      refine bodyPost_ret (v := Pv S1 S2) (by simp [results, Try.results6, go_sem, g0, g1]) rfl ⟨_, _, rfl, hS.out.1, hS.out.2, ?_⟩
      exact (hb.out.setCell (Nat.le_succ _) _).setCell (Nat.le_succ _) _
end Go.Proofs.Ytainkpnkekombaa
