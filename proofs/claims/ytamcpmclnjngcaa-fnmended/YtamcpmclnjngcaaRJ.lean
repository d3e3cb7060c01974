/- By how much a rule misses. -/
import Derived.Test.YtamcpmclnjngcaaRC
import Derived.Test.YtamcpmclnjngcaaGQ
import Derived.RegionTactic
import Derived.Deep.RegionWith
import Derived.WalkMore
import Derived.BigQuiet
namespace Go.Proofs.Ytamcpmclnjngcaa
open Go.RowKit

set_option maxRecDepth 20000 in
set_option maxHeartbeats 8000000 in
theorem miss_any {A c S : Nat → Nat} {N : Nat} (hc : ∀ k, c k < 256) (hS : ∀ k, S k < 256) (hA : ∀ k, k ≤ N → A k = S k) (hN : N ≤ 15) (w : World) :
    Calls Try.prog 54 #[.agg (scs A), pgv c, .int .i64 (N : Int)] w fun e w' => e = .returned (.int .u8 ((cv c S N : Nat) : Int)) ∧ Below w.heap.size w w' := by
  have s1 : (w.alloc (.cells (scs A) 45)).heap.size = w.heap.size + 1 := Array.size_push _
  have A0 : Hid (Ar ((w.alloc (.cells (scs A) 45)).alloc (.cells (pcs c) 49)) w.heap.size A) := (Ar.box w A 45).below (below_one _ _)
  have A1 : Hid (Pa ((w.alloc (.cells (scs A) 45)).alloc (.cells (pcs c) 49)) (w.heap.size + 1) c) := by
    have := Pa.box (w.alloc (.cells (scs A) 45)) c 49
    rw [s1] at this
    exact this
  have BL : Hid (Below w.heap.size w ((w.alloc (.cells (scs A) 45)).alloc (.cells (pcs c) 49))) := bstep (below_one _ _) (below_one _ _)
  obtain ⟨B, hB⟩ : ∃ B, B = w.heap.size := ⟨_, rfl⟩
  obtain ⟨G1, hG1⟩ : ∃ G1, G1 = B + 1 := ⟨_, rfl⟩
  rw [← hB] at A0 A1 BL
  rw [← hG1] at A1
  have HC : Hid (∀ k, c k < 256) := hc
  have HS : Hid (∀ k, S k < 256) := hS
  have HA : Hid (∀ k, k ≤ N → A k = S k) := hA
  clear hc hS hA s1
  go_enter Try.func54, Try.ntmps54
  go_upto_region 1 with fail
  generalize (w.alloc (.cells (scs A) 45)).alloc (.cells (pcs c) 49) = W at *
  simp only [← hB]
  rw [← hG1]
  have HB9 : Hid (B = w.heap.size) := hB
  clear hG1 hB
  go_wp2
  go_loopw [7, 8, 11] (fun mv _ iv wr => ∃ i : Nat, iv = .int .i64 (i : Int) ∧ i ≤ N + 1 ∧ mv = .int .u8 ((gs (fun i => gm (c i) (S (N - i))) i : Nat) : Int) ∧ Hid (Ar wr B A ∧ Pa wr G1 c ∧ Below B w wr)) (fun _ _ iv _ => N + 1 - (intOf iv).toNat)
  case atStart => exact ⟨0, rfl, by omega, rfl, A0.out, A1.out, BL.out⟩
  case round =>
    obtain ⟨i, rfl, hi, rfl, HR⟩ := hrel
    clear A0 A1 BL
    by_cases h1 : i < N + 1
    · obtain ⟨d, hd⟩ : ∃ d : Nat, d = N - i := ⟨_, rfl⟩
      have hd2 : (N : Int) - (i : Int) = (d : Int) := by omega
      have hd3 : d < 16 := by omega
      have c1 := HR.out.2.1.c i (by omega)
      have c2 := HR.out.1.c d hd3
      rw [HA.out d (by omega)] at c2
      have it := times_any (HC.out i) (HS.out d)
      have hsl : gs (fun i => gm (c i) (S (N - i))) i < 256 := gs_lt (fun k _ => gm_lt (HC.out k) _)
      have hx := xor_u8 hsl (gm_lt (HC.out i) (S d))
      obtain ⟨s1, hs1⟩ : ∃ s1, s1 = gs (fun i => gm (c i) (S (N - i))) (i + 1) := ⟨_, rfl⟩
      have eN : gs (fun i => gm (c i) (S (N - i))) i ^^^ gm (c i) (S d) = s1 := by rw [hs1, hd]; rfl
      rw [eN] at hx
      have HS1 : Hid (Value.int .u8 ((s1 : Nat) : Int) = .int .u8 ((gs (fun i => gm (c i) (S (N - i))) (i + 1) : Nat) : Int)) := by show _ = _; rw [hs1]
      have HN : Hid (∀ n, Ar (wr.drewN n) B A ∧ Pa (wr.drewN n) G1 c ∧ Below B w (wr.drewN n)) := fun n => ⟨HR.out.1.below (below_drewN (Below.refl _ _) n), HR.out.2.1.below (below_drewN (Below.refl _ _) n), below_drewN HR.out.2.2 n⟩
      generalize gs (fun i => gm (c i) (S (N - i))) i = s0 at *
      have hd' : Hid (d = N - i) := hd
      clear hs1 eN hsl HR hd
      generalize c i = ci at *
      generalize S d = sd at *
      generalize gm ci sd = gd at *
      go_upto_region 5 with fail
      go_quiet ((go_at_call 43; exact Calls.quiet_of_same (it _)))
      go_wp2
      go_roundw
      case rel => exact ⟨i + 1, by go_num, by omega, HS1.out, HN.out _⟩
      case measure => simp [intOf]; omega
    · obtain rfl : i = N + 1 := by omega
      have BB : Hid (Below B w wr) := HR.out.2.2
      clear HR
      go_wp2
      go_ret
      exact ⟨rfl, by rw [← HB9.out]; exact BB.out⟩
end Go.Proofs.Ytamcpmclnjngcaa
