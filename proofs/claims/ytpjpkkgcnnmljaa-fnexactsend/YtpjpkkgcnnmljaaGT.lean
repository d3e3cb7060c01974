/- The signs of a word. -/
import Derived.Test.YtpjpkkgcnnmljaaGS
namespace Go.Proofs.Ytpjpkkgcnnmljaa
open Go.RowKit

set_option maxRecDepth 50000 in
set_option maxHeartbeats 8000000 in
theorem syn_any {w : World} {v : Value} {n t : Nat} {xs : Nat → Int} (hv : Bl w v n xs) (hb : Byt n xs) (hn : n ≤ 1048576) (ht : t ≤ 8) : Calls Try.prog 55 #[v, .int .i64 (t : Int)] w fun e w' => e = .returned (agv (syz n (nb n xs) (2 * t))) ∧ Below w.heap.size w w' := by
  have HV : Hid (Bl w v n xs) := hv
  have HY : Hid (Byt n xs) := hb
  have A0 : Hid (Ar ((w.alloc (.cells #[.int .u8 0, .int .u8 0, .int .u8 0, .int .u8 0, .int .u8 0, .int .u8 0, .int .u8 0, .int .u8 0, .int .u8 0, .int .u8 0, .int .u8 0, .int .u8 0, .int .u8 0, .int .u8 0, .int .u8 0, .int .u8 0] 74)).alloc (.cells #[.int .u8 0, .int .u8 0, .int .u8 0, .int .u8 0, .int .u8 0, .int .u8 0, .int .u8 0, .int .u8 0, .int .u8 0, .int .u8 0, .int .u8 0, .int .u8 0, .int .u8 0, .int .u8 0, .int .u8 0, .int .u8 0] 74)) w.heap.size (fun _ => 0)) := (Ar.new w 74).below (below_one _ _)
  have A1 : Hid (Ar ((w.alloc (.cells #[.int .u8 0, .int .u8 0, .int .u8 0, .int .u8 0, .int .u8 0, .int .u8 0, .int .u8 0, .int .u8 0, .int .u8 0, .int .u8 0, .int .u8 0, .int .u8 0, .int .u8 0, .int .u8 0, .int .u8 0, .int .u8 0] 74)).alloc (.cells #[.int .u8 0, .int .u8 0, .int .u8 0, .int .u8 0, .int .u8 0, .int .u8 0, .int .u8 0, .int .u8 0, .int .u8 0, .int .u8 0, .int .u8 0, .int .u8 0, .int .u8 0, .int .u8 0, .int .u8 0, .int .u8 0] 74)) (w.heap.size + 1) (fun _ => 0)) := by
    have := Ar.new (w.alloc (.cells #[.int .u8 0, .int .u8 0, .int .u8 0, .int .u8 0, .int .u8 0, .int .u8 0, .int .u8 0, .int .u8 0, .int .u8 0, .int .u8 0, .int .u8 0, .int .u8 0, .int .u8 0, .int .u8 0, .int .u8 0, .int .u8 0] 74)) 74
    rw [show (w.alloc (.cells #[.int .u8 0, .int .u8 0, .int .u8 0, .int .u8 0, .int .u8 0, .int .u8 0, .int .u8 0, .int .u8 0, .int .u8 0, .int .u8 0, .int .u8 0, .int .u8 0, .int .u8 0, .int .u8 0, .int .u8 0, .int .u8 0] 74)).heap.size = w.heap.size + 1 from Array.size_push _] at this
    exact this
  have BL : Hid (Below w.heap.size w ((w.alloc (.cells #[.int .u8 0, .int .u8 0, .int .u8 0, .int .u8 0, .int .u8 0, .int .u8 0, .int .u8 0, .int .u8 0, .int .u8 0, .int .u8 0, .int .u8 0, .int .u8 0, .int .u8 0, .int .u8 0, .int .u8 0, .int .u8 0] 74)).alloc (.cells #[.int .u8 0, .int .u8 0, .int .u8 0, .int .u8 0, .int .u8 0, .int .u8 0, .int .u8 0, .int .u8 0, .int .u8 0, .int .u8 0, .int .u8 0, .int .u8 0, .int .u8 0, .int .u8 0, .int .u8 0, .int .u8 0] 74))) := bstep (below_one _ _) (below_one _ _)
  obtain ⟨ao, cap, rfl, hcap, hc⟩ := hv
  clear hc hb
  go_enter Try.func55, Try.ntmps55
  go_wp2
  generalize (w.alloc (.cells #[.int .u8 0, .int .u8 0, .int .u8 0, .int .u8 0, .int .u8 0, .int .u8 0, .int .u8 0, .int .u8 0, .int .u8 0, .int .u8 0, .int .u8 0, .int .u8 0, .int .u8 0, .int .u8 0, .int .u8 0, .int .u8 0] 74)).alloc (.cells #[.int .u8 0, .int .u8 0, .int .u8 0, .int .u8 0, .int .u8 0, .int .u8 0, .int .u8 0, .int .u8 0, .int .u8 0, .int .u8 0, .int .u8 0, .int .u8 0, .int .u8 0, .int .u8 0, .int .u8 0, .int .u8 0] 74) = W at *
  go_loopw [6, 10] (fun _ iv wr => ∃ i : Nat, iv = .int .i64 (i : Int) ∧ i ≤ 2 * t ∧ Hid (Ar wr w.heap.size (fun _ => 0) ∧ Ar wr (w.heap.size + 1) (syz n (nb n xs) i) ∧ Below w.heap.size w wr)) (fun _ iv _ => 2 * t - (intOf iv).toNat)
  case atStart => exact ⟨0, rfl, by omega, A0.out, A1.out.congr (fun k _ => by unfold syz; rw [if_neg (by omega)]), BL.out⟩
  case round =>
    obtain ⟨i, rfl, hi, hrel⟩ := hrel
    by_cases h1 : i < 2 * t
    · have i1 := pow_any (k := i) (by omega)
      have hp := gpw_lt i
      have i2 := high_any (HV.out.below hrel.out.2.2) HY.out hn hp
      obtain ⟨p, hp9⟩ : ∃ p, p = gpw i := ⟨_, rfl⟩
      rw [← hp9] at i1 i2
      have HP : Hid (p = gpw i) := hp9
      clear hp9 hp
      obtain ⟨y, hy⟩ : ∃ y, y = hz (nb n xs) p n := ⟨_, rfl⟩
      rw [← hy] at i2
      have HYY : Hid (y = syn n (nb n xs) i) := by unfold syn; rw [← HP.out]; exact hy
      have c := hrel.out.2.1.c i (by omega)
      have zz := hrel.out.2.1.z i (by omega)
      have HR : Hid _ := hrel.out
      obtain ⟨y0, hy0⟩ : ∃ y0, y0 = syz n (nb n xs) i i := ⟨_, rfl⟩
      rw [← hy0] at c
      clear hy hrel hy0
      go_wp2_with (first | (go_at_call 62; (with_reducible refine (i1 _).mono ?_); rintro e w' ⟨rfl, hw⟩; obtain rfl := hw.symm) | (go_at_call 61; (with_reducible refine (i2).mono ?_); rintro e w' ⟨rfl, hw⟩; obtain rfl := hw.symm))
      go_roundw
      case rel =>
        refine ⟨i + 1, by go_num, by omega, HR.out.1.block (Below.heap_setCell _ _ _ _ (by show w.heap.size ≠ w.heap.size + 1; omega)), (HR.out.2.1.put (by omega) y).congr (fun k _ => ?_), HR.out.2.2.setCell (by show w.heap.size ≤ w.heap.size + 1; omega) _⟩
        unfold syz
        by_cases e : k = i
        · subst e; rw [if_pos rfl, if_pos (by omega)]; exact HYY.out
        · rw [if_neg e]
          by_cases h2 : k < i
          · rw [if_pos h2, if_pos (by omega)]
          · rw [if_neg h2, if_neg (by omega)]
      case measure => simp [intOf]; omega
    · obtain rfl : i = 2 * t := by omega
      have hA : Hid _ := hrel.out.2.1
      have hB : Hid _ := hrel.out.1
      have BB : Hid (Below w.heap.size w wr) := hrel.out.2.2
      have c0 := hA.out.c 0 (by omega)
      have c1 := hA.out.c 1 (by omega)
      have c2 := hA.out.c 2 (by omega)
      have c3 := hA.out.c 3 (by omega)
      have c4 := hA.out.c 4 (by omega)
      have c5 := hA.out.c 5 (by omega)
      have c6 := hA.out.c 6 (by omega)
      have c7 := hA.out.c 7 (by omega)
      have c8 := hA.out.c 8 (by omega)
      have c9 := hA.out.c 9 (by omega)
      have c10 := hA.out.c 10 (by omega)
      have c11 := hA.out.c 11 (by omega)
      have c12 := hA.out.c 12 (by omega)
      have c13 := hA.out.c 13 (by omega)
      have c14 := hA.out.c 14 (by omega)
      have c15 := hA.out.c 15 (by omega)
      have d0 := hB.out.c 0 (by omega)
      have d1 := hB.out.c 1 (by omega)
      have d2 := hB.out.c 2 (by omega)
      have d3 := hB.out.c 3 (by omega)
      have d4 := hB.out.c 4 (by omega)
      have d5 := hB.out.c 5 (by omega)
      have d6 := hB.out.c 6 (by omega)
      have d7 := hB.out.c 7 (by omega)
      have d8 := hB.out.c 8 (by omega)
      have d9 := hB.out.c 9 (by omega)
      have d10 := hB.out.c 10 (by omega)
      have d11 := hB.out.c 11 (by omega)
      have d12 := hB.out.c 12 (by omega)
      have d13 := hB.out.c 13 (by omega)
      have d14 := hB.out.c 14 (by omega)
      have d15 := hB.out.c 15 (by omega)
      have z0 := hB.out.z 0 (by omega)
      have z1 := hB.out.z 1 (by omega)
      have z2 := hB.out.z 2 (by omega)
      have z3 := hB.out.z 3 (by omega)
      have z4 := hB.out.z 4 (by omega)
      have z5 := hB.out.z 5 (by omega)
      have z6 := hB.out.z 6 (by omega)
      have z7 := hB.out.z 7 (by omega)
      have z8 := hB.out.z 8 (by omega)
      have z9 := hB.out.z 9 (by omega)
      have z10 := hB.out.z 10 (by omega)
      have z11 := hB.out.z 11 (by omega)
      have z12 := hB.out.z 12 (by omega)
      have z13 := hB.out.z 13 (by omega)
      have z14 := hB.out.z 14 (by omega)
      have z15 := hB.out.z 15 (by omega)
      clear hrel hA hB
      obtain ⟨f, hf⟩ : ∃ f, f = syz n (nb n xs) (2 * t) := ⟨_, rfl⟩
      rw [← hf] at c0 c1 c2 c3 c4 c5 c6 c7 c8 c9 c10 c11 c12 c13 c14 c15
      have HF9 : Hid (f = syz n (nb n xs) (2 * t)) := hf
      clear hf
      go_wp2
      refine bodyPost_ret (v := agv f) (by simp [results, Try.results55, go_sem, d0, d1, d2, d3, d4, d5, d6, d7, d8, d9, d10, d11, d12, d13, d14, d15]) rfl ⟨by rw [HF9.out], ?_⟩
      iterate 16 refine below_at ?_
      exact BB.out
end Go.Proofs.Ytpjpkkgcnnmljaa
