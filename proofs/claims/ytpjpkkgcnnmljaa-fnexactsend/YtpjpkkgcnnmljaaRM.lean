/- Arrays moved. -/
import Derived.Test.YtpjpkkgcnnmljaaRA
namespace Go.Proofs.Ytpjpkkgcnnmljaa
open Go.RowKit

/-- All numbers one power up. -/
def pmv (f : Nat → Nat) (k : Nat) : Nat := if k = 0 then 0 else f (k - 1)

set_option maxRecDepth 50000 in
set_option maxHeartbeats 8000000 in
theorem moved_any (f : Nat → Nat) (w : World) : Calls Try.prog 64 #[pgv f] w fun e w' => e = .returned (pgv (pmv f)) ∧ Below w.heap.size w w' := by
  have A0 : Hid (Pa ((w.alloc (.cells (pcs f) 81)).alloc (.cells pzs 81)) w.heap.size f) := (Pa.box w f 81).below (below_one _ _)
  have A1 : Hid (Pa ((w.alloc (.cells (pcs f) 81)).alloc (.cells pzs 81)) (w.heap.size + 1) (fun _ => 0)) := by
    have := Pa.zero (w.alloc (.cells (pcs f) 81)) 81
    rw [show (w.alloc (.cells (pcs f) 81)).heap.size = w.heap.size + 1 from Array.size_push _] at this
    exact this
  have BL : Hid (Below w.heap.size w ((w.alloc (.cells (pcs f) 81)).alloc (.cells pzs 81))) := bstep (below_one _ _) (below_one _ _)
  obtain ⟨B, hB⟩ : ∃ B, B = w.heap.size := ⟨_, rfl⟩
  obtain ⟨G1, hG1⟩ : ∃ G1, G1 = B + 1 := ⟨_, rfl⟩
  obtain ⟨G2, hG2⟩ : ∃ G2, G2 = B + 2 := ⟨_, rfl⟩
  rw [← hB] at A0 A1 BL
  rw [← hG1] at A1
  have SZ : ((w.alloc (.cells (pcs f) 81)).alloc (.cells pzs 81)).heap.size = G2 := by rw [hG2, hB]; simp
  go_enter Try.func64, Try.ntmps64
  go_upto_region 1 with fail
  generalize (w.alloc (.cells (pcs f) 81)).alloc (.cells pzs 81) = W at *
  simp only [← hB]
  rw [← hG1]
  have h01 : B ≠ G2 := by omega
  have h02 : G1 ≠ G2 := by omega
  have hBL : B ≤ G2 := by omega
  have hBL1 : B ≤ G1 := by omega
  have HB9 : Hid (B = w.heap.size) := hB
  clear hG1 hG2 hB
  have A2 : Hid (Pa (W.alloc (.cells pzs 81)) (G2) (fun _ => 0)) := by have := Pa.zero W 81; rw [SZ] at this; exact this
  have B0 : Hid (Pa (W.alloc (.cells pzs 81)) B f) := A0.out.below (below_one _ _)
  have B1 : Hid (Pa (W.alloc (.cells pzs 81)) (G1) (fun _ => 0)) := A1.out.below (below_one _ _)
  have BM : Hid (Below B w (W.alloc (.cells pzs 81))) := by show Below _ _ _; rw [HB9.out]; exact bstep (by rw [← HB9.out]; exact BL.out) (below_one _ _)
  go_upto_region 2 with fail
  try rw [SZ]
  clear A0 A1 BL SZ
  generalize W.alloc (.cells pzs 81) = W2 at *
  go_wp2
  go_loopw [4, 6] (fun _ iv wr => ∃ i : Nat, iv = .int .i64 (i : Int) ∧ i ≤ 16 ∧ Hid (Pa wr B f ∧ Pa wr (G1) (fun _ => 0) ∧ Pa wr (G2) (fun k => if k < i + 1 then pmv f k else 0) ∧ Below B w wr)) (fun _ iv _ => 16 - (intOf iv).toNat)
  case atStart => exact ⟨0, rfl, by omega, B0.out, B1.out, A2.out.congr (fun k _ => by unfold pmv; by_cases e : k = 0 <;> simp [e]), BM.out⟩
  case round =>
    obtain ⟨i, rfl, hi, HR⟩ := hrel
    clear B0 B1 A2 BM
    by_cases h1 : i < 16
    · have c0 := HR.out.1.c i (by omega)
      have c1 := HR.out.2.2.1.c (i + 1) (by omega)
      rw [if_neg (by omega)] at c1
      have z1 := HR.out.2.2.1.z (i + 1) (by omega)
      obtain ⟨i2, hi2⟩ : ∃ i2 : Nat, i2 = i + 1 := ⟨_, rfl⟩
      rw [← hi2] at c1 z1
      have HI2 : Hid (i2 = i + 1) := hi2
      have e2 : (i : Int) + 1 = (i2 : Int) := by omega
      have h2 : i2 < 17 := by omega
      clear hi2
      have HP := HR.out.2.2.1.put h2 (f i)
      have HN : Hid (Pa (wr.setCell ⟨G2, i2, none⟩ (.int .u8 ((f i : Nat) : Int))) (G2) (fun k => if k < i + 1 + 1 then pmv f k else 0)) := HP.congr (fun k _ => by
        have := HI2.out
        by_cases e : k = i2
        · subst e; rw [if_pos rfl, if_pos (by omega)]; unfold pmv; rw [if_neg (by omega), this]; rfl
        · rw [if_neg e]
          by_cases e3 : k < i + 1
          · rw [if_pos e3, if_pos (by omega)]
          · rw [if_neg e3, if_neg (by omega)])
      have HN0 : Hid (Pa (wr.setCell ⟨G2, i2, none⟩ (.int .u8 ((f i : Nat) : Int))) B f) := HR.out.1.block (set_block h01)
      have HN1 : Hid (Pa (wr.setCell ⟨G2, i2, none⟩ (.int .u8 ((f i : Nat) : Int))) (G1) (fun _ => 0)) := HR.out.2.1.block (set_block h02)
      have HB : Hid (Below B w (wr.setCell ⟨G2, i2, none⟩ (.int .u8 ((f i : Nat) : Int)))) := HR.out.2.2.2.setCell (p := ⟨G2, i2, none⟩) hBL _
      clear HP HR
      go_wp2
      go_roundw
      case rel => exact ⟨i + 1, by go_num, by omega, HN0.out, HN1.out, HN.out, HB.out⟩
      case measure => simp [intOf]; omega
    · obtain rfl : i = 16 := by omega
      have HA : Hid (Pa wr G2 (pmv f)) := HR.out.2.2.1.congr (fun k hk => if_pos (by omega))
      have HZ : Hid (Pa wr G1 (fun _ => 0)) := HR.out.2.1
      have BB : Hid (Below B w wr) := HR.out.2.2.2
      clear HR
      obtain ⟨g, hg⟩ : ∃ g, g = pmv f := ⟨_, rfl⟩
      have HG : Hid (g = pmv f) := hg
      have HA : Hid (Pa wr G2 g) := by rw [hg]; exact HA.out
      clear hg
      go_upto_region 7 with fail
      refine wp_region_list ?_
      refine HA.out.wload rfl _ rfl rfl ?_
      refine HZ.out.wstore g rfl _ _ rfl rfl rfl ?_
      have HL := (HZ.out.stored g).load
      have HB2 : Hid (Below B w (Pa.st wr G1 g)) := Pa.st_below g BB.out hBL1
      generalize Pa.st wr G1 g = W9 at *
      go_wp2
      refine bodyPost_ret (v := pgv g) (results_one Try.results64 rfl HL) rfl ⟨by rw [HG.out], ?_⟩
      rw [← HB9.out]
      exact HB2.out
end Go.Proofs.Ytpjpkkgcnnmljaa
