/- Inverses, arrays moved and added. -/
import Derived.Test.YtpjpkkgcnnmljaaRA
import Derived.RegionTactic
import Derived.Deep.RegionWith
namespace Go.Proofs.Ytpjpkkgcnnmljaa
open Go.RowKit

theorem idx17 (q : Nat → Nat) {i : Nat} (hi : i < 17) (w : World) : (Instr.index 81 (pgv q) (.int .i64 (i : Int))).run Try.prog w = .ok (.int .u8 ((q i : Nat) : Int)) w := by
  have h : i = 0 ∨ i = 1 ∨ i = 2 ∨ i = 3 ∨ i = 4 ∨ i = 5 ∨ i = 6 ∨ i = 7 ∨ i = 8 ∨ i = 9 ∨ i = 10 ∨ i = 11 ∨ i = 12 ∨ i = 13 ∨ i = 14 ∨ i = 15 ∨ i = 16 := by omega
  rcases h with rfl | rfl | rfl | rfl | rfl | rfl | rfl | rfl | rfl | rfl | rfl | rfl | rfl | rfl | rfl | rfl | rfl
  all_goals rfl

def gsq (a : Nat) : Nat → Nat
  | 0 => a
  | i + 1 => gm (gsq a i) (gsq a i)
def gin (a : Nat) : Nat → Nat
  | 0 => 1
  | i + 1 => gm (gin a i) (gsq a (i + 1))
/-- The power 254. -/
def giv (a : Nat) : Nat := gin a 7
theorem gsq_lt {a : Nat} (h : a < 256) : ∀ i, gsq a i < 256
  | 0 => h
  | i + 1 => gm_lt (gsq_lt h i) _
theorem gin_lt (a : Nat) : ∀ i, gin a i < 256
  | 0 => (by decide : (1 : Nat) < 256)
  | i + 1 => gm_lt (gin_lt a i) _
theorem giv_lt (a : Nat) : giv a < 256 := gin_lt a 7
theorem giv_fin : ∀ a : Fin 256, a.val ≠ 0 → gm a.val (giv a.val) = 1 := by decide +kernel
theorem giv_ok {a : Nat} (h : a < 256) (h0 : a ≠ 0) : gm a (giv a) = 1 := giv_fin ⟨a, h⟩ h0

set_option maxHeartbeats 1000000 in
theorem inv_any {a : Nat} (ha : a < 256) (w : World) : Calls Try.prog 67 #[.int .u8 (a : Int)] w fun e w' => e = .returned (.int .u8 ((giv a : Nat) : Int)) ∧ w' = w := by
  have HA : Hid (a < 256) := ha
  go_enter Try.func67, Try.ntmps67
  go_wp2
  go_loopw [3, 4, 6] (fun x y iv wr => ∃ i : Nat, iv = .int .i64 (i : Int) ∧ x = .int .u8 ((gin a i : Nat) : Int) ∧ y = .int .u8 ((gsq a i : Nat) : Int) ∧ i ≤ 7 ∧ w = wr) (fun _ _ iv _ => 7 - (intOf iv).toNat)
  case atStart => exact ⟨0, rfl, rfl, rfl, by omega, rfl⟩
  case round =>
    obtain ⟨i, rfl, rfl, rfl, hi, rfl⟩ := hrel
    by_cases h1 : i < 7
    · have i1 := times_any (gsq_lt HA.out i) (gsq_lt HA.out i) w
      have i2 := times_any (gin_lt a i) (gsq_lt HA.out (i + 1)) w
      have e1 : gm (gsq a i) (gsq a i) = gsq a (i + 1) := rfl
      have e2 : gm (gin a i) (gsq a (i + 1)) = gin a (i + 1) := rfl
      rw [e1] at i1
      rw [e2] at i2
      clear e1 e2
      go_wp2_with (first | (go_at_call 66; (with_reducible refine i1.mono ?_); rintro e w' ⟨rfl, hw⟩; obtain rfl := hw.symm) | (go_at_call 66; (with_reducible refine i2.mono ?_); rintro e w' ⟨rfl, hw⟩; obtain rfl := hw.symm))
      go_roundw
      case rel => exact ⟨i + 1, by go_num, rfl, rfl, by omega, (by first | exact rfl | trivial)⟩
      case measure => simp [intOf]; omega
    · obtain rfl : i = 7 := by omega
      go_wp2
      go_ret
      exact ⟨rfl, rfl⟩

set_option maxHeartbeats 1000000 in
theorem at_any {n p : Nat} (hp : p < n) (hn : n ≤ 255) (w : World) : Calls Try.prog 63 #[.int .i64 (n : Int), .int .i64 (p : Int)] w fun e w' => e = .returned (.int .u8 ((gpw (n - 1 - p) : Nat) : Int)) ∧ w' = w := by
  obtain ⟨k, hk⟩ : ∃ k : Nat, (k : Int) = (n : Int) - 1 - p := ⟨n - 1 - p, by omega⟩
  have hk2 : n - 1 - p = k := by omega
  rw [hk2]
  have i1 := pow_any (k := k) (by omega) w
  rw [hk] at i1
  have HK : Hid ((k : Int) = (n : Int) - 1 - p) := hk
  clear hk hk2
  go_enter Try.func63, Try.ntmps63
  go_wp2_with (first | (go_at_call 62; (with_reducible refine i1.mono ?_); rintro e w' ⟨rfl, hw⟩; obtain rfl := hw.symm))
  go_ret
  exact ⟨rfl, rfl⟩

/-- A multiple added. -/
def ppl (p q : Nat → Nat) (c : Nat) (k : Nat) : Nat := p k ^^^ gm (q k) c

set_option maxRecDepth 50000 in
set_option maxHeartbeats 8000000 in
theorem plus_any {p q : Nat → Nat} {c : Nat} (hp : ∀ k, p k < 256) (hq : ∀ k, q k < 256) (hc : c < 256) (w : World) : Calls Try.prog 65 #[pgv p, pgv q, .int .u8 (c : Int)] w fun e w' => e = .returned (pgv (ppl p q c)) ∧ Below w.heap.size w w' := by
  have s1 : (w.alloc (.cells (pcs p) 81)).heap.size = w.heap.size + 1 := Array.size_push _
  have s2 : ((w.alloc (.cells (pcs p) 81)).alloc (.cells (pcs q) 81)).heap.size = w.heap.size + 2 := by simp
  have A0 : Hid (Pa (((w.alloc (.cells (pcs p) 81)).alloc (.cells (pcs q) 81)).alloc (.cells pzs 81)) w.heap.size p) := ((Pa.box w p 81).below (below_one _ _)).below (below_one _ _)
  have A1 : Hid (Pa (((w.alloc (.cells (pcs p) 81)).alloc (.cells (pcs q) 81)).alloc (.cells pzs 81)) (w.heap.size + 1) q) := by
    have := Pa.box (w.alloc (.cells (pcs p) 81)) q 81
    rw [s1] at this
    exact this.below (below_one _ _)
  have A2 : Hid (Pa (((w.alloc (.cells (pcs p) 81)).alloc (.cells (pcs q) 81)).alloc (.cells pzs 81)) (w.heap.size + 2) (fun _ => 0)) := by
    have := Pa.zero ((w.alloc (.cells (pcs p) 81)).alloc (.cells (pcs q) 81)) 81
    rw [s2] at this
    exact this
  have BL : Hid (Below w.heap.size w (((w.alloc (.cells (pcs p) 81)).alloc (.cells (pcs q) 81)).alloc (.cells pzs 81))) := bstep (bstep (below_one _ _) (below_one _ _)) (below_one _ _)
  obtain ⟨B, hB⟩ : ∃ B, B = w.heap.size := ⟨_, rfl⟩
  obtain ⟨G1, hG1⟩ : ∃ G1, G1 = B + 1 := ⟨_, rfl⟩
  obtain ⟨G2, hG2⟩ : ∃ G2, G2 = B + 1 + 1 := ⟨_, rfl⟩
  have hG2' : B + 2 = G2 := hG2.symm
  rw [← hB] at A0 A1 A2 BL
  rw [← hG1] at A1
  rw [hG2'] at A2
  have HP : Hid (∀ k, p k < 256) := hp
  have HQ : Hid (∀ k, q k < 256) := hq
  clear hp hq s1 s2
  go_enter Try.func65, Try.ntmps65
  go_upto_region 1 with fail
  generalize ((w.alloc (.cells (pcs p) 81)).alloc (.cells (pcs q) 81)).alloc (.cells pzs 81) = W at *
  simp only [← hB]
  rw [← hG2, ← hG1]
  have hBG : B ≠ G2 := by omega
  have hBL : B ≤ G2 := by omega
  have HB9 : Hid (B = w.heap.size) := hB
  clear hG1 hG2 hG2' hB
  refine wp_region_list ?_
  refine A1.out.wload rfl _ rfl rfl ?_
  go_wp2
  go_loopw [7, 8, 10] (fun _ _ iv wr => ∃ i : Nat, iv = .int .i64 (i : Int) ∧ i ≤ 17 ∧ Hid (Pa wr B (fun k => if k < i then ppl p q c k else p k) ∧ Pa wr (G2) (fun _ => 0) ∧ Below B w wr)) (fun _ _ iv _ => 17 - (intOf iv).toNat)
  case atStart => exact ⟨0, rfl, by omega, A0.out.congr (fun k _ => by rw [if_neg (by omega)]), A2.out, BL.out⟩
  case round =>
    obtain ⟨i, rfl, hi, HR⟩ := hrel
    clear A0 A1 A2 BL
    by_cases h1 : i < 17
    · have c0 := HR.out.1.c i h1
      rw [if_neg (by omega)] at c0
      have z0 := HR.out.1.z i h1
      have i1 := times_any (HQ.out i) hc
      have hx := xor_u8 (HP.out i) (gm_lt (HQ.out i) c)
      have HPP := HR.out.1.put h1 (ppl p q c i)
      have HN : Hid (Pa (wr.setCell ⟨B, i, none⟩ (.int .u8 ((ppl p q c i : Nat) : Int))) B (fun k => if k < i + 1 then ppl p q c k else p k)) := HPP.congr (fun k _ => by
        by_cases e : k = i
        · subst e; rw [if_pos rfl, if_pos (by omega)]
        · rw [if_neg e]
          by_cases e3 : k < i
          · rw [if_pos e3, if_pos (by omega)]
          · rw [if_neg e3, if_neg (by omega)])
      have HN2 : Hid (Pa (wr.setCell ⟨B, i, none⟩ (.int .u8 ((ppl p q c i : Nat) : Int))) (G2) (fun _ => 0)) := HR.out.2.1.block (set_block hBG.symm)
      have HB : Hid (Below B w (wr.setCell ⟨B, i, none⟩ (.int .u8 ((ppl p q c i : Nat) : Int)))) := HR.out.2.2.setCell (p := ⟨B, i, none⟩) (Nat.le_refl _) _
      have ex : ((p i ^^^ gm (q i) c : Nat) : Int) = ((ppl p q c i : Nat) : Int) := rfl
      rw [ex] at hx
      have ix : (Instr.index 81 (pgv q) (.int .i64 (i : Int))).run Try.prog wr = .ok (.int .u8 ((q i : Nat) : Int)) wr := idx17 q h1 wr
      clear HPP HR ex
      generalize ppl p q c i = y at *
      generalize gm (q i) c = y1 at *
      generalize p i = y2 at *
      generalize q i = y3 at *
      go_upto_region 4 with fail
      go_region_with (first | (go_at_call 66; (with_reducible refine (i1 _).mono ?_); rintro e w' ⟨rfl, hw⟩; obtain rfl := hw.symm))
      all_goals go_wp2
      all_goals go_roundw
      all_goals first
        | exact ⟨i + 1, by go_num, by omega, HN.out.below (Below.refl _ _).drew, HN2.out.below (Below.refl _ _).drew, HB.out.drew⟩
        | (simp [intOf]; omega)
    · obtain rfl : i = 17 := by omega
      have HA : Hid (Pa wr B (ppl p q c)) := HR.out.1.congr (fun k hk => if_pos (by omega))
      have HZ : Hid (Pa wr G2 (fun _ => 0)) := HR.out.2.1
      have BB : Hid (Below B w wr) := HR.out.2.2
      clear HR
      obtain ⟨g, hg⟩ : ∃ g, g = ppl p q c := ⟨_, rfl⟩
      have HG : Hid (g = ppl p q c) := hg
      have HA : Hid (Pa wr B g) := by rw [hg]; exact HA.out
      clear hg
      go_upto_region 6 with fail
      refine wp_region_list ?_
      refine HA.out.wload rfl _ rfl rfl ?_
      refine HZ.out.wstore g rfl _ _ rfl rfl rfl ?_
      have HL := (HZ.out.stored g).load
      have HB2 : Hid (Below B w (Pa.st wr G2 g)) := Pa.st_below g BB.out hBL
      generalize Pa.st wr G2 g = W9 at *
      go_wp2
      refine bodyPost_ret (v := pgv g) (results_one Try.results65 rfl HL) rfl ⟨by rw [HG.out], ?_⟩
      rw [← HB9.out]
      exact HB2.out
end Go.Proofs.Ytpjpkkgcnnmljaa
