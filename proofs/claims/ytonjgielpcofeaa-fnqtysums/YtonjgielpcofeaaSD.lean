/- Sums and products: the law. -/
import Derived.Test.YtonjgielpcofeaaSC
namespace Go.Proofs.Ytonjgielpcofeaa
open Go.RowKit

set_option maxHeartbeats 8000000 in
theorem walk_sums {w : World} {a : Option Addr} {len cap : Nat} (hr : Row w a len) (hn : len ≤ 9223372036854775807) :
    Calls Try.prog 3 #[.slice a len cap] w fun e w' => e = .returned (.bool true) ∧ Below w.heap.size w w' := by
  have hbig := big_x (w := w) a len cap hn
  by_cases hs : 1048576 < (len : Int)
  · rw [decide_eq_true hs] at hbig
    go_enter Try.func3, Try.ntmps3
    go_wp2_with (go_at_call 8; (with_reducible refine hbig.mono ?_); rintro e w' ⟨rfl, hw⟩; obtain rfl := hw.symm)
    go_ret
    exact ⟨rfl, Below.refl _ _⟩
  · rw [decide_eq_false hs] at hbig
    have hd := drawAdd_x (cap := cap) hr (by omega)
    clear hs hr
    go_enter Try.func3, Try.ntmps3
    go_upto_region 4 with (first
      | (go_at_call 8; (with_reducible refine hbig.mono ?_); rintro e w' ⟨rfl, hw⟩; obtain rfl := hw.symm)
      | (go_at_call 9; (with_reducible refine hd.mono ?_); rintro e w2 ⟨a1, a2, a3, a4, b1, b2, b3, b4, rfl, hb⟩; have B0 : Hid (Below w.heap.size w w2) := hb; clear hb))
    clear hd hbig
    obtain ⟨R, hR⟩ : ∃ R, aR a1 a2 a3 a4 b1 b2 b3 b4 = R := ⟨_, rfl⟩
    obtain ⟨S, hS⟩ : ∃ S, mR a1 a2 a3 a4 b1 b2 b3 b4 = S := ⟨_, rfl⟩
    have hRu := aR_units a1 a2 a3 a4 b1 b2 b3 b4
    have hSu := mR_units a1 a2 a3 a4 b1 b2 b3 b4
    rw [hR] at hRu
    rw [hS] at hSu
    have HRU : Hid _ := hRu
    have HSU : Hid _ := hSu
    clear hRu hSu
    have RA : Hid (R4 ((w2.alloc (.cells #[.int .i64 a1, .int .i64 a2, .int .i64 a3, .int .i64 a4] 25)).alloc (.cells #[.int .i64 b1, .int .i64 b2, .int .i64 b3, .int .i64 b4] 25)) w2.heap.size a1 a2 a3 a4) := (R4.new w2 25 a1 a2 a3 a4).call (below_one _ _)
    have RB : Hid (R4 ((w2.alloc (.cells #[.int .i64 a1, .int .i64 a2, .int .i64 a3, .int .i64 a4] 25)).alloc (.cells #[.int .i64 b1, .int .i64 b2, .int .i64 b3, .int .i64 b4] 25)) (w2.heap.size + 1) b1 b2 b3 b4) := by have h := R4.new (w2.alloc (.cells #[.int .i64 a1, .int .i64 a2, .int .i64 a3, .int .i64 a4] 25)) 25 b1 b2 b3 b4; simp only [World.heap_size_alloc] at h; exact h
    have B0 : Hid (Below w.heap.size w ((w2.alloc (.cells #[.int .i64 a1, .int .i64 a2, .int .i64 a3, .int .i64 a4] 25)).alloc (.cells #[.int .i64 b1, .int .i64 b2, .int .i64 b3, .int .i64 b4] 25))) := bstep (bstep B0.out (below_one _ _)) (below_one _ _)
    generalize w2.heap.size = G at RA RB ⊢
    generalize (w2.alloc (.cells #[.int .i64 a1, .int .i64 a2, .int .i64 a3, .int .i64 a4] 25)).alloc (.cells #[.int .i64 b1, .int .i64 b2, .int .i64 b3, .int .i64 b4] 25) = w4 at B0 RA RB ⊢
    obtain ⟨x0, x1, x2, x3, _⟩ := RA.out
    obtain ⟨y0, y1, y2, y3, _⟩ := RB.out
    go_upto_region 5 with (go_at_call 10; (with_reducible refine (iAdd_any a1 a2 a3 a4 b1 b2 b3 b4 _).mono ?_); rintro e w3 ⟨rfl, hb⟩; have RA : Hid (R4 w3 G a1 a2 a3 a4) := RA.out.call hb; have RB : Hid (R4 w3 (G + 1) b1 b2 b3 b4) := RB.out.call hb; have B0 : Hid (Below w.heap.size w w3) := bstep B0.out hb; clear hb; rw [hR])
    clear x0 x1 x2 x3 y0 y1 y2 y3
    have RX : Hid (R4 (w3.alloc (.cells #[.int .i64 R.1, .int .i64 R.2.1, .int .i64 R.2.2.1, .int .i64 R.2.2.2.1] 25)) w3.heap.size R.1 R.2.1 R.2.2.1 R.2.2.2.1) := R4.new _ _ _ _ _ _
    have RA : Hid (R4 (w3.alloc (.cells #[.int .i64 R.1, .int .i64 R.2.1, .int .i64 R.2.2.1, .int .i64 R.2.2.2.1] 25)) G a1 a2 a3 a4) := RA.out.call (below_one _ _)
    have RB : Hid (R4 (w3.alloc (.cells #[.int .i64 R.1, .int .i64 R.2.1, .int .i64 R.2.2.1, .int .i64 R.2.2.2.1] 25)) (G + 1) b1 b2 b3 b4) := RB.out.call (below_one _ _)
    have B0 : Hid (Below w.heap.size w (w3.alloc (.cells #[.int .i64 R.1, .int .i64 R.2.1, .int .i64 R.2.2.1, .int .i64 R.2.2.2.1] 25))) := bstep B0.out (below_one _ _)
    generalize w3.heap.size = GX at RX ⊢
    generalize w3.alloc (.cells #[.int .i64 R.1, .int .i64 R.2.1, .int .i64 R.2.2.1, .int .i64 R.2.2.2.1] 25) = w4 at B0 RA RB RX ⊢
    obtain ⟨x0, x1, x2, x3, _⟩ := RA.out
    obtain ⟨y0, y1, y2, y3, _⟩ := RB.out
    go_upto_region 6 with (go_at_call 10; (with_reducible refine (iAdd_any b1 b2 b3 b4 a1 a2 a3 a4 _).mono ?_); rintro e w3 ⟨rfl, hb⟩; have RA : Hid (R4 w3 G a1 a2 a3 a4) := RA.out.call hb; have RB : Hid (R4 w3 (G + 1) b1 b2 b3 b4) := RB.out.call hb; have RX : Hid (R4 w3 GX R.1 R.2.1 R.2.2.1 R.2.2.2.1) := RX.out.call hb; have B0 : Hid (Below w.heap.size w w3) := bstep B0.out hb; clear hb; rw [aR_swap a1 a2 a3 a4 b1 b2 b3 b4, hR])
    clear x0 x1 x2 x3 y0 y1 y2 y3
    have RY : Hid (R4 (w3.alloc (.cells #[.int .i64 R.1, .int .i64 R.2.1, .int .i64 R.2.2.1, .int .i64 R.2.2.2.1] 25)) w3.heap.size R.1 R.2.1 R.2.2.1 R.2.2.2.1) := R4.new _ _ _ _ _ _
    have RA : Hid (R4 (w3.alloc (.cells #[.int .i64 R.1, .int .i64 R.2.1, .int .i64 R.2.2.1, .int .i64 R.2.2.2.1] 25)) G a1 a2 a3 a4) := RA.out.call (below_one _ _)
    have RB : Hid (R4 (w3.alloc (.cells #[.int .i64 R.1, .int .i64 R.2.1, .int .i64 R.2.2.1, .int .i64 R.2.2.2.1] 25)) (G + 1) b1 b2 b3 b4) := RB.out.call (below_one _ _)
    have RX : Hid (R4 (w3.alloc (.cells #[.int .i64 R.1, .int .i64 R.2.1, .int .i64 R.2.2.1, .int .i64 R.2.2.2.1] 25)) GX R.1 R.2.1 R.2.2.1 R.2.2.2.1) := RX.out.call (below_one _ _)
    have B0 : Hid (Below w.heap.size w (w3.alloc (.cells #[.int .i64 R.1, .int .i64 R.2.1, .int .i64 R.2.2.1, .int .i64 R.2.2.2.1] 25))) := bstep B0.out (below_one _ _)
    generalize w3.heap.size = GY at RY ⊢
    generalize w3.alloc (.cells #[.int .i64 R.1, .int .i64 R.2.1, .int .i64 R.2.2.1, .int .i64 R.2.2.2.1] 25) = w4 at B0 RA RB RX RY ⊢
    obtain ⟨x0, x1, x2, x3, _⟩ := RA.out
    obtain ⟨y0, y1, y2, y3, _⟩ := RB.out
    go_upto_region 7 with (go_at_call 11; (with_reducible refine (iMul_any a1 a2 a3 a4 b1 b2 b3 b4 _).mono ?_); rintro e w3 ⟨rfl, hb⟩; have RA : Hid (R4 w3 G a1 a2 a3 a4) := RA.out.call hb; have RB : Hid (R4 w3 (G + 1) b1 b2 b3 b4) := RB.out.call hb; have RX : Hid (R4 w3 GX R.1 R.2.1 R.2.2.1 R.2.2.2.1) := RX.out.call hb; have RY : Hid (R4 w3 GY R.1 R.2.1 R.2.2.1 R.2.2.2.1) := RY.out.call hb; have B0 : Hid (Below w.heap.size w w3) := bstep B0.out hb; clear hb; rw [hS])
    clear x0 x1 x2 x3 y0 y1 y2 y3
    have RU : Hid (R4 (w3.alloc (.cells #[.int .i64 S.1, .int .i64 S.2.1, .int .i64 S.2.2.1, .int .i64 S.2.2.2.1] 25)) w3.heap.size S.1 S.2.1 S.2.2.1 S.2.2.2.1) := R4.new _ _ _ _ _ _
    have RA : Hid (R4 (w3.alloc (.cells #[.int .i64 S.1, .int .i64 S.2.1, .int .i64 S.2.2.1, .int .i64 S.2.2.2.1] 25)) G a1 a2 a3 a4) := RA.out.call (below_one _ _)
    have RB : Hid (R4 (w3.alloc (.cells #[.int .i64 S.1, .int .i64 S.2.1, .int .i64 S.2.2.1, .int .i64 S.2.2.2.1] 25)) (G + 1) b1 b2 b3 b4) := RB.out.call (below_one _ _)
    have RX : Hid (R4 (w3.alloc (.cells #[.int .i64 S.1, .int .i64 S.2.1, .int .i64 S.2.2.1, .int .i64 S.2.2.2.1] 25)) GX R.1 R.2.1 R.2.2.1 R.2.2.2.1) := RX.out.call (below_one _ _)
    have RY : Hid (R4 (w3.alloc (.cells #[.int .i64 S.1, .int .i64 S.2.1, .int .i64 S.2.2.1, .int .i64 S.2.2.2.1] 25)) GY R.1 R.2.1 R.2.2.1 R.2.2.2.1) := RY.out.call (below_one _ _)
    have B0 : Hid (Below w.heap.size w (w3.alloc (.cells #[.int .i64 S.1, .int .i64 S.2.1, .int .i64 S.2.2.1, .int .i64 S.2.2.2.1] 25))) := bstep B0.out (below_one _ _)
    generalize w3.heap.size = GU at RU ⊢
    generalize w3.alloc (.cells #[.int .i64 S.1, .int .i64 S.2.1, .int .i64 S.2.2.1, .int .i64 S.2.2.2.1] 25) = w4 at B0 RA RB RX RY RU ⊢
    obtain ⟨x0, x1, x2, x3, _⟩ := RA.out
    obtain ⟨y0, y1, y2, y3, _⟩ := RB.out
    go_upto_region 8 with (go_at_call 11; (with_reducible refine (iMul_any b1 b2 b3 b4 a1 a2 a3 a4 _).mono ?_); rintro e w3 ⟨rfl, hb⟩; have RA : Hid (R4 w3 G a1 a2 a3 a4) := RA.out.call hb; have RB : Hid (R4 w3 (G + 1) b1 b2 b3 b4) := RB.out.call hb; have RX : Hid (R4 w3 GX R.1 R.2.1 R.2.2.1 R.2.2.2.1) := RX.out.call hb; have RY : Hid (R4 w3 GY R.1 R.2.1 R.2.2.1 R.2.2.2.1) := RY.out.call hb; have RU : Hid (R4 w3 GU S.1 S.2.1 S.2.2.1 S.2.2.2.1) := RU.out.call hb; have B0 : Hid (Below w.heap.size w w3) := bstep B0.out hb; clear hb; rw [mR_swap a1 a2 a3 a4 b1 b2 b3 b4, hS])
    clear x0 x1 x2 x3 y0 y1 y2 y3
    have RV : Hid (R4 (w3.alloc (.cells #[.int .i64 S.1, .int .i64 S.2.1, .int .i64 S.2.2.1, .int .i64 S.2.2.2.1] 25)) w3.heap.size S.1 S.2.1 S.2.2.1 S.2.2.2.1) := R4.new _ _ _ _ _ _
    have RA : Hid (R4 (w3.alloc (.cells #[.int .i64 S.1, .int .i64 S.2.1, .int .i64 S.2.2.1, .int .i64 S.2.2.2.1] 25)) G a1 a2 a3 a4) := RA.out.call (below_one _ _)
    have RB : Hid (R4 (w3.alloc (.cells #[.int .i64 S.1, .int .i64 S.2.1, .int .i64 S.2.2.1, .int .i64 S.2.2.2.1] 25)) (G + 1) b1 b2 b3 b4) := RB.out.call (below_one _ _)
    have RX : Hid (R4 (w3.alloc (.cells #[.int .i64 S.1, .int .i64 S.2.1, .int .i64 S.2.2.1, .int .i64 S.2.2.2.1] 25)) GX R.1 R.2.1 R.2.2.1 R.2.2.2.1) := RX.out.call (below_one _ _)
    have RY : Hid (R4 (w3.alloc (.cells #[.int .i64 S.1, .int .i64 S.2.1, .int .i64 S.2.2.1, .int .i64 S.2.2.2.1] 25)) GY R.1 R.2.1 R.2.2.1 R.2.2.2.1) := RY.out.call (below_one _ _)
    have RU : Hid (R4 (w3.alloc (.cells #[.int .i64 S.1, .int .i64 S.2.1, .int .i64 S.2.2.1, .int .i64 S.2.2.2.1] 25)) GU S.1 S.2.1 S.2.2.1 S.2.2.2.1) := RU.out.call (below_one _ _)
    have B0 : Hid (Below w.heap.size w (w3.alloc (.cells #[.int .i64 S.1, .int .i64 S.2.1, .int .i64 S.2.2.1, .int .i64 S.2.2.2.1] 25))) := bstep B0.out (below_one _ _)
    generalize w3.heap.size = GV at RV ⊢
    generalize w3.alloc (.cells #[.int .i64 S.1, .int .i64 S.2.1, .int .i64 S.2.2.1, .int .i64 S.2.2.2.1] 25) = w4 at B0 RA RB RX RY RU RV ⊢
    obtain ⟨x0, x1, x2, x3, _⟩ := RA.out
    obtain ⟨y0, y1, y2, y3, _⟩ := RB.out
    go_upto_region 9 with (go_at_call 12; (with_reducible refine (sAdd_any a1 a2 a3 a4 b1 b2 b3 b4 _).mono ?_); rintro e w3 ⟨rfl, hb⟩; have RA : Hid (R4 w3 G a1 a2 a3 a4) := RA.out.call hb; have RB : Hid (R4 w3 (G + 1) b1 b2 b3 b4) := RB.out.call hb; have RX : Hid (R4 w3 GX R.1 R.2.1 R.2.2.1 R.2.2.2.1) := RX.out.call hb; have RY : Hid (R4 w3 GY R.1 R.2.1 R.2.2.1 R.2.2.2.1) := RY.out.call hb; have RU : Hid (R4 w3 GU S.1 S.2.1 S.2.2.1 S.2.2.2.1) := RU.out.call hb; have RV : Hid (R4 w3 GV S.1 S.2.1 S.2.2.1 S.2.2.2.1) := RV.out.call hb; have B0 : Hid (Below w.heap.size w w3) := bstep B0.out hb; clear hb; rw [hR])
    clear x0 x1 x2 x3 y0 y1 y2 y3
    have RP : Hid (R4 (w3.alloc (.cells #[.int .i64 R.1, .int .i64 R.2.1, .int .i64 R.2.2.1, .int .i64 R.2.2.2.1] 25)) w3.heap.size R.1 R.2.1 R.2.2.1 R.2.2.2.1) := R4.new _ _ _ _ _ _
    have RA : Hid (R4 (w3.alloc (.cells #[.int .i64 R.1, .int .i64 R.2.1, .int .i64 R.2.2.1, .int .i64 R.2.2.2.1] 25)) G a1 a2 a3 a4) := RA.out.call (below_one _ _)
    have RB : Hid (R4 (w3.alloc (.cells #[.int .i64 R.1, .int .i64 R.2.1, .int .i64 R.2.2.1, .int .i64 R.2.2.2.1] 25)) (G + 1) b1 b2 b3 b4) := RB.out.call (below_one _ _)
    have RX : Hid (R4 (w3.alloc (.cells #[.int .i64 R.1, .int .i64 R.2.1, .int .i64 R.2.2.1, .int .i64 R.2.2.2.1] 25)) GX R.1 R.2.1 R.2.2.1 R.2.2.2.1) := RX.out.call (below_one _ _)
    have RY : Hid (R4 (w3.alloc (.cells #[.int .i64 R.1, .int .i64 R.2.1, .int .i64 R.2.2.1, .int .i64 R.2.2.2.1] 25)) GY R.1 R.2.1 R.2.2.1 R.2.2.2.1) := RY.out.call (below_one _ _)
    have RU : Hid (R4 (w3.alloc (.cells #[.int .i64 R.1, .int .i64 R.2.1, .int .i64 R.2.2.1, .int .i64 R.2.2.2.1] 25)) GU S.1 S.2.1 S.2.2.1 S.2.2.2.1) := RU.out.call (below_one _ _)
    have RV : Hid (R4 (w3.alloc (.cells #[.int .i64 R.1, .int .i64 R.2.1, .int .i64 R.2.2.1, .int .i64 R.2.2.2.1] 25)) GV S.1 S.2.1 S.2.2.1 S.2.2.2.1) := RV.out.call (below_one _ _)
    have B0 : Hid (Below w.heap.size w (w3.alloc (.cells #[.int .i64 R.1, .int .i64 R.2.1, .int .i64 R.2.2.1, .int .i64 R.2.2.2.1] 25))) := bstep B0.out (below_one _ _)
    generalize w3.heap.size = GP at RP ⊢
    generalize w3.alloc (.cells #[.int .i64 R.1, .int .i64 R.2.1, .int .i64 R.2.2.1, .int .i64 R.2.2.2.1] 25) = w4 at B0 RA RB RX RY RU RV RP ⊢
    obtain ⟨x0, x1, x2, x3, _⟩ := RA.out
    obtain ⟨y0, y1, y2, y3, _⟩ := RB.out
    obtain ⟨z0, z1, z2, z3, _⟩ := RX.out
    obtain ⟨v0, v1, v2, v3, _⟩ := RY.out
    go_upto_region 11 with fail
    clear x0 x1 x2 x3 y0 y1 y2 y3 z0 z1 z2 z3 v0 v1 v2 v3
    obtain ⟨x0, x1, x2, x3, _⟩ := RA.out
    obtain ⟨y0, y1, y2, y3, _⟩ := RB.out
    go_upto_region 12 with (go_at_call 13; (with_reducible refine (sMul_any a1 a2 a3 a4 b1 b2 b3 b4 _).mono ?_); rintro e w3 ⟨rfl, hb⟩; have RA : Hid (R4 w3 G a1 a2 a3 a4) := RA.out.call hb; have RB : Hid (R4 w3 (G + 1) b1 b2 b3 b4) := RB.out.call hb; have RX : Hid (R4 w3 GX R.1 R.2.1 R.2.2.1 R.2.2.2.1) := RX.out.call hb; have RY : Hid (R4 w3 GY R.1 R.2.1 R.2.2.1 R.2.2.2.1) := RY.out.call hb; have RU : Hid (R4 w3 GU S.1 S.2.1 S.2.2.1 S.2.2.2.1) := RU.out.call hb; have RV : Hid (R4 w3 GV S.1 S.2.1 S.2.2.1 S.2.2.2.1) := RV.out.call hb; have RP : Hid (R4 w3 GP R.1 R.2.1 R.2.2.1 R.2.2.2.1) := RP.out.call hb; have B0 : Hid (Below w.heap.size w w3) := bstep B0.out hb; clear hb; rw [hS])
    clear x0 x1 x2 x3 y0 y1 y2 y3
    have RQ : Hid (R4 (w3.alloc (.cells #[.int .i64 S.1, .int .i64 S.2.1, .int .i64 S.2.2.1, .int .i64 S.2.2.2.1] 25)) w3.heap.size S.1 S.2.1 S.2.2.1 S.2.2.2.1) := R4.new _ _ _ _ _ _
    have RA : Hid (R4 (w3.alloc (.cells #[.int .i64 S.1, .int .i64 S.2.1, .int .i64 S.2.2.1, .int .i64 S.2.2.2.1] 25)) G a1 a2 a3 a4) := RA.out.call (below_one _ _)
    have RB : Hid (R4 (w3.alloc (.cells #[.int .i64 S.1, .int .i64 S.2.1, .int .i64 S.2.2.1, .int .i64 S.2.2.2.1] 25)) (G + 1) b1 b2 b3 b4) := RB.out.call (below_one _ _)
    have RX : Hid (R4 (w3.alloc (.cells #[.int .i64 S.1, .int .i64 S.2.1, .int .i64 S.2.2.1, .int .i64 S.2.2.2.1] 25)) GX R.1 R.2.1 R.2.2.1 R.2.2.2.1) := RX.out.call (below_one _ _)
    have RY : Hid (R4 (w3.alloc (.cells #[.int .i64 S.1, .int .i64 S.2.1, .int .i64 S.2.2.1, .int .i64 S.2.2.2.1] 25)) GY R.1 R.2.1 R.2.2.1 R.2.2.2.1) := RY.out.call (below_one _ _)
    have RU : Hid (R4 (w3.alloc (.cells #[.int .i64 S.1, .int .i64 S.2.1, .int .i64 S.2.2.1, .int .i64 S.2.2.2.1] 25)) GU S.1 S.2.1 S.2.2.1 S.2.2.2.1) := RU.out.call (below_one _ _)
    have RV : Hid (R4 (w3.alloc (.cells #[.int .i64 S.1, .int .i64 S.2.1, .int .i64 S.2.2.1, .int .i64 S.2.2.2.1] 25)) GV S.1 S.2.1 S.2.2.1 S.2.2.2.1) := RV.out.call (below_one _ _)
    have RP : Hid (R4 (w3.alloc (.cells #[.int .i64 S.1, .int .i64 S.2.1, .int .i64 S.2.2.1, .int .i64 S.2.2.2.1] 25)) GP R.1 R.2.1 R.2.2.1 R.2.2.2.1) := RP.out.call (below_one _ _)
    have B0 : Hid (Below w.heap.size w (w3.alloc (.cells #[.int .i64 S.1, .int .i64 S.2.1, .int .i64 S.2.2.1, .int .i64 S.2.2.2.1] 25))) := bstep B0.out (below_one _ _)
    generalize w3.heap.size = GQ at RQ ⊢
    generalize w3.alloc (.cells #[.int .i64 S.1, .int .i64 S.2.1, .int .i64 S.2.2.1, .int .i64 S.2.2.2.1] 25) = w4 at B0 RA RB RX RY RU RV RP RQ ⊢
    obtain ⟨z0, z1, z2, z3, _⟩ := RU.out
    obtain ⟨v0, v1, v2, v3, _⟩ := RV.out
    go_upto_region 14 with fail
    clear z0 z1 z2 z3 v0 v1 v2 v3
    go_upto_region 15 with (go_at_call 10; (with_reducible refine (iAdd_fifty _).mono ?_); rintro e w3 ⟨rfl, hb⟩; have RA : Hid (R4 w3 G a1 a2 a3 a4) := RA.out.call hb; have RB : Hid (R4 w3 (G + 1) b1 b2 b3 b4) := RB.out.call hb; have RX : Hid (R4 w3 GX R.1 R.2.1 R.2.2.1 R.2.2.2.1) := RX.out.call hb; have RY : Hid (R4 w3 GY R.1 R.2.1 R.2.2.1 R.2.2.2.1) := RY.out.call hb; have RU : Hid (R4 w3 GU S.1 S.2.1 S.2.2.1 S.2.2.2.1) := RU.out.call hb; have RV : Hid (R4 w3 GV S.1 S.2.1 S.2.2.1 S.2.2.2.1) := RV.out.call hb; have RP : Hid (R4 w3 GP R.1 R.2.1 R.2.2.1 R.2.2.2.1) := RP.out.call hb; have RQ : Hid (R4 w3 GQ S.1 S.2.1 S.2.2.1 S.2.2.2.1) := RQ.out.call hb; have B0 : Hid (Below w.heap.size w w3) := bstep B0.out hb; clear hb; skip)
    have RZ : Hid (R4 (w3.alloc (.cells #[.int .i64 0, .int .i64 0, .int .i64 0, .int .i64 0] 25)) w3.heap.size 0 0 0 0) := R4.new _ _ _ _ _ _
    have RA : Hid (R4 (w3.alloc (.cells #[.int .i64 0, .int .i64 0, .int .i64 0, .int .i64 0] 25)) G a1 a2 a3 a4) := RA.out.call (below_one _ _)
    have RB : Hid (R4 (w3.alloc (.cells #[.int .i64 0, .int .i64 0, .int .i64 0, .int .i64 0] 25)) (G + 1) b1 b2 b3 b4) := RB.out.call (below_one _ _)
    have RX : Hid (R4 (w3.alloc (.cells #[.int .i64 0, .int .i64 0, .int .i64 0, .int .i64 0] 25)) GX R.1 R.2.1 R.2.2.1 R.2.2.2.1) := RX.out.call (below_one _ _)
    have RY : Hid (R4 (w3.alloc (.cells #[.int .i64 0, .int .i64 0, .int .i64 0, .int .i64 0] 25)) GY R.1 R.2.1 R.2.2.1 R.2.2.2.1) := RY.out.call (below_one _ _)
    have RU : Hid (R4 (w3.alloc (.cells #[.int .i64 0, .int .i64 0, .int .i64 0, .int .i64 0] 25)) GU S.1 S.2.1 S.2.2.1 S.2.2.2.1) := RU.out.call (below_one _ _)
    have RV : Hid (R4 (w3.alloc (.cells #[.int .i64 0, .int .i64 0, .int .i64 0, .int .i64 0] 25)) GV S.1 S.2.1 S.2.2.1 S.2.2.2.1) := RV.out.call (below_one _ _)
    have RP : Hid (R4 (w3.alloc (.cells #[.int .i64 0, .int .i64 0, .int .i64 0, .int .i64 0] 25)) GP R.1 R.2.1 R.2.2.1 R.2.2.2.1) := RP.out.call (below_one _ _)
    have RQ : Hid (R4 (w3.alloc (.cells #[.int .i64 0, .int .i64 0, .int .i64 0, .int .i64 0] 25)) GQ S.1 S.2.1 S.2.2.1 S.2.2.2.1) := RQ.out.call (below_one _ _)
    have B0 : Hid (Below w.heap.size w (w3.alloc (.cells #[.int .i64 0, .int .i64 0, .int .i64 0, .int .i64 0] 25))) := bstep B0.out (below_one _ _)
    generalize w3.heap.size = GZ at RZ ⊢
    generalize w3.alloc (.cells #[.int .i64 0, .int .i64 0, .int .i64 0, .int .i64 0] 25) = w4 at B0 RA RB RX RY RU RV RP RQ RZ ⊢
    obtain ⟨z0, z1, z2, z3, _⟩ := RZ.out
    go_upto_region 17 with fail
    clear z0 z1 z2 z3
    go_upto_region 18 with (go_at_call 10; (with_reducible refine (iAdd_three _).mono ?_); rintro e w3 ⟨rfl, hb⟩; have RA : Hid (R4 w3 G a1 a2 a3 a4) := RA.out.call hb; have RB : Hid (R4 w3 (G + 1) b1 b2 b3 b4) := RB.out.call hb; have RX : Hid (R4 w3 GX R.1 R.2.1 R.2.2.1 R.2.2.2.1) := RX.out.call hb; have RY : Hid (R4 w3 GY R.1 R.2.1 R.2.2.1 R.2.2.2.1) := RY.out.call hb; have RU : Hid (R4 w3 GU S.1 S.2.1 S.2.2.1 S.2.2.2.1) := RU.out.call hb; have RV : Hid (R4 w3 GV S.1 S.2.1 S.2.2.1 S.2.2.2.1) := RV.out.call hb; have RP : Hid (R4 w3 GP R.1 R.2.1 R.2.2.1 R.2.2.2.1) := RP.out.call hb; have RQ : Hid (R4 w3 GQ S.1 S.2.1 S.2.2.1 S.2.2.2.1) := RQ.out.call hb; have RZ : Hid (R4 w3 GZ 0 0 0 0) := RZ.out.call hb; have B0 : Hid (Below w.heap.size w w3) := bstep B0.out hb; clear hb; skip)
    have RW : Hid (R4 (w3.alloc (.cells #[.int .i64 53, .int .i64 0, .int .i64 0, .int .i64 0] 25)) w3.heap.size 53 0 0 0) := R4.new _ _ _ _ _ _
    have RA : Hid (R4 (w3.alloc (.cells #[.int .i64 53, .int .i64 0, .int .i64 0, .int .i64 0] 25)) G a1 a2 a3 a4) := RA.out.call (below_one _ _)
    have RB : Hid (R4 (w3.alloc (.cells #[.int .i64 53, .int .i64 0, .int .i64 0, .int .i64 0] 25)) (G + 1) b1 b2 b3 b4) := RB.out.call (below_one _ _)
    have RX : Hid (R4 (w3.alloc (.cells #[.int .i64 53, .int .i64 0, .int .i64 0, .int .i64 0] 25)) GX R.1 R.2.1 R.2.2.1 R.2.2.2.1) := RX.out.call (below_one _ _)
    have RY : Hid (R4 (w3.alloc (.cells #[.int .i64 53, .int .i64 0, .int .i64 0, .int .i64 0] 25)) GY R.1 R.2.1 R.2.2.1 R.2.2.2.1) := RY.out.call (below_one _ _)
    have RU : Hid (R4 (w3.alloc (.cells #[.int .i64 53, .int .i64 0, .int .i64 0, .int .i64 0] 25)) GU S.1 S.2.1 S.2.2.1 S.2.2.2.1) := RU.out.call (below_one _ _)
    have RV : Hid (R4 (w3.alloc (.cells #[.int .i64 53, .int .i64 0, .int .i64 0, .int .i64 0] 25)) GV S.1 S.2.1 S.2.2.1 S.2.2.2.1) := RV.out.call (below_one _ _)
    have RP : Hid (R4 (w3.alloc (.cells #[.int .i64 53, .int .i64 0, .int .i64 0, .int .i64 0] 25)) GP R.1 R.2.1 R.2.2.1 R.2.2.2.1) := RP.out.call (below_one _ _)
    have RQ : Hid (R4 (w3.alloc (.cells #[.int .i64 53, .int .i64 0, .int .i64 0, .int .i64 0] 25)) GQ S.1 S.2.1 S.2.2.1 S.2.2.2.1) := RQ.out.call (below_one _ _)
    have RZ : Hid (R4 (w3.alloc (.cells #[.int .i64 53, .int .i64 0, .int .i64 0, .int .i64 0] 25)) GZ 0 0 0 0) := RZ.out.call (below_one _ _)
    have B0 : Hid (Below w.heap.size w (w3.alloc (.cells #[.int .i64 53, .int .i64 0, .int .i64 0, .int .i64 0] 25))) := bstep B0.out (below_one _ _)
    generalize w3.heap.size = GW at RW ⊢
    generalize w3.alloc (.cells #[.int .i64 53, .int .i64 0, .int .i64 0, .int .i64 0] 25) = w4 at B0 RA RB RX RY RU RV RP RQ RZ RW ⊢
    obtain ⟨x0, x1, x2, x3, _⟩ := RA.out
    obtain ⟨y0, y1, y2, y3, _⟩ := RB.out
    obtain ⟨z0, z1, z2, z3, _⟩ := RW.out
    obtain ⟨v0, v1, v2, v3, _⟩ := RX.out
    obtain ⟨u0, u1, u2, u3, _⟩ := RU.out
    cases hd : R.2.2.2.2
    · skip
      cases hs : S.2.2.2.2
      · skip
        go_wp2
        go_ret
        exact ⟨rfl, B0.out⟩
      · obtain ⟨e3, e4, e5, e6⟩ := HSU.out hs
        go_wp2
        go_ret
        exact ⟨rfl, B0.out⟩
    · obtain ⟨e1, e2⟩ := HRU.out hd
      cases hs : S.2.2.2.2
      · skip
        go_wp2
        go_ret
        exact ⟨rfl, B0.out⟩
      · obtain ⟨e3, e4, e5, e6⟩ := HSU.out hs
        go_wp2
        go_ret
        exact ⟨rfl, B0.out⟩

end Go.Proofs.Ytonjgielpcofeaa
