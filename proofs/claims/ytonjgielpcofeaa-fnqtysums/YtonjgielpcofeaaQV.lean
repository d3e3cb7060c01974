/- Sums of the model: all. -/
import Derived.Test.YtonjgielpcofeaaQT
import Derived.Test.YtonjgielpcofeaaQU
namespace Go.Proofs.Ytonjgielpcofeaa
open Go.RowKit

/-- A sum may be exchanged. -/
theorem aR_swap (a1 a2 a3 a4 b1 b2 b3 b4 : Int) : aR b1 b2 b3 b4 a1 a2 a3 a4 = aR a1 a2 a3 a4 b1 b2 b3 b4 := by
  unfold aR
  by_cases h : Qok a1 a2 a3 a4 ∧ Qok b1 b2 b3 b4 ∧ a3 = b3 ∧ a4 = b4
  · obtain ⟨ha, hb, rfl, rfl⟩ := h
    have c1 : Qok b1 b2 a3 a4 ∧ Qok a1 a2 a3 a4 ∧ a3 = a3 ∧ a4 = a4 := ⟨hb, ha, rfl, rfl⟩
    have c2 : Qok a1 a2 a3 a4 ∧ Qok b1 b2 a3 a4 ∧ a3 = a3 ∧ a4 = a4 := ⟨ha, hb, rfl, rfl⟩
    rw [if_pos c1, if_pos c2]
    by_cases h1 : a1 = 0
    · by_cases h2 : b1 = 0
      · have e1 : a2 = b2 := by unfold Qok at ha hb; omega
        simp only [if_pos h1, if_pos h2]
        rw [h1, h2, e1]
      · simp only [if_pos h1, if_neg h2]
    · by_cases h2 : b1 = 0
      · simp only [if_neg h1, if_pos h2]
      · simp only [if_neg h1, if_neg h2]
        have e1 : (b2 - a2).natAbs = (a2 - b2).natAbs := by omega
        have e2 : min b2 a2 = min a2 b2 := by omega
        have e3 : b1 * 10 ^ (b2 - a2).toNat + a1 * 10 ^ (a2 - b2).toNat = a1 * 10 ^ (a2 - b2).toNat + b1 * 10 ^ (b2 - a2).toNat := Int.add_comm _ _
        rw [e1, e2, e3]
  · rw [if_neg h, if_neg (fun hh => h ⟨hh.2.1, hh.1, hh.2.2.1.symm, hh.2.2.2.symm⟩)]

theorem mR_swap (a1 a2 a3 a4 b1 b2 b3 b4 : Int) : mR b1 b2 b3 b4 a1 a2 a3 a4 = mR a1 a2 a3 a4 b1 b2 b3 b4 := by
  unfold mR
  by_cases h : Qok a1 a2 a3 a4 ∧ Qok b1 b2 b3 b4
  · rw [if_pos h, if_pos ⟨h.2, h.1⟩, Int.mul_comm b1 a1, Int.add_comm b2 a2, Int.add_comm b3 a3, Int.add_comm b4 a4]
  · rw [if_neg h, if_neg (fun hh => h ⟨hh.2, hh.1⟩)]

theorem sAdd_notlt (a1 a2 a3 a4 b1 b2 : Int) (ha : Qok a1 a2 a3 a4) (hb : Qok b1 b2 a3 a4) (h1 : ¬ a1 = 0) (h2 : ¬ b1 = 0) (h5 : ¬ a2 < b2) (w : World) : Calls Try.prog 12 #[.agg #[.int .i64 a1, .int .i64 a2, .int .i64 a3, .int .i64 a4], .agg #[.int .i64 b1, .int .i64 b2, .int .i64 a3, .int .i64 a4]] w fun e w' => e = .returned (.tuple #[.agg #[.int .i64 (aR a1 a2 a3 a4 b1 b2 a3 a4).1, .int .i64 (aR a1 a2 a3 a4 b1 b2 a3 a4).2.1, .int .i64 (aR a1 a2 a3 a4 b1 b2 a3 a4).2.2.1, .int .i64 (aR a1 a2 a3 a4 b1 b2 a3 a4).2.2.2.1], .bool (aR a1 a2 a3 a4 b1 b2 a3 a4).2.2.2.2]) ∧ Below w.heap.size w w' := by
  by_cases h6 : 9 < a2 - b2
  · exact sAdd_far1 a1 a2 a3 a4 b1 b2 ha hb h1 h2 (by omega) h6 w
  · exact sAdd_ge a1 a2 a3 a4 b1 b2 ha hb h1 h2 h5 h6 w

set_option maxHeartbeats 2000000 in
theorem sAdd_lt (a1 a2 a3 a4 b1 b2 : Int) (ha : Qok a1 a2 a3 a4) (hb : Qok b1 b2 a3 a4) (h1 : ¬ a1 = 0) (h2 : ¬ b1 = 0) (h5 : a2 < b2) (w : World) : Calls Try.prog 12 #[.agg #[.int .i64 a1, .int .i64 a2, .int .i64 a3, .int .i64 a4], .agg #[.int .i64 b1, .int .i64 b2, .int .i64 a3, .int .i64 a4]] w fun e w' => e = .returned (.tuple #[.agg #[.int .i64 (aR a1 a2 a3 a4 b1 b2 a3 a4).1, .int .i64 (aR a1 a2 a3 a4 b1 b2 a3 a4).2.1, .int .i64 (aR a1 a2 a3 a4 b1 b2 a3 a4).2.2.1, .int .i64 (aR a1 a2 a3 a4 b1 b2 a3 a4).2.2.2.1], .bool (aR a1 a2 a3 a4 b1 b2 a3 a4).2.2.2.2]) ∧ Below w.heap.size w w' := by
  have B0 : Hid (Below w.heap.size w ((((w).alloc (.cells #[.int .i64 a1, .int .i64 a2, .int .i64 a3, .int .i64 a4] 25)).alloc (.cells #[.int .i64 b1, .int .i64 b2, .int .i64 a3, .int .i64 a4] 25)).alloc (.cells #[.int .i64 0, .int .i64 0, .int .i64 0, .int .i64 0] 25))) := bstep (bstep (below_one w _) (below_one _ _)) (below_one _ _)
  have RA : Hid (R4 ((((w).alloc (.cells #[.int .i64 a1, .int .i64 a2, .int .i64 a3, .int .i64 a4] 25)).alloc (.cells #[.int .i64 b1, .int .i64 b2, .int .i64 a3, .int .i64 a4] 25)).alloc (.cells #[.int .i64 0, .int .i64 0, .int .i64 0, .int .i64 0] 25)) w.heap.size a1 a2 a3 a4) := ((R4.new w 25 a1 a2 a3 a4).call (below_one _ _)).call (below_one _ _)
  have RB : Hid (R4 ((((w).alloc (.cells #[.int .i64 a1, .int .i64 a2, .int .i64 a3, .int .i64 a4] 25)).alloc (.cells #[.int .i64 b1, .int .i64 b2, .int .i64 a3, .int .i64 a4] 25)).alloc (.cells #[.int .i64 0, .int .i64 0, .int .i64 0, .int .i64 0] 25)) (w.heap.size + 1) b1 b2 a3 a4) := by have h := (R4.new (w.alloc (.cells #[.int .i64 a1, .int .i64 a2, .int .i64 a3, .int .i64 a4] 25)) 25 b1 b2 a3 a4).call (below_one _ (.cells #[.int .i64 0, .int .i64 0, .int .i64 0, .int .i64 0] 25)); simp only [World.heap_size_alloc] at h; exact h
  have RZ : Hid (R4 ((((w).alloc (.cells #[.int .i64 a1, .int .i64 a2, .int .i64 a3, .int .i64 a4] 25)).alloc (.cells #[.int .i64 b1, .int .i64 b2, .int .i64 a3, .int .i64 a4] 25)).alloc (.cells #[.int .i64 0, .int .i64 0, .int .i64 0, .int .i64 0] 25)) (w.heap.size + 1 + 1) 0 0 0 0) := by have h := R4.new ((w.alloc (.cells #[.int .i64 a1, .int .i64 a2, .int .i64 a3, .int .i64 a4] 25)).alloc (.cells #[.int .i64 b1, .int .i64 b2, .int .i64 a3, .int .i64 a4] 25)) 25 0 0 0 0; simp only [World.heap_size_alloc] at h; exact h
  have hda := decide_eq_true ha
  have hdb := decide_eq_true hb
  have HN : ∀ W : World, Calls Try.prog 12 #[.agg #[.int .i64 b1, .int .i64 b2, .int .i64 a3, .int .i64 a4], .agg #[.int .i64 a1, .int .i64 a2, .int .i64 a3, .int .i64 a4]] W fun e w' => e = .returned (.tuple #[.agg #[.int .i64 (aR a1 a2 a3 a4 b1 b2 a3 a4).1, .int .i64 (aR a1 a2 a3 a4 b1 b2 a3 a4).2.1, .int .i64 (aR a1 a2 a3 a4 b1 b2 a3 a4).2.2.1, .int .i64 (aR a1 a2 a3 a4 b1 b2 a3 a4).2.2.2.1], .bool (aR a1 a2 a3 a4 b1 b2 a3 a4).2.2.2.2]) ∧ Below W.heap.size W w' := by
    intro W
    rw [← aR_swap]
    exact sAdd_notlt b1 b2 a3 a4 a1 a2 hb ha h2 h1 (by omega) W
  generalize (aR a1 a2 a3 a4 b1 b2 a3 a4) = R at HN ⊢
  clear ha hb
  have HN : Hid _ := HN
  go_enter Try.func12, Try.ntmps12
  go_wp2_with (first
    | (go_at_call 14; first | ((with_reducible refine (sQok_any a1 a2 a3 a4 _).mono ?_); rintro e w2 ⟨rfl, hb⟩; have B0 : Hid (Below w.heap.size w w2) := bstep B0.out hb; have RA : Hid (R4 w2 w.heap.size a1 a2 a3 a4) := RA.out.call hb; have RB : Hid (R4 w2 (w.heap.size + 1) b1 b2 a3 a4) := RB.out.call hb; have RZ : Hid (R4 w2 (w.heap.size + 1 + 1) 0 0 0 0) := RZ.out.call hb; clear hb; (try clear x0 x1 x2 x3 y0 y1 y2 y3 z0 z1 z2 z3); obtain ⟨x0, x1, x2, x3, xf⟩ := RA.out; obtain ⟨y0, y1, y2, y3, yf⟩ := RB.out; obtain ⟨z0, z1, z2, z3, zf⟩ := RZ.out; (try clear f0 f1 f2 f3 g1 g2); have f0 := zf 0; have f1 := zf 1; have f2 := zf 2; have f3 := zf 3; have g1 := xf 1; have g2 := yf 1; clear zf xf yf; rw [hda]) | ((with_reducible refine (sQok_any b1 b2 a3 a4 _).mono ?_); rintro e w2 ⟨rfl, hb⟩; have B0 : Hid (Below w.heap.size w w2) := bstep B0.out hb; have RA : Hid (R4 w2 w.heap.size a1 a2 a3 a4) := RA.out.call hb; have RB : Hid (R4 w2 (w.heap.size + 1) b1 b2 a3 a4) := RB.out.call hb; have RZ : Hid (R4 w2 (w.heap.size + 1 + 1) 0 0 0 0) := RZ.out.call hb; clear hb; (try clear x0 x1 x2 x3 y0 y1 y2 y3 z0 z1 z2 z3); obtain ⟨x0, x1, x2, x3, xf⟩ := RA.out; obtain ⟨y0, y1, y2, y3, yf⟩ := RB.out; obtain ⟨z0, z1, z2, z3, zf⟩ := RZ.out; (try clear f0 f1 f2 f3 g1 g2); have f0 := zf 0; have f1 := zf 1; have f2 := zf 2; have f3 := zf 3; have g1 := xf 1; have g2 := yf 1; clear zf xf yf; rw [hdb]))
    | (go_at_call 12; (with_reducible refine (HN.out _).mono ?_); rintro e w2 ⟨rfl, hb⟩; have B0 : Hid (Below w.heap.size w w2) := bstep B0.out hb; have RA : Hid (R4 w2 w.heap.size a1 a2 a3 a4) := RA.out.call hb; have RB : Hid (R4 w2 (w.heap.size + 1) b1 b2 a3 a4) := RB.out.call hb; have RZ : Hid (R4 w2 (w.heap.size + 1 + 1) 0 0 0 0) := RZ.out.call hb; clear hb; (try clear x0 x1 x2 x3 y0 y1 y2 y3 z0 z1 z2 z3); obtain ⟨x0, x1, x2, x3, xf⟩ := RA.out; obtain ⟨y0, y1, y2, y3, yf⟩ := RB.out; obtain ⟨z0, z1, z2, z3, zf⟩ := RZ.out; (try clear f0 f1 f2 f3 g1 g2); have f0 := zf 0; have f1 := zf 1; have f2 := zf 2; have f3 := zf 3; have g1 := xf 1; have g2 := yf 1; clear zf xf yf))
  have LB : Hid (Below w.heap.size w ((((w2.setCell ⟨w.heap.size + 1 + 1, 0, none⟩ (.int .i64 R.1)).setCell ⟨w.heap.size + 1 + 1, 1, none⟩ (.int .i64 R.2.1)).setCell ⟨w.heap.size + 1 + 1, 2, none⟩ (.int .i64 R.2.2.1)).setCell ⟨w.heap.size + 1 + 1, 3, none⟩ (.int .i64 R.2.2.2.1))) :=
    (((B0.out.setCell (by simp <;> omega) _).setCell (by simp <;> omega) _).setCell (by simp <;> omega) _).setCell (by simp <;> omega) _
  have LZ := (((RZ.out.put0 R.1).put1 R.2.1).put2 R.2.2.1).put3 R.2.2.2.1
  generalize (((w2.setCell ⟨w.heap.size + 1 + 1, 0, none⟩ (.int .i64 R.1)).setCell ⟨w.heap.size + 1 + 1, 1, none⟩ (.int .i64 R.2.1)).setCell ⟨w.heap.size + 1 + 1, 2, none⟩ (.int .i64 R.2.2.1)).setCell ⟨w.heap.size + 1 + 1, 3, none⟩ (.int .i64 R.2.2.2.1) = X at LB LZ ⊢
  obtain ⟨k0, k1, k2, k3, _⟩ := LZ
  refine bodyPost_ret (v := .tuple #[.agg #[.int .i64 R.1, .int .i64 R.2.1, .int .i64 R.2.2.1, .int .i64 R.2.2.2.1], .bool R.2.2.2.2]) (by simp [results, Try.results12, go_sem, k0, k1, k2, k3]) rfl ?_
  exact ⟨rfl, LB.out⟩

theorem sAdd_any (a1 a2 a3 a4 b1 b2 b3 b4 : Int) (w : World) : Calls Try.prog 12 #[.agg #[.int .i64 a1, .int .i64 a2, .int .i64 a3, .int .i64 a4], .agg #[.int .i64 b1, .int .i64 b2, .int .i64 b3, .int .i64 b4]] w fun e w' => e = .returned (.tuple #[.agg #[.int .i64 (aR a1 a2 a3 a4 b1 b2 b3 b4).1, .int .i64 (aR a1 a2 a3 a4 b1 b2 b3 b4).2.1, .int .i64 (aR a1 a2 a3 a4 b1 b2 b3 b4).2.2.1, .int .i64 (aR a1 a2 a3 a4 b1 b2 b3 b4).2.2.2.1], .bool (aR a1 a2 a3 a4 b1 b2 b3 b4).2.2.2.2]) ∧ Below w.heap.size w w' := by
  by_cases ha : Qok a1 a2 a3 a4
  · by_cases hb : Qok b1 b2 b3 b4
    · by_cases h3 : a3 = b3
      · subst h3
        by_cases h4 : a4 = b4
        · subst h4
          by_cases h1 : a1 = 0
          · subst h1
            exact sAdd_za a2 a3 a4 b1 b2 ha hb w
          · by_cases h2 : b1 = 0
            · subst h2
              exact sAdd_zb a1 a2 a3 a4 b2 ha hb h1 w
            · by_cases h5 : a2 < b2
              · exact sAdd_lt a1 a2 a3 a4 b1 b2 ha hb h1 h2 h5 w
              · exact sAdd_notlt a1 a2 a3 a4 b1 b2 ha hb h1 h2 h5 w
        · exact sAdd_n4 a1 a2 a3 a4 b1 b2 b4 ha hb h4 w
      · exact sAdd_n3 a1 a2 a3 a4 b1 b2 b3 b4 ha hb h3 w
    · exact sAdd_nb a1 a2 a3 a4 b1 b2 b3 b4 ha hb w
  · exact sAdd_na a1 a2 a3 a4 b1 b2 b3 b4 ha w

end Go.Proofs.Ytonjgielpcofeaa
