/- Pack on both sides. -/
import Derived.Test.YtddbekacdfohpaaGreatDoorQR2
namespace Go.Proofs.YtddbekacdfohpaaGreatDoor.Q
open Go.RowKit

theorem in_yes (x a b : Int) (h0 : a ≤ x) (h1 : x ≤ b) (w : World) : Calls Tryz.prog 22 #[.int .i64 x, .int .i64 a, .int .i64 b] w fun e w' => e = .returned (.bool true) ∧ w' = w := by
  go_enter Tryz.func22, Tryz.ntmps22
  go_wp2
  go_ret
  exact ⟨rfl, rfl⟩

theorem in_no (x a b : Int) (h : x < a ∨ b < x) (w : World) : Calls Tryz.prog 22 #[.int .i64 x, .int .i64 a, .int .i64 b] w fun e w' => e = .returned (.bool false) ∧ w' = w := by
  by_cases h0 : a ≤ x
  · have h1 : ¬ x ≤ b := by omega
    have e : decide (x ≤ b) = false := by simpa using h1
    clear h
    go_enter Tryz.func22, Tryz.ntmps22
    go_wp2
    go_ret
    exact ⟨by simp, rfl⟩
  · clear h
    go_enter Tryz.func22, Tryz.ntmps22
    go_wp2
    go_ret
    exact ⟨rfl, rfl⟩

theorem mode_yes (mode : Int) (h0 : 1 ≤ mode) (h1 : mode ≤ 5) (w : World) : Calls Tryz.prog 65 #[.int .i64 mode] w fun e w' => e = .returned (.bool true) ∧ w' = w := by
  go_enter Tryz.func65, Tryz.ntmps65
  go_wp2_with (go_at_call 22; refine (in_yes mode 1 5 h0 h1 _).mono ?_; rintro e w' ⟨rfl, rfl⟩)
  go_ret
  exact ⟨rfl, rfl⟩

theorem mode_no (mode : Int) (h : mode < 1 ∨ 5 < mode) (w : World) : Calls Tryz.prog 65 #[.int .i64 mode] w fun e w' => e = .returned (.bool false) ∧ w' = w := by
  have hn := fun w => in_no mode 1 5 h w
  clear h
  go_enter Tryz.func65, Tryz.ntmps65
  go_wp2_with (go_at_call 22; refine (hn _).mono ?_; rintro e w' ⟨rfl, rfl⟩)
  go_ret
  exact ⟨rfl, rfl⟩

/-- What the model's Pack has laid: the number. -/
structure L4 (B : Nat) (K E M : Int) (n : Bool) (w W : World) : Prop where
  b0 : W.cell? ⟨B, 0, none⟩ = some (.int .i64 K)
  b1 : W.cell? ⟨B, 1, none⟩ = some (.bool n)
  b2 : W.cell? ⟨B, 2, none⟩ = some (.int .i64 E)
  b3 : W.cell? ⟨B, 3, none⟩ = some (.int .u64 M)
  bl : Below B w W

theorem L4.step {B : Nat} {K E M : Int} {n : Bool} {w W V : World} (h : L4 B K E M n w W) (hb : Below W.heap.size W V) : L4 B K E M n w V := by
  have hl : B < W.heap.size := World.block_lt_of_cell? W _ h.b0
  have c : ∀ o, V.cell? ⟨B, o, none⟩ = W.cell? ⟨B, o, none⟩ := fun o => hb.cell (p := ⟨B, o, none⟩) hl
  exact ⟨(c _).trans h.b0, (c _).trans h.b1, (c _).trans h.b2, (c _).trans h.b3, h.bl.trans (hb.mono (by omega))⟩

theorem l4_start (w : World) (K E M : Int) (n : Bool) : L4 w.heap.size K E M n w (w.alloc (Obj.cells #[.int .i64 K, .bool n, .int .i64 E, .int .u64 M] 101)) := by
  refine ⟨?_, ?_, ?_, ?_, below_one _⟩ <;> simp

theorem spack_no1 (f mode K E M : Int) (n : Bool) (w : World) (h : f < 1 ∨ 3 < f) :
    Calls Tryz.prog 52 #[.int .i64 f, .int .i64 mode, .agg #[.int .i64 K, .bool n, .int .i64 E, .int .u64 M]] w fun e w' => e = .returned (.tuple #[.int .u64 0, .int .i64 0]) ∧ Below w.heap.size w w' := by
  go_enter Tryz.func52, Tryz.ntmps52
  go_wp2_with (go_at_call 64; refine (l1Form_no _ _ h).mono ?_; rintro e w' ⟨rfl, rfl⟩)
  go_ret2
  exact ⟨rfl, below_one _⟩

theorem spack_no2 {f wd p t S D h q : Int} (hF : Frm f wd p t S D h q) (mode K E M : Int) (n : Bool) (w : World) (hh : (mode < 1 ∨ 5 < mode) ∨ (K < 0 ∨ 3 < K)) :
    Calls Tryz.prog 52 #[.int .i64 f, .int .i64 mode, .agg #[.int .i64 K, .bool n, .int .i64 E, .int .u64 M]] w fun e w' => e = .returned (.tuple #[.int .u64 0, .int .i64 0]) ∧ Below w.heap.size w w' := by
  have hfm := fun w => l1Form_any hF.form w
  by_cases hm : 1 ≤ mode ∧ mode ≤ 5
  · have hmo := fun w => mode_yes mode hm.1 hm.2 w
    have hin := fun w => in_no K 0 3 (by omega) w
    clear hh hF hm
    go_enter Tryz.func52, Tryz.ntmps52
    go_wp2_with (first | (go_at_call 64; refine (hfm _).mono ?_; rintro e w' ⟨rfl, rfl⟩) | (go_at_call 65; refine (hmo _).mono ?_; rintro e w' ⟨rfl, rfl⟩) | (go_at_call 22; with_reducible refine (hin _).mono ?_; rintro e w' ⟨rfl, rfl⟩) | (go_at_call 22; with_reducible refine (hie _).mono ?_; rintro e w' ⟨rfl, rfl⟩))
    go_ret2
    exact ⟨rfl, below_one _⟩
  · have hmo := fun w => mode_no mode (by omega) w
    clear hh hF hm
    go_enter Tryz.func52, Tryz.ntmps52
    go_wp2_with (first | (go_at_call 64; refine (hfm _).mono ?_; rintro e w' ⟨rfl, rfl⟩) | (go_at_call 65; refine (hmo _).mono ?_; rintro e w' ⟨rfl, rfl⟩))
    go_ret2
    exact ⟨rfl, below_one _⟩

theorem spack_zero {f wd p t S D h q : Int} (hF : Frm f wd p t S D h q) (mode E M : Int) (n : Bool) (w : World) (hm0 : 1 ≤ mode) (hm1 : mode ≤ 5) :
    Calls Tryz.prog 52 #[.int .i64 f, .int .i64 mode, .agg #[.int .i64 0, .bool n, .int .i64 E, .int .u64 M]] w fun e w' => e = .returned (.tuple #[.int .u64 (if n then S else 0), .int .i64 0]) ∧ Below w.heap.size w w' := by
  have hfm := fun w => l1Form_any hF.form w
  have hmo := fun w => mode_yes mode hm0 hm1 w
  have hin := fun w => in_yes 0 0 3 (by decide) (by decide) w
  have hsg := fun w => l1Sign_any hF.form n w
  clear hF hm0 hm1
  generalize (if n = true then S else 0) = sg at *
  go_enter Tryz.func52, Tryz.ntmps52
  go_wp2_with (first | (go_at_call 64; refine (hfm _).mono ?_; rintro e w' ⟨rfl, rfl⟩) | (go_at_call 65; refine (hmo _).mono ?_; rintro e w' ⟨rfl, rfl⟩) | (go_at_call 22; with_reducible refine (hin _).mono ?_; rintro e w' ⟨rfl, rfl⟩) | (go_at_call 50; refine (hsg _).mono ?_; rintro e w' ⟨rfl, rfl⟩))
  go_ret2
  exact ⟨rfl, below_one _⟩

theorem spack_inf {f wd p t S D h q : Int} (hF : Frm f wd p t S D h q) (mode E M : Int) (n : Bool) (w : World) (hm0 : 1 ≤ mode) (hm1 : mode ≤ 5) :
    Calls Tryz.prog 52 #[.int .i64 f, .int .i64 mode, .agg #[.int .i64 2, .bool n, .int .i64 E, .int .u64 M]] w fun e w' => e = .returned (.tuple #[.int .u64 ((2 * t + 1) * h + (if n then S else 0)), .int .i64 0]) ∧ Below w.heap.size w w' := by
  have hfm := fun w => l1Form_any hF.form w
  have hmo := fun w => mode_yes mode hm0 hm1 w
  have hin := fun w => in_yes 2 0 3 (by decide) (by decide) w
  have hsg := fun w => l1Inf_any hF n w
  clear hF hm0 hm1
  generalize (2 * t + 1) * h + (if n = true then S else 0) = sg at *
  go_enter Tryz.func52, Tryz.ntmps52
  go_wp2_with (first | (go_at_call 64; refine (hfm _).mono ?_; rintro e w' ⟨rfl, rfl⟩) | (go_at_call 65; refine (hmo _).mono ?_; rintro e w' ⟨rfl, rfl⟩) | (go_at_call 22; with_reducible refine (hin _).mono ?_; rintro e w' ⟨rfl, rfl⟩) | (go_at_call 51; refine (hsg _).mono ?_; rintro e w' ⟨rfl, rfl⟩))
  go_ret2
  exact ⟨rfl, below_one _⟩

theorem spack_nan {f wd p t S D h q : Int} (hF : Frm f wd p t S D h q) (mode E M : Int) (n : Bool) (w : World) (hm0 : 1 ≤ mode) (hm1 : mode ≤ 5) :
    Calls Tryz.prog 52 #[.int .i64 f, .int .i64 mode, .agg #[.int .i64 3, .bool n, .int .i64 E, .int .u64 M]] w fun e w' => e = .returned (.tuple #[.int .u64 ((2 * t + 1) * h + h / 2), .int .i64 0]) ∧ Below w.heap.size w w' := by
  have hfm := fun w => l1Form_any hF.form w
  have hmo := fun w => mode_yes mode hm0 hm1 w
  have hin := fun w => in_yes 3 0 3 (by decide) (by decide) w
  have hsg := fun w => l1Plain_any hF w
  clear hF hm0 hm1
  generalize (2 * t + 1) * h + h / 2 = sg at *
  go_enter Tryz.func52, Tryz.ntmps52
  go_wp2_with (first | (go_at_call 64; refine (hfm _).mono ?_; rintro e w' ⟨rfl, rfl⟩) | (go_at_call 65; refine (hmo _).mono ?_; rintro e w' ⟨rfl, rfl⟩) | (go_at_call 22; with_reducible refine (hin _).mono ?_; rintro e w' ⟨rfl, rfl⟩) | (go_at_call 49; refine (hsg _).mono ?_; rintro e w' ⟨rfl, rfl⟩))
  go_ret2
  exact ⟨rfl, below_one _⟩

theorem spack_bad {f wd p t S D h q : Int} (hF : Frm f wd p t S D h q) (mode E M : Int) (n : Bool) (w : World) (hm0 : 1 ≤ mode) (hm1 : mode ≤ 5) (hb : M = 0 ∨ E < -5000 ∨ 5000 < E) :
    Calls Tryz.prog 52 #[.int .i64 f, .int .i64 mode, .agg #[.int .i64 1, .bool n, .int .i64 E, .int .u64 M]] w fun e w' => e = .returned (.tuple #[.int .u64 0, .int .i64 0]) ∧ Below w.heap.size w w' := by
  have hfm := fun w => l1Form_any hF.form w
  have hmo := fun w => mode_yes mode hm0 hm1 w
  have hin := fun w => in_yes 1 0 3 (by decide) (by decide) w
  clear hF hm0 hm1
  by_cases h0 : M = 0
  · subst h0
    clear hb
    go_enter Tryz.func52, Tryz.ntmps52
    go_wp2_with (first | (go_at_call 64; refine (hfm _).mono ?_; rintro e w' ⟨rfl, rfl⟩) | (go_at_call 65; refine (hmo _).mono ?_; rintro e w' ⟨rfl, rfl⟩) | (go_at_call 22; refine (hin _).mono ?_; rintro e w' ⟨rfl, rfl⟩))
    go_ret2
    exact ⟨rfl, below_one _⟩
  · have hie := fun w => in_no E (-5000) 5000 (by omega) w
    have hb0 : (M == 0) = false := by simpa using h0
    clear hb
    go_enter Tryz.func52, Tryz.ntmps52
    go_wp2_with (first | (go_at_call 64; refine (hfm _).mono ?_; rintro e w' ⟨rfl, rfl⟩) | (go_at_call 65; refine (hmo _).mono ?_; rintro e w' ⟨rfl, rfl⟩) | (go_at_call 22; with_reducible refine (hin _).mono ?_; rintro e w' ⟨rfl, rfl⟩) | (go_at_call 22; with_reducible refine (hie _).mono ?_; rintro e w' ⟨rfl, rfl⟩))
    go_ret2
    exact ⟨rfl, below_one _⟩

set_option maxRecDepth 20000 in
set_option maxHeartbeats 4000000 in
theorem spack_fin {f wd p t S D h q : Int} (hF : Frm f wd p t S D h q) (mode E : Int) (M : Nat) (n : Bool) (w : World) (hm0 : 1 ≤ mode) (hm1 : mode ≤ 5) (hM0 : 0 < M) (hM : M < 18446744073709551616) (hE0 : -5000 ≤ E) (hE1 : E ≤ 5000) :
    Calls Tryz.prog 52 #[.int .i64 f, .int .i64 mode, .agg #[.int .i64 1, .bool n, .int .i64 E, .int .u64 (M : Int)]] w fun e w' => e = .returned (.tuple #[.int .u64 (rndV p t h S mode E n M false), .int .i64 (rndF p t h mode E n M false)]) ∧ Below w.heap.size w w' := by
  have hfm := fun w => l1Form_any hF.form w
  have hmo := fun w => mode_yes mode hm0 hm1 w
  have hin := fun w => in_yes 1 0 3 (by decide) (by decide) w
  have hie := fun w => in_yes E (-5000) 5000 hE0 hE1 w
  have hb0 : ((M : Int) == 0) = false := by simp; omega
  have hN : ∀ W, L4 w.heap.size 1 E M n w W → Calls Tryz.prog 67 #[.int .u64 (M : Int)] W.drew fun e w' => ∃ v, e = .returned v ∧ Nt w' v 2 M ∧ L4 w.heap.size 1 E M n w w' := fun W hW => by
    refine (nat_any M hM W.drew).mono ?_
    rintro e w' ⟨hb, v, rfl, hv⟩
    exact ⟨v, rfl, hv, (hW.step (Below.refl _ _).drew).step hb⟩
  have hRd : ∀ W v, Nt W v 2 M → L4 w.heap.size 1 E M n w W → Calls Tryz.prog 66 #[.int .i64 f, .int .i64 mode, .bool n, v, .int .i64 E, .bool false] W fun e w' => e = .returned (.tuple #[.int .u64 (rndV p t h S mode E n M false), .int .i64 (rndF p t h mode E n M false)]) ∧ Below w.heap.size w w' := fun W v hv hW => by
    refine (round_any hF mode E n false hv hM0 (by decide) (by omega) (by omega)).mono ?_
    rintro e w' ⟨rfl, hb⟩
    exact ⟨rfl, (hW.step hb).bl⟩
  clear hF hm0 hm1 hE0 hE1
  generalize rndV p t h S mode E n M false = V at *
  generalize rndF p t h mode E n M false = F at *
  go_enter Tryz.func52, Tryz.ntmps52
  go_wp2_with (first | (go_at_call 64; refine (hfm _).mono ?_; rintro e w' ⟨rfl, rfl⟩) | (go_at_call 65; refine (hmo _).mono ?_; rintro e w' ⟨rfl, rfl⟩) | (go_at_call 22; with_reducible refine (hin _).mono ?_; rintro e w' ⟨rfl, rfl⟩) | (go_at_call 22; with_reducible refine (hie _).mono ?_; rintro e w' ⟨rfl, rfl⟩))
  generalize hW : (w.alloc _) = W
  have hl : L4 w.heap.size 1 E M n w W := by
    subst hW
    exact l4_start w 1 E M n
  clear hW hfm hmo hin hie
  have h1 := hN W hl
  clear hN
  obtain ⟨b0, b1, b2, b3, bl⟩ := hl
  go_region_with (first | (go_at_call 67; refine h1.mono ?_; rintro e w1 ⟨v1, rfl, hv1, l1⟩; have c1 := l1.b1; have c2 := l1.b2; have c3 := l1.b3) | (go_at_call 66; refine (hRd _ _ hv1 l1).mono ?_; rintro e w2 ⟨rfl, hb⟩))
  all_goals
    go_wp2
    go_ret2
    exact ⟨rfl, hb⟩
end Go.Proofs.YtddbekacdfohpaaGreatDoor.Q
