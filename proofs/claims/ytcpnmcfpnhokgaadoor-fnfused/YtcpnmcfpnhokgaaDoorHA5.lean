/- Differences of wide numbers: the second is the greater; both are the same. -/
import Derived.Test.YtcpnmcfpnhokgaaDoorA4
import Derived.Deep.Cut
import Derived.Deep.CutRange
import Derived.RegionTactic
import Derived.Deep.RegionWith
namespace Go.Proofs.YtcpnmcfpnhokgaaDoor
open Go.RowKit

/-- A wide number put over another in memory. -/
def put5 (W : World) (G : Nat) (K E M l : Int) (n : Bool) : World := ((((W.setCell ⟨G, 0, none⟩ (.int .i64 K)).setCell ⟨G, 1, none⟩ (.bool n)).setCell ⟨G, 2, none⟩ (.int .i64 E)).setCell ⟨G, 3, none⟩ (.int .u64 M)).setCell ⟨G, 4, none⟩ (.int .u64 l)

theorem put5_same {W : World} {G : Nat} {K E M l : Int} {n : Bool} (h : W5 G K E M l n W) (K' E' M' l' : Int) (n' : Bool) : W5 G K' E' M' l' n' (put5 W G K' E' M' l' n') := by
  obtain ⟨a0, a1, a2, a3, a4, f0, f1, f2, f3, f4⟩ := h
  unfold put5
  constructor <;> simp [go_sem, a0, a1, a2, a3, a4, f0, f1, f2, f3, f4]

theorem put5_other {W : World} {G H : Nat} {K E M l : Int} {n : Bool} (h : W5 H K E M l n W) (hG : G ≠ H) (K' E' M' l' : Int) (n' : Bool) : W5 H K E M l n (put5 W G K' E' M' l' n') := by
  obtain ⟨a0, a1, a2, a3, a4, f0, f1, f2, f3, f4⟩ := h
  unfold put5
  constructor <;> simp [go_sem, a0, a1, a2, a3, a4, f0, f1, f2, f3, f4]

theorem put5_below {B : Nat} {w W : World} (h : Below B w W) {G : Nat} (hG : B ≤ G) (K E M l : Int) (n : Bool) : Below B w (put5 W G K E M l n) :=
  below_sc (below_sc (below_sc (below_sc (below_sc h hG _) hG _) hG _) hG _) hG _

set_option maxRecDepth 100000 in
set_option maxHeartbeats 2000000 in
theorem subF_swap (mode E : Int) (n1 n2 : Bool) (X Y : Nat) (w : World) (hX : Y < 340282366920938463463374607431768211456) (hY : X < Y) :
    Calls Tryd.prog 90 #[.int .i64 mode, .agg #[.int .i64 1, .bool n1, .int .i64 E, .int .u64 (X / 18446744073709551616 : Nat), .int .u64 (X % 18446744073709551616 : Nat)], .agg #[.int .i64 1, .bool n2, .int .i64 E, .int .u64 (Y / 18446744073709551616 : Nat), .int .u64 (Y % 18446744073709551616 : Nat)]] w fun e w' =>
      e = .returned (.agg #[.int .i64 1, .bool n2, .int .i64 E, .int .u64 ((Y - X) / 18446744073709551616 : Nat), .int .u64 ((Y - X) % 18446744073709551616 : Nat)]) ∧ Below w.heap.size w w' := by
  have hl := fun w => less_any 1 1 E E n1 n2 X Y w (by omega) hX
  rw [decide_eq_true (by omega)] at hl
  have hs := run_sub64W (Y % 18446744073709551616) (X % 18446744073709551616)
  have e1 : (Y % 18446744073709551616 + 18446744073709551616 - X % 18446744073709551616) % 18446744073709551616 = (Y - X) % 18446744073709551616 := by omega
  rw [e1] at hs
  obtain ⟨r, hr⟩ : ∃ r : Nat, r = (if Y % 18446744073709551616 < X % 18446744073709551616 then 1 else 0) := ⟨_, rfl⟩
  rw [← hr] at hs
  have w1 : IntKind.u64.wrap (((Y / 18446744073709551616 : Nat) : Int) - ((X / 18446744073709551616 : Nat) : Int)) = ((Y / 18446744073709551616 : Nat) : Int) - ((X / 18446744073709551616 : Nat) : Int) := by
    rw [IntKind.wrap_u64]; omega
  have w2 : IntKind.u64.wrap (((Y / 18446744073709551616 : Nat) : Int) - ((X / 18446744073709551616 : Nat) : Int) - (r : Int)) = (((Y - X) / 18446744073709551616 : Nat) : Int) := by
    rw [IntKind.wrap_u64]
    subst hr
    split <;> omega
  have hz : (((((Y - X) / 18446744073709551616 : Nat) : Int) == 0) = false) ∨ (((((Y - X) / 18446744073709551616 : Nat) : Int) == 0) = true ∧ ((((Y - X) % 18446744073709551616 : Nat) : Int) == 0) = false) := by
    by_cases c : (Y - X) / 18446744073709551616 = 0
    · right; simp; omega
    · left; simp; omega
  generalize (Y - X) / 18446744073709551616 = H at *
  generalize (Y - X) % 18446744073709551616 = L at *
  generalize X / 18446744073709551616 = a at *
  generalize X % 18446744073709551616 = b at *
  generalize Y / 18446744073709551616 = c at *
  generalize Y % 18446744073709551616 = d at *
  have h0 : W5 w.heap.size 1 E a b n1 (((w.alloc (Obj.cells #[.int .i64 1, .bool n1, .int .i64 E, .int .u64 a, .int .u64 b] 42)).alloc (Obj.cells #[.int .i64 1, .bool n2, .int .i64 E, .int .u64 c, .int .u64 d] 42)).alloc (Obj.cells #[.int .i64 0, .bool false, .int .i64 0, .int .u64 0, .int .u64 0] 42)) := ((w5_new w 1 E a b n1).below (below_one _)).below (below_one _)
  have h1 : W5 (w.heap.size + 1) 1 E c d n2 (((w.alloc (Obj.cells #[.int .i64 1, .bool n1, .int .i64 E, .int .u64 a, .int .u64 b] 42)).alloc (Obj.cells #[.int .i64 1, .bool n2, .int .i64 E, .int .u64 c, .int .u64 d] 42)).alloc (Obj.cells #[.int .i64 0, .bool false, .int .i64 0, .int .u64 0, .int .u64 0] 42)) := (w5_at _ _ (by simp) 1 E c d n2).below (below_one _)
  have h2 : W5 (w.heap.size + 1 + 1) 0 0 0 0 false (((w.alloc (Obj.cells #[.int .i64 1, .bool n1, .int .i64 E, .int .u64 a, .int .u64 b] 42)).alloc (Obj.cells #[.int .i64 1, .bool n2, .int .i64 E, .int .u64 c, .int .u64 d] 42)).alloc (Obj.cells #[.int .i64 0, .bool false, .int .i64 0, .int .u64 0, .int .u64 0] 42)) := w5_at _ _ (by simp) 0 0 0 0 false
  have hb0 : Below w.heap.size w (((w.alloc (Obj.cells #[.int .i64 1, .bool n1, .int .i64 E, .int .u64 a, .int .u64 b] 42)).alloc (Obj.cells #[.int .i64 1, .bool n2, .int .i64 E, .int .u64 c, .int .u64 d] 42)).alloc (Obj.cells #[.int .i64 0, .bool false, .int .i64 0, .int .u64 0, .int .u64 0] 42)) := bstep (below_two _ _) (below_one _)
  clear hX hY e1 hr
  go_enter Tryd.func90, Tryd.ntmps90
  go_upto_region 3 with (go_at_call 97; refine (hl _).mono ?_; rintro e w' ⟨rfl, hb⟩; obtain ⟨a0, a1, a2, a3, a4, f0, f1, f2, f3, f4⟩ := h0.below hb; obtain ⟨b0, b1, b2, b3, b4, g0, g1, g2, g3, g4⟩ := h1.below hb; obtain ⟨d0, d1, d2, d3, d4, k0, k1, k2, k3, k4⟩ := h2.below hb)
  have hx := put5_other (put5_same (h0.below hb) 1 E c d n2) (show w.heap.size + 1 ≠ w.heap.size by omega) 1 E a b n1
  have hy := put5_same (put5_other (h1.below hb) (show w.heap.size ≠ w.heap.size + 1 by omega) 1 E c d n2) 1 E a b n1
  have hq := put5_other (put5_other (h2.below hb) (show w.heap.size ≠ w.heap.size + 1 + 1 by omega) 1 E c d n2) (show w.heap.size + 1 ≠ w.heap.size + 1 + 1 by omega) 1 E a b n1
  have hbb := put5_below (put5_below (bstep hb0 hb) (Nat.le_refl _) 1 E c d n2) (Nat.le_succ _) 1 E a b n1
  simp only [put5] at hx hy hq hbb
  clear a0 a1 a2 a3 a4 f0 f1 f2 f3 f4 b0 b1 b2 b3 b4 g0 g1 g2 g3 g4 d0 d1 d2 d3 d4 k0 k1 k2 k3 k4 h0 h1 h2 hb0 hl hb
  generalize ((((((((((w'.setCell ⟨w.heap.size, 0, none⟩ (.int .i64 1)).setCell ⟨w.heap.size, 1, none⟩ (.bool n2)).setCell ⟨w.heap.size, 2, none⟩ (.int .i64 E)).setCell ⟨w.heap.size, 3, none⟩ (.int .u64 c)).setCell ⟨w.heap.size, 4, none⟩ (.int .u64 d)).setCell ⟨w.heap.size + 1, 0, none⟩ (.int .i64 1)).setCell ⟨w.heap.size + 1, 1, none⟩ (.bool n1)).setCell ⟨w.heap.size + 1, 2, none⟩ (.int .i64 E)).setCell ⟨w.heap.size + 1, 3, none⟩ (.int .u64 a)).setCell ⟨w.heap.size + 1, 4, none⟩ (.int .u64 b)) = V at hx hy hq hbb ⊢
  obtain ⟨a0, a1, a2, a3, a4, f0, f1, f2, f3, f4⟩ := hx
  obtain ⟨b0, b1, b2, b3, b4, g0, g1, g2, g3, g4⟩ := hy
  obtain ⟨d0, d1, d2, d3, d4, k0, k1, k2, k3, k4⟩ := hq
  rcases hz with hz | hz
  all_goals
    go_wp2
    go_region
    all_goals
      go_wp2
      refine bodyPost_ret (v := .agg #[.int .i64 1, .bool n2, .int .i64 E, .int .u64 (H : Int), .int .u64 (L : Int)]) (by simp [results, Tryd.results90, go_sem, d0, d1, d2, d3, d4]) rfl ⟨rfl, ?_⟩
      refine Below.drew ?_
      exact below_sc (below_sc (below_sc (below_sc (below_sc (below_sc (below_sc hbb (Nat.le_refl _) _) (Nat.le_refl _) _) (le2 _) _) (le2 _) _) (le2 _) _) (le2 _) _) (le2 _) _

set_option maxRecDepth 100000 in
set_option maxHeartbeats 2000000 in
theorem subF_zero (mode E : Int) (n1 n2 : Bool) (X : Nat) (w : World) (hX : X < 340282366920938463463374607431768211456) :
    Calls Tryd.prog 90 #[.int .i64 mode, .agg #[.int .i64 1, .bool n1, .int .i64 E, .int .u64 (X / 18446744073709551616 : Nat), .int .u64 (X % 18446744073709551616 : Nat)], .agg #[.int .i64 1, .bool n2, .int .i64 E, .int .u64 (X / 18446744073709551616 : Nat), .int .u64 (X % 18446744073709551616 : Nat)]] w fun e w' =>
      e = .returned (.agg #[.int .i64 0, .bool (mode == 5), .int .i64 0, .int .u64 0, .int .u64 0]) ∧ Below w.heap.size w w' := by
  have hl := fun w => less_any 1 1 E E n1 n2 X X w hX hX
  rw [decide_eq_false (by omega)] at hl
  have hs : ∀ w, (callFunc 98 #[.int .u64 (X % 18446744073709551616 : Nat), .int .u64 (X % 18446744073709551616 : Nat), .int .u64 0]).run Tryd.prog w = .ok (.value (.tuple #[.int .u64 0, .int .u64 0])) w := fun w => by
    rw [run_sub64W, if_neg (by omega), show (X % 18446744073709551616 + 18446744073709551616 - X % 18446744073709551616) % 18446744073709551616 = 0 by omega]
    rfl
  generalize X / 18446744073709551616 = a at *
  generalize X % 18446744073709551616 = b at *
  have hcn := fun w => cancelled_any mode w
  have h0 : W5 w.heap.size 1 E a b n1 (((w.alloc (Obj.cells #[.int .i64 1, .bool n1, .int .i64 E, .int .u64 a, .int .u64 b] 42)).alloc (Obj.cells #[.int .i64 1, .bool n2, .int .i64 E, .int .u64 a, .int .u64 b] 42)).alloc (Obj.cells #[.int .i64 0, .bool false, .int .i64 0, .int .u64 0, .int .u64 0] 42)) := ((w5_new w 1 E a b n1).below (below_one _)).below (below_one _)
  have h1 : W5 (w.heap.size + 1) 1 E a b n2 (((w.alloc (Obj.cells #[.int .i64 1, .bool n1, .int .i64 E, .int .u64 a, .int .u64 b] 42)).alloc (Obj.cells #[.int .i64 1, .bool n2, .int .i64 E, .int .u64 a, .int .u64 b] 42)).alloc (Obj.cells #[.int .i64 0, .bool false, .int .i64 0, .int .u64 0, .int .u64 0] 42)) := (w5_at _ _ (by simp) 1 E a b n2).below (below_one _)
  have h2 : W5 (w.heap.size + 1 + 1) 0 0 0 0 false (((w.alloc (Obj.cells #[.int .i64 1, .bool n1, .int .i64 E, .int .u64 a, .int .u64 b] 42)).alloc (Obj.cells #[.int .i64 1, .bool n2, .int .i64 E, .int .u64 a, .int .u64 b] 42)).alloc (Obj.cells #[.int .i64 0, .bool false, .int .i64 0, .int .u64 0, .int .u64 0] 42)) := w5_at _ _ (by simp) 0 0 0 0 false
  have hb0 : Below w.heap.size w (((w.alloc (Obj.cells #[.int .i64 1, .bool n1, .int .i64 E, .int .u64 a, .int .u64 b] 42)).alloc (Obj.cells #[.int .i64 1, .bool n2, .int .i64 E, .int .u64 a, .int .u64 b] 42)).alloc (Obj.cells #[.int .i64 0, .bool false, .int .i64 0, .int .u64 0, .int .u64 0] 42)) := bstep (below_two _ _) (below_one _)
  clear hX
  go_enter Tryd.func90, Tryd.ntmps90
  go_wp2_with (go_at_call 97; refine (hl _).mono ?_; rintro e w' ⟨rfl, hb⟩; obtain ⟨a0, a1, a2, a3, a4, f0, f1, f2, f3, f4⟩ := h0.below hb; obtain ⟨b0, b1, b2, b3, b4, g0, g1, g2, g3, g4⟩ := h1.below hb; obtain ⟨d0, d1, d2, d3, d4, k0, k1, k2, k3, k4⟩ := h2.below hb)
  go_region
  all_goals
    have hq : W5 (w.heap.size + 1 + 1) 0 0 0 0 false ((w'.setCell ⟨w.heap.size, 4, none⟩ (.int .u64 0)).setCell ⟨w.heap.size, 3, none⟩ (.int .u64 0)).drew := by
      constructor <;> simp [go_sem, d0, d1, d2, d3, d4, k0, k1, k2, k3, k4]
    have hbb : Below w.heap.size w ((w'.setCell ⟨w.heap.size, 4, none⟩ (.int .u64 0)).setCell ⟨w.heap.size, 3, none⟩ (.int .u64 0)).drew := (below_sc (below_sc (bstep hb0 hb) (Nat.le_refl _) _) (Nat.le_refl _) _).drew
    go_wp2_with (go_at_call 61; refine (hcn _).mono ?_; rintro e w2 ⟨rfl, hb2⟩; obtain ⟨d0, d1, d2, d3, d4, k0, k1, k2, k3, k4⟩ := hq.below hb2)
    refine bodyPost_ret (v := .agg #[.int .i64 0, .bool (mode == 5), .int .i64 0, .int .u64 0, .int .u64 0]) (by simp [results, Tryd.results90, go_sem, d0, d1, d2, d3, d4]) rfl ⟨rfl, ?_⟩
    exact below_sc (below_sc (below_sc (below_sc (below_sc (bstep hbb hb2) (le2 _) _) (le2 _) _) (le2 _) _) (le2 _) _) (le2 _) _
end Go.Proofs.YtcpnmcfpnhokgaaDoor

/- Sums of wide numbers: the walk of addFinite. -/
namespace Go.Proofs.YtcpnmcfpnhokgaaDoor
open Go.RowKit

/-- A wide number as a value. -/
abbrev v5 (K E M l : Int) (n : Bool) : Value := .agg #[.int .i64 K, .bool n, .int .i64 E, .int .u64 M, .int .u64 l]

theorem gen5 {P : World → Prop} {w W : World} {G H J : Nat} {K E M l K' E' M' l' K2 E2 M2 l2 : Int} {n n' n2 : Bool} (hx : W5 G K E M l n W) (hy : W5 H K' E' M' l' n' W) (hq : W5 J K2 E2 M2 l2 n2 W) (hb : Below w.heap.size w W)
    (h : ∀ V, W5 G K E M l n V → W5 H K' E' M' l' n' V → W5 J K2 E2 M2 l2 n2 V → Below w.heap.size w V → P V) : P W := h W hx hy hq hb

/-- A call that gives back one value, and leaves the memory below as it was. -/
abbrev Rets (i : Nat) (args : Array Value) (R : Value) : Prop := ∀ W, Calls Tryd.prog i args W fun e w' => e = .returned R ∧ Below W.heap.size W w'

end Go.Proofs.YtcpnmcfpnhokgaaDoor
