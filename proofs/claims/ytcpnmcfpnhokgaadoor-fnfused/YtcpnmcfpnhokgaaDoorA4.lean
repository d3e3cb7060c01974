/- Differences of wide numbers. -/
import Derived.Test.YtcpnmcfpnhokgaaDoorHA0
import Derived.Test.YtcpnmcfpnhokgaaDoorM1
import Derived.Test.YtcpnmcfpnhokgaaDoorR2
namespace Go.Proofs.YtcpnmcfpnhokgaaDoor
open Go.RowKit

/-- What math/bits.Sub64 is given and gives. -/
def subEntry : Array Value → Sem Value := fun args => do
  let (x, y, b) ← Extern.MathBitsCarry.three "Sub64" args
  pure (Extern.MathBitsCarry.pair ((x + Extern.MathBitsCarry.m64 - y - b) % Extern.MathBitsCarry.m64) (if x < y + b then 1 else 0))

theorem run_sub64W (x y : Nat) (w : World) : (callFunc 98 #[.int .u64 (x : Int), .int .u64 (y : Int), .int .u64 0]).run Tryd.prog w = .ok (.value (.tuple #[.int .u64 ((x + 18446744073709551616 - y) % 18446744073709551616 : Nat), .int .u64 (if x < y then 1 else 0 : Nat)])) w := by
  rw [run_callFunc_extern Tryd.func98 (by kernel_rfl) (by kernel_rfl) (by kernel_rfl) (e := subEntry) (by kernel_rfl)]
  rfl

set_option maxRecDepth 100000 in
theorem less_any (K1 K2 E1 E2 : Int) (n1 n2 : Bool) (X Y : Nat) (w : World) (_hX : X < 340282366920938463463374607431768211456) (_hY : Y < 340282366920938463463374607431768211456) :
    Calls Tryd.prog 97 #[.agg #[.int .i64 K1, .bool n1, .int .i64 E1, .int .u64 (X / 18446744073709551616 : Nat), .int .u64 (X % 18446744073709551616 : Nat)], .agg #[.int .i64 K2, .bool n2, .int .i64 E2, .int .u64 (Y / 18446744073709551616 : Nat), .int .u64 (Y % 18446744073709551616 : Nat)]] w fun e w' => e = .returned (.bool (decide (X < Y))) ∧ Below w.heap.size w w' := by
  have e1 : decide (X < Y) = (decide (X / 18446744073709551616 < Y / 18446744073709551616) || (decide (X / 18446744073709551616 = Y / 18446744073709551616) && decide (X % 18446744073709551616 < Y % 18446744073709551616))) := by
    rw [Bool.eq_iff_iff]
    simp
    omega
  rw [e1]
  generalize X / 18446744073709551616 = a at *
  generalize X % 18446744073709551616 = b at *
  generalize Y / 18446744073709551616 = c at *
  generalize Y % 18446744073709551616 = d at *
  clear e1 _hX _hY
  by_cases h1 : a < c
  · have i1 : (a : Int) < (c : Int) := by omega
    go_enter Tryd.func97, Tryd.ntmps97
    go_wp2
    go_ret
    exact ⟨by simp [h1], below_two _ _⟩
  · have i1 : ¬ (a : Int) < (c : Int) := by omega
    by_cases h2 : a = c
    · subst h2
      go_enter Tryd.func97, Tryd.ntmps97
      go_wp2
      go_ret
      exact ⟨by simp, below_two _ _⟩
    · have i2 : ((a : Int) == (c : Int)) = false := by simp; omega
      go_enter Tryd.func97, Tryd.ntmps97
      go_wp2
      go_ret
      exact ⟨by simp, below_two _ _⟩

/-- A wide number in memory, not frozen. -/
structure W5 (G : Nat) (K E M l : Int) (n : Bool) (W : World) : Prop where
  a0 : W.cell? ⟨G, 0, none⟩ = some (.int .i64 K)
  a1 : W.cell? ⟨G, 1, none⟩ = some (.bool n)
  a2 : W.cell? ⟨G, 2, none⟩ = some (.int .i64 E)
  a3 : W.cell? ⟨G, 3, none⟩ = some (.int .u64 M)
  a4 : W.cell? ⟨G, 4, none⟩ = some (.int .u64 l)
  f0 : W.frozen? ⟨G, 0, none⟩ = false
  f1 : W.frozen? ⟨G, 1, none⟩ = false
  f2 : W.frozen? ⟨G, 2, none⟩ = false
  f3 : W.frozen? ⟨G, 3, none⟩ = false
  f4 : W.frozen? ⟨G, 4, none⟩ = false

theorem W5.below {G : Nat} {K E M l : Int} {n : Bool} {W V : World} (h : W5 G K E M l n W) (hb : Below W.heap.size W V) : W5 G K E M l n V := by
  have hl : G < W.heap.size := World.block_lt_of_cell? W _ h.a0
  have c : ∀ o, V.cell? ⟨G, o, none⟩ = W.cell? ⟨G, o, none⟩ := fun o => hb.cell (p := ⟨G, o, none⟩) hl
  have f : ∀ o, V.frozen? ⟨G, o, none⟩ = W.frozen? ⟨G, o, none⟩ := fun o => hb.frozen (p := ⟨G, o, none⟩) hl
  exact ⟨(c _).trans h.a0, (c _).trans h.a1, (c _).trans h.a2, (c _).trans h.a3, (c _).trans h.a4, (f _).trans h.f0, (f _).trans h.f1, (f _).trans h.f2, (f _).trans h.f3, (f _).trans h.f4⟩

theorem W5.drew {G : Nat} {K E M l : Int} {n : Bool} {W : World} (h : W5 G K E M l n W) : W5 G K E M l n W.drew := ⟨h.a0, h.a1, h.a2, h.a3, h.a4, h.f0, h.f1, h.f2, h.f3, h.f4⟩

theorem w5_new (W : World) (K E M l : Int) (n : Bool) : W5 W.heap.size K E M l n (W.alloc (Obj.cells #[.int .i64 K, .bool n, .int .i64 E, .int .u64 M, .int .u64 l] 42)) := by
  constructor <;> simp

theorem w5_at (W : World) (G : Nat) (hG : W.heap.size = G) (K E M l : Int) (n : Bool) : W5 G K E M l n (W.alloc (Obj.cells #[.int .i64 K, .bool n, .int .i64 E, .int .u64 M, .int .u64 l] 42)) := by
  subst hG; exact w5_new W K E M l n

set_option maxRecDepth 100000 in
theorem cancelled_any (mode : Int) (w : World) : Calls Tryd.prog 61 #[.int .i64 mode] w fun e w' => e = .returned (.agg #[.int .i64 0, .bool (mode == 5), .int .i64 0, .int .u64 0, .int .u64 0]) ∧ Below w.heap.size w w' := by
  have hO := fun w => wideOf_any 0 (mode == 5) w
  have h0 := w5_new w 0 0 0 0 false
  go_enter Tryd.func61, Tryd.ntmps61
  go_wp2_with (go_at_call 65; refine (hO _).mono ?_; rintro e w' ⟨rfl, hb⟩; obtain ⟨a0, a1, a2, a3, a4, f0, f1, f2, f3, f4⟩ := h0.below hb)
  refine bodyPost_ret (v := .agg #[.int .i64 0, .bool (mode == 5), .int .i64 0, .int .u64 0, .int .u64 0]) (by simp [results, Tryd.results61, go_sem, a0, a1, a2, a3, a4]) rfl ⟨rfl, ?_⟩
  have hb0 := bstep (below_one _) hb
  exact (((((hb0.setCell (Nat.le_refl _) _).setCell (Nat.le_refl _) _).setCell (Nat.le_refl _) _).setCell (Nat.le_refl _) _).setCell (Nat.le_refl _) _)

theorem le2 (n : Nat) : n ≤ n + 1 + 1 := by omega

set_option maxRecDepth 100000 in
set_option maxHeartbeats 2000000 in
theorem subF_any (mode E : Int) (n1 n2 : Bool) (X Y : Nat) (w : World) (hX : X < 340282366920938463463374607431768211456) (hY : Y < X) :
    Calls Tryd.prog 90 #[.int .i64 mode, .agg #[.int .i64 1, .bool n1, .int .i64 E, .int .u64 (X / 18446744073709551616 : Nat), .int .u64 (X % 18446744073709551616 : Nat)], .agg #[.int .i64 1, .bool n2, .int .i64 E, .int .u64 (Y / 18446744073709551616 : Nat), .int .u64 (Y % 18446744073709551616 : Nat)]] w fun e w' =>
      e = .returned (.agg #[.int .i64 1, .bool n1, .int .i64 E, .int .u64 ((X - Y) / 18446744073709551616 : Nat), .int .u64 ((X - Y) % 18446744073709551616 : Nat)]) ∧ Below w.heap.size w w' := by
  have hl := fun w => less_any 1 1 E E n1 n2 X Y w hX (by omega)
  rw [decide_eq_false (by omega)] at hl
  have hs := run_sub64W (X % 18446744073709551616) (Y % 18446744073709551616)
  have e1 : (X % 18446744073709551616 + 18446744073709551616 - Y % 18446744073709551616) % 18446744073709551616 = (X - Y) % 18446744073709551616 := by omega
  rw [e1] at hs
  obtain ⟨r, hr⟩ : ∃ r : Nat, r = (if X % 18446744073709551616 < Y % 18446744073709551616 then 1 else 0) := ⟨_, rfl⟩
  rw [← hr] at hs
  have w1 : IntKind.u64.wrap (((X / 18446744073709551616 : Nat) : Int) - ((Y / 18446744073709551616 : Nat) : Int)) = ((X / 18446744073709551616 : Nat) : Int) - ((Y / 18446744073709551616 : Nat) : Int) := by
    rw [IntKind.wrap_u64]; omega
  have w2 : IntKind.u64.wrap (((X / 18446744073709551616 : Nat) : Int) - ((Y / 18446744073709551616 : Nat) : Int) - (r : Int)) = (((X - Y) / 18446744073709551616 : Nat) : Int) := by
    rw [IntKind.wrap_u64]
    subst hr
    split <;> omega
  have hz : (((((X - Y) / 18446744073709551616 : Nat) : Int) == 0) = false) ∨ (((((X - Y) / 18446744073709551616 : Nat) : Int) == 0) = true ∧ ((((X - Y) % 18446744073709551616 : Nat) : Int) == 0) = false) := by
    by_cases c : (X - Y) / 18446744073709551616 = 0
    · right; simp; omega
    · left; simp; omega
  generalize (X - Y) / 18446744073709551616 = H at *
  generalize (X - Y) % 18446744073709551616 = L at *
  generalize X / 18446744073709551616 = a at *
  generalize X % 18446744073709551616 = b at *
  generalize Y / 18446744073709551616 = c at *
  generalize Y % 18446744073709551616 = d at *
  have h0 : W5 w.heap.size 1 E a b n1 (((w.alloc (Obj.cells #[.int .i64 1, .bool n1, .int .i64 E, .int .u64 a, .int .u64 b] 42)).alloc (Obj.cells #[.int .i64 1, .bool n2, .int .i64 E, .int .u64 c, .int .u64 d] 42)).alloc (Obj.cells #[.int .i64 0, .bool false, .int .i64 0, .int .u64 0, .int .u64 0] 42)) := ((w5_new w 1 E a b n1).below (below_one _)).below (below_one _)
  have h1 : W5 (w.heap.size + 1) 1 E c d n2 (((w.alloc (Obj.cells #[.int .i64 1, .bool n1, .int .i64 E, .int .u64 a, .int .u64 b] 42)).alloc (Obj.cells #[.int .i64 1, .bool n2, .int .i64 E, .int .u64 c, .int .u64 d] 42)).alloc (Obj.cells #[.int .i64 0, .bool false, .int .i64 0, .int .u64 0, .int .u64 0] 42)) := (w5_at _ _ (by simp) 1 E c d n2).below (below_one _)
  have h2 : W5 (w.heap.size + 1 + 1) 0 0 0 0 false (((w.alloc (Obj.cells #[.int .i64 1, .bool n1, .int .i64 E, .int .u64 a, .int .u64 b] 42)).alloc (Obj.cells #[.int .i64 1, .bool n2, .int .i64 E, .int .u64 c, .int .u64 d] 42)).alloc (Obj.cells #[.int .i64 0, .bool false, .int .i64 0, .int .u64 0, .int .u64 0] 42)) := w5_at _ _ (by simp) 0 0 0 0 false
  have hb0 : Below w.heap.size w (((w.alloc (Obj.cells #[.int .i64 1, .bool n1, .int .i64 E, .int .u64 a, .int .u64 b] 42)).alloc (Obj.cells #[.int .i64 1, .bool n2, .int .i64 E, .int .u64 c, .int .u64 d] 42)).alloc (Obj.cells #[.int .i64 0, .bool false, .int .i64 0, .int .u64 0, .int .u64 0] 42)) := bstep (below_two _ _) (below_one _)
  clear hX hY e1 hr
  rcases hz with hz | hz
  all_goals
    go_enter Tryd.func90, Tryd.ntmps90
    go_wp2_with (go_at_call 97; refine (hl _).mono ?_; rintro e w' ⟨rfl, hb⟩; obtain ⟨a0, a1, a2, a3, a4, f0, f1, f2, f3, f4⟩ := h0.below hb; obtain ⟨b0, b1, b2, b3, b4, g0, g1, g2, g3, g4⟩ := h1.below hb; obtain ⟨d0, d1, d2, d3, d4, k0, k1, k2, k3, k4⟩ := h2.below hb)
    go_region
    all_goals
      go_wp2
      refine bodyPost_ret (v := .agg #[.int .i64 1, .bool n1, .int .i64 E, .int .u64 (H : Int), .int .u64 (L : Int)]) (by simp [results, Tryd.results90, go_sem, d0, d1, d2, d3, d4]) rfl ⟨rfl, ?_⟩
      refine Below.drew ?_
      exact below_sc (below_sc (below_sc (below_sc (below_sc (below_sc (below_sc (bstep hb0 hb) (Nat.le_refl _) _) (Nat.le_refl _) _) (le2 _) _) (le2 _) _) (le2 _) _) (le2 _) _) (le2 _) _

end Go.Proofs.YtcpnmcfpnhokgaaDoor
