/- The program's Compare; both sides of Compare; the law of Compare. -/
import Derived.Test.YtcpnmcfpnhokgaaDoorN2
namespace Go.Proofs.YtcpnmcfpnhokgaaDoor
open Go.RowKit

theorem below_r3 {w w1 w2 w3 : World} (o : Obj) (hb0 : Below (w.alloc o).heap.size (w.alloc o) w1) (hb1 : Below w1.heap.size w1 w2) (hb2 : Below w2.heap.size w2 w3) : Below w.heap.size w w3 :=
  (below_a2 o hb0 hb1).trans (hb2.mono (below_a2 o hb0 hb1).size)

theorem below_r4 {w w1 w2 w3 w4 : World} (o : Obj) (hb0 : Below (w.alloc o).heap.size (w.alloc o) w1) (hb1 : Below w1.heap.size w1 w2) (hb2 : Below w2.drew.heap.size w2.drew w3) (hb3 : Below w3.heap.size w3 w4) : Below w.heap.size w w4 := by
  have a := below_a2 o hb0 hb1
  have b : Below w2.heap.size w2 w3 := ((Below.refl _ _).drew).trans hb2
  have c := a.trans (b.mono a.size)
  exact c.trans (hb3.mono c.size)

theorem cells_kept {w w1 w2 : World} {a b c : Int} (hb : Below (w.alloc (shpObj a b c)).heap.size (w.alloc (shpObj a b c)) w1) (hb2 : Below w1.heap.size w1 w2) :
    w2.cell? ⟨w.heap.size, 0, none⟩ = some (.int .i64 a) ∧ w2.cell? ⟨w.heap.size, 1, none⟩ = some (.int .i64 b) ∧ w2.cell? ⟨w.heap.size, 2, none⟩ = some (.int .i64 c) ∧ w.heap.size < w2.heap.size := by
  have h1 := szlt hb
  have h2 := hb2.size
  refine ⟨?_, ?_, ?_, by omega⟩
  all_goals
    rw [(bcell hb2).1 _ _ h1, (bcell hb).1 _ _ (by simp)]
    go_simp

theorem cells_next {w1 w2 : World} {B : Nat} {v0 v1 v2 : Value} (hb : Below w1.heap.size w1 w2) (hs : B < w1.heap.size) (k0 : w1.cell? ⟨B, 0, none⟩ = some v0) (k1 : w1.cell? ⟨B, 1, none⟩ = some v1) (k2 : w1.cell? ⟨B, 2, none⟩ = some v2) :
    w2.cell? ⟨B, 0, none⟩ = some v0 ∧ w2.cell? ⟨B, 1, none⟩ = some v1 ∧ w2.cell? ⟨B, 2, none⟩ = some v2 ∧ B < w2.heap.size :=
  ⟨((bcell hb).1 _ _ hs).trans k0, ((bcell hb).1 _ _ hs).trans k1, ((bcell hb).1 _ _ hs).trans k2, Nat.lt_of_lt_of_le hs hb.size⟩

theorem kd_nan (i s : Int) (_h0 : 0 < i) : (3 ≤ kd i s ↔ i < s) ∧ (kd i s = 0 ↔ s = 0) := by
  unfold kd
  constructor
  · repeat' split
    all_goals omega
  · repeat' split
    all_goals omega

theorem cmp_eq (S x y : Int) (hx0 : 0 ≤ x) (hy0 : 0 ≤ y) (hS : 0 < S) : cmp3 (rk S x 0) (rk S y 0) = if sz S x = 0 ∧ sz S y = 0 then 0 else ord S x y := by
  unfold cmp3 rk ord sz
  by_cases hx : x < S <;> by_cases hy : y < S
  · simp only [if_pos hx, if_pos hy]
    repeat' split
    all_goals omega
  · simp only [if_pos hx, if_neg hy]
    repeat' split
    all_goals omega
  · simp only [if_neg hx, if_pos hy]
    repeat' split
    all_goals omega
  · simp only [if_neg hx, if_neg hy]
    repeat' split
    all_goals omega

/-- What the model's Unpack answers where form or bits are none. -/
theorem sunpack_none (f x : Int) (hA : ∀ w, Calls Tryd.prog 39 #[.int .i64 f, .int .u64 x] w fun e w' => e = .returned (.bool false) ∧ w' = w) (w : World) :
    Calls Tryd.prog 12 #[.int .i64 f, .int .u64 x] w fun e w' => e = .returned (.agg #[.int .i64 4, .bool false, .int .i64 0, .int .u64 0]) ∧ Below w.heap.size w w' := by
  refine sunpack_bad f x w hA fun w => ?_
  by_cases hf : f < 1 ∨ 3 < f
  · exact ⟨_, _, _, _, l1Form_no f w hf⟩
  · obtain ⟨wd, p, t, S, D, h, q, hF⟩ := frm_of f hf
    exact ⟨_, _, _, _, l1Form_any hF.form w⟩

end Go.Proofs.YtcpnmcfpnhokgaaDoor
