/- A quantity without noughts at its end. -/
import Derived.Test.YtonjgielpcofeaaQC
namespace Go.Proofs.Ytonjgielpcofeaa
open Go.RowKit

/-- A number without the noughts at its end, and how many they were. -/
def nz (n : Int) : Int × Int := if n ≠ 0 ∧ n.tmod 10 = 0 then ((nz (n.tdiv 10)).1, (nz (n.tdiv 10)).2 + 1) else (n, 0)
termination_by n.natAbs
decreasing_by all_goals (rename_i h; have e := Int.mul_tdiv_add_tmod n 10; rw [h.2] at e; omega)

theorem nz_step {n : Int} (h0 : n ≠ 0) (h : n.tmod 10 = 0) : nz n = ((nz (n.tdiv 10)).1, (nz (n.tdiv 10)).2 + 1) := by
  rw [nz]
  rw [if_pos ⟨h0, h⟩]

theorem nz_stop {n : Int} (h : ¬ (n ≠ 0 ∧ n.tmod 10 = 0)) : nz n = (n, 0) := by
  rw [nz]
  rw [if_neg h]

/-- The same without noughts, with the power that goes with it. -/
def pz (n p : Int) : Int := if n = 0 then 0 else p + (nz n).2

theorem pow_room {m n : Int} {j : Nat} (h0 : m ≠ 0) (h : m.natAbs * 2 ^ j ≤ n.natAbs) (hn : -9223372036854775808 ≤ n ∧ n ≤ 9223372036854775807) : j < 64 := by
  have h1 : 2 ^ j ≤ n.natAbs := Nat.le_trans (Nat.le_mul_of_pos_left _ (by omega)) h
  have h2 : n.natAbs < 2 ^ 64 := by have : (2 : Nat) ^ 64 = 18446744073709551616 := by decide
                                    omega
  exact (Nat.pow_lt_pow_iff_right (by decide)).1 (Nat.lt_of_le_of_lt h1 h2)

theorem tdiv_ten {m : Int} (h : m.tmod 10 = 0) : 10 * m.tdiv 10 = m := by
  have e := Int.mul_tdiv_add_tmod m 10
  rw [h] at e
  omega

theorem pow_next {m n : Int} {j : Nat} (hm : m.tmod 10 = 0) (h : m.natAbs * 2 ^ j ≤ n.natAbs) : (m.tdiv 10).natAbs * 2 ^ (j + 1) ≤ n.natAbs := by
  have e := tdiv_ten hm
  refine Nat.le_trans ?_ h
  rw [Nat.pow_succ, Nat.mul_comm (2 ^ j) 2, ← Nat.mul_assoc]
  exact Nat.mul_le_mul_right _ (by omega)

/-- A quantity's four numbers in a block. -/
structure R4 (W : World) (g : Nat) (n p v s : Int) : Prop where
  c0 : W.cell? ⟨g, 0, none⟩ = some (.int .i64 n)
  c1 : W.cell? ⟨g, 1, none⟩ = some (.int .i64 p)
  c2 : W.cell? ⟨g, 2, none⟩ = some (.int .i64 v)
  c3 : W.cell? ⟨g, 3, none⟩ = some (.int .i64 s)
  fz : ∀ o, W.frozen? ⟨g, o, none⟩ = false

theorem otherc (w : World) (a b : Addr) (v : Value) (h : a ≠ b) : (w.setCell a v).cell? b = w.cell? b := by
  first | exact World.cell?_setCell_other _ _ _ _ h | exact World.cell?_setCell_other _ _ _ h | exact World.cell?_setCell_other h | exact World.cell?_setCell_other _ _ h

theorem R4.new (w : World) (t : TypeId) (n p v s : Int) : R4 (w.alloc (.cells #[.int .i64 n, .int .i64 p, .int .i64 v, .int .i64 s] t)) w.heap.size n p v s := ⟨by simp, by simp, by simp, by simp, fun o => by simp⟩

theorem R4.call {W W' : World} {g : Nat} {n p v s : Int} (h : R4 W g n p v s) (hb : Below W.heap.size W W') : R4 W' g n p v s := by
  have hl : g < W.heap.size := World.block_lt_of_cell? W _ h.c0
  exact ⟨(hb.cell (p := ⟨g, 0, none⟩) hl).trans h.c0, (hb.cell (p := ⟨g, 1, none⟩) hl).trans h.c1, (hb.cell (p := ⟨g, 2, none⟩) hl).trans h.c2, (hb.cell (p := ⟨g, 3, none⟩) hl).trans h.c3, fun o => (hb.frozen (p := ⟨g, o, none⟩) hl).trans (h.fz o)⟩

theorem R4.put0 {W : World} {g : Nat} {n p v s : Int} (h : R4 W g n p v s) (x : Int) : R4 (W.setCell ⟨g, 0, none⟩ (.int .i64 x)) g x p v s := by
  obtain ⟨c0, c1, c2, c3, hf⟩ := h
  exact ⟨by go_simp, by go_simp, by go_simp, by go_simp, fun o => (World.frozen?_setCell _ _ _ _).trans (hf o)⟩

theorem R4.put1 {W : World} {g : Nat} {n p v s : Int} (h : R4 W g n p v s) (x : Int) : R4 (W.setCell ⟨g, 1, none⟩ (.int .i64 x)) g n x v s := by
  obtain ⟨c0, c1, c2, c3, hf⟩ := h
  exact ⟨by go_simp, by go_simp, by go_simp, by go_simp, fun o => (World.frozen?_setCell _ _ _ _).trans (hf o)⟩

theorem R4.put2 {W : World} {g : Nat} {n p v s : Int} (h : R4 W g n p v s) (x : Int) : R4 (W.setCell ⟨g, 2, none⟩ (.int .i64 x)) g n p x s := by
  obtain ⟨c0, c1, c2, c3, hf⟩ := h
  exact ⟨by go_simp, by go_simp, by go_simp, by go_simp, fun o => (World.frozen?_setCell _ _ _ _).trans (hf o)⟩

theorem R4.put3 {W : World} {g : Nat} {n p v s : Int} (h : R4 W g n p v s) (x : Int) : R4 (W.setCell ⟨g, 3, none⟩ (.int .i64 x)) g n p v x := by
  obtain ⟨c0, c1, c2, c3, hf⟩ := h
  exact ⟨by go_simp, by go_simp, by go_simp, by go_simp, fun o => (World.frozen?_setCell _ _ _ _).trans (hf o)⟩

theorem R4.off {W : World} {g b : Nat} {n p v s : Int} (h : R4 W g n p v s) (hb : g ≠ b) (k : Nat) (x : Value) : R4 (W.setCell ⟨b, k, none⟩ x) g n p v s := by
  have e : ∀ o, (W.setCell ⟨b, k, none⟩ x).cell? ⟨g, o, none⟩ = W.cell? ⟨g, o, none⟩ := fun o => otherc _ _ _ _ (fun e => hb (by injection e; omega))
  exact ⟨(e 0).trans h.c0, (e 1).trans h.c1, (e 2).trans h.c2, (e 3).trans h.c3, fun o => (World.frozen?_setCell _ _ _ _).trans (h.fz o)⟩

set_option maxHeartbeats 1000000 in
theorem iNo_any (n p v s : Int) (hn : -9223372036854775808 ≤ n ∧ n ≤ 9223372036854775807) (hp : -1000 ≤ p ∧ p ≤ 1000) (w : World) : Calls Try.prog 35 #[.agg #[.int .i64 n, .int .i64 p, .int .i64 v, .int .i64 s]] w fun e w' => e = .returned (.agg #[.int .i64 (nz n).1, .int .i64 (pz n p), .int .i64 v, .int .i64 s]) ∧ Below w.heap.size w w' := by
  have B0 : Hid (Below w.heap.size w ((w).alloc (.cells #[.int .i64 n, .int .i64 p, .int .i64 v, .int .i64 s] 25))) := below_one w _
  have R0 := R4.new w 25 n p v s
  by_cases h0 : n = 0
  · subst h0
    have e1 : (nz 0).1 = 0 := by rw [nz_stop (by simp)]
    rw [e1, show pz 0 p = 0 from rfl]
    go_enter Try.func35, Try.ntmps35
    go_wp2
    refine bodyPost_ret (v := .agg #[.int .i64 0, .int .i64 0, .int .i64 v, .int .i64 s]) (by simp [results, Try.results35, go_sem]) rfl ?_
    exact ⟨rfl, by (repeat first | exact below_one _ _ | exact B0.out | (refine Below.alloc ?_ (by simp <;> omega) _) | (refine Below.setCell ?_ (by simp <;> omega) _))⟩
  · rw [show pz n p = p + (nz n).2 from if_neg h0]
    go_enter Try.func35, Try.ntmps35
    go_wp2
    have S0 : Hid (((w).alloc (.cells #[.int .i64 n, .int .i64 p, .int .i64 v, .int .i64 s] 25)).heap.size = w.heap.size + 1) := by show ((w).alloc (.cells #[.int .i64 n, .int .i64 p, .int .i64 v, .int .i64 s] 25)).heap.size = _; simp
    go_loopw [] (fun wr => ∃ (j : Nat) (m : Int), Hid (Below w.heap.size w wr) ∧ Hid (R4 wr w.heap.size m (p + j) v s) ∧ Hid (R4 wr (w.heap.size + 1) 0 0 0 0) ∧ m ≠ 0 ∧ m.natAbs * 2 ^ j ≤ n.natAbs ∧ (nz m).1 = (nz n).1 ∧ (j : Int) + (nz m).2 = (nz n).2) (fun wr => (match wr.cell? ⟨w.heap.size, 0, none⟩ with | some (.int _ m) => m.natAbs | _ => 0))
    case atStart =>
      refine ⟨0, n, ?_, ?_, ?_, h0, by omega, rfl, by omega⟩
      · exact B0.out.trans ((below_one _ _).mono (by simp))
      · have := R0.call (below_one ((w).alloc (.cells #[.int .i64 n, .int .i64 p, .int .i64 v, .int .i64 s] 25)) (.cells #[.int .i64 0, .int .i64 0, .int .i64 0, .int .i64 0] 25))
        rw [show p + ((0 : Nat) : Int) = p by omega]
        exact this
      · have := R4.new ((w).alloc (.cells #[.int .i64 n, .int .i64 p, .int .i64 v, .int .i64 s] 25)) 25 0 0 0 0
        rw [S0.out] at this
        exact this
    case round =>
      obtain ⟨j, m, hb, hr, hz, hm0, hj, h1, h2⟩ := hrel
      obtain ⟨c0, c1, c2, c3, hf⟩ := hr.out
      by_cases h3 : m.tmod 10 = 0
      · have hjj := pow_room hm0 hj hn
        have e10 := tdiv_ten h3
        have f0 := hf 0
        have f1 := hf 1
        have hmm : -9223372036854775808 ≤ m ∧ m ≤ 9223372036854775807 := by
          have : m.natAbs ≤ n.natAbs := Nat.le_trans (Nat.le_mul_of_pos_right _ (Nat.two_pow_pos j)) hj
          omega
        have wd : wrap64 (m.tdiv 10) = m.tdiv 10 := by unfold wrap64; omega
        have wp : wrap64 (p + ↑j + 1) = p + ↑j + 1 := by unfold wrap64; omega
        have NX : Hid (R4 ((wr.setCell ⟨w.heap.size, 0, none⟩ (.int .i64 (m.tdiv 10))).setCell ⟨w.heap.size, 1, none⟩ (.int .i64 (p + ↑j + 1))) w.heap.size (m.tdiv 10) (p + ↑j + 1) v s) := (hr.out.put0 _).put1 _
        have NZ : Hid (R4 ((wr.setCell ⟨w.heap.size, 0, none⟩ (.int .i64 (m.tdiv 10))).setCell ⟨w.heap.size, 1, none⟩ (.int .i64 (p + ↑j + 1))) (w.heap.size + 1) 0 0 0 0) := (hz.out.off (by omega) _ _).off (by omega) _ _
        have ns := nz_step hm0 h3
        have hm1 : m.tdiv 10 ≠ 0 := by omega
        go_wp2
        go_roundw
        case rel =>
          refine ⟨j + 1, m.tdiv 10, ?_, ?_, NZ, hm1, pow_next h3 hj, by rw [← h1, ns], by rw [← h2, ns]; simp only []; omega⟩
          · exact (hb.out.setCell (by simp <;> omega) _).setCell (by simp <;> omega) _
          · have := NX.out
            rw [show p + (((j + 1 : Nat)) : Int) = p + ↑j + 1 by omega]
            exact this
        case measure =>
          rw [NX.out.c0, c0]
          show (m.tdiv 10).natAbs < m.natAbs
          omega
      · have ns := nz_stop (fun h : m ≠ 0 ∧ m.tmod 10 = 0 => h3 h.2)
        rw [ns] at h1 h2
        have H1 : Hid (m = (nz n).1) := h1
        have H2 : Hid ((j : Int) = (nz n).2) := by have : (j : Int) + 0 = (nz n).2 := h2
                                                   show (j : Int) = (nz n).2
                                                   omega
        clear h1 h2 ns
        obtain ⟨z0, z1, z2, z3, zf⟩ := hz.out
        have y0 := zf 0
        have y1 := zf 1
        have y2 := zf 2
        have y3 := zf 3
        have LB : Hid (Below w.heap.size w ((((wr.setCell ⟨w.heap.size + 1, 0, none⟩ (.int .i64 m)).setCell ⟨w.heap.size + 1, 1, none⟩ (.int .i64 (p + j))).setCell ⟨w.heap.size + 1, 2, none⟩ (.int .i64 v)).setCell ⟨w.heap.size + 1, 3, none⟩ (.int .i64 s))) :=
          (((hb.out.setCell (by simp <;> omega) _).setCell (by simp <;> omega) _).setCell (by simp <;> omega) _).setCell (by simp <;> omega) _
        have LZ := (((hz.out.put0 m).put1 (p + j)).put2 v).put3 s
        have LZ : Hid _ := LZ
        go_wp2
        have LZ := LZ.out
        generalize (((wr.setCell ⟨w.heap.size + 1, 0, none⟩ (.int .i64 m)).setCell ⟨w.heap.size + 1, 1, none⟩ (.int .i64 (p + j))).setCell ⟨w.heap.size + 1, 2, none⟩ (.int .i64 v)).setCell ⟨w.heap.size + 1, 3, none⟩ (.int .i64 s) = X at LB LZ ⊢
        obtain ⟨k0, k1, k2, k3, _⟩ := LZ
        refine bodyPost_ret (v := .agg #[.int .i64 m, .int .i64 (p + j), .int .i64 v, .int .i64 s]) (by simp [results, Try.results35, go_sem, k0, k1, k2, k3]) rfl ?_
        exact ⟨by rw [← H1.out, ← H2.out], LB.out⟩

end Go.Proofs.Ytonjgielpcofeaa
