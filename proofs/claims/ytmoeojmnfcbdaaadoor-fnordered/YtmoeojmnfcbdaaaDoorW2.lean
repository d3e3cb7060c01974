/- The walks of Order, on both sides. -/
import Derived.Test.YtmoeojmnfcbdaaaDoorW1
import Derived.WalkSpells
import Derived.WalkLawsBesides
import Derived.Deep.QuietTactic
import Derived.BigQuiet
import Derived.RegionTactic
import Derived.Deep.RegionWith
namespace Go.Proofs.YtmoeojmnfcbdaaaDoor
open Go.RowKit

/-- -1, 0, 1 as x is less than, the same as, greater than y. -/
def cmp3 (x y : Int) : Int := if x < y then -1 else if y < x then 1 else 0

theorem compare_any (x y : Int) (w : World) :
    Calls Tryd.prog 12 #[.int .i64 x, .int .i64 y] w fun e w' => e = .returned (.int .i64 (cmp3 x y)) ∧ w' = w := by
  have hx : (x != x) = false := by simp
  have hy : (y != y) = false := by simp
  unfold cmp3
  by_cases h1 : x < y
  · rw [if_pos h1]
    go_enter Tryd.func12, Tryd.ntmps12
    go_wp2
    go_ret
    exact ⟨rfl, rfl⟩
  · rw [if_neg h1]
    by_cases h2 : y < x
    · rw [if_pos h2]
      go_enter Tryd.func12, Tryd.ntmps12
      go_wp2
      go_ret
      exact ⟨rfl, rfl⟩
    · rw [if_neg h2]
      go_enter Tryd.func12, Tryd.ntmps12
      go_wp2
      go_ret
      exact ⟨rfl, rfl⟩

theorem rank_any {f wd p t S D : Int} (hF : Form f wd p t S D) (x l : Int) (w : World) (h0 : 0 ≤ x) (h2 : x < D) (hl0 : 0 ≤ l) (hl1 : l ≤ 1) :
    Calls Tryd.prog 13 #[.agg #[.int .i64 wd, .int .i64 p, .int .i64 t], .int .u64 x, .int .i64 l] w fun e w' => e = .returned (.int .i64 (rk S x l)) ∧ Below w.heap.size w w' := by
  unfold rk
  by_cases h : x < S
  · rw [if_pos h]; exact rank_low hF x l w h0 h
  · rw [if_neg h]; exact rank_high hF x l w (by omega) h2 hl0 hl1

theorem order_no (form x y : Int) (w : World) (h : form < 1 ∨ 3 < form) :
    Calls Tryd.prog 6 #[.int .i64 form, .int .u64 x, .int .u64 y] w fun e w' => e = .returned (.int .i64 2) ∧ w' = w := by
  go_enter Tryd.func6, Tryd.ntmps6
  go_wp2_with (go_at_call 11; refine (isBits_no _ _ _ h).mono ?_; rintro e w' ⟨rfl, rfl⟩)
  go_ret
  exact ⟨rfl, rfl⟩

theorem bcell {W w1 : World} (hb : Below W.heap.size W w1) : (∀ b o, b < W.heap.size → w1.cell? ⟨b, o, none⟩ = W.cell? ⟨b, o, none⟩) ∧ (∀ b o, b < W.heap.size → w1.frozen? ⟨b, o, none⟩ = W.frozen? ⟨b, o, none⟩) :=
  ⟨fun b o h => hb.cell (p := ⟨b, o, none⟩) h, fun b o h => hb.frozen (p := ⟨b, o, none⟩) h⟩

theorem below3 {w w1 w2 : World} (o : Obj) (hb1 : Below (w.alloc o).drew.heap.size (w.alloc o).drew w1) (hb2 : Below w1.heap.size w1 w2) : Below w.heap.size w w2 := by
  have h0 : Below w.heap.size w (w.alloc o).drew := ((Below.refl _ _).alloc (Nat.le_refl _) _).drew
  have h1 : w.heap.size ≤ (w.alloc o).drew.heap.size := h0.size
  have h2 : (w.alloc o).drew.heap.size ≤ w1.heap.size := hb1.size
  exact (h0.trans (hb1.mono h1)).trans (hb2.mono (Nat.le_trans h1 h2))

theorem div_ok {x D : Int} (h0 : 0 ≤ x) (h1 : x < D) : (x / D == 0) = true := by
  rw [beq_iff_eq]
  exact Int.ediv_eq_zero_of_lt h0 h1

set_option maxHeartbeats 1000000 in
theorem order_yes {f wd p t S D : Int} (hF : Form f wd p t S D) (x y : Int) (w : World) (hs : Shp w) (hx0 : 0 ≤ x) (hx1 : x < D) (hy0 : 0 ≤ y) (hy1 : y < D) :
    Calls Tryd.prog 6 #[.int .i64 f, .int .u64 x, .int .u64 y] w fun e w' => e = .returned (.int .i64 (cmp3 (rk S x 1) (rk S y 1))) ∧ Below w.heap.size w w' := by
  have hF' := hF
  have HL0 : (0 : Int) ≤ 1 := by decide
  have HL1 : (1 : Int) ≤ 1 := by decide
  have hx2 := div_ok hx0 hx1
  have hy2 := div_ok hy0 hy1
  obtain ⟨c0, c1, c2, c3, c4, c5, c6, c7, c8, c9, c10, c11⟩ := hs
  rcases hF with ⟨rfl, rfl, rfl, rfl, rfl, rfl⟩ | ⟨rfl, rfl, rfl, rfl, rfl, rfl⟩ | ⟨rfl, rfl, rfl, rfl, rfl, rfl⟩
  all_goals
    go_enter Tryd.func6, Tryd.ntmps6
    go_wp2
    clear c0 c1 c2 c3 c4 c5 c6 c7 c8 c9 c10 c11 hx2 hy2
    go_region_with (first | (go_at_call 13; (first | with_reducible refine (rank_any hF' x 1 _ hx0 hx1 HL0 HL1).mono ?_ | with_reducible refine (rank_any hF' y 1 _ hy0 hy1 HL0 HL1).mono ?_); rintro e w' ⟨rfl, hb⟩; obtain ⟨hc, hf⟩ := bcell hb) | (go_at_call 12; refine (compare_any _ _ _).mono ?_; rintro e w' ⟨rfl, rfl⟩))
    all_goals
      rename_i hb1 _ _
      go_wp2
      go_ret
      exact ⟨rfl, below3 _ hb1 hb⟩
end Go.Proofs.YtmoeojmnfcbdaaaDoor
