/- The program's packNum: every kind. -/
import Derived.Test.YtghblaphkbcgpaaDoorQ3
import Derived.Test.YtghblaphkbcgpaaDoorHN2
namespace Go.Proofs.YtghblaphkbcgpaaDoor
open Go.RowKit

/-- What a number of each kind is packed to. -/
def pkV (p t h S mode K E : Int) (n : Bool) (M : Nat) : Int :=
  if K = 0 then (if n then S else 0) else if K = 1 then rndV p t h S mode E n M false else if K = 2 then (2 * t + 1) * h + (if n then S else 0) else if K = 3 then (2 * t + 1) * h + h / 2 else 0
def pkF (p t h mode K E : Int) (n : Bool) (M : Nat) : Int := if K = 1 then rndF p t h mode E n M false else 0

theorem laidp_drew {B : Nat} {wd p t : Int} {n : Bool} {w W : World} (h : Laidp B wd p t n w W) (o : Obj) (hB : B + 1 < W.heap.size) : Laidp B wd p t n w (W.drew.alloc o) := by
  obtain ⟨a1, a2, a3, a4, a5⟩ := h
  refine ⟨?_, ?_, ?_, ?_, (a5.drew).alloc (by show B ≤ W.heap.size; omega) _⟩
  · rw [World.cell?_alloc_past _ _ _ (by show B + 1 < W.heap.size; exact hB)]; exact a1
  · rw [World.cell?_alloc_past _ _ _ (by show B + 1 < W.heap.size; exact hB)]; exact a2
  · rw [World.cell?_alloc_past _ _ _ (by show B + 1 < W.heap.size; exact hB)]; exact a3
  · rw [World.cell?_alloc_past _ _ _ (by show B < W.heap.size; omega)]; exact a4

theorem packNum_inf {f wd p t S D h q : Int} (hF : Frm f wd p t S D h q) (mode E M : Int) (n : Bool) (w : World) (hs : Shp w) :
    Calls Tryd.prog 40 #[.int .i64 f, .int .i64 mode, .agg #[.int .i64 2, .bool n, .int .i64 E, .int .u64 M]] w fun e w' => e = .returned (.tuple #[.int .u64 (if n then (2 * t + 1) * h + S else (2 * t + 1) * h), .int .i64 0]) ∧ Below w.heap.size w w' := by
  refine packNum_inf1 hF mode E M ((2 * t + 1) * h) _ n w hs (shp_pos hs) (fun W hL => ?_) (fun W hb => ?_)
  · refine (infinity_any hF W.drew).mono ?_
    rintro e w' ⟨rfl, rfl⟩
    exact ⟨rfl, laidp_drew hL _ (World.block_lt_of_cell? W _ hL.1)⟩
  · refine (signed_any hF n ((2 * t + 1) * h) W (by rcases hF with ⟨rfl, rfl, rfl, rfl, rfl, rfl, rfl, rfl⟩ | ⟨rfl, rfl, rfl, rfl, rfl, rfl, rfl, rfl⟩ | ⟨rfl, rfl, rfl, rfl, rfl, rfl, rfl, rfl⟩ <;> decide) (by rcases hF with ⟨rfl, rfl, rfl, rfl, rfl, rfl, rfl, rfl⟩ | ⟨rfl, rfl, rfl, rfl, rfl, rfl, rfl, rfl⟩ | ⟨rfl, rfl, rfl, rfl, rfl, rfl, rfl, rfl⟩ <;> decide)).mono ?_
    rintro e w' ⟨rfl, hb2⟩
    exact ⟨rfl, hb.trans (hb2.mono hb.size)⟩

set_option maxHeartbeats 2000000 in
theorem packNum_fin2 {f wd p t S D h q : Int} (hF : Frm f wd p t S D h q) (mode E M v x : Int) (n : Bool) (w : World) (hs : Shp w)
    (hP : ∀ w, Calls Tryd.prog 51 #[.agg #[.int .i64 wd, .int .i64 p, .int .i64 t], .int .i64 mode, .agg #[.int .i64 1, .bool n, .int .i64 E, .int .u64 M]] w fun e w' => e = .returned (.tuple #[.int .u64 v, .int .i64 x]) ∧ Below w.heap.size w w') :
    Calls Tryd.prog 40 #[.int .i64 f, .int .i64 mode, .agg #[.int .i64 1, .bool n, .int .i64 E, .int .u64 M]] w fun e w' => e = .returned (.tuple #[.int .u64 v, .int .i64 x]) ∧ Below w.heap.size w w' := by
  have hz := shp_pos hs
  obtain ⟨c0, c1, c2, c3, c4, c5, c6, c7, c8, c9, c10, c11⟩ := hs
  rcases hF with ⟨rfl, rfl, rfl, rfl, rfl, rfl, rfl, rfl⟩ | ⟨rfl, rfl, rfl, rfl, rfl, rfl, rfl, rfl⟩ | ⟨rfl, rfl, rfl, rfl, rfl, rfl, rfl, rfl⟩
  all_goals
    go_enter Tryd.func40, Tryd.ntmps40
    go_wp2_with (go_at_call 51; with_reducible refine (hP _).mono ?_; rintro e w' ⟨rfl, hb⟩)
    go_ret2
    exact ⟨rfl, (below_two _ _).trans (hb.mono (below_two _ _).size)⟩

set_option maxHeartbeats 2000000 in
theorem packNum_nan {f wd p t S D h q : Int} (hF : Frm f wd p t S D h q) (mode E M : Int) (n : Bool) (w : World) (hs : Shp w) :
    Calls Tryd.prog 40 #[.int .i64 f, .int .i64 mode, .agg #[.int .i64 3, .bool n, .int .i64 E, .int .u64 M]] w fun e w' => e = .returned (.tuple #[.int .u64 ((2 * t + 1) * h + h / 2), .int .i64 0]) ∧ Below w.heap.size w w' := by
  have hz := shp_pos hs
  have hP : ∀ w, Calls Tryd.prog 39 #[.agg #[.int .i64 wd, .int .i64 p, .int .i64 t]] w fun e w' => e = .returned (.int .u64 ((2 * t + 1) * h + h / 2)) ∧ Below w.heap.size w w' := fun w => plainNan_any hF w
  obtain ⟨c0, c1, c2, c3, c4, c5, c6, c7, c8, c9, c10, c11⟩ := hs
  rcases hF with ⟨rfl, rfl, rfl, rfl, rfl, rfl, rfl, rfl⟩ | ⟨rfl, rfl, rfl, rfl, rfl, rfl, rfl, rfl⟩ | ⟨rfl, rfl, rfl, rfl, rfl, rfl, rfl, rfl⟩
  all_goals
    go_enter Tryd.func40, Tryd.ntmps40
    go_wp2_with (go_at_call 39; with_reducible refine (hP _).mono ?_; rintro e w' ⟨rfl, hb⟩)
    go_ret2
    exact ⟨rfl, (below_two _ _).trans (hb.mono (below_two _ _).size)⟩

set_option maxHeartbeats 2000000 in
theorem packNum_else {f wd p t S D h q : Int} (hF : Frm f wd p t S D h q) (mode K E M : Int) (n : Bool) (w : World) (hs : Shp w) (hK : K < 0 ∨ 3 < K) :
    Calls Tryd.prog 40 #[.int .i64 f, .int .i64 mode, .agg #[.int .i64 K, .bool n, .int .i64 E, .int .u64 M]] w fun e w' => e = .returned (.tuple #[.int .u64 0, .int .i64 0]) ∧ Below w.heap.size w w' := by
  have hz := shp_pos hs
  have k0 : (K == 0) = false := by simp; omega
  have k1 : (K == 1) = false := by simp; omega
  have k2 : (K == 2) = false := by simp; omega
  have k3 : (K == 3) = false := by simp; omega
  clear hK
  obtain ⟨c0, c1, c2, c3, c4, c5, c6, c7, c8, c9, c10, c11⟩ := hs
  rcases hF with ⟨rfl, rfl, rfl, rfl, rfl, rfl, rfl, rfl⟩ | ⟨rfl, rfl, rfl, rfl, rfl, rfl, rfl, rfl⟩ | ⟨rfl, rfl, rfl, rfl, rfl, rfl, rfl, rfl⟩
  all_goals
    go_enter Tryd.func40, Tryd.ntmps40
    go_wp2
    go_ret2
    exact ⟨rfl, below_two _ _⟩

theorem packNum_any {f wd p t S D h q : Int} (hF : Frm f wd p t S D h q) (mode K E : Int) (n : Bool) (M : Nat) (w : World) (hs : Shp w) (h1 : K = 1 → 0 < M ∧ M < 18446744073709551616 ∧ -100000 ≤ E ∧ E ≤ 100000) :
    Calls Tryd.prog 40 #[.int .i64 f, .int .i64 mode, .agg #[.int .i64 K, .bool n, .int .i64 E, .int .u64 (M : Int)]] w fun e w' => e = .returned (.tuple #[.int .u64 (pkV p t h S mode K E n M), .int .i64 (pkF p t h mode K E n M)]) ∧ Below w.heap.size w w' := by
  unfold pkV pkF
  by_cases k0 : K = 0
  · subst k0
    rw [if_pos rfl, if_neg (show ¬ ((0 : Int) = 1) by decide)]
    exact packNum_zero hF mode E M n w hs
  by_cases k1 : K = 1
  · subst k1
    obtain ⟨m0, m1, e0, e1⟩ := h1 rfl
    rw [if_neg (by decide), if_pos rfl, if_pos rfl]
    exact packNum_fin2 hF mode E M _ _ n w hs fun w => packFinite_any hF mode E n M w m0 m1 e0 e1
  by_cases k2 : K = 2
  · subst k2
    rw [if_neg (show ¬ ((2 : Int) = 0) by decide), if_neg (show ¬ ((2 : Int) = 1) by decide), if_pos rfl, if_neg (show ¬ ((2 : Int) = 1) by decide)]
    have := packNum_inf hF mode E M n w hs
    cases n
    · simpa using this
    · simpa using this
  by_cases k3 : K = 3
  · subst k3
    rw [if_neg (by decide), if_neg (by decide), if_neg (by decide), if_pos rfl, if_neg (by decide)]
    exact packNum_nan hF mode E M n w hs
  rw [if_neg k0, if_neg k1, if_neg k2, if_neg k3, if_neg k1]
  exact packNum_else hF mode K E M n w hs (by omega)
end Go.Proofs.YtghblaphkbcgpaaDoor
