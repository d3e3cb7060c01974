/- The law of Sub. -/
import Derived.Test.YtfodpnbhcdkmnaaDoorB8
import Derived.Test.YtfodpnbhcdkmnaaDoorF1
namespace Go.Proofs.YtfodpnbhcdkmnaaDoor
open Go.RowKit

theorem ssub_bad (f mode x y : Int) (w : World)
    (hA0 : ∀ W v, Lu W v 2 (fun k => if k = 0 then x else y) → Calls Tryd.prog 33 #[.int .i64 f, .int .i64 mode, v] W fun e w' => e = .returned (.bool false) ∧ w' = W) :
    Calls Tryd.prog 14 #[.int .i64 f, .int .i64 mode, .int .u64 x, .int .u64 y] w fun e w' => e = .returned (.tuple #[.int .u64 0, .int .i64 0]) ∧ Below w.heap.size w w' := by
  have hA1 := hA0 _ _ (lu_two x y w w.heap.size rfl)
  clear hA0
  go_enter Tryd.func14, Tryd.ntmps14
  go_wp2_with (go_at_call 33; refine hA1.mono ?_; rintro e w' ⟨rfl, hw⟩; obtain rfl := hw.symm)
  go_ret2
  exact ⟨rfl, below_one _⟩

theorem ssub_on (f mode x y S z V F : Int) (w : World) (hz : bits .xor .u64 y S = z)
    (hA0 : ∀ W v, Lu W v 2 (fun k => if k = 0 then x else y) → Calls Tryd.prog 33 #[.int .i64 f, .int .i64 mode, v] W fun e w' => e = .returned (.bool true) ∧ w' = W)
    (hS : ∀ W, Calls Tryd.prog 25 #[.int .i64 f, .bool true] W fun e w' => e = .returned (.int .u64 S) ∧ w' = W)
    (hA : ∀ W, Calls Tryd.prog 12 #[.int .i64 f, .int .i64 mode, .int .u64 x, .int .u64 z] W fun e w' => e = .returned (.tuple #[.int .u64 V, .int .i64 F]) ∧ Below W.heap.size W w') :
    Calls Tryd.prog 14 #[.int .i64 f, .int .i64 mode, .int .u64 x, .int .u64 y] w fun e w' => e = .returned (.tuple #[.int .u64 V, .int .i64 F]) ∧ Below w.heap.size w w' := by
  have hA1 := hA0 _ _ (lu_two x y w w.heap.size rfl)
  clear hA0
  go_enter Tryd.func14, Tryd.ntmps14
  go_wp2_with (first | (go_at_call 33; refine hA1.mono ?_; rintro e w' ⟨rfl, hw⟩; obtain rfl := hw.symm) | (go_at_call 25; refine (hS _).mono ?_; rintro e w' ⟨rfl, hw⟩; obtain rfl := hw.symm) | (go_at_call 12; refine (hA _).mono ?_; rintro e w1 ⟨rfl, hb1⟩))
  go_ret2
  exact ⟨rfl, bstep (below_one _) hb1⟩

theorem isub_early (f mode x y V F : Int) (w : World)
    (hE : Calls Tryd.prog 37 #[.int .i64 f, .int .i64 mode, .slice (some ⟨w.heap.size, 0, none⟩) 2 2] (w.alloc (.cells #[.int .u64 x, .int .u64 y] 22)) fun e w' => e = .returned (.tuple #[.int .u64 V, .int .i64 F, .bool true]) ∧ Below (w.alloc (.cells #[.int .u64 x, .int .u64 y] 22)).heap.size (w.alloc (.cells #[.int .u64 x, .int .u64 y] 22)) w') :
    Calls Tryd.prog 15 #[.int .i64 f, .int .i64 mode, .int .u64 x, .int .u64 y] w fun e w' => e = .returned (.tuple #[.int .u64 V, .int .i64 F]) ∧ Below w.heap.size w w' := by
  go_enter Tryd.func15, Tryd.ntmps15
  go_wp2_with (go_at_call 37; refine hE.mono ?_; rintro e w1 ⟨rfl, hb⟩)
  go_ret2
  exact ⟨rfl, bstep (below_one _) hb⟩

set_option maxHeartbeats 2000000 in
theorem isub_on {f wd p t S D h q : Int} (hF : Frm f wd p t S D h q) (mode x y z V F : Int) (w : World) (hs : Tabs w) (hz : bits .xor .u64 y S = z)
    (hE : Calls Tryd.prog 37 #[.int .i64 f, .int .i64 mode, .slice (some ⟨w.heap.size, 0, none⟩) 2 2] (w.alloc (.cells #[.int .u64 x, .int .u64 y] 22)) fun e w' => e = .returned (.tuple #[.int .u64 0, .int .i64 0, .bool false]) ∧ Below (w.alloc (.cells #[.int .u64 x, .int .u64 y] 22)).heap.size (w.alloc (.cells #[.int .u64 x, .int .u64 y] 22)) w')
    (hA : ∀ W, Tabs W → Calls Tryd.prog 13 #[.int .i64 f, .int .i64 mode, .int .u64 x, .int .u64 z] W fun e w' => e = .returned (.tuple #[.int .u64 V, .int .i64 F]) ∧ Below W.heap.size W w') :
    Calls Tryd.prog 15 #[.int .i64 f, .int .i64 mode, .int .u64 x, .int .u64 y] w fun e w' => e = .returned (.tuple #[.int .u64 V, .int .i64 F]) ∧ Below w.heap.size w w' := by
  have kT : ∀ W, Below w.heap.size w W → Tabs W := fun W hb => ⟨shp_below hs.shp (shp_pos hs.shp) hb, Brj.below hs.brj hb⟩
  have hS := fun w => signBit_any hF w
  clear hs
  rcases hF with ⟨rfl, rfl, rfl, rfl, hSe, rfl, rfl, rfl⟩ | ⟨rfl, rfl, rfl, rfl, hSe, rfl, rfl, rfl⟩ | ⟨rfl, rfl, rfl, rfl, hSe, rfl, rfl, rfl⟩
  all_goals
    clear hSe
    go_enter Tryd.func15, Tryd.ntmps15
    go_wp2_with (first | (go_at_call 37; refine hE.mono ?_; rintro e w1 ⟨rfl, hb⟩; have b1 := bstep (below_one _) hb; obtain ⟨c0, c1, c2, c3, c4, c5, c6, c7, c8, c9, c10, c11⟩ := (kT _ b1).shp) | (go_at_call 42; refine (hS _).mono ?_; rintro e w2 ⟨rfl, hw⟩; have b2 : Below w.heap.size w w2 := hw ▸ bstep b1 (below_one _); clear hw) | (go_at_call 13; refine (hA _ (kT _ b2)).mono ?_; rintro e w3 ⟨rfl, hb3⟩))
    go_ret2
    exact ⟨rfl, bstep b2 hb3⟩

/-- Both sides of Sub answer the same. -/
theorem sub_both (f mode x y : Int) (hx0 : 0 ≤ x) (hx1 : x < 18446744073709551616) (hy0 : 0 ≤ y) (hy1 : y < 18446744073709551616) :
    ∃ V F : Int, (∀ w, Calls Tryd.prog 14 #[.int .i64 f, .int .i64 mode, .int .u64 x, .int .u64 y] w fun e w' => e = .returned (.tuple #[.int .u64 V, .int .i64 F]) ∧ Below w.heap.size w w') ∧
      (∀ w, Tabs w → Calls Tryd.prog 15 #[.int .i64 f, .int .i64 mode, .int .u64 x, .int .u64 y] w fun e w' => e = .returned (.tuple #[.int .u64 V, .int .i64 F]) ∧ Below w.heap.size w w') := by
  have early : ∀ (v : Value), (∀ W v', Shp W → Lu W v' 2 (fun k => if k = 0 then x else y) → Calls Tryd.prog 37 #[.int .i64 f, .int .i64 mode, v'] W fun e w' => e = .returned v ∧ Below W.heap.size W w') → ∀ w, Tabs w → Calls Tryd.prog 37 #[.int .i64 f, .int .i64 mode, .slice (some ⟨w.heap.size, 0, none⟩) 2 2] (w.alloc (.cells #[.int .u64 x, .int .u64 y] 22)) fun e w' => e = .returned v ∧ Below (w.alloc (.cells #[.int .u64 x, .int .u64 y] 22)).heap.size (w.alloc (.cells #[.int .u64 x, .int .u64 y] 22)) w' :=
    fun v hv w hs => hv _ _ (shp_below hs.shp (shp_pos hs.shp) (below_one _)) (lu_two x y w w.heap.size rfl)
  rcases front_or f mode 2 (fun k => if k = 0 then x else y) (by decide) (by decide) (fun k _ => by split <;> omega) with ⟨h33, h37⟩ | ⟨wd, p, t, S, D, h, q, hF, m1, m5, hk⟩
  · exact ⟨0, 0, fun w => ssub_bad f mode x y w h33, fun w hs => isub_early f mode x y 0 0 w (early _ h37 w hs)⟩
  · have kx : x < D := hk 0 (by decide)
    have ky : y < D := hk 1 (by decide)
    obtain ⟨z1, z2, z3, z4, z5, z6⟩ := flip_any hF y hy0 ky
    obtain ⟨h33, h34, h37⟩ := front_good hF mode m1 m5 2 (fun k => if k = 0 then x else y) (by decide) (fun k _ => by split <;> omega) hk
    obtain ⟨g33, g34, g37⟩ := front_good hF mode m1 m5 2 (fun k => if k = 0 then x else flp S y) (by decide) (fun k _ => by split <;> omega) (fun k _ => by split <;> omega)
    have e1 : anyB (fun k => decide ((2 * t + 1) * h < sz S (if k = 0 then x else flp S y))) 2 = anyB (fun k => decide ((2 * t + 1) * h < sz S (if k = 0 then x else y))) 2 := anyB_congr fun k _ => by
      by_cases hk0 : k = 0
      · simp [hk0]
      · simp [hk0, z5]
    have e2 : fgB (fun k => sigOf t h S (if k = 0 then x else flp S y)) 2 = fgB (fun k => sigOf t h S (if k = 0 then x else y)) 2 := fgB_congr fun k _ => by
      by_cases hk0 : k = 0
      · simp [hk0]
      · simp [hk0, sigOf, z5, z6]
    have hSg := fun W => l1Sign_true hF.form W
    rw [e1, e2] at g34
    cases han : anyB (fun k => decide ((2 * t + 1) * h < sz S (if k = 0 then x else y))) 2
    · obtain ⟨V, F, hA, hB⟩ := add_both f mode x (flp S y) hx0 hx1 z2 (by omega)
      rw [han] at h37
      exact ⟨V, F, fun w => ssub_on f mode x y S _ V F w z1 h33 hSg hA, fun w hs => isub_on hF mode x y _ V F w hs z1 (early _ h37 w hs) hB⟩
    · rw [han] at h37 g34
      exact ⟨_, _, fun w => ssub_on f mode x y S _ _ _ w z1 h33 hSg (fun W => sadd_nan f mode x (flp S y) _ _ W g33 g34), fun w hs => isub_early f mode x y _ _ w (early _ h37 w hs)⟩

set_option maxHeartbeats 1000000 in
theorem walk_sub0 (f mode x y V F : Int) (w : World) (hs : Tabs w)
    (hA : ∀ w, Calls Tryd.prog 14 #[.int .i64 f, .int .i64 mode, .int .u64 x, .int .u64 y] w fun e w' => e = .returned (.tuple #[.int .u64 V, .int .i64 F]) ∧ Below w.heap.size w w')
    (hB : ∀ w, Tabs w → Calls Tryd.prog 15 #[.int .i64 f, .int .i64 mode, .int .u64 x, .int .u64 y] w fun e w' => e = .returned (.tuple #[.int .u64 V, .int .i64 F]) ∧ Below w.heap.size w w') :
    Calls Tryd.prog 5 #[.int .i64 f, .int .i64 mode, .int .u64 x, .int .u64 y] w fun e w' => e = .returned (.bool true) ∧ Below w.heap.size w w' := by
  have hA' : Calls Tryd.prog 14 #[.int .i64 f, .int .i64 mode, .int .u64 x, .int .u64 y] w fun e w' => e = .returned (.tuple #[.int .u64 V, .int .i64 F]) ∧ Tabs w' ∧ Below w.heap.size w w' := (hA w).mono (by rintro e w' ⟨rfl, h⟩; exact ⟨rfl, ⟨shp_below hs.shp (shp_pos hs.shp) h, Brj.below hs.brj h⟩, h⟩)
  clear hA
  go_enter Tryd.func5, Tryd.ntmps5
  go_wp2_with (first | (go_at_call 14; refine hA'.mono ?_; rintro e w1 ⟨rfl, t1, hb1⟩) | (go_at_call 15; refine (hB _ t1).mono ?_; rintro e w2 ⟨rfl, hb2⟩))
  go_ret
  exact ⟨rfl, bstep hb1 hb2⟩

theorem walk_sub (f mode x y : Int) (w : World) (hs : Tabs w) (hx0 : 0 ≤ x) (hx1 : x < 18446744073709551616) (hy0 : 0 ≤ y) (hy1 : y < 18446744073709551616) :
    Calls Tryd.prog 5 #[.int .i64 f, .int .i64 mode, .int .u64 x, .int .u64 y] w fun e w' => e = .returned (.bool true) ∧ Below w.heap.size w w' := by
  obtain ⟨V, F, hA, hB⟩ := sub_both f mode x y hx0 hx1 hy0 hy1
  exact walk_sub0 f mode x y V F w hs hA hB
end Go.Proofs.YtfodpnbhcdkmnaaDoor
