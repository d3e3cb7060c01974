/- Convert on both sides, and its law. -/
import Derived.Test.YtfodpnbhcdkmnaaDoorV1
import Derived.Test.YtfodpnbhcdkmnaaDoorK2
import Derived.Test.YtfodpnbhcdkmnaaDoorL2
namespace Go.Proofs.YtfodpnbhcdkmnaaDoor
open Go.RowKit

theorem spack_any {f wd p t S D h q : Int} (hF : Frm f wd p t S D h q) (mode K E : Int) (n : Bool) (M : Nat) (w : World) (hm0 : 1 ≤ mode) (hm1 : mode ≤ 5) (hK : K = 0 ∨ K = 1 ∨ K = 2 ∨ K = 3) (h1 : K = 1 → 0 < M ∧ M < 18446744073709551616 ∧ -5000 ≤ E ∧ E ≤ 5000) :
    Calls Tryd.prog 9 #[.int .i64 f, .int .i64 mode, .agg #[.int .i64 K, .bool n, .int .i64 E, .int .u64 (M : Int)]] w fun e w' => e = .returned (.tuple #[.int .u64 (pkV p t h S mode K E n M), .int .i64 (pkF p t h mode K E n M)]) ∧ Below w.heap.size w w' := by
  unfold pkV pkF
  rcases hK with rfl | rfl | rfl | rfl
  · rw [if_pos rfl, if_neg (show ¬ ((0 : Int) = 1) by decide)]
    exact spack_zero hF mode E M n w hm0 hm1
  · obtain ⟨m0, m1, e0, e1⟩ := h1 rfl
    rw [if_neg (by decide), if_pos rfl, if_pos rfl]
    exact spack_fin hF mode E M n w hm0 hm1 m0 m1 e0 e1
  · rw [if_neg (show ¬ ((2 : Int) = 0) by decide), if_neg (show ¬ ((2 : Int) = 1) by decide), if_pos rfl, if_neg (show ¬ ((2 : Int) = 1) by decide)]
    exact spack_inf hF mode E M n w hm0 hm1
  · rw [if_neg (by decide), if_neg (by decide), if_neg (by decide), if_pos rfl, if_neg (by decide)]
    exact spack_nan hF mode E M n w hm0 hm1

set_option maxHeartbeats 1000000 in
theorem sconv_no (f g mode x : Int) (w : World) (a b c : Int) (ok ar mo : Bool) (hf : ∀ w, Calls Tryd.prog 22 #[.int .i64 g] w fun e w' => e = .returned (.tuple #[.int .i64 a, .int .i64 b, .int .i64 c, .bool ok]) ∧ w' = w) (ha : ∀ w, Calls Tryd.prog 45 #[.int .i64 f, .int .u64 x] w fun e w' => e = .returned (.bool ar) ∧ w' = w) (hm : ∀ w, Calls Tryd.prog 23 #[.int .i64 mode] w fun e w' => e = .returned (.bool mo) ∧ w' = w) (hno : (ar && ok && mo) = false) :
    Calls Tryd.prog 20 #[.int .i64 f, .int .i64 g, .int .i64 mode, .int .u64 x] w fun e w' => e = .returned (.tuple #[.int .u64 0, .int .i64 0]) ∧ Below w.heap.size w w' := by
  cases ar <;> cases ok <;> cases mo <;> simp at hno
  all_goals
    go_enter Tryd.func20, Tryd.ntmps20
    go_wp2_with (first | (go_at_call 22; refine (hf _).mono ?_; rintro e w' ⟨rfl, rfl⟩) | (go_at_call 45; refine (ha _).mono ?_; rintro e w' ⟨rfl, rfl⟩) | (go_at_call 23; refine (hm _).mono ?_; rintro e w' ⟨rfl, rfl⟩))
    go_ret2
    exact ⟨rfl, Below.refl _ _⟩

set_option maxHeartbeats 1000000 in
theorem sconv_yes (f g mode x K E M V F : Int) (n sg : Bool) (w : World) (a b c : Int) (hf : ∀ w, Calls Tryd.prog 22 #[.int .i64 g] w fun e w' => e = .returned (.tuple #[.int .i64 a, .int .i64 b, .int .i64 c, .bool true]) ∧ w' = w) (ha : ∀ w, Calls Tryd.prog 45 #[.int .i64 f, .int .u64 x] w fun e w' => e = .returned (.bool true) ∧ w' = w) (hm : ∀ w, Calls Tryd.prog 23 #[.int .i64 mode] w fun e w' => e = .returned (.bool true) ∧ w' = w)
    (hu : ∀ w, Calls Tryd.prog 35 #[.int .i64 f, .int .u64 x] w fun e w' => e = .returned (.agg #[.int .i64 K, .bool n, .int .i64 E, .int .u64 M]) ∧ Below w.heap.size w w')
    (hp : ∀ w, Calls Tryd.prog 9 #[.int .i64 g, .int .i64 mode, .agg #[.int .i64 K, .bool n, .int .i64 E, .int .u64 M]] w fun e w' => e = .returned (.tuple #[.int .u64 V, .int .i64 F]) ∧ Below w.heap.size w w')
    (hs : ∀ w, Calls Tryd.prog 46 #[.int .i64 f, .int .u64 x] w fun e w' => e = .returned (.bool sg) ∧ Below w.heap.size w w') :
    Calls Tryd.prog 20 #[.int .i64 f, .int .i64 g, .int .i64 mode, .int .u64 x] w fun e w' => e = .returned (.tuple #[.int .u64 V, .int .i64 (if sg then 16 else F)]) ∧ Below w.heap.size w w' := by
  cases sg
  all_goals
    go_enter Tryd.func20, Tryd.ntmps20
    go_wp2_with (first | (go_at_call 22; refine (hf _).mono ?_; rintro e w' ⟨rfl, rfl⟩) | (go_at_call 45; refine (ha _).mono ?_; rintro e w' ⟨rfl, rfl⟩) | (go_at_call 23; refine (hm _).mono ?_; rintro e w' ⟨rfl, rfl⟩) | (go_at_call 35; refine (hu _).mono ?_; rintro e w1 ⟨rfl, hb1⟩) | (go_at_call 9; refine (hp _).mono ?_; rintro e w2 ⟨rfl, hb2⟩) | (go_at_call 46; refine (hs _).mono ?_; rintro e w3 ⟨rfl, hb3⟩))
    go_ret2
    exact ⟨rfl, bstep (bstep hb1 hb2) hb3⟩

set_option maxHeartbeats 1000000 in
theorem conv_no (f g mode x : Int) (w : World) (br : Bool) (hb : Calls Tryd.prog 47 #[.int .i64 f, .int .u64 x] w fun e w' => e = .returned (.bool br) ∧ w' = w) (hno : (g < 1 ∨ 3 < g) ∨ (mode < 1 ∨ 5 < mode) ∨ br = false) :
    Calls Tryd.prog 21 #[.int .i64 f, .int .i64 g, .int .i64 mode, .int .u64 x] w fun e w' => e = .returned (.tuple #[.int .u64 0, .int .i64 0]) ∧ Below w.heap.size w w' := by
  by_cases g1 : 1 ≤ g
  · by_cases g3 : g ≤ 3
    · by_cases m1 : 1 ≤ mode
      · by_cases m5 : mode ≤ 5
        · obtain rfl : br = false := by rcases hno with h | h | h; omega; omega; exact h
          clear hno
          go_enter Tryd.func21, Tryd.ntmps21
          go_wp2_with (first | (go_at_call 30; go_in) | (go_at_call 31; go_in) | (go_at_call 47; refine hb.mono ?_; rintro e w' ⟨rfl, rfl⟩))
          go_ret2
          exact ⟨rfl, Below.refl _ _⟩
        · clear hno
          go_enter Tryd.func21, Tryd.ntmps21
          go_wp2_with (first | (go_at_call 30; go_in) | (go_at_call 31; go_in))
          go_ret2
          exact ⟨rfl, Below.refl _ _⟩
      · clear hno
        go_enter Tryd.func21, Tryd.ntmps21
        go_wp2_with (first | (go_at_call 30; go_in) | (go_at_call 31; go_in))
        go_ret2
        exact ⟨rfl, Below.refl _ _⟩
    · clear hno
      go_enter Tryd.func21, Tryd.ntmps21
      go_wp2_with (first | (go_at_call 30; go_in) | (go_at_call 31; go_in))
      go_ret2
      exact ⟨rfl, Below.refl _ _⟩
  · clear hno
    go_enter Tryd.func21, Tryd.ntmps21
    go_wp2_with (first | (go_at_call 30; go_in) | (go_at_call 31; go_in))
    go_ret2
    exact ⟨rfl, Below.refl _ _⟩

set_option maxHeartbeats 2000000 in
theorem conv_yes {f wd p t S D h q : Int} (hF : Frm f wd p t S D h q) (g mode x K E M V F : Int) (n sg : Bool) (w : World) (hsh : Shp w) (g1 : 1 ≤ g) (g3 : g ≤ 3) (m1 : 1 ≤ mode) (m5 : mode ≤ 5)
    (hb : Calls Tryd.prog 47 #[.int .i64 f, .int .u64 x] w fun e w' => e = .returned (.bool true) ∧ w' = w)
    (hu : Calls Tryd.prog 38 #[.int .i64 f, .int .u64 x] w fun e w' => e = .returned (.agg #[.int .i64 K, .bool n, .int .i64 E, .int .u64 M]) ∧ Below w.heap.size w w')
    (hp : ∀ w, Shp w → Calls Tryd.prog 32 #[.int .i64 g, .int .i64 mode, .agg #[.int .i64 K, .bool n, .int .i64 E, .int .u64 M]] w fun e w' => e = .returned (.tuple #[.int .u64 V, .int .i64 F]) ∧ Below w.heap.size w w')
    (hs : ∀ w, Calls Tryd.prog 48 #[.agg #[.int .i64 wd, .int .i64 p, .int .i64 t], .int .u64 x] w fun e w' => e = .returned (.bool sg) ∧ Below w.heap.size w w') (hF0 : 0 ≤ F) (hF1 : F ≤ 100) :
    Calls Tryd.prog 21 #[.int .i64 f, .int .i64 g, .int .i64 mode, .int .u64 x] w fun e w' => e = .returned (.tuple #[.int .u64 V, .int .i64 (if sg then F + 16 else F)]) ∧ Below w.heap.size w w' := by
  have hz := shp_pos hsh
  have hu' : Calls Tryd.prog 38 #[.int .i64 f, .int .u64 x] w fun e w' => e = .returned (.agg #[.int .i64 K, .bool n, .int .i64 E, .int .u64 M]) ∧ (Shp w' ∧ Below w.heap.size w w') := hu.mono (by rintro e w' ⟨rfl, h⟩; exact ⟨rfl, shp_below hsh hz h, h⟩)
  have hp' : ∀ W, Shp W → Calls Tryd.prog 32 #[.int .i64 g, .int .i64 mode, .agg #[.int .i64 K, .bool n, .int .i64 E, .int .u64 M]] W fun e w' => e = .returned (.tuple #[.int .u64 V, .int .i64 F]) ∧ Shp w' ∧ Below W.heap.size W w' := fun W hW => (hp W hW).mono (by rintro e w' ⟨rfl, h⟩; exact ⟨rfl, shp_below hW (shp_pos hW) h, h⟩)
  clear hu hp hsh
  rcases hF with ⟨rfl, rfl, rfl, rfl, rfl, rfl, rfl, rfl⟩ | ⟨rfl, rfl, rfl, rfl, rfl, rfl, rfl, rfl⟩ | ⟨rfl, rfl, rfl, rfl, rfl, rfl, rfl, rfl⟩
  all_goals
    cases sg
    all_goals
      go_enter Tryd.func21, Tryd.ntmps21
      go_wp2_with (first | (go_at_call 30; go_in) | (go_at_call 31; go_in) | (go_at_call 47; refine hb.mono ?_; rintro e w' ⟨rfl, hw⟩; obtain rfl := hw.symm) | (go_at_call 38; refine hu'.mono ?_; rintro e w1 ⟨rfl, s1, hb1⟩) | (go_at_call 32; refine (hp' _ s1).mono ?_; rintro e w2 ⟨rfl, s2, hb2⟩; have c3 := s2.c3; have c4 := s2.c4; have c5 := s2.c5; have c6 := s2.c6; have c7 := s2.c7; have c8 := s2.c8; have c9 := s2.c9; have c10 := s2.c10; have c11 := s2.c11) | (go_at_call 48; refine (hs _).mono ?_; rintro e w3 ⟨rfl, hb3⟩))
      go_ret2
      exact ⟨rfl, bstep (bstep hb1 hb2) hb3⟩
end Go.Proofs.YtfodpnbhcdkmnaaDoor
