/- The program's Convert. -/
import Derived.Test.YtcpnmcfpnhokgaaDoorV1
import Derived.Test.YtcpnmcfpnhokgaaDoorK1
namespace Go.Proofs.YtcpnmcfpnhokgaaDoor
open Go.RowKit

theorem bstep9 {w a b : World} (h : Below w.heap.size w a) (k : Below a.heap.size a b) : Below w.heap.size w b := h.trans (k.mono h.size)

set_option maxRecDepth 100000 in
set_option maxHeartbeats 1000000 in
theorem conv_no (f g mode x : Int) (w : World) (br : Bool) (hb : Calls Tryd.prog 34 #[.int .i64 f, .int .u64 x] w fun e w' => e = .returned (.bool br) ∧ w' = w) (hno : (g < 1 ∨ 3 < g) ∨ (mode < 1 ∨ 5 < mode) ∨ br = false) :
    Calls Tryd.prog 22 #[.int .i64 f, .int .i64 g, .int .i64 mode, .int .u64 x] w fun e w' => e = .returned (.tuple #[.int .u64 0, .int .i64 0]) ∧ Below w.heap.size w w' := by
  by_cases g1 : 1 ≤ g
  · by_cases g3 : g ≤ 3
    · by_cases m1 : 1 ≤ mode
      · by_cases m5 : mode ≤ 5
        · obtain rfl : br = false := by rcases hno with h | h | h; omega; omega; exact h
          clear hno
          go_enter Tryd.func22, Tryd.ntmps22
          go_wp2_with (first | (go_at_call 40; go_in) | (go_at_call 41; go_in) | (go_at_call 34; refine hb.mono ?_; rintro e w' ⟨rfl, rfl⟩))
          go_ret2
          exact ⟨rfl, Below.refl _ _⟩
        · clear hno
          go_enter Tryd.func22, Tryd.ntmps22
          go_wp2_with (first | (go_at_call 40; go_in) | (go_at_call 41; go_in))
          go_ret2
          exact ⟨rfl, Below.refl _ _⟩
      · clear hno
        go_enter Tryd.func22, Tryd.ntmps22
        go_wp2_with (first | (go_at_call 40; go_in) | (go_at_call 41; go_in))
        go_ret2
        exact ⟨rfl, Below.refl _ _⟩
    · clear hno
      go_enter Tryd.func22, Tryd.ntmps22
      go_wp2_with (first | (go_at_call 40; go_in) | (go_at_call 41; go_in))
      go_ret2
      exact ⟨rfl, Below.refl _ _⟩
  · clear hno
    go_enter Tryd.func22, Tryd.ntmps22
    go_wp2_with (first | (go_at_call 40; go_in) | (go_at_call 41; go_in))
    go_ret2
    exact ⟨rfl, Below.refl _ _⟩

set_option maxRecDepth 100000 in
set_option maxHeartbeats 2000000 in
theorem conv_yes {f wd p t S D h q : Int} (hF : Frm f wd p t S D h q) (g mode x K E M V F : Int) (n sg : Bool) (w : World) (hsh : Shp w) (g1 : 1 ≤ g) (g3 : g ≤ 3) (m1 : 1 ≤ mode) (m5 : mode ≤ 5)
    (hb : Calls Tryd.prog 34 #[.int .i64 f, .int .u64 x] w fun e w' => e = .returned (.bool true) ∧ w' = w)
    (hu : Calls Tryd.prog 11 #[.int .i64 f, .int .u64 x] w fun e w' => e = .returned (.agg #[.int .i64 K, .bool n, .int .i64 E, .int .u64 M]) ∧ Below w.heap.size w w')
    (hp : ∀ w, Shp w → Calls Tryd.prog 42 #[.int .i64 g, .int .i64 mode, .agg #[.int .i64 K, .bool n, .int .i64 E, .int .u64 M]] w fun e w' => e = .returned (.tuple #[.int .u64 V, .int .i64 F]) ∧ Below w.heap.size w w')
    (hs : ∀ w, Calls Tryd.prog 51 #[.agg #[.int .i64 wd, .int .i64 p, .int .i64 t], .int .u64 x] w fun e w' => e = .returned (.bool sg) ∧ Below w.heap.size w w') (hF0 : 0 ≤ F) (hF1 : F ≤ 100) :
    Calls Tryd.prog 22 #[.int .i64 f, .int .i64 g, .int .i64 mode, .int .u64 x] w fun e w' => e = .returned (.tuple #[.int .u64 V, .int .i64 (if sg then F + 16 else F)]) ∧ Below w.heap.size w w' := by
  have hz := shp_pos hsh
  have hu' : Calls Tryd.prog 11 #[.int .i64 f, .int .u64 x] w fun e w' => e = .returned (.agg #[.int .i64 K, .bool n, .int .i64 E, .int .u64 M]) ∧ (Shp w' ∧ Below w.heap.size w w') := hu.mono (by rintro e w' ⟨rfl, h⟩; exact ⟨rfl, shp_below hsh hz h, h⟩)
  have hp' : ∀ W, Shp W → Calls Tryd.prog 42 #[.int .i64 g, .int .i64 mode, .agg #[.int .i64 K, .bool n, .int .i64 E, .int .u64 M]] W fun e w' => e = .returned (.tuple #[.int .u64 V, .int .i64 F]) ∧ Shp w' ∧ Below W.heap.size W w' := fun W hW => (hp W hW).mono (by rintro e w' ⟨rfl, h⟩; exact ⟨rfl, shp_below hW (shp_pos hW) h, h⟩)
  clear hu hp hsh
  rcases hF with ⟨rfl, rfl, rfl, rfl, rfl, rfl, rfl, rfl⟩ | ⟨rfl, rfl, rfl, rfl, rfl, rfl, rfl, rfl⟩ | ⟨rfl, rfl, rfl, rfl, rfl, rfl, rfl, rfl⟩
  all_goals
    cases sg
    all_goals
      go_enter Tryd.func22, Tryd.ntmps22
      go_wp2_with (first | (go_at_call 40; go_in) | (go_at_call 41; go_in) | (go_at_call 34; refine hb.mono ?_; rintro e w' ⟨rfl, hw⟩; obtain rfl := hw.symm) | (go_at_call 11; refine hu'.mono ?_; rintro e w1 ⟨rfl, s1, hb1⟩) | (go_at_call 42; refine (hp' _ s1).mono ?_; rintro e w2 ⟨rfl, s2, hb2⟩; have c3 := s2.c3; have c4 := s2.c4; have c5 := s2.c5; have c6 := s2.c6; have c7 := s2.c7; have c8 := s2.c8; have c9 := s2.c9; have c10 := s2.c10; have c11 := s2.c11) | (go_at_call 51; refine (hs _).mono ?_; rintro e w3 ⟨rfl, hb3⟩))
      go_ret2
      exact ⟨rfl, bstep9 (bstep9 hb1 hb2) hb3⟩

end Go.Proofs.YtcpnmcfpnhokgaaDoor
