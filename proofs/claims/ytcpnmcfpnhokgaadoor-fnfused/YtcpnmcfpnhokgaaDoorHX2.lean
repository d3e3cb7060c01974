/- Mul of both sides, told by a function of plain numbers. -/
import Derived.Test.YtcpnmcfpnhokgaaDoorX1
import Derived.Test.YtcpnmcfpnhokgaaDoorHM7
import Derived.Test.YtcpnmcfpnhokgaaDoorB8
import Derived.Test.YtcpnmcfpnhokgaaDoorHF1
namespace Go.Proofs.YtcpnmcfpnhokgaaDoor
open Go.RowKit

theorem mul_bad {f mode x y : Int} (hx0 : 0 ≤ x) (hx1 : x < 18446744073709551616) (hy0 : 0 ≤ y) (hy1 : y < 18446744073709551616) (hb : ¬ Good2 f mode x y) :
    (∀ w, Calls Tryd.prog 18 #[.int .i64 f, .int .i64 mode, .int .u64 x, .int .u64 y] w fun e w' => e = .returned (.tuple #[.int .u64 0, .int .i64 0]) ∧ Below w.heap.size w w') ∧
      (∀ w, Tabs w → Calls Tryd.prog 9 #[.int .i64 f, .int .i64 mode, .int .u64 x, .int .u64 y] w fun e w' => e = .returned (.tuple #[.int .u64 0, .int .i64 0]) ∧ Below w.heap.size w w') := by
  obtain ⟨h33, h37⟩ := bad2 hx0 hx1 hy0 hy1 hb
  exact ⟨fun w => smul_bad f mode x y w h33, fun w hs => imul_early f mode x y 0 0 w (early2 _ h37 w hs)⟩

theorem mul_nan {f wd p t S D h q : Int} (hF : Frm f wd p t S D h q) (mode : Int) (m1 : 1 ≤ mode) (m5 : mode ≤ 5) {x y ka ea kb eb : Int} {A B : Nat} {na nb : Bool} (ux : Up f p t S D h x ka ea A na) (uy : Up f p t S D h y kb eb B nb) (hn : ka = 3 ∨ kb = 3) :
    (∀ w, Calls Tryd.prog 18 #[.int .i64 f, .int .i64 mode, .int .u64 x, .int .u64 y] w fun e w' => e = .returned (.tuple #[.int .u64 ((2 * t + 1) * h + h / 2), .int .i64 (nfg t h S x y)]) ∧ Below w.heap.size w w') ∧
      (∀ w, Tabs w → Calls Tryd.prog 9 #[.int .i64 f, .int .i64 mode, .int .u64 x, .int .u64 y] w fun e w' => e = .returned (.tuple #[.int .u64 ((2 * t + 1) * h + h / 2), .int .i64 (nfg t h S x y)]) ∧ Below w.heap.size w w') := by
  obtain ⟨h33, h34, h37⟩ := fr2 hF mode m1 m5 ux.x0 ux.xD uy.x0 uy.xD
  have e : (decide ((2 * t + 1) * h < sz S x) || decide ((2 * t + 1) * h < sz S y)) = true := by
    rcases hn with hn | hn
    · simp [ux.nan.1 hn]
    · simp [uy.nan.1 hn]
  rw [e] at h34 h37
  exact ⟨fun w => smul_nan f mode x y _ _ w h33 h34, fun w hs => imul_early f mode x y _ _ w (early2 _ h37 w hs)⟩

set_option maxRecDepth 100000 in
set_option maxHeartbeats 1000000 in
/-- Both sides of Mul, at numbers that are no NaNs. -/
theorem mul_at {f wd p t S D h q : Int} (hF : Frm f wd p t S D h q) (mode : Int) (m1 : 1 ≤ mode) (m5 : mode ≤ 5) {x y ka ea kb eb : Int} {A B : Nat} {na nb : Bool} (ux : Up f p t S D h x ka ea A na) (uy : Up f p t S D h y kb eb B nb) (na3 : ka ≠ 3) (nb3 : kb ≠ 3) :
    (∀ w, Calls Tryd.prog 18 #[.int .i64 f, .int .i64 mode, .int .u64 x, .int .u64 y] w fun e w' => e = .returned (.tuple #[.int .u64 (mlV p t h S mode ka ea na A kb eb nb B), .int .i64 (mlF p t h mode ka ea na A kb eb nb B)]) ∧ Below w.heap.size w w') ∧
      (∀ w, Tabs w → Calls Tryd.prog 9 #[.int .i64 f, .int .i64 mode, .int .u64 x, .int .u64 y] w fun e w' => e = .returned (.tuple #[.int .u64 (mlV p t h S mode ka ea na A kb eb nb B), .int .i64 (mlF p t h mode ka ea na A kb eb nb B)]) ∧ Below w.heap.size w w') := by
  obtain ⟨h33, h34, h37⟩ := fr2 hF mode m1 m5 ux.x0 ux.xD uy.x0 uy.xD
  have han : (decide ((2 * t + 1) * h < sz S x) || decide ((2 * t + 1) * h < sz S y)) = false := by
    have n1 : ¬ (2 * t + 1) * h < sz S x := fun e => na3 (ux.nan.2 e)
    have n2 : ¬ (2 * t + 1) * h < sz S y := fun e => nb3 (uy.nan.2 e)
    simp [n1, n2]
  rw [han] at h34 h37
  replace h37 : ∀ W v, Shp W → Lu W v 2 (fun k => if k = 0 then x else y) → Calls Tryd.prog 24 #[.int .i64 f, .int .i64 mode, v] W fun e w' => e = .returned (.tuple #[.int .u64 0, .int .i64 0, .bool false]) ∧ Below W.heap.size W w' := h37
  have hp1 : p ≤ 53 := by rcases hF with ⟨_, _, rfl, _⟩ | ⟨_, _, rfl, _⟩ | ⟨_, _, rfl, _⟩ <;> decide
  have ua1 := ux.spec
  have ua2 := ux.impl
  have ub1 := uy.spec
  have ub2 := uy.impl
  have ha1 := ux.fin
  have hb1 := uy.fin
  have hka := ux.k
  have hkb := uy.k
  unfold mlV mlF
  by_cases hfin : ka = 1 ∧ kb = 1
  · rw [if_pos hfin, if_pos hfin]
    obtain ⟨rfl, rfl⟩ := hfin
    obtain ⟨A0, A1, a2, a3⟩ := ha1 rfl
    obtain ⟨B0, B1, b2, b3⟩ := hb1 rfl
    have hN : 0 < A * B := Nat.mul_pos A0 B0
    have hN1 : A * B < 340282366920938463463374607431768211456 := Nat.lt_of_lt_of_le (Nat.mul_lt_mul'' A1 B1) (by decide)
    obtain ⟨r1, r2, r3, r4⟩ := rnd_narrow (p := p) (t := t) (h := h) (S := S) (mode := mode) (e := ea + eb) (na != nb) hN hN1 hp1
    have hbl : blen (A * B) ≤ 128 := blen_le (N := A * B) (L := 128) hN1
    refine ⟨fun w => ?_, fun w hs => ?_⟩
    · exact smul_fin f mode x y ea eb _ _ na nb A B w _ _ h33 h34 ua1 ub1 (fun W v hv => round_any hF mode (ea + eb) (na != nb) false hv hN (by decide) (by omega) (by omega)) (by omega) (by omega) (by omega) (by omega) (by omega) (by omega)
    · refine imul_on f mode x y _ _ _ _ _ _ w hs.shp hs.brj (early2 _ h37 w hs) ua2 ub2 (fun W => mulNums_fin ea eb na nb A B W (by omega) (by omega) (by omega) (by omega) (by omega) (by omega)) (fun W => narrow_yes (ea + eb + 64) (na != nb) (A * B) W hN hN1 (by omega) (by omega)) (fun W hW => ?_)
      have := settle_any hF mode 1 (ea + eb + 64 - ((128 - blen (A * B) : Nat) : Int)) (na != nb) (jam (A * B * 2 ^ (128 - blen (A * B)) / 18446744073709551616) (A * B * 2 ^ (128 - blen (A * B)) % 18446744073709551616)) W hW (fun _ => ⟨r3, r4, by omega, by omega⟩)
      unfold pkV pkF at this
      rw [if_neg (by decide), if_pos rfl, if_neg (by decide), if_pos rfl, r1, r2] at this
      exact this
  · rw [if_neg hfin, if_neg hfin]
    have hka' : ka = 0 ∨ ka = 1 ∨ ka = 2 := by omega
    have hkb' : kb = 0 ∨ kb = 1 ∨ kb = 2 := by omega
    have hK1 : mulK ka kb ≠ 1 := by
      unfold mulK
      repeat' split
      all_goals decide
    refine ⟨fun w => smul_no hF mode x y ka kb ea eb A B _ _ na nb w hka' hkb' hfin h33 h34 ua1 ub1, fun w hs => ?_⟩
    refine imul_on f mode x y _ _ _ _ _ _ w hs.shp hs.brj (early2 _ h37 w hs) ua2 ub2 (fun W => mulNums_no ka kb ea eb A B na nb W hka' hkb' hfin) (fun W => narrow_no _ _ _ _ _ W (by simpa using hK1)) (fun W hW => ?_)
    exact settle_any hF mode (mulK ka kb) 0 (mulN ka kb (na != nb)) 0 W hW (fun e => absurd e hK1)
end Go.Proofs.YtcpnmcfpnhokgaaDoor

/- The law of Sub. -/
namespace Go.Proofs.YtcpnmcfpnhokgaaDoor
open Go.RowKit

set_option maxRecDepth 100000 in
theorem isub_early (f mode x y V F : Int) (w : World)
    (hE : Calls Tryd.prog 24 #[.int .i64 f, .int .i64 mode, .slice (some ⟨w.heap.size, 0, none⟩) 2 2] (w.alloc (.cells #[.int .u64 x, .int .u64 y] 24)) fun e w' => e = .returned (.tuple #[.int .u64 V, .int .i64 F, .bool true]) ∧ Below (w.alloc (.cells #[.int .u64 x, .int .u64 y] 24)).heap.size (w.alloc (.cells #[.int .u64 x, .int .u64 y] 24)) w') :
    Calls Tryd.prog 14 #[.int .i64 f, .int .i64 mode, .int .u64 x, .int .u64 y] w fun e w' => e = .returned (.tuple #[.int .u64 V, .int .i64 F]) ∧ Below w.heap.size w w' := by
  go_enter Tryd.func14, Tryd.ntmps14
  go_wp2_with (go_at_call 24; refine hE.mono ?_; rintro e w1 ⟨rfl, hb⟩)
  go_ret2
  exact ⟨rfl, bstep (below_one _) hb⟩

set_option maxRecDepth 100000 in
set_option maxHeartbeats 2000000 in
theorem isub_on {f wd p t S D h q : Int} (hF : Frm f wd p t S D h q) (mode x y z V F : Int) (w : World) (hs : Tabs w) (hz : bits .xor .u64 y S = z)
    (hE : Calls Tryd.prog 24 #[.int .i64 f, .int .i64 mode, .slice (some ⟨w.heap.size, 0, none⟩) 2 2] (w.alloc (.cells #[.int .u64 x, .int .u64 y] 24)) fun e w' => e = .returned (.tuple #[.int .u64 0, .int .i64 0, .bool false]) ∧ Below (w.alloc (.cells #[.int .u64 x, .int .u64 y] 24)).heap.size (w.alloc (.cells #[.int .u64 x, .int .u64 y] 24)) w')
    (hA : ∀ W, Tabs W → Calls Tryd.prog 8 #[.int .i64 f, .int .i64 mode, .int .u64 x, .int .u64 z] W fun e w' => e = .returned (.tuple #[.int .u64 V, .int .i64 F]) ∧ Below W.heap.size W w') :
    Calls Tryd.prog 14 #[.int .i64 f, .int .i64 mode, .int .u64 x, .int .u64 y] w fun e w' => e = .returned (.tuple #[.int .u64 V, .int .i64 F]) ∧ Below w.heap.size w w' := by
  have kT : ∀ W, Below w.heap.size w W → Tabs W := fun W hb => ⟨shp_below hs.shp (shp_pos hs.shp) hb, Brj.below hs.brj hb⟩
  have hS := fun w => signBit_any hF w
  clear hs
  rcases hF with ⟨rfl, rfl, rfl, rfl, hSe, rfl, rfl, rfl⟩ | ⟨rfl, rfl, rfl, rfl, hSe, rfl, rfl, rfl⟩ | ⟨rfl, rfl, rfl, rfl, hSe, rfl, rfl, rfl⟩
  all_goals
    clear hSe
    go_enter Tryd.func14, Tryd.ntmps14
    go_wp2_with (first | (go_at_call 24; refine hE.mono ?_; rintro e w1 ⟨rfl, hb⟩; have b1 := bstep (below_one _) hb; obtain ⟨c0, c1, c2, c3, c4, c5, c6, c7, c8, c9, c10, c11⟩ := (kT _ b1).shp) | (go_at_call 35; refine (hS _).mono ?_; rintro e w2 ⟨rfl, hw⟩; have b2 : Below w.heap.size w w2 := hw ▸ bstep b1 (below_one _); clear hw) | (go_at_call 8; refine (hA _ (kT _ b2)).mono ?_; rintro e w3 ⟨rfl, hb3⟩))
    go_ret2
    exact ⟨rfl, bstep b2 hb3⟩

end Go.Proofs.YtcpnmcfpnhokgaaDoor
