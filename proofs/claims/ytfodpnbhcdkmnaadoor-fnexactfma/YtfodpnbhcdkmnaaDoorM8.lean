/- The law of Mul: both sides at every argument. -/
import Derived.Test.YtfodpnbhcdkmnaaDoorM4
import Derived.Test.YtfodpnbhcdkmnaaDoorM5
import Derived.Test.YtfodpnbhcdkmnaaDoorM6
import Derived.Test.YtfodpnbhcdkmnaaDoorM7
import Derived.Test.YtfodpnbhcdkmnaaDoorJ0
import Derived.Test.YtfodpnbhcdkmnaaDoorR2
import Derived.Test.YtfodpnbhcdkmnaaDoorT4
namespace Go.Proofs.YtfodpnbhcdkmnaaDoor
open Go.RowKit

/-- A wide number, made narrow with its lost bits kept as one, is rounded as the wide one. -/
theorem rnd_narrow {p t h S mode e : Int} (neg : Bool) {N : Nat} (hN : 0 < N) (hN1 : N < 340282366920938463463374607431768211456) (hp1 : p ≤ 53) :
    rndV p t h S mode (e + 64 - ((128 - blen N : Nat) : Int)) neg (jam (N * 2 ^ (128 - blen N) / 18446744073709551616) (N * 2 ^ (128 - blen N) % 18446744073709551616)) false = rndV p t h S mode e neg N false ∧
      rndF p t h mode (e + 64 - ((128 - blen N : Nat) : Int)) neg (jam (N * 2 ^ (128 - blen N) / 18446744073709551616) (N * 2 ^ (128 - blen N) % 18446744073709551616)) false = rndF p t h mode e neg N false ∧
      0 < jam (N * 2 ^ (128 - blen N) / 18446744073709551616) (N * 2 ^ (128 - blen N) % 18446744073709551616) ∧ jam (N * 2 ^ (128 - blen N) / 18446744073709551616) (N * 2 ^ (128 - blen N) % 18446744073709551616) < 18446744073709551616 := by
  have hb : blen N ≤ 128 := blen_le (N := N) (L := 128) hN1
  obtain ⟨b0, b1, b2⟩ := blen_pos hN
  have lo : 2 ^ 127 ≤ N * 2 ^ (128 - blen N) := by
    have := Nat.mul_le_mul_right (2 ^ (128 - blen N)) b1
    rwa [← Nat.pow_add, show blen N - 1 + (128 - blen N) = 127 by omega] at this
  have hi : N * 2 ^ (128 - blen N) < 2 ^ 128 := by
    have := Nat.mul_lt_mul_of_pos_right b2 (Nat.pow_pos (n := 128 - blen N) (show 0 < 2 by decide))
    rwa [← Nat.pow_add, show blen N + (128 - blen N) = 128 by omega] at this
  have hQ : 2 ^ 54 ≤ N * 2 ^ (128 - blen N) / 2 ^ 64 := by
    rw [Nat.le_div_iff_mul_le (by decide)]
    exact Nat.le_trans (by decide) lo
  have j := rnd_jam (p := p) (t := t) (h := h) (S := S) (mode := mode) (e := e - ((128 - blen N : Nat) : Int)) neg (N := N * 2 ^ (128 - blen N)) (c := 64) hp1 hQ
  have s := rnd_scale (p := p) (t := t) (h := h) (S := S) (mode := mode) (e := e) neg (N := N) (s := 128 - blen N) hN
  rw [show e - ((128 - blen N : Nat) : Int) + ((64 : Nat) : Int) = e + 64 - ((128 - blen N : Nat) : Int) by omega, s.1, s.2] at j
  refine ⟨j.1, j.2, ?_, ?_⟩
  · show 0 < jam (N * 2 ^ (128 - blen N) / 2 ^ 64) _
    unfold jam
    have : 0 < 2 ^ 54 := by decide
    split <;> omega
  · have hlt : N * 2 ^ (128 - blen N) / 18446744073709551616 < 18446744073709551616 := by
      rw [Nat.div_lt_iff_lt_mul (by decide)]
      exact hi
    unfold jam
    split <;> omega

/-- Both sides of Mul answer the same. -/
theorem mul_both (f mode x y : Int) (hx0 : 0 ≤ x) (hx1 : x < 18446744073709551616) (hy0 : 0 ≤ y) (hy1 : y < 18446744073709551616) :
    ∃ V F : Int, (∀ w, Calls Tryd.prog 16 #[.int .i64 f, .int .i64 mode, .int .u64 x, .int .u64 y] w fun e w' => e = .returned (.tuple #[.int .u64 V, .int .i64 F]) ∧ Below w.heap.size w w') ∧
      (∀ w, Tabs w → Calls Tryd.prog 17 #[.int .i64 f, .int .i64 mode, .int .u64 x, .int .u64 y] w fun e w' => e = .returned (.tuple #[.int .u64 V, .int .i64 F]) ∧ Below w.heap.size w w') := by
  have early : ∀ (v : Value), (∀ W v', Shp W → Lu W v' 2 (fun k => if k = 0 then x else y) → Calls Tryd.prog 37 #[.int .i64 f, .int .i64 mode, v'] W fun e w' => e = .returned v ∧ Below W.heap.size W w') → ∀ w, Tabs w → Calls Tryd.prog 37 #[.int .i64 f, .int .i64 mode, .slice (some ⟨w.heap.size, 0, none⟩) 2 2] (w.alloc (.cells #[.int .u64 x, .int .u64 y] 22)) fun e w' => e = .returned v ∧ Below (w.alloc (.cells #[.int .u64 x, .int .u64 y] 22)).heap.size (w.alloc (.cells #[.int .u64 x, .int .u64 y] 22)) w' :=
    fun v hv w hs => hv _ _ (shp_below hs.shp (shp_pos hs.shp) (below_one _)) (lu_two x y w w.heap.size rfl)
  rcases front f mode 2 (fun k => if k = 0 then x else y) (by decide) (by decide) (fun k _ => by split <;> omega) with ⟨h33, h37⟩ | ⟨pl, fl, h33, h34, h37⟩ | ⟨wd, p, t, S, D, h, q, pl, fl, hF, m1, m5, hk, h33, h34, h37⟩
  · exact ⟨0, 0, fun w => smul_bad f mode x y w h33, fun w hs => imul_early f mode x y 0 0 w (early _ h37 w hs)⟩
  · exact ⟨pl, fl, fun w => smul_nan f mode x y pl fl w h33 h34, fun w hs => imul_early f mode x y pl fl w (early _ h37 w hs)⟩
  · have hp1 : p ≤ 53 := by rcases hF with ⟨_, _, rfl, _⟩ | ⟨_, _, rfl, _⟩ | ⟨_, _, rfl, _⟩ <;> decide
    have kx : x < D ∧ ¬ (2 * t + 1) * h < sz S x := hk 0 (by decide)
    have ky : y < D ∧ ¬ (2 * t + 1) * h < sz S y := hk 1 (by decide)
    obtain ⟨ka, ea, A, na, ua1, ua2, hka, ha1, ha0, ha3, -⟩ := unpack_told hF x hx0 kx.1
    obtain ⟨kb, eb, B, nb, ub1, ub2, hkb, hb1, hb0, hb3, -⟩ := unpack_told hF y hy0 ky.1
    have na3 : ka ≠ 3 := fun e => kx.2 (ha3.1 e)
    have nb3 : kb ≠ 3 := fun e => ky.2 (hb3.1 e)
    by_cases hfin : ka = 1 ∧ kb = 1
    · obtain ⟨rfl, rfl⟩ := hfin
      obtain ⟨A0, A1, a2, a3⟩ := ha1 rfl
      obtain ⟨B0, B1, b2, b3⟩ := hb1 rfl
      have hN : 0 < A * B := Nat.mul_pos A0 B0
      have hN1 : A * B < 340282366920938463463374607431768211456 := Nat.lt_of_lt_of_le (Nat.mul_lt_mul'' A1 B1) (by decide)
      obtain ⟨r1, r2, r3, r4⟩ := rnd_narrow (p := p) (t := t) (h := h) (S := S) (mode := mode) (e := ea + eb) (na != nb) hN hN1 hp1
      have hbl : blen (A * B) ≤ 128 := blen_le (N := A * B) (L := 128) hN1
      refine ⟨rndV p t h S mode (ea + eb) (na != nb) (A * B) false, rndF p t h mode (ea + eb) (na != nb) (A * B) false, fun w => ?_, fun w hs => ?_⟩
      · exact smul_fin f mode x y ea eb _ _ na nb A B w pl fl h33 h34 ua1 ub1 (fun W v hv => round_any hF mode (ea + eb) (na != nb) false hv hN (by decide) (by omega) (by omega)) (by omega) (by omega) (by omega) (by omega) (by omega) (by omega)
      · refine imul_on f mode x y _ _ _ _ _ _ w hs.shp hs.brj (early _ h37 w hs) ua2 ub2 (fun W => mulNums_fin ea eb na nb A B W (by omega) (by omega) (by omega) (by omega) (by omega) (by omega)) (fun W => narrow_yes (ea + eb + 64) (na != nb) (A * B) W hN hN1 (by omega) (by omega)) (fun W hW => ?_)
        have := settle_any hF mode 1 (ea + eb + 64 - ((128 - blen (A * B) : Nat) : Int)) (na != nb) (jam (A * B * 2 ^ (128 - blen (A * B)) / 18446744073709551616) (A * B * 2 ^ (128 - blen (A * B)) % 18446744073709551616)) W hW (fun _ => ⟨r3, r4, by omega, by omega⟩)
        unfold pkV pkF at this
        rw [if_neg (by decide), if_pos rfl, if_neg (by decide), if_pos rfl, r1, r2] at this
        exact this
    · have hka' : ka = 0 ∨ ka = 1 ∨ ka = 2 := by omega
      have hkb' : kb = 0 ∨ kb = 1 ∨ kb = 2 := by omega
      have hK1 : mulK ka kb ≠ 1 := by
        unfold mulK
        repeat' split
        all_goals decide
      refine ⟨_, _, fun w => smul_no hF mode x y ka kb ea eb A B pl fl na nb w hka' hkb' hfin h33 h34 ua1 ub1, fun w hs => ?_⟩
      refine imul_on f mode x y _ _ _ _ _ _ w hs.shp hs.brj (early _ h37 w hs) ua2 ub2 (fun W => mulNums_no ka kb ea eb A B na nb W hka' hkb' hfin) (fun W => narrow_no _ _ _ _ _ W (by simpa using hK1)) (fun W hW => ?_)
      exact settle_any hF mode (mulK ka kb) 0 (mulN ka kb (na != nb)) 0 W hW (fun e => absurd e hK1)

set_option maxHeartbeats 1000000 in
theorem walk_mul0 (f mode x y V F : Int) (w : World) (hs : Tabs w)
    (hA : ∀ w, Calls Tryd.prog 16 #[.int .i64 f, .int .i64 mode, .int .u64 x, .int .u64 y] w fun e w' => e = .returned (.tuple #[.int .u64 V, .int .i64 F]) ∧ Below w.heap.size w w')
    (hB : ∀ w, Tabs w → Calls Tryd.prog 17 #[.int .i64 f, .int .i64 mode, .int .u64 x, .int .u64 y] w fun e w' => e = .returned (.tuple #[.int .u64 V, .int .i64 F]) ∧ Below w.heap.size w w') :
    Calls Tryd.prog 6 #[.int .i64 f, .int .i64 mode, .int .u64 x, .int .u64 y] w fun e w' => e = .returned (.bool true) ∧ Below w.heap.size w w' := by
  have hA' : Calls Tryd.prog 16 #[.int .i64 f, .int .i64 mode, .int .u64 x, .int .u64 y] w fun e w' => e = .returned (.tuple #[.int .u64 V, .int .i64 F]) ∧ Tabs w' ∧ Below w.heap.size w w' := (hA w).mono (by rintro e w' ⟨rfl, h⟩; exact ⟨rfl, ⟨shp_below hs.shp (shp_pos hs.shp) h, Brj.below hs.brj h⟩, h⟩)
  clear hA
  go_enter Tryd.func6, Tryd.ntmps6
  go_wp2_with (first | (go_at_call 16; refine hA'.mono ?_; rintro e w1 ⟨rfl, t1, hb1⟩) | (go_at_call 17; refine (hB _ t1).mono ?_; rintro e w2 ⟨rfl, hb2⟩))
  go_ret
  exact ⟨rfl, bstep hb1 hb2⟩

theorem walk_mul (f mode x y : Int) (w : World) (hs : Tabs w) (hx0 : 0 ≤ x) (hx1 : x < 18446744073709551616) (hy0 : 0 ≤ y) (hy1 : y < 18446744073709551616) :
    Calls Tryd.prog 6 #[.int .i64 f, .int .i64 mode, .int .u64 x, .int .u64 y] w fun e w' => e = .returned (.bool true) ∧ Below w.heap.size w w' := by
  obtain ⟨V, F, hA, hB⟩ := mul_both f mode x y hx0 hx1 hy0 hy1
  exact walk_mul0 f mode x y V F w hs hA hB
end Go.Proofs.YtfodpnbhcdkmnaaDoor
