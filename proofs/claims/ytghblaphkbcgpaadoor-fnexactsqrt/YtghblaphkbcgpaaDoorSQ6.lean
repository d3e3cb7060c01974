/- Sqrt: both sides, the law's walk. -/
import Derived.Test.YtghblaphkbcgpaaDoorSQ5
import Derived.Test.YtghblaphkbcgpaaDoorSQ4
import Derived.Test.YtghblaphkbcgpaaDoorHU9
import Derived.Test.YtghblaphkbcgpaaDoorSQ0
namespace Go.Proofs.YtghblaphkbcgpaaDoor
open Go.RowKit

/-- The long root, by the short one. -/
theorem long_root {p t h S mode E E1 E4 : Int} {M J r sh : Nat} (hp1 : p ≤ 53) (hR : Rt E M E1 J) (hsh : 120 ≤ sh) (hE4 : E - sh = 2 * E4) (hr : Isq (M * 2 ^ sh) r) :
    rndV p t h S mode E1 false J false = rndV p t h S mode E4 false r (!decide (r * r = M * 2 ^ sh)) ∧ rndF p t h mode E1 false J false = rndF p t h mode E4 false r (!decide (r * r = M * 2 ^ sh)) ∧ 0 < J ∧ J < 18446744073709551616 := by
  obtain ⟨s, m, hs, hE1, hm, hJ, hm0, hm1⟩ := hR
  obtain ⟨d, hd⟩ : ∃ d : Nat, sh = s + (d + d) := ⟨(sh - s) / 2, by omega⟩
  have e1 : E1 = E4 + d := by omega
  have e2 : M * 2 ^ s * (2 ^ d * 2 ^ d) = M * 2 ^ sh := by rw [hd, Nat.pow_add, Nat.pow_add, Nat.mul_assoc]
  rw [← e2] at hr ⊢
  obtain ⟨a, b⟩ := rnd_root (p := p) (t := t) (h := h) (S := S) (mode := mode) (e := E4) hp1 hm hr hm0 false
  have hj : m ≤ J ∧ J ≤ m + 1 := by
    rw [hJ]
    unfold jam
    split <;> omega
  refine ⟨by rw [e1, hJ]; exact a, by rw [e1, hJ]; exact b, ?_, ?_⟩
  · have : 0 < 2 ^ 54 := Nat.pow_pos (by decide)
    omega
  · have : (2 : Nat) ^ 58 = 288230376151711744 := by decide
    omega

theorem sqrt_both (f mode x : Int) (hx0 : 0 ≤ x) (hx1 : x < 18446744073709551616) :
    ∃ V F : Int, (∀ w, Calls Tryd.prog 4 #[.int .i64 f, .int .i64 mode, .int .u64 x] w fun e w' => e = .returned (.tuple #[.int .u64 V, .int .i64 F]) ∧ Below w.heap.size w w') ∧
      (∀ w, Tabs w → Calls Tryd.prog 5 #[.int .i64 f, .int .i64 mode, .int .u64 x] w fun e w' => e = .returned (.tuple #[.int .u64 V, .int .i64 F]) ∧ Below w.heap.size w w') := by
  have early : ∀ (v : Value), (∀ W v', Shp W → Lu W v' 1 (fun _ => x) → Calls Tryd.prog 14 #[.int .i64 f, .int .i64 mode, v'] W fun e w' => e = .returned v ∧ Below W.heap.size W w') → ∀ w, Tabs w → Calls Tryd.prog 14 #[.int .i64 f, .int .i64 mode, .slice (some ⟨w.heap.size, 0, none⟩) 1 1] (w.alloc (.cells #[.int .u64 x] 22)) fun e w' => e = .returned v ∧ Below (w.alloc (.cells #[.int .u64 x] 22)).heap.size (w.alloc (.cells #[.int .u64 x] 22)) w' :=
    fun v hv w hs => hv _ _ (shp_below hs.shp (shp_pos hs.shp) (below_one _)) (lu_one x w w.heap.size rfl)
  rcases front f mode 1 (fun _ => x) (by decide) (by decide) (fun k _ => ⟨hx0, hx1⟩) with ⟨h6, h14⟩ | ⟨pl, fl, h6, h7, h14⟩ | ⟨wd, p, t, S, D, h, q, pl, fl, hF, m1, m5, hk, h6, h7, h14⟩
  · exact ⟨0, 0, fun w => ssqrt_bad f mode x w h6, fun w hs => isqrt_early f mode x 0 0 w (early _ h14 w hs)⟩
  · exact ⟨pl, fl, fun w => ssqrt_nan f mode x pl fl w h6 h7, fun w hs => isqrt_early f mode x pl fl w (early _ h14 w hs)⟩
  · have hp1 : p ≤ 53 := by rcases hF with ⟨_, _, rfl, _⟩ | ⟨_, _, rfl, _⟩ | ⟨_, _, rfl, _⟩ <;> decide
    have kx : x < D ∧ ¬ (2 * t + 1) * h < sz S x := hk 0 (by decide)
    obtain ⟨K, E, M, n, up⟩ := unpack_whole hF x hx0 kx.1
    have n3 : K ≠ 3 := fun e => kx.2 (up.nan.1 e)
    have hsg := up.sgn n3
    have neg : (K == 0) = false → n = true → ∃ V F : Int, (∀ w, Calls Tryd.prog 4 #[.int .i64 f, .int .i64 mode, .int .u64 x] w fun e w' => e = .returned (.tuple #[.int .u64 V, .int .i64 F]) ∧ Below w.heap.size w w') ∧
        (∀ w, Tabs w → Calls Tryd.prog 5 #[.int .i64 f, .int .i64 mode, .int .u64 x] w fun e w' => e = .returned (.tuple #[.int .u64 V, .int .i64 F]) ∧ Below w.heap.size w w') := by
      intro hK hn
      subst hn
      refine ⟨_, _, fun w => ssqrt_neg hF mode x pl fl K E M hK w h6 h7 up.spec, fun w hs => ?_⟩
      refine isqrt_on f mode x _ _ _ _ w hs.shp hs.brj (early _ h14 w hs) up.impl (fun W => rootNum_neg K E M hK W) (fun W hW => ?_)
      have := settle_any hF mode 3 0 false 0 W hW (by decide)
      unfold pkV pkF at this
      rw [if_neg (by decide), if_neg (by decide), if_neg (by decide), if_pos rfl, if_pos rfl] at this
      exact this
    rcases up.k with rfl | rfl | rfl | rfl
    · have hz := up.zero rfl
      refine ⟨x, 0, fun w => ssqrt_zero f mode x pl fl E M n w h6 h7 up.spec, fun w hs => ?_⟩
      refine isqrt_on f mode x _ _ _ _ w hs.shp hs.brj (early _ h14 w hs) up.impl (fun W => rootNum_zero E M n W) (fun W hW => ?_)
      have := settle_any hF mode 0 E n M W hW (fun e => absurd e (by decide))
      have eV : pkV p t h S mode 0 E n M = x := by unfold pkV; rw [if_pos rfl, hsg, hz, Int.zero_add]
      have eF : (if (0 : Int) = 3 then 16 else pkF p t h mode 0 E n M) = 0 := by unfold pkF; rw [if_neg (by decide), if_neg (by decide)]
      rw [eV, eF] at this
      exact this
    · cases hn : n
      · subst hn
        obtain ⟨M0, M1, E0, E1⟩ := up.fin rfl
        obtain ⟨R1, J, hR, r0, r1, hroot⟩ := rootNum_fin E M M0 M1 E0 E1
        have fin : ∀ (sh : Nat) (E4 : Int) (r : Nat), 120 ≤ sh → E - sh = 2 * E4 → Isq (M * 2 ^ sh) r → ∀ w, Tabs w → Calls Tryd.prog 5 #[.int .i64 f, .int .i64 mode, .int .u64 x] w fun e w' => e = .returned (.tuple #[.int .u64 (rndV p t h S mode E4 false r (!decide (r * r = M * 2 ^ sh))), .int .i64 (rndF p t h mode E4 false r (!decide (r * r = M * 2 ^ sh)))]) ∧ Below w.heap.size w w' := fun sh E4 r h1 h2 h3 w hs => by
          obtain ⟨q1, q2, q3, q4⟩ := long_root (p := p) (t := t) (h := h) (S := S) (mode := mode) hp1 hR h1 h2 h3
          refine isqrt_on f mode x _ _ _ _ w hs.shp hs.brj (early _ h14 w hs) up.impl hroot (fun W hW => ?_)
          have := settle_any hF mode 1 R1 false J W hW (fun _ => ⟨q3, q4, by omega, by omega⟩)
          unfold pkV pkF at this
          rw [if_neg (by decide), if_pos rfl, if_neg (by decide), if_pos rfl, q1, q2] at this
          exact this
        by_cases hpar : (E - 130) % 2 = 0
        · obtain ⟨E4, hE4⟩ : ∃ E4, E - 130 = 2 * E4 := ⟨(E - 130) / 2, by omega⟩
          obtain ⟨r, hr⟩ := isq_ex (M * 2 ^ 130)
          exact ⟨_, _, fun w => ssqrt_even hF mode x pl fl E E4 M r M0 M1 E0 E1 hE4 hr w h6 h7 up.spec, fin 130 E4 r (by decide) hE4 hr⟩
        · obtain ⟨E4, hE4⟩ : ∃ E4, E - 131 = 2 * E4 := ⟨(E - 131) / 2, by omega⟩
          obtain ⟨r, hr⟩ := isq_ex (M * 2 ^ 131)
          exact ⟨_, _, fun w => ssqrt_odd hF mode x pl fl E E4 M r M0 M1 E0 E1 hE4 hr w h6 h7 up.spec, fin 131 E4 r (by decide) hE4 hr⟩
      · exact neg rfl hn
    · cases hn : n
      · subst hn
        have hi := up.inf rfl
        refine ⟨x, 0, fun w => ssqrt_inf f mode x pl fl E M w h6 h7 up.spec, fun w hs => ?_⟩
        refine isqrt_on f mode x _ _ _ _ w hs.shp hs.brj (early _ h14 w hs) up.impl (fun W => rootNum_inf E M W) (fun W hW => ?_)
        have := settle_any hF mode 2 E false M W hW (fun e => absurd e (by decide))
        have eV : pkV p t h S mode 2 E false M = x := by unfold pkV; rw [if_neg (by decide), if_neg (by decide), if_pos rfl, ← hi]; exact hsg.symm
        have eF : (if (2 : Int) = 3 then 16 else pkF p t h mode 2 E false M) = 0 := by unfold pkF; rw [if_neg (by decide), if_neg (by decide)]
        rw [eV, eF] at this
        exact this
      · exact neg rfl hn
    · exact absurd rfl n3

set_option maxHeartbeats 1000000 in
theorem walk_sqrt0 (f mode x V F : Int) (w : World) (hs : Tabs w)
    (hA : ∀ w, Calls Tryd.prog 4 #[.int .i64 f, .int .i64 mode, .int .u64 x] w fun e w' => e = .returned (.tuple #[.int .u64 V, .int .i64 F]) ∧ Below w.heap.size w w')
    (hB : ∀ w, Tabs w → Calls Tryd.prog 5 #[.int .i64 f, .int .i64 mode, .int .u64 x] w fun e w' => e = .returned (.tuple #[.int .u64 V, .int .i64 F]) ∧ Below w.heap.size w w') :
    Calls Tryd.prog 3 #[.int .i64 f, .int .i64 mode, .int .u64 x] w fun e w' => e = .returned (.bool true) ∧ Below w.heap.size w w' := by
  have hA' : Calls Tryd.prog 4 #[.int .i64 f, .int .i64 mode, .int .u64 x] w fun e w' => e = .returned (.tuple #[.int .u64 V, .int .i64 F]) ∧ Tabs w' ∧ Below w.heap.size w w' := (hA w).mono (by rintro e w' ⟨rfl, h⟩; exact ⟨rfl, ⟨shp_below hs.shp (shp_pos hs.shp) h, Brj.below hs.brj h⟩, h⟩)
  clear hA
  go_enter Tryd.func3, Tryd.ntmps3
  go_wp2_with (first | (go_at_call 4; refine hA'.mono ?_; rintro e w1 ⟨rfl, t1, hb1⟩) | (go_at_call 5; refine (hB _ t1).mono ?_; rintro e w2 ⟨rfl, hb2⟩))
  go_ret
  exact ⟨rfl, bstep hb1 hb2⟩

theorem walk_sqrt (f mode x : Int) (w : World) (hs : Tabs w) (hx0 : 0 ≤ x) (hx1 : x < 18446744073709551616) :
    Calls Tryd.prog 3 #[.int .i64 f, .int .i64 mode, .int .u64 x] w fun e w' => e = .returned (.bool true) ∧ Below w.heap.size w w' := by
  obtain ⟨V, F, hA, hB⟩ := sqrt_both f mode x hx0 hx1
  exact walk_sqrt0 f mode x V F w hs hA hB
end Go.Proofs.YtghblaphkbcgpaaDoor
