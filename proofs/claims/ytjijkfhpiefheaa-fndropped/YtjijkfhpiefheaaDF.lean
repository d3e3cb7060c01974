/- What follows of a ring: the law. -/
import Derived.Test.YtjijkfhpiefheaaDE
import Derived.Test.YtjijkfhpiefheaaDC
import Derived.WalkKit
import Derived.WalkSpells
import Derived.WalkLawsBesides
import Derived.Deep.QuietTactic
import Derived.BigQuiet
import Derived.BigRegion
import Derived.Deep.Cut
namespace Go.Proofs.Ytjijkfhpiefheaa
open Go.RowKit

/-- Sums of a list as it is gone through. -/
def sm (g : Nat → Int) : Nat → Int
  | 0 => 0
  | k + 1 => sm g k + g k

theorem sm_lim {g : Nat → Int} {n : Nat} (hg : ∀ k, k < n → Tk (g k)) : ∀ k, k ≤ n → 0 ≤ sm g k ∧ sm g k ≤ 1000 * k := by
  intro k
  induction k with
  | zero => intro _; simp [sm]
  | succ k ih =>
    intro h
    have h0 := ih (by omega)
    have h1 := hg k (by omega)
    unfold Tk at h1
    simp only [sm]
    omega

/-- What came is what was taken, dropped or lies there. -/
theorem rst_mass (c : Int) (g t : Nat → Int) : ∀ k, sm g k - (rst c g t k).2.1 - (sm t k - (rst c g t k).2.2) = (rst c g t k).1 := by
  intro k
  induction k with
  | zero => simp [sm, rst]
  | succ k ih =>
    simp only [sm, rst]
    omega

/-- A greater ring drops no more. -/
theorem rst_more {c : Int} {g t : Nat → Int} {n : Nat} (hc : 1 ≤ c ∧ c ≤ 1000) (hg : ∀ k, k < n → Tk (g k)) (ht : ∀ k, k < n → Tk (t k)) : ∀ k, k ≤ n → ((rst c g t k).1 ≤ (rst (c + 1) g t k).1 ∧ (rst (c + 1) g t k).1 ≤ (rst c g t k).1 + 1) ∧ (rst (c + 1) g t k).2.1 + (rst (c + 1) g t k).1 ≤ (rst c g t k).2.1 + (rst c g t k).1 := by
  intro k
  induction k with
  | zero => intro _; simp [rst]
  | succ k ih =>
    intro h
    have h0 := ih (by omega)
    have h1 := hg k (by omega)
    have h2 := ht k (by omega)
    unfold Tk at h1 h2
    have l1 := rst_lim (c := c) (by omega) hg ht k (by omega)
    have l2 := rst_lim (c := c + 1) (by omega) hg ht k (by omega)
    simp only [rst]
    omega

theorem il_cells {w : World} {ao : Option Addr} {n cap : Nat} {xs : Nat → Int} (h : Il w (.slice ao n cap) n xs) : 0 < n → ∃ b off, ao = some ⟨b, off, none⟩ ∧ b < w.heap.size ∧ ∀ k, k < n → w.cell? ⟨b, off + k, none⟩ = some (.int .i64 (xs k)) := by
  obtain ⟨a, c, e, _, h⟩ := h
  injection e with e
  subst e
  exact h

theorem il_two (W : World) (x y : Int) : Il (W.alloc (.cells #[.int .i64 x, .int .i64 y] 3)) (.slice (some ⟨W.heap.size, 0, none⟩) 2 2) 2 (fun k => if k = 0 then x else y) :=
  ⟨_, _, rfl, by omega, fun _ => ⟨_, _, rfl, by simp, fun k hk => by
    rcases k with _ | _ | k
    · simp
    · simp
    · omega⟩⟩

theorem rok_two : Rok 2 2 2 (fun k => if k = 0 then 3 else 0) (fun k => if k = 0 then 1 else 2) := by
  refine ⟨by omega, rfl, ⟨by omega, fun k _ => ?_⟩, ⟨by omega, fun k _ => ?_⟩⟩ <;> (unfold Tk; simp only []; split <;> omega)

theorem lit_drop (W : World) : Calls Try.prog 7 #[.int .i64 2, .slice (some ⟨W.heap.size, 0, none⟩) 2 2, .slice (some ⟨W.heap.size + 1, 0, none⟩) 2 2] ((W.alloc (.cells #[.int .i64 3, .int .i64 0] 3)).alloc (.cells #[.int .i64 1, .int .i64 2] 3)) fun e w' => e = .returned (.tuple #[.int .i64 1, .int .i64 1, .bool true]) ∧ Below W.heap.size W w' := by
  have h2 := il_two (W.alloc (.cells #[.int .i64 3, .int .i64 0] 3)) 1 2
  rw [show (W.alloc (.cells #[.int .i64 3, .int .i64 0] 3)).heap.size = W.heap.size + 1 by simp] at h2
  refine (iDrop_any 2 ((il_two W 3 0).below (below_one _ _)) h2 (by omega) (by omega)).mono ?_
  rintro e w' ⟨⟨d, p, o, rfl, h, _⟩, hb⟩
  obtain ⟨rfl, rfl, rfl⟩ := h rok_two
  exact ⟨rfl, bstep (bstep (below_one _ _) (below_one _ _)) hb⟩

set_option maxRecDepth 20000 in
set_option maxHeartbeats 8000000 in
theorem walk_dropped {w : World} {a : Option Addr} {len cap : Nat} (hr : Row w a len) (hl : len ≤ 9223372036854775807) :
    Calls Try.prog 3 #[.slice a len cap] w fun e w' => e = .returned (.bool true) ∧ Below w.heap.size w w' := by
  have hb := big_x (w := w) a len cap hl
  rcases Nat.lt_or_ge 1048576 len with h | h
  · rw [decide_eq_true (by omega)] at hb
    go_enter Try.func3, Try.ntmps3
    go_wp2_with (go_at_call 5; (with_reducible refine hb.mono ?_); rintro e w' ⟨rfl, hw⟩; obtain rfl := hw.symm)
    go_ret
    exact ⟨rfl, Below.refl _ _⟩
  rw [decide_eq_false (by omega)] at hb
  have HR : Hid (Row w a len) := hr
  clear hr
  go_enter Try.func3, Try.ntmps3
  go_wp2_with (first
    | (go_at_call 5; (with_reducible refine hb.mono ?_); rintro e w' ⟨rfl, hw⟩; obtain rfl := hw.symm)
    | (go_at_call 6; refine (ddrop_x (cap := cap) HR.out h).mono ?_; rintro e w1 ⟨x, n, m, v, u, f, g, rfl, b1, i1, i2, hn, hm⟩; have B : Hid (Below w.heap.size w w1) := b1; have I1 : Hid (Il w1 v n f) := i1; have I2 : Hid (Il w1 u m g) := i2; obtain ⟨a1, c1, rfl, q1, q2⟩ := i1; clear q1 q2; obtain ⟨a2, c2, rfl, q1, q2⟩ := i2; clear q1 q2 b1; rcases (show Hid (Rok x n m f g) ∨ Hid (¬ Rok x n m f g) from Classical.em _) with RY | RN)
    | (go_at_call 7; (with_reducible refine (lit_drop _).mono ?_); rintro e w4 ⟨rfl, b4⟩; have B : Hid (Below w.heap.size w w4) := bstep B.out b4; have I1 : Hid (Il w4 _ n f) := I1.out.below b4; have I2 : Hid (Il w4 _ m g) := I2.out.below b4; clear b4)
    | (go_at_call 7; (fail_if_success have := MI); refine (iDrop_any x I1.out I2.out (by omega) (by omega)).mono ?_; rintro e w2 ⟨⟨d, p, o, rfl, k1, k2⟩, b2⟩; have B : Hid (Below w.heap.size w w2) := bstep B.out b2; have I1 : Hid (Il w2 _ n f) := I1.out.below b2; have I2 : Hid (Il w2 _ m g) := I2.out.below b2; (first | (have Z := RY; obtain ⟨rfl, rfl, rfl⟩ := k1 RY.out) | (have Z := RN; obtain ⟨rfl, rfl, rfl⟩ := k2 RN.out)); clear k1 k2 b2; have MI : Hid True := trivial)
    | (go_at_call 8; refine (sDrop_any x I1.out I2.out (by omega) (by omega)).mono ?_; rintro e w3 ⟨⟨d3, p3, o3, rfl, k1, k2⟩, b3⟩; have B : Hid (Below w.heap.size w w3) := bstep B.out b3; have I1 : Hid (Il w3 _ n f) := I1.out.below b3; have I2 : Hid (Il w3 _ m g) := I2.out.below b3; (first | (have Z := RY; obtain ⟨rfl, rfl, rfl⟩ := k1 RY.out) | (have Z := RN; obtain ⟨rfl, rfl, rfl⟩ := k2 RN.out)); clear k1 k2 b3))
  · obtain ⟨hx, rfl, ⟨n5, tg⟩, _, tt⟩ := RY.out
    have TG : Hid (∀ k, k < n → Tk (f k)) := tg
    have TT : Hid (∀ k, k < n → Tk (g k)) := tt
    have lim := rst_lim (c := x) (by omega) tg tt n (Nat.le_refl n)
    have mass := rst_mass x f g n
    have s1 := sm_lim tg n (Nat.le_refl n)
    have s2 := sm_lim tt n (Nat.le_refl n)
    have more : (rst (x + 1) f g n).2.1 ≤ (rst x f g n).2.1 := by have := rst_more hx tg tt n (Nat.le_refl n); omega
    have MORE : Hid ((rst (x + 1) f g n).2.1 ≤ (rst x f g n).2.1) := more
    clear more
    have J1 : Hid (Il w4 (.slice a1 n c1) n f) := I1.out
    have J2 : Hid (Il w4 (.slice a2 n c2) n g) := I2.out
    have hc1 := il_cells I1.out
    have hc2 := il_cells I2.out
    have HC1 : Hid (0 < n → ∃ b off, a1 = some ⟨b, off, none⟩ ∧ b < w4.heap.size ∧ ∀ k, k < n → w4.cell? ⟨b, off + k, none⟩ = some (.int .i64 (f k))) := hc1
    have HC2 : Hid (0 < n → ∃ b off, a2 = some ⟨b, off, none⟩ ∧ b < w4.heap.size ∧ ∀ k, k < n → w4.cell? ⟨b, off + k, none⟩ = some (.int .i64 (g k))) := hc2
    clear hc1 hc2 tg tt
    go_loopw [17, 15, 16] (fun i y z wr => wr = w4 ∧ ∃ k : Nat, i = .int .i64 k ∧ k ≤ n ∧ y = .int .i64 (sm f k) ∧ z = .int .i64 (sm g k)) (fun i _ _ _ => n - (intOf i).toNat)
    case atStart => exact ⟨rfl, 0, rfl, by omega, rfl, rfl⟩
    case round =>
      obtain ⟨rfl, k, rfl, hk, rfl, rfl⟩ := hrel
      by_cases hk1 : k < n
      · obtain ⟨b, off, rfl, hlt, hcell⟩ := HC1.out (by omega)
        obtain ⟨b2, off2, rfl, hlt2, hcell2⟩ := HC2.out (by omega)
        have q1 : wr.cell? ⟨b, off + k, none⟩ = some (.int .i64 (f k)) := hcell k hk1
        have q2 : wr.cell? ⟨b2, off2 + k, none⟩ = some (.int .i64 (g k)) := hcell2 k hk1
        clear hcell hcell2
        have t1 := TG.out k hk1
        have t2 := TT.out k hk1
        unfold Tk at t1 t2
        have u1 := sm_lim (n := k) (fun j hj => TG.out j (by omega)) k (Nat.le_refl k)
        have u2 := sm_lim (n := k) (fun j hj => TT.out j (by omega)) k (Nat.le_refl k)
        go_wp2
        go_roundw
        case rel => exact ⟨trivial, k + 1, by go_num, by omega, rfl, rfl⟩
        case measure => simp [intOf]; omega
      · obtain rfl : k = n := by omega
        have left : 0 ≤ sm f k - (rst x f g k).2.1 - (sm g k - (rst x f g k).2.2) ∧ sm f k - (rst x f g k).2.1 - (sm g k - (rst x f g k).2.2) ≤ x := by rw [mass]; exact lim.1
        have lim := lim.2
        clear mass
        generalize sm f k = S1 at *
        generalize sm g k = S2 at *
        generalize (rst x f g k).2.1 = L1 at *
        generalize (rst x f g k).2.2 = L2 at *
        have s1 : 0 ≤ S1 ∧ S1 ≤ 1000000 := by omega
        have s2 : 0 ≤ S2 ∧ S2 ≤ 1000000 := by omega
        have l1 : 0 ≤ L1 ∧ L1 ≤ 1000000 := by omega
        have l2 : 0 ≤ L2 ∧ L2 ≤ 1000000 := by omega
        clear lim
        have HX : ¬ x = 1000 → Rok (x + 1) k k f g := fun h => ⟨by omega, rfl, ⟨n5, TG.out⟩, n5, TT.out⟩
        have KN : Hid (k ≤ 1048576) := by show k ≤ 1048576; omega
        by_cases hx1 : x = 1000
        · go_upto_region 20 with fail
          generalize S1 - L1 - (S2 - L2) = Lf at *
          have z1 : 0 ≤ Lf := left.1
          have z2 : Lf ≤ x := left.2
          have z3 : 0 ≤ L2 := l2.1
          clear left s1 s2 l1 l2 hk hk1 MORE hx HC1 HC2 J1 J2 TG TT RY I1 I2 hn hm HX
          go_wp2
          go_ret
          exact ⟨rfl, B.out⟩
        · have HX : Hid (Rok (x + 1) k k f g) := HX hx1
          have x1 : x ≤ 1000 := hx.2
          go_upto_region 20 with fail
          generalize S1 - L1 - (S2 - L2) = Lf at *
          have z1 : 0 ≤ Lf := left.1
          have z2 : Lf ≤ x := left.2
          have z3 : 0 ≤ L2 := l2.1
          clear left s1 s2 l1 l2 hk hk1 hx HC1 HC2 TG TT RY I1 I2 hn hm
          go_wp2_with (go_at_call 7; go_loud (refine (iDrop_any (x + 1) J1.out J2.out KN.out KN.out).mono ?_); rintro e w5 ⟨⟨d, p, o, rfl, k1, _⟩, b5⟩; have B : Hid (Below w.heap.size w w5) := bstep B.out b5; obtain ⟨rfl, rfl, rfl⟩ := k1 HX.out; clear k1 b5)
          go_ret
          exact ⟨by have := MORE.out; simp; omega, B.out⟩
  · go_ret
    exact ⟨rfl, B.out⟩

end Go.Proofs.Ytjijkfhpiefheaa
