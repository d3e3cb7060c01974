/- PH QD. -/
import Derived.Test.YtddbekacdfohpaaGreatDoorPF
import Derived.Test.YtddbekacdfohpaaGreatDoorQC
namespace Go.Proofs.YtddbekacdfohpaaGreatDoor
open Go.RowKit

theorem sHalves_one {w : World} {v : Value} {n : Nat} {bk : Bool} {X Y : Nat → Nat} {P : Nat → Option Nat × Option Nat} (hn : n = 1) (hv : Fp w v n X Y) (hP : ∀ k, k < n → (cn (X k), cn (Y k)) = P k) (s : Int) :
    Calls Tryz.prog 46 #[v, .int .i64 s] w fun e w' => ∃ u X' Y', e = .returned u ∧ Fp w' u n X' Y' ∧ (∀ k, k < n → (cn (X' k), cn (Y' k)) = fast bk 0 P k) ∧ Below w.heap.size w w' := by
  obtain ⟨ao, cap, rfl, hcap, hc⟩ := hv
  obtain ⟨b, off, rfl, hlt, hcell⟩ := hc (by omega)
  obtain ⟨c0, c1⟩ := hcell 0 (by omega)
  have HP : Hid (∀ k, k < n → (cn (X k), cn (Y k)) = P k) := hP
  have hST := rStore
  rw [Nat.zero_mul, Nat.add_zero] at c0 c1
  have F1 : Hid (Fp (w.alloc (.cells #[.float .f64 (X 0), .float .f64 (Y 0)] 39)) (.slice (some ⟨w.heap.size, 0, none⟩) 1 1) 1 (fun _ => X 0) (fun _ => Y 0)) := ⟨_, 1, rfl, Nat.le_refl _, fun _ => ⟨w.heap.size, 0, rfl, by simp, fun k hk => (by
    obtain rfl : k = 0 := by omega
    simp)⟩⟩
  have B1 : Hid (Below w.heap.size w (w.alloc (.cells #[.float .f64 (X 0), .float .f64 (Y 0)] 39))) := below_one _ _
  subst hn
  clear hc hcell hP
  go_enter Tryz.func46, Tryz.ntmps46
  go_wp2
  go_ret
  exact ⟨_, fun _ => X 0, fun _ => Y 0, rfl, F1.out, fun k hk => by
    obtain rfl : k = 0 := by omega
    exact HP.out 0 (by omega), B1.out⟩

theorem sHalves_any : ∀ (j : Nat), j < 8 → ∀ (n : Nat), n = 2 ^ j → ∀ (bk : Bool) (w : World) (v : Value) (X Y : Nat → Nat) (P : Nat → Option Nat × Option Nat), Fp w v n X Y → (∀ k, k < n → (cn (X k), cn (Y k)) = P k) →
    Calls Tryz.prog 46 #[v, .int .i64 (sgn bk)] w fun e w' => ∃ u X' Y', e = .returned u ∧ Fp w' u n X' Y' ∧ (∀ k, k < n → (cn (X' k), cn (Y' k)) = fast bk j P k) ∧ Below w.heap.size w w'
  | 0, _, _, hn, _, _, _, _, _, _, hv, hP => sHalves_one hn hv hP _
  | j + 1, hj, _, hn, bk, _, _, _, _, _, hv, hP =>
    sHalves_step (h := 2 ^ j) hj rfl hn hv hP (fun w v X Y P hv hP => sHalves_any j (by omega) (2 ^ j) rfl bk w v X Y P hv hP)

theorem sFast_bad {w : World} {v : Value} {n : Nat} {xs ys : Nat → Nat} (hv : Fp w v n xs ys) (h8 : ¬ H8 (n : Int)) (bk : Bool) (C : Nat → Option Nat × Option Nat) : Calls Tryz.prog 23 #[v, .bool bk] w fun e w' => Pg w w' e 0 C false := by
  have i1 := sH8_any n
  rw [decide_eq_false h8] at i1
  have HB : Hid (Below w.heap.size w (w.alloc (.cells #[] 39))) := below_one _ _
  have hnot : ∀ (x : Bool) (w : World), (Op.unary .not (.bool x)).run Tryz.prog w = .ok (.bool (!x)) w := fun _ _ => rfl
  obtain ⟨ao, cap, rfl, hcap, hc⟩ := hv
  clear hc h8
  go_enter Tryz.func23, Tryz.ntmps23
  go_wp2_with (go_at_call 21; refine (i1 _).mono ?_; rintro e w' ⟨rfl, hw⟩; obtain rfl := hw.symm)
  go_ret2
  exact ⟨_, fun _ => 0, fun _ => 0, rfl, ⟨_, _, rfl, Nat.le_refl _, fun h => absurd h (by omega)⟩, fun k hk => by omega, HB.out⟩

set_option maxRecDepth 100000 in
set_option maxHeartbeats 2000000 in
theorem sFast_good {w : World} {v : Value} {n j : Nat} {xs ys : Nat → Nat} (hv : Fp w v n xs ys) (hj : j < 8) (hn : n = 2 ^ j) (bk : Bool) : Calls Tryz.prog 23 #[v, .bool bk] w fun e w' => Pg w w' e n (fun k => fby n bk (fast bk j (fun i => (cn (xs i), cn (ys i))) k)) true := by
  have h8 := pow_cases hj hn
  have i1 := sH8_any n
  rw [decide_eq_true (show H8 (n : Int) by omega)] at i1
  have i2 := sSgn_any bk
  have i3 := sHalves_any j hj n hn bk w v xs ys (fun i => (cn (xs i), cn (ys i))) hv (fun k _ => rfl)
  have HBY : Hid (∀ W u X Y, Fp W u n X Y → (∀ q, q < n → (cn (X q), cn (Y q)) = fast bk j (fun i => (cn (xs i), cn (ys i))) q) → Calls Tryz.prog 45 #[u, .bool bk] W fun e w' => ∃ u' X Y, e = .returned u' ∧ Fp w' u' n X Y ∧ (∀ q, q < n → (cn (X q), cn (Y q)) = fby n bk (fast bk j (fun i => (cn (xs i), cn (ys i))) q)) ∧ Below W.heap.size W w') := by
    intro W u X Y hf hx
    cases bk
    · refine (sBy_no u W).mono ?_
      rintro e w' ⟨rfl, rfl⟩
      exact ⟨u, X, Y, rfl, hf, hx, Below.refl _ _⟩
    · refine (sBy_any hf (by omega)).mono ?_
      rintro e w' ⟨u', X', Y', rfl, hf', hx', hb⟩
      refine ⟨u', X', Y', rfl, hf', fun q hq => ?_, hb⟩
      obtain ⟨p1, p2⟩ := Prod.mk.inj (hx q hq)
      rw [(hx' q hq).1, (hx' q hq).2, p1, p2]
      rfl
  have hnot : ∀ (x : Bool) (w : World), (Op.unary .not (.bool x)).run Tryz.prog w = .ok (.bool (!x)) w := fun _ _ => rfl
  have hn128 : n ≤ 128 := by omega
  obtain ⟨ao, cap, rfl, hcap, hc⟩ := hv
  clear hc hn h8 hj
  generalize sgn bk = sg at *
  go_enter Tryz.func23, Tryz.ntmps23
  go_wp2_with (first
    | (go_at_call 21; refine (i1 _).mono ?_; rintro e w' ⟨rfl, hw⟩; obtain rfl := hw.symm)
    | (go_at_call 47; refine (i2 _).mono ?_; rintro e w' ⟨rfl, hw⟩; obtain rfl := hw.symm)
    | (go_at_call 46; (with_reducible refine i3.mono ?_); rintro e w2 ⟨u2, X2, Y2, rfl, f2, v2, b2⟩; have j3 := HBY.out w2 u2 X2 Y2 f2 v2; have B2 : Hid (Below w.heap.size w w2) := b2; clear f2 v2 b2 i3)
    | (go_at_call 45; (with_reducible refine j3.mono ?_); rintro e w3 ⟨u3, X3, Y3, rfl, f3, v3, b3⟩; have F3 : Hid (Fp w3 u3 n X3 Y3) := f3; have V3 : Hid (∀ q, q < n → (cn (X3 q), cn (Y3 q)) = fby n bk (fast bk j (fun i => (cn (xs i), cn (ys i))) q)) := v3; have B3 : Hid (Below w.heap.size w w3) := bstep B2.out b3; obtain ⟨ua, uc, rfl, _⟩ := f3; clear v3 b3 j3))
  go_ret2
  exact ⟨_, X3, Y3, rfl, F3.out, V3.out, B3.out⟩

end Go.Proofs.YtddbekacdfohpaaGreatDoor

namespace Go.Proofs.YtddbekacdfohpaaGreatDoor
open Go.RowKit

theorem sHalves_oneO {w : World} {v : Value} {n : Nat} {bk : Bool} {X Y : Nat → Nat} {P : Nat → Option Nat × Option Nat} (hn : n = 1) (hv : Fp w v n X Y) (hP : ∀ k, k < n → (cn (X k), cn (Y k)) = P k) (s : Int) :
    Calls Tryz.prog 46 #[v, .int .i64 s] w fun e w' => ∃ u X' Y' L, e = .returned u ∧ Fp w' u n X' Y' ∧ (∀ k, k < n → (cn (X' k), cn (Y' k)) = fast bk 0 P k) ∧ w'.ownsRow w.heap.size 39 2 u n L ∧ Below w.heap.size w w' := by
  obtain ⟨ao, cap, rfl, hcap, hc⟩ := hv
  obtain ⟨b, off, rfl, hlt, hcell⟩ := hc (by omega)
  obtain ⟨c0, c1⟩ := hcell 0 (by omega)
  have HP : Hid (∀ k, k < n → (cn (X k), cn (Y k)) = P k) := hP
  have hST := rStore
  rw [Nat.zero_mul, Nat.add_zero] at c0 c1
  have F1 : Hid (Fp (w.alloc (.cells #[.float .f64 (X 0), .float .f64 (Y 0)] 39)) (.slice (some ⟨w.heap.size, 0, none⟩) 1 1) 1 (fun _ => X 0) (fun _ => Y 0)) := ⟨_, 1, rfl, Nat.le_refl _, fun _ => ⟨w.heap.size, 0, rfl, by simp, fun k hk => (by
    obtain rfl : k = 0 := by omega
    simp)⟩⟩
  have O1 : Hid ((w.alloc (.cells #[.float .f64 (X 0), .float .f64 (Y 0)] 39)).ownsRow w.heap.size 39 2 (.slice (some ⟨w.heap.size, 0, none⟩) 1 1) 1 [.float .f64 (X 0), .float .f64 (Y 0)]) := World.ownsRow_lit (base := w.heap.size) (e := 39) (size := 2) w #[.float .f64 (X 0), .float .f64 (Y 0)] 1 (Nat.le_refl _) (by unfold maxLen; omega) rfl
  have B1 : Hid (Below w.heap.size w (w.alloc (.cells #[.float .f64 (X 0), .float .f64 (Y 0)] 39))) := below_one _ _
  subst hn
  clear hc hcell hP
  go_enter Tryz.func46, Tryz.ntmps46
  go_wp2
  go_ret
  exact ⟨_, fun _ => X 0, fun _ => Y 0, _, rfl, F1.out, fun k hk => by
    obtain rfl : k = 0 := by omega
    exact HP.out 0 (by omega), O1.out, B1.out⟩

theorem sHalves_own : ∀ (j : Nat), j < 8 → ∀ (n : Nat), n = 2 ^ j → ∀ (bk : Bool) (w : World) (v : Value) (X Y : Nat → Nat) (P : Nat → Option Nat × Option Nat), Fp w v n X Y → (∀ k, k < n → (cn (X k), cn (Y k)) = P k) →
    Calls Tryz.prog 46 #[v, .int .i64 (sgn bk)] w fun e w' => ∃ u X' Y' L, e = .returned u ∧ Fp w' u n X' Y' ∧ (∀ k, k < n → (cn (X' k), cn (Y' k)) = fast bk j P k) ∧ w'.ownsRow w.heap.size 39 2 u n L ∧ Below w.heap.size w w'
  | 0, _, _, hn, _, _, _, _, _, _, hv, hP => sHalves_oneO hn hv hP _
  | j + 1, hj, _, hn, bk, _, _, _, _, _, hv, hP =>
    sHalves_stepO (h := 2 ^ j) hj rfl hn hv hP (fun w v X Y P hv hP => sHalves_any j (by omega) (2 ^ j) rfl bk w v X Y P hv hP)

set_option maxRecDepth 100000 in
set_option maxHeartbeats 2000000 in
theorem sFast_own {w : World} {v : Value} {n j : Nat} {xs ys : Nat → Nat} (hv : Fp w v n xs ys) (hj : j < 8) (hn : n = 2 ^ j) : Calls Tryz.prog 23 #[v, .bool false] w fun e w' => Pf w w' e n (fun k => fby n false (fast false j (fun i => (cn (xs i), cn (ys i))) k)) true := by
  have h8 := pow_cases hj hn
  have i1 := sH8_any n
  rw [decide_eq_true (show H8 (n : Int) by omega)] at i1
  have i2 := sSgn_any false
  have i3 := sHalves_own j hj n hn false w v xs ys (fun i => (cn (xs i), cn (ys i))) hv (fun k _ => rfl)
  have hnot : ∀ (x : Bool) (w : World), (Op.unary .not (.bool x)).run Tryz.prog w = .ok (.bool (!x)) w := fun _ _ => rfl
  have hn128 : n ≤ 128 := by omega
  obtain ⟨ao, cap, rfl, hcap, hc⟩ := hv
  clear hc hn h8 hj
  generalize sgn false = sg at *
  go_enter Tryz.func23, Tryz.ntmps23
  go_wp2_with (first
    | (go_at_call 21; refine (i1 _).mono ?_; rintro e w' ⟨rfl, hw⟩; obtain rfl := hw.symm)
    | (go_at_call 47; refine (i2 _).mono ?_; rintro e w' ⟨rfl, hw⟩; obtain rfl := hw.symm)
    | (go_at_call 46; (with_reducible refine i3.mono ?_); rintro e w2 ⟨u2, X2, Y2, L2, rfl, f2, v2, o2, b2⟩; have F3 : Hid (Fp w2 u2 n X2 Y2) := f2; have V3 : Hid (∀ q, q < n → (cn (X2 q), cn (Y2 q)) = fast false j (fun i => (cn (xs i), cn (ys i))) q) := v2; have O3 : Hid (w2.ownsRow w.heap.size 39 2 u2 n L2) := o2; have B3 : Hid (Below w.heap.size w w2) := b2; have j3 := sBy_no u2; obtain ⟨ua, uc, rfl, _⟩ := f2; clear v2 b2 o2 i3)
    | (go_at_call 45; (with_reducible refine (j3 _).mono ?_); rintro e w' ⟨rfl, hw⟩; obtain rfl := hw.symm))
  go_ret2
  exact ⟨_, X2, Y2, L2, rfl, F3.out, V3.out, O3.out, B3.out⟩
end Go.Proofs.YtddbekacdfohpaaGreatDoor
