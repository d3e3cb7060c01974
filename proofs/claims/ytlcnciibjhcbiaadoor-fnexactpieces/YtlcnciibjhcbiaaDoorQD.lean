/- The model's Fast, its answer in memory of its own. -/
import Derived.Test.YtlcnciibjhcbiaaDoorQC
import Derived.Test.YtlcnciibjhcbiaaDoorPH
namespace Go.Proofs.YtlcnciibjhcbiaaDoor
open Go.RowKit

theorem sHalves_oneO {w : World} {v : Value} {n : Nat} {bk : Bool} {X Y : Nat → Nat} {P : Nat → Option Nat × Option Nat} (hn : n = 1) (hv : Fp w v n X Y) (hP : ∀ k, k < n → (cn (X k), cn (Y k)) = P k) (s : Int) :
    Calls Tryd.prog 36 #[v, .int .i64 s] w fun e w' => ∃ u X' Y' L, e = .returned u ∧ Fp w' u n X' Y' ∧ (∀ k, k < n → (cn (X' k), cn (Y' k)) = fast bk 0 P k) ∧ w'.ownsRow w.heap.size 40 2 u n L ∧ Below w.heap.size w w' := by
  obtain ⟨ao, cap, rfl, hcap, hc⟩ := hv
  obtain ⟨b, off, rfl, hlt, hcell⟩ := hc (by omega)
  obtain ⟨c0, c1⟩ := hcell 0 (by omega)
  have HP : Hid (∀ k, k < n → (cn (X k), cn (Y k)) = P k) := hP
  have hST := rStore
  rw [Nat.zero_mul, Nat.add_zero] at c0 c1
  have F1 : Hid (Fp (w.alloc (.cells #[.float .f64 (X 0), .float .f64 (Y 0)] 40)) (.slice (some ⟨w.heap.size, 0, none⟩) 1 1) 1 (fun _ => X 0) (fun _ => Y 0)) := ⟨_, 1, rfl, Nat.le_refl _, fun _ => ⟨w.heap.size, 0, rfl, by simp, fun k hk => (by
    obtain rfl : k = 0 := by omega
    simp)⟩⟩
  have O1 : Hid ((w.alloc (.cells #[.float .f64 (X 0), .float .f64 (Y 0)] 40)).ownsRow w.heap.size 40 2 (.slice (some ⟨w.heap.size, 0, none⟩) 1 1) 1 [.float .f64 (X 0), .float .f64 (Y 0)]) := World.ownsRow_lit (base := w.heap.size) (e := 40) (size := 2) w #[.float .f64 (X 0), .float .f64 (Y 0)] 1 (Nat.le_refl _) (by unfold maxLen; omega) rfl
  have B1 : Hid (Below w.heap.size w (w.alloc (.cells #[.float .f64 (X 0), .float .f64 (Y 0)] 40))) := below_one _ _
  subst hn
  clear hc hcell hP
  go_enter Tryd.func36, Tryd.ntmps36
  go_wp2
  go_ret
  exact ⟨_, fun _ => X 0, fun _ => Y 0, _, rfl, F1.out, fun k hk => by
    obtain rfl : k = 0 := by omega
    exact HP.out 0 (by omega), O1.out, B1.out⟩

theorem sHalves_own : ∀ (j : Nat), j < 8 → ∀ (n : Nat), n = 2 ^ j → ∀ (bk : Bool) (w : World) (v : Value) (X Y : Nat → Nat) (P : Nat → Option Nat × Option Nat), Fp w v n X Y → (∀ k, k < n → (cn (X k), cn (Y k)) = P k) →
    Calls Tryd.prog 36 #[v, .int .i64 (sgn bk)] w fun e w' => ∃ u X' Y' L, e = .returned u ∧ Fp w' u n X' Y' ∧ (∀ k, k < n → (cn (X' k), cn (Y' k)) = fast bk j P k) ∧ w'.ownsRow w.heap.size 40 2 u n L ∧ Below w.heap.size w w'
  | 0, _, _, hn, _, _, _, _, _, _, hv, hP => sHalves_oneO hn hv hP _
  | j + 1, hj, _, hn, bk, _, _, _, _, _, hv, hP =>
    sHalves_stepO (h := 2 ^ j) hj rfl hn hv hP (fun w v X Y P hv hP => sHalves_any j (by omega) (2 ^ j) rfl bk w v X Y P hv hP)

set_option maxRecDepth 100000 in
set_option maxHeartbeats 2000000 in
theorem sFast_own {w : World} {v : Value} {n j : Nat} {xs ys : Nat → Nat} (hv : Fp w v n xs ys) (hj : j < 8) (hn : n = 2 ^ j) : Calls Tryd.prog 13 #[v, .bool false] w fun e w' => Pf w w' e n (fun k => fby n false (fast false j (fun i => (cn (xs i), cn (ys i))) k)) true := by
  have h8 := pow_cases hj hn
  have i1 := sH8_any n
  rw [decide_eq_true (show H8 (n : Int) by omega)] at i1
  have i2 := sSgn_any false
  have i3 := sHalves_own j hj n hn false w v xs ys (fun i => (cn (xs i), cn (ys i))) hv (fun k _ => rfl)
  have hnot : ∀ (x : Bool) (w : World), (Op.unary .not (.bool x)).run Tryd.prog w = .ok (.bool (!x)) w := fun _ _ => rfl
  have hn128 : n ≤ 128 := by omega
  obtain ⟨ao, cap, rfl, hcap, hc⟩ := hv
  clear hc hn h8 hj
  generalize sgn false = sg at *
  go_enter Tryd.func13, Tryd.ntmps13
  go_wp2_with (first
    | (go_at_call 20; refine (i1 _).mono ?_; rintro e w' ⟨rfl, hw⟩; obtain rfl := hw.symm)
    | (go_at_call 24; refine (i2 _).mono ?_; rintro e w' ⟨rfl, hw⟩; obtain rfl := hw.symm)
    | (go_at_call 36; (with_reducible refine i3.mono ?_); rintro e w2 ⟨u2, X2, Y2, L2, rfl, f2, v2, o2, b2⟩; have F3 : Hid (Fp w2 u2 n X2 Y2) := f2; have V3 : Hid (∀ q, q < n → (cn (X2 q), cn (Y2 q)) = fast false j (fun i => (cn (xs i), cn (ys i))) q) := v2; have O3 : Hid (w2.ownsRow w.heap.size 40 2 u2 n L2) := o2; have B3 : Hid (Below w.heap.size w w2) := b2; have j3 := sBy_no u2; obtain ⟨ua, uc, rfl, _⟩ := f2; clear v2 b2 o2 i3)
    | (go_at_call 25; (with_reducible refine (j3 _).mono ?_); rintro e w' ⟨rfl, hw⟩; obtain rfl := hw.symm))
  go_ret2
  exact ⟨_, X2, Y2, L2, rfl, F3.out, V3.out, O3.out, B3.out⟩
end Go.Proofs.YtlcnciibjhcbiaaDoor
