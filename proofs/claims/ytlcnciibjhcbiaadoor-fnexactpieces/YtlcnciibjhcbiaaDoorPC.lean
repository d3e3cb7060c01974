/- The program's Fast. -/
import Derived.Test.YtlcnciibjhcbiaaDoorPB
import Derived.Test.YtlcnciibjhcbiaaDoorON
namespace Go.Proofs.YtlcnciibjhcbiaaDoor
open Go.RowKit

theorem halves_any : ∀ (j : Nat), j < 8 → ∀ (n : Nat), n = 2 ^ j → ∀ (bk : Bool) (w : World) (G : Nat) (pb : Addr) (g : Nat) (X Y : Nat → Nat) (P : Nat → Option Nat × Option Nat), Hv w G pb bk → Zr w g n X Y → g ≠ G → (∀ k, k < n → (cn (X k), cn (Y k)) = P k) →
    Calls Tryd.prog 37 #[zv g n, .func (.func 44) #[] #[.pointer (some ⟨G, 0, none⟩), .pointer (some pb)]] w fun e w' => ∃ g' X' Y', e = .returned (zv g' n) ∧ Zr w' g' n X' Y' ∧ g' ≠ G ∧ (∀ k, k < n → (cn (X' k), cn (Y' k)) = fast bk j P k) ∧ Whl w' G bk ∧ Kp G w w'
  | 0, _, n, hn, bk, w, G, pb, g, X, Y, P, hv, hz, hg, hP => halves_one hn hv hz hg hP _
  | j + 1, hj, n, hn, bk, w, G, pb, g, X, Y, P, hv, hz, hg, hP =>
    halves_step (h := 2 ^ j) hj rfl hn hv hz hg hP (fun w g X Y P hv hz hg hP => halves_any j (by omega) (2 ^ j) rfl bk w G pb g X Y P hv hz hg hP)

set_option maxRecDepth 100000 in
set_option maxHeartbeats 2000000 in
theorem iFast_f {w : World} {v : Value} {n j : Nat} {xs ys : Nat → Nat} (hv : Fp w v n xs ys) (hj : j < 8) (hn : n = 2 ^ j) (hbr : Brj w) :
    Calls Tryd.prog 14 #[v, .bool false] w fun e w' => Pf w w' e n (fun k => fby n false (fast false j (fun i => (cn (xs i), cn (ys i))) k)) true := by
  have h8 := pow_cases hj hn
  have hp : 1 ≤ n ∧ n ≤ 128 := by omega
  have i1 := iH8_any n
  rw [decide_eq_true (show H8 (n : Int) by omega)] at i1
  have j1 := toCs_any hv (by omega)
  have HBR : Hid (Brj w) := hbr
  have HJ : Hid (n = 2 ^ j) := hn
  have hnot : ∀ (x : Bool) (w : World), (Op.unary .not (.bool x)).run Tryd.prog w = .ok (.bool (!x)) w := fun _ _ => rfl
  obtain ⟨ao, cap, rfl, hcap, hc⟩ := hv
  clear hc hn hbr h8
  go_enter Tryd.func14, Tryd.ntmps14
  go_wp2_with (first
    | (go_at_call 27; refine (i1 _).mono ?_; rintro e w' ⟨rfl, hw⟩; obtain rfl := hw.symm)
    | (go_at_call 28; (with_reducible refine j1.mono ?_); rintro e w1 ⟨rfl, z1, b1⟩; have Z1 : Hid (Zr w1 w.heap.size n xs ys) := z1; have B1 : Hid (Below w.heap.size w w1) := b1; have j2 := new_any false w1; clear z1 b1 j1)
    | (go_at_call 29; (with_reducible refine j2.mono ?_); rintro e w2 ⟨rfl, h1, h2, h3, b2⟩; have hlt : w.heap.size < w1.heap.size := Z1.out.1; have H2 : Hid (Hv w2 (w1.heap.size + 1) ⟨w1.heap.size, 0, none⟩ false) := ⟨h1, (HBR.out.below B1.out).below b2, by have := HBR.out.size; omega, h2, by simp⟩; have B2 : Hid (Below w.heap.size w w2) := bstep B1.out b2; have j3 := halves_any j hj n HJ.out false w2 (w1.heap.size + 1) ⟨w1.heap.size, 0, none⟩ w.heap.size xs ys (fun i => (cn (xs i), cn (ys i))) H2.out (Z1.out.below b2) (by omega) (fun k _ => rfl); have S2 : Hid (w1.heap.size + 1 < w2.heap.size) := h1.1; clear h1 h2 h3 b2 j2)
    | (go_at_call 37; (with_reducible refine j3.mono ?_); rintro e w3 ⟨g3, X3, Y3, rfl, z3, _, f3, _, k3⟩; have Z3 : Hid (Zr w3 g3 n X3 Y3) := z3; have F3 : Hid (∀ k, k < n → (cn (X3 k), cn (Y3 k)) = fast false j (fun i => (cn (xs i), cn (ys i))) k) := f3; have B3 : Hid (Below w.heap.size w w3) := Kp.after B2.out (by have := B2.out.size; omega) (by omega) k3; have j4 := toPs_any z3 (by omega); clear z3 f3 k3 j3)
    | (go_at_call 34; (with_reducible refine j4.mono ?_); rintro e w4 ⟨b4, u4, L4, rfl, f4, o4⟩; have F4 : Hid (Fp w4 u4 n X3 Y3) := f4; have O4 : Hid (w4.ownsRow w3.heap.size 40 2 u4 n L4) := o4; have B4 : Hid (Below w.heap.size w w4) := bstep B3.out b4; obtain ⟨ua, uc, rfl, _⟩ := f4; clear o4 b4 j4))
  go_ret2
  exact ⟨_, X3, Y3, L4, rfl, F4.out, fun k hk => F3.out k hk, own_base O4.out B3.out.size, B4.out⟩

set_option maxRecDepth 100000 in
set_option maxHeartbeats 2000000 in
theorem iFast_t {w : World} {v : Value} {n j : Nat} {xs ys : Nat → Nat} (hv : Fp w v n xs ys) (hj : j < 8) (hn : n = 2 ^ j) (hbr : Brj w) :
    Calls Tryd.prog 14 #[v, .bool true] w fun e w' => Pf w w' e n (fun k => fby n true (fast true j (fun i => (cn (xs i), cn (ys i))) k)) true := by
  have h8 := pow_cases hj hn
  have hp : 1 ≤ n ∧ n ≤ 128 := by omega
  have i1 := iH8_any n
  rw [decide_eq_true (show H8 (n : Int) by omega)] at i1
  have j1 := toCs_any hv (by omega)
  have HBR : Hid (Brj w) := hbr
  have HJ : Hid (n = 2 ^ j) := hn
  have hnot : ∀ (x : Bool) (w : World), (Op.unary .not (.bool x)).run Tryd.prog w = .ok (.bool (!x)) w := fun _ _ => rfl
  obtain ⟨ao, cap, rfl, hcap, hc⟩ := hv
  clear hc hn hbr h8
  go_enter Tryd.func14, Tryd.ntmps14
  go_wp2_with (first
    | (go_at_call 27; refine (i1 _).mono ?_; rintro e w' ⟨rfl, hw⟩; obtain rfl := hw.symm)
    | (go_at_call 28; (with_reducible refine j1.mono ?_); rintro e w1 ⟨rfl, z1, b1⟩; have Z1 : Hid (Zr w1 w.heap.size n xs ys) := z1; have B1 : Hid (Below w.heap.size w w1) := b1; have j2 := new_any true w1; clear z1 b1 j1)
    | (go_at_call 29; (with_reducible refine j2.mono ?_); rintro e w2 ⟨rfl, h1, h2, h3, b2⟩; have hlt : w.heap.size < w1.heap.size := Z1.out.1; have H2 : Hid (Hv w2 (w1.heap.size + 1) ⟨w1.heap.size, 0, none⟩ true) := ⟨h1, (HBR.out.below B1.out).below b2, by have := HBR.out.size; omega, h2, by simp⟩; have B2 : Hid (Below w.heap.size w w2) := bstep B1.out b2; have j3 := halves_any j hj n HJ.out true w2 (w1.heap.size + 1) ⟨w1.heap.size, 0, none⟩ w.heap.size xs ys (fun i => (cn (xs i), cn (ys i))) H2.out (Z1.out.below b2) (by omega) (fun k _ => rfl); have S2 : Hid (w1.heap.size + 1 < w2.heap.size) := h1.1; clear h1 h2 h3 b2 j2)
    | (go_at_call 37; (with_reducible refine j3.mono ?_); rintro e w3 ⟨g3, X3, Y3, rfl, z3, _, f3, _, k3⟩; have Z3 : Hid (Zr w3 g3 n X3 Y3) := z3; have F3 : Hid (∀ k, k < n → (cn (X3 k), cn (Y3 k)) = fast true j (fun i => (cn (xs i), cn (ys i))) k) := f3; have B3 : Hid (Below w.heap.size w w3) := Kp.after B2.out (by have := B2.out.size; omega) (by omega) k3; have j4 := toPs_any z3 (by omega); clear z3 f3 k3 j3)
    | (go_at_call 34; (with_reducible refine j4.mono ?_); rintro e w4 ⟨b4, u4, L4, rfl, f4, o4⟩; have F4 : Hid (Fp w4 u4 n X3 Y3) := f4; have O4 : Hid (w4.ownsRow w3.heap.size 40 2 u4 n L4) := o4; have B4 : Hid (Below w.heap.size w w4) := bstep B3.out b4; have j5 := divided_any f4 (by omega); obtain ⟨ua, uc, rfl, _⟩ := f4; clear o4 b4 j4)
    | (go_at_call 33; (with_reducible refine j5.mono ?_); rintro e w5 ⟨b5, u5, L5, X5, Y5, rfl, f5, d5, o5⟩; have F5 : Hid (Fp w5 u5 n X5 Y5) := f5; have D5 : Hid (∀ i, i < n → cn (X5 i) = cop .quo (cn (X3 i)) (cn (fk n)) ∧ cn (Y5 i) = cop .quo (cn (Y3 i)) (cn (fk n))) := d5; have O5 : Hid (w5.ownsRow w4.heap.size 40 2 u5 n L5) := o5; have B5 : Hid (Below w.heap.size w w5) := bstep B4.out b5; obtain ⟨ub, ud, rfl, _⟩ := f5; clear o5 b5 d5 j5))
  go_ret2
  refine ⟨_, X5, Y5, L5, rfl, F5.out, fun k hk => ?_, own_base O5.out B4.out.size, B5.out⟩
  obtain ⟨p1, p2⟩ := Prod.mk.inj (F3.out k hk)
  rw [(D5.out k hk).1, (D5.out k hk).2, p1, p2]
  rfl

theorem iFast_none {w : World} {v : Value} {n : Nat} {xs ys : Nat → Nat} (hv : Fp w v n xs ys) (h8 : ¬ H8 (n : Int)) (bk : Bool) (C : Nat → Option Nat × Option Nat) : Calls Tryd.prog 14 #[v, .bool bk] w fun e w' => Pe w w' e 0 C false := by
  have i1 := iH8_any n
  rw [decide_eq_false h8] at i1
  have HO : Hid ((w.alloc (.cells #[] 40)).ownsRow w.heap.size 40 2 (.slice (some ⟨w.heap.size, 0, none⟩) 0 0) 0 []) := own_empty w 40 2
  have HB : Hid (Below w.heap.size w (w.alloc (.cells #[] 40))) := below_one _ _
  have hnot : ∀ (x : Bool) (w : World), (Op.unary .not (.bool x)).run Tryd.prog w = .ok (.bool (!x)) w := fun _ _ => rfl
  obtain ⟨ao, cap, rfl, hcap, hc⟩ := hv
  clear hc h8
  go_enter Tryd.func14, Tryd.ntmps14
  go_wp2_with (go_at_call 27; refine (i1 _).mono ?_; rintro e w' ⟨rfl, hw⟩; obtain rfl := hw.symm)
  go_ret2
  exact ⟨_, fun _ => 0, fun _ => 0, rfl, HO.out, fun k hk => by omega, HB.out⟩
end Go.Proofs.YtlcnciibjhcbiaaDoor
