/- FnWalshTwice: the law. -/
import Derived.Test.YtfmllgohmlocoaaV1
import Derived.Deep.Cut
import Derived.BigQuiet
import Derived.Deep.QuietTactic
namespace Go.Proofs.Ytfmllgohmlocoaa
open Go.RowKit

theorem sm_swap (f : Nat → Nat → Int) (m : Nat) : ∀ n, sm (fun k => sm (f k) n) m = sm (fun i => sm (fun k => f k i) m) n
  | 0 => sm_zero m
  | n + 1 => by
    have : (fun k => sm (f k) (n + 1)) = fun k => sm (f k) n + f k n := rfl
    rw [this, sm_add, sm_swap f m n, sm]

theorem sm_ind (g : Nat → Int) {q : Nat} : ∀ n, q < n → sm (fun m => if q = m then g m else 0) n = g q
  | n + 1, h => by
    rw [sm]
    by_cases e : q = n
    · subst e
      have : sm (fun m => if q = m then g m else 0) q = 0 := by
        rw [sm_congr (g := fun _ => 0) q (fun i hi => by rw [if_neg (by omega)]), sm_zero]
      rw [this, if_pos rfl, Int.zero_add]
    · rw [sm_ind g n (by omega), if_neg e, Int.add_zero]

/-- Two rows of signs, multiplied and summed. -/
theorem walsh_ortho : ∀ (t i j : Nat), i < 2 ^ t → j < 2 ^ t → sm (fun k => sgw t i k * sgw t k j) (2 ^ t) = if i = j then ((2 ^ t : Nat) : Int) else 0
  | 0, i, j, hi, hj => by
    have h1 : i = 0 := by rw [Nat.pow_zero] at hi; omega
    have h2 : j = 0 := by rw [Nat.pow_zero] at hj; omega
    subst h1 h2
    rfl
  | t + 1, i, j, hi, hj => by
    rw [two_pow_twice] at hi hj
    have ih := walsh_ortho t (i / 2) (j / 2) (by omega) (by omega)
    rw [two_pow_twice, sm_two]
    have e : ∀ k, sgw (t + 1) i (2 * k) * sgw (t + 1) (2 * k) j + sgw (t + 1) i (2 * k + 1) * sgw (t + 1) (2 * k + 1) j = (if (i % 2 == 1) = (j % 2 == 1) then 2 else 0) * (sgw t (i / 2) k * sgw t k (j / 2)) := by
      intro k
      rw [sgw_step t i (2 * k), sgw_step t (2 * k) j, sgw_step t i (2 * k + 1), sgw_step t (2 * k + 1) j]
      rw [show 2 * k / 2 = k by omega, show (2 * k + 1) / 2 = k by omega, show 2 * k % 2 = 0 by omega, show (2 * k + 1) % 2 = 1 by omega]
      generalize sgw t (i / 2) k = A
      generalize sgw t k (j / 2) = B
      cases (i % 2 == 1) <;> cases (j % 2 == 1) <;> simp <;> grind
    rw [sm_congr _ (fun k _ => e k), sm_mul, ih]
    by_cases c : i = j
    · subst c
      rw [if_pos rfl, if_pos rfl, if_pos rfl]
      omega
    · rw [if_neg c]
      by_cases d : (i % 2 == 1) = (j % 2 == 1)
      · rw [if_pos d, if_neg, Int.mul_zero]
        intro e2
        have : i % 2 = j % 2 := by
          have h1 : i % 2 = 0 ∨ i % 2 = 1 := by omega
          have h2 : j % 2 = 0 ∨ j % 2 = 1 := by omega
          rcases h1 with h1 | h1 <;> rcases h2 with h2 | h2 <;> rw [h1, h2] at d <;> simp at d <;> omega
        omega
      · rw [if_neg d, Int.zero_mul]

/-- Walsh twice. -/
theorem walsh_twice (t : Nat) (xs : Nat → Int) {j : Nat} (hj : j < 2 ^ t) : sm (fun k => sm (fun i => xs i * sgw t i k) (2 ^ t) * sgw t k j) (2 ^ t) = xs j * ((2 ^ t : Nat) : Int) := by
  have h1 : ∀ k, sm (fun i => xs i * sgw t i k) (2 ^ t) * sgw t k j = sm (fun i => xs i * (sgw t i k * sgw t k j)) (2 ^ t) := by
    intro k
    rw [Int.mul_comm, ← sm_mul]
    refine sm_congr _ (fun i _ => ?_)
    grind
  rw [sm_congr _ (fun k _ => h1 k), sm_swap]
  have h2 : ∀ i, i < 2 ^ t → sm (fun k => xs i * (sgw t i k * sgw t k j)) (2 ^ t) = if j = i then xs i * ((2 ^ t : Nat) : Int) else 0 := by
    intro i hi
    rw [sm_mul, walsh_ortho t i j hi hj]
    by_cases c : i = j
    · subst c; rw [if_pos rfl, if_pos rfl]
    · rw [if_neg c, if_neg (fun e => c e.symm), Int.mul_zero]
  rw [sm_congr _ h2]
  exact sm_ind (fun i => xs i * ((2 ^ t : Nat) : Int)) _ hj
set_option maxHeartbeats 1000000 in
/-- Two lists that hold the same: eqIntS says so. -/
theorem eq_yes {w : World} {v u : Value} {n : Nat} {xs : Nat → Int} (hv : Il w v n xs) (hu : Il w u n xs) (hn : n ≤ 1048576) :
    Calls Try.prog 10 #[v, u] w fun e w' => e = .returned (.bool true) ∧ Below w.heap.size w w' := by
  obtain ⟨ao, cap, rfl, hcap, hc⟩ := hv
  obtain ⟨bo, cap2, rfl, hcap2, hc2⟩ := hu
  have HC : Hid (0 < n → ∃ b off, ao = some ⟨b, off, none⟩ ∧ b < w.heap.size ∧ ∀ k, k < n → w.cell? ⟨b, off + k, none⟩ = some (.int .i64 (xs k))) := hc
  have HC2 : Hid (0 < n → ∃ b off, bo = some ⟨b, off, none⟩ ∧ b < w.heap.size ∧ ∀ k, k < n → w.cell? ⟨b, off + k, none⟩ = some (.int .i64 (xs k))) := hc2
  clear hc hc2
  go_enter Try.func10, Try.ntmps10
  go_wp2
  go_loopw [5] (fun i wr => ∃ k : Nat, i = .int .i64 k ∧ k ≤ n ∧ Hid (Below w.heap.size w wr)) (fun i _ => n - (intOf i).toNat)
  case atStart => exact ⟨0, rfl, by omega, Below.refl _ _⟩
  case round =>
    obtain ⟨k, rfl, hk, hbl⟩ := hrel
    by_cases h1 : k < n
    · obtain ⟨b, off, rfl, hlt, hcell⟩ := HC.out (by omega)
      obtain ⟨b2, off2, rfl, hlt2, hcell2⟩ := HC2.out (by omega)
      have c : wr.cell? ⟨b, off + k, none⟩ = some (.int .i64 (xs k)) := (hbl.out.cell (p := ⟨b, off + k, none⟩) hlt).trans (hcell k h1)
      have c2 : wr.cell? ⟨b2, off2 + k, none⟩ = some (.int .i64 (xs k)) := (hbl.out.cell (p := ⟨b2, off2 + k, none⟩) hlt2).trans (hcell2 k h1)
      clear hcell hcell2 hlt hlt2
      go_wp2_with (go_quiet (fail))
      go_roundw
      case rel => exact ⟨k + 1, by go_num, by omega, below_drewN hbl.out _⟩
      case measure => simp [intOf]; omega
    · obtain rfl : k = n := by omega
      go_wp2
      go_ret
      exact ⟨rfl, hbl.out⟩

/-- A list of two that was written out. -/
def two (x y : Int) (k : Nat) : Int := if k = 0 then x else y

theorem il_two (w : World) (x y : Int) : Il (w.alloc (.cells #[.int .i64 x, .int .i64 y] 3)) (.slice (some ⟨w.heap.size, 0, none⟩) 2 2) 2 (two x y) := by
  refine ⟨_, 2, rfl, Nat.le_refl _, fun _ => ⟨w.heap.size, 0, rfl, by simp, fun k hk => ?_⟩⟩
  have : k = 0 ∨ k = 1 := by omega
  rcases this with rfl | rfl <;> simp [two]

theorem gw_two : GW 2 (two 1 2) := ⟨⟨by omega, fun k hk => by
  have : k = 0 ∨ k = 1 := by omega
  rcases this with rfl | rfl <;> decide⟩, by decide⟩

theorem wlv_two : ∀ k, k < 2 → wlv 1 (two 1 2) k = two 3 (-1) k := by
  intro k hk
  have : k = 0 ∨ k = 1 := by omega
  rcases this with rfl | rfl <;> decide +kernel

theorem il_congr {w : World} {v : Value} {n : Nat} {f g : Nat → Int} (h : ∀ k, k < n → f k = g k) : Il w v n f ↔ Il w v n g := by
  unfold Il
  refine ⟨fun ⟨ao, cap, e, hc, hh⟩ => ⟨ao, cap, e, hc, fun h0 => ?_⟩, fun ⟨ao, cap, e, hc, hh⟩ => ⟨ao, cap, e, hc, fun h0 => ?_⟩⟩
  · obtain ⟨b, off, e2, hl, hx⟩ := hh h0
    exact ⟨b, off, e2, hl, fun k hk => by rw [← h k hk]; exact hx k hk⟩
  · obtain ⟨b, off, e2, hl, hx⟩ := hh h0
    exact ⟨b, off, e2, hl, fun k hk => by rw [h k hk]; exact hx k hk⟩

/-- Walsh of any list, both sides. -/
theorem iWalsh_any {w : World} {v : Value} {n : Nat} {xs : Nat → Int} (hv : Il w v n xs) (hn : n ≤ 1048576) : ∃ N ys ok, (GW n xs → ∃ m, m ≤ 8 ∧ n = 2 ^ m ∧ N = n ∧ ys = wlv m xs ∧ ok = true) ∧ (¬ GW n xs → N = 0 ∧ ok = false) ∧ N ≤ 256 ∧
    (Calls Try.prog 7 #[v] w fun e w' => Pst w w' e N ys ok) ∧ ∀ W, Il W v n xs → Calls Try.prog 8 #[v] W fun e w' => Pst W w' e N ys ok := by
  by_cases hg : GW n xs
  · obtain ⟨m, hm, hnm⟩ := hg.2.pow
    have hb := hg.2.bounds
    exact ⟨n, wlv m xs, true, fun _ => ⟨m, hm, hnm, rfl, rfl, rfl⟩, fun h => absurd hg h, by omega, iWalsh_yes hv hg hm hnm, fun W hW => sWalsh_yes hW hg hm hnm⟩
  · exact ⟨0, fun _ => 0, false, fun h => absurd h hg, fun _ => ⟨rfl, rfl⟩, by omega, iWalsh_no hv hn hg _, fun W hW => sWalsh_no hW hn hg _⟩


theorem Il.at {w : World} {ao : Option Addr} {m cap n : Nat} {xs : Nat → Int} (h : Il w (.slice ao m cap) n xs) (h0 : 0 < n) : ∃ b off, ao = some ⟨b, off, none⟩ ∧ b < w.heap.size ∧ ∀ k, k < n → w.cell? ⟨b, off + k, none⟩ = some (.int .i64 (xs k)) := by
  obtain ⟨ao', cap', he, _, hc⟩ := h
  injection he with h1 h2 h3
  subst h1
  exact hc h0

/-- Walsh of a list that is taken, and of what it comes to. -/
theorem walsh_more {n : Nat} {xs : Nat → Int} (hg : GW n xs) : ∃ ys, (∀ w v, Il w v n xs → Calls Try.prog 7 #[v] w fun e w' => Pst w w' e n ys true) ∧ (∀ w v, Il w v n xs → Calls Try.prog 8 #[v] w fun e w' => Pst w w' e n ys true) ∧
    (Sig n ys → ∀ w v, Il w v n ys → Calls Try.prog 7 #[v] w fun e w' => Pst w w' e n (fun k => xs k * (n : Int)) true) := by
  obtain ⟨m, hm, hnm⟩ := hg.2.pow
  refine ⟨wlv m xs, fun w v hv => iWalsh_yes hv hg hm hnm, fun w v hv => sWalsh_yes hv hg hm hnm, fun hs w v hv => (iWalsh_yes hv ⟨hs, hg.2⟩ hm hnm).mono ?_⟩
  rintro e w' ⟨u, rfl, ho, hb⟩
  refine ⟨u, rfl, ?_, hb⟩
  rw [ils_congr (g := wlv m (wlv m xs))]
  · exact ho
  · intro k hk
    have h1 := walsh_twice m xs (j := k) (by rw [← hnm]; exact hk)
    rw [← hnm] at h1
    rw [← h1]
    subst hnm
    rfl

/-- What the law's walk has behind the draw. -/
theorem mulSmp {x : Int} {q : Nat} (h : Smp x) (hq : q ≤ 256) : -9223372036854775808 ≤ x * (q : Int) ∧ x * (q : Int) ≤ 9223372036854775807 := by
  unfold Smp at h
  have h1 : x.natAbs * q ≤ 2147483648 * 256 := Nat.mul_le_mul (by omega) hq
  have h2 : (x * (q : Int)).natAbs = x.natAbs * q := by rw [Int.natAbs_mul]; rfl
  omega

set_option maxHeartbeats 8000000 in
theorem walk_walshtwice {w : World} {a : Option Addr} {n cap : Nat} (hr : Row w a n) (hn : n ≤ 9223372036854775807) : Calls Try.prog 3 #[.slice a n cap] w fun e w' => e = .returned (.bool true) ∧ Below w.heap.size w w' := by
  have hz := fun W => big_x (w := W) a n cap hn
  by_cases h : n ≤ 1048576
  · rw [decide_eq_false (show ¬ (1048576 : Int) < (n : Int) by omega)] at hz
    have hd := dwalsh_x (cap := cap) hr h
    clear hr
    go_enter Try.func3, Try.ntmps3
    go_upto_region 4 with (first | (go_at_call 5; (with_reducible refine (hz _).mono ?_); rintro e w' ⟨rfl, hw⟩; obtain rfl := hw.symm) | (go_at_call 6; refine hd.mono ?_; rintro e w1 ⟨u, q, xs, rfl, hq, ho, hb1⟩; have F1 : Hid (Il w1 u q xs) := il_of_own ho; have B1 : Hid (Below w.heap.size w w1) := hb1; clear hb1 ho))
    clear hd hz
    by_cases hg : GW q xs
    · obtain ⟨ys, j1, j2, j3⟩ := walsh_more hg
      have HXS : Hid (∀ k, k < q → Smp (xs k)) := hg.1.2
      have hqb : 1 ≤ q := by have := hg.2.bounds; omega
      have J1 : Hid _ := j1
      have J2 : Hid _ := j2
      have J3' : Hid _ := j3
      clear hg j1 j2 j3
      by_cases hS : Sig q ys
      · have HSg : Hid (∀ W v, Il W v q ys → Calls Try.prog 9 #[v] W fun e w' => e = .returned (.bool true) ∧ w' = W) := fun W v hv => by have := sSig_any hv (by omega); rw [decide_eq_true hS] at this; exact this
        obtain ⟨zs, hzs⟩ : ∃ zs : Nat → Int, zs = fun k => xs k * (q : Int) := ⟨_, rfl⟩
        have J3 : Hid (∀ w v, Il w v q ys → Calls Try.prog 7 #[v] w fun e w' => Pst w w' e q zs true) := by have := J3'.out hS; rw [← hzs] at this; exact this
        have HZ : Hid (∀ k, k < q → zs k = xs k * (q : Int) ∧ -9223372036854775808 ≤ xs k * (q : Int) ∧ xs k * (q : Int) ≤ 9223372036854775807 ∧ -9223372036854775808 ≤ xs k ∧ xs k ≤ 9223372036854775807) := fun k hk => ⟨by rw [hzs], (mulSmp (HXS.out k hk) (by omega)).1, (mulSmp (HXS.out k hk) (by omega)).2, by have := HXS.out k hk; unfold Smp at this; omega, by have := HXS.out k hk; unfold Smp at this; omega⟩
        clear hS J3' hzs HXS
        obtain ⟨ao, cp, hue, _, _⟩ := F1.out
        subst hue
        go_wp2_with (first
      | (go_at_call 7; (fail_if_success have := M1); (with_reducible refine (J1.out _ _ F1.out).mono ?_); rintro e w2 ⟨wv, rfl, ho2, hb2⟩; have M1 : Hid True := trivial; have O2 : Hid (w2.ownsRow w1.heap.size 3 1 wv q (ils ys q)) := ho2; have B2 : Hid (Below w.heap.size w w2) := bstep B1.out hb2; have G2 : Hid (Below w1.heap.size w1 w2) := hb2; clear ho2 hb2)
      | (go_at_call 8; (with_reducible refine (J2.out _ _ (Il.below F1.out G2.out)).mono ?_); rintro e w3 ⟨tv, rfl, ho3, hb3⟩; have O3 : Hid (w3.ownsRow w1.heap.size 3 1 wv q (ils ys q)) := own_below O2.out hb3; have B3 : Hid (Below w.heap.size w w3) := bstep B2.out hb3; have G3 : Hid (Below w1.heap.size w1 w3) := bstep G2.out hb3; clear ho3 hb3)
      | (go_at_call 9; (with_reducible refine (HSg.out _ _ (il_of_own O3.out)).mono ?_); rintro e w' ⟨rfl, hw⟩; obtain rfl := hw.symm)
      | (go_at_call 7; have Z := M1; (with_reducible refine (J3.out _ _ (il_of_own O3.out)).mono ?_); rintro e w5 ⟨av, rfl, ho5, hb5⟩; have O5 : Hid (Il w5 av q zs) := il_of_own ho5; have B5 : Hid (Below w.heap.size w w5) := bstep B3.out hb5; have G5 : Hid (Below w1.heap.size w1 w5) := bstep G3.out hb5; clear ho5 hb5; obtain ⟨ga, ca, hav, _, _⟩ := O5.out; subst hav))
        obtain ⟨b0, of0, rfl, hl0, c0⟩ := (Il.below F1.out G5.out).at (by omega)
        obtain ⟨b1, of1, rfl, hl1, c1⟩ := O5.out.at (by omega)
        have C0 : Hid (∀ k, k < q → w5.cell? ⟨b0, of0 + k, none⟩ = some (.int .i64 (xs k))) := c0
        have C1 : Hid (∀ k, k < q → w5.cell? ⟨b1, of1 + k, none⟩ = some (.int .i64 (xs k * (q : Int)))) := fun k hk => by rw [c1 k hk, (HZ.out k hk).1]
        clear c0 c1
        go_loopw [12] (fun i wr => ∃ k : Nat, i = .int .i64 k ∧ k ≤ q ∧ Hid (Below w5.heap.size w5 wr)) (fun i _ => q - (intOf i).toNat)
        case atStart => exact ⟨0, rfl, by omega, Below.refl _ _⟩
        case round =>
          obtain ⟨k, rfl, hk, hbl⟩ := hrel
          by_cases h1 : k < q
          · have d0 := (hbl.out.cell (p := ⟨b0, of0 + k, none⟩) hl0).trans (C0.out k h1)
            have d1 := (hbl.out.cell (p := ⟨b1, of1 + k, none⟩) hl1).trans (C1.out k h1)
            obtain ⟨_, hm1, hm2, hm3, hm4⟩ := HZ.out k h1
            go_wp2_with (go_quiet (fail))
            go_roundw
            case rel => exact ⟨k + 1, by go_num, by omega, below_drewN hbl.out _⟩
            case measure => simp [intOf]; omega
          · obtain rfl : k = q := by omega
            go_wp2
            go_ret
            exact ⟨rfl, bstep B5.out hbl.out⟩
      · have HSg : Hid (∀ W v, Il W v q ys → Calls Try.prog 9 #[v] W fun e w' => e = .returned (.bool false) ∧ w' = W) := fun W v hv => by have := sSig_any hv (by omega); rw [decide_eq_false hS] at this; exact this
        clear hS J3'
        obtain ⟨ao, cp, hue, _, _⟩ := F1.out
        subst hue
        go_wp2_with (first
      | (go_at_call 7; (fail_if_success have := M1); (with_reducible refine (J1.out _ _ F1.out).mono ?_); rintro e w2 ⟨wv, rfl, ho2, hb2⟩; have M1 : Hid True := trivial; have O2 : Hid (w2.ownsRow w1.heap.size 3 1 wv q (ils ys q)) := ho2; have B2 : Hid (Below w.heap.size w w2) := bstep B1.out hb2; have G2 : Hid (Below w1.heap.size w1 w2) := hb2; clear ho2 hb2)
      | (go_at_call 8; (with_reducible refine (J2.out _ _ (Il.below F1.out G2.out)).mono ?_); rintro e w3 ⟨tv, rfl, ho3, hb3⟩; have O3 : Hid (w3.ownsRow w1.heap.size 3 1 wv q (ils ys q)) := own_below O2.out hb3; have B3 : Hid (Below w.heap.size w w3) := bstep B2.out hb3; have G3 : Hid (Below w1.heap.size w1 w3) := bstep G2.out hb3; clear ho3 hb3)
      | (go_at_call 9; (with_reducible refine (HSg.out _ _ (il_of_own O3.out)).mono ?_); rintro e w' ⟨rfl, hw⟩; obtain rfl := hw.symm)
      | (go_at_call 7; have Z := M1; refine (iWalsh_yes (m := 1) (il_two w3 1 2) gw_two (by omega) rfl).mono ?_; rintro e w5 ⟨xv, rfl, ho5, hb5⟩; have O5 : Hid (Il w5 xv 2 (two 3 (-1))) := (il_congr wlv_two).mp (il_of_own ho5); have B5 : Hid (Below w.heap.size w w5) := bstep (bstep B3.out (below_one w3 (.cells #[.int .i64 1, .int .i64 2] 3))) hb5; clear ho5 hb5)
      | (go_at_call 10; refine (eq_yes (Il.below O5.out (below_one w5 (.cells #[.int .i64 3, .int .i64 (-1)] 3))) (il_two w5 3 (-1)) (by omega)).mono ?_; rintro e w6 ⟨rfl, hb6⟩; have B6 : Hid (Below w.heap.size w w6) := bstep (bstep B5.out (below_one w5 (.cells #[.int .i64 3, .int .i64 (-1)] 3))) hb6; clear hb6))
        go_ret
        exact ⟨rfl, B6.out⟩
    · obtain ⟨N, ys, ok, _, hno, hN, j1, j2⟩ := iWalsh_any F1.out (by omega)
      have J2 : Hid (∀ W, Il W u q xs → Calls Try.prog 8 #[u] W fun e w' => Pst W w' e N ys ok) := j2
      obtain ⟨e1, e2⟩ := hno hg
      clear j2 hno
      subst e1 e2
      have HSg : Hid (∀ W v, Il W v 0 ys → Calls Try.prog 9 #[v] W fun e w' => e = .returned (.bool true) ∧ w' = W) := fun W v hv => by have := sSig_any hv (by omega); rw [decide_eq_true ⟨by omega, fun k hk => by omega⟩] at this; exact this
      obtain ⟨ao, cp, hue, _, _⟩ := F1.out
      subst hue
      clear hg
      go_wp2_with (first
      | (go_at_call 7; (fail_if_success have := M1); refine j1.mono ?_; rintro e w2 ⟨wv, rfl, ho2, hb2⟩; have M1 : Hid True := trivial; have O2 : Hid (w2.ownsRow w1.heap.size 3 1 wv 0 (ils ys 0)) := ho2; have B2 : Hid (Below w.heap.size w w2) := bstep B1.out hb2; have G2 : Hid (Below w1.heap.size w1 w2) := hb2; clear ho2 hb2)
      | (go_at_call 8; refine (J2.out _ (Il.below F1.out G2.out)).mono ?_; rintro e w3 ⟨tv, rfl, ho3, hb3⟩; have O3 : Hid (w3.ownsRow w1.heap.size 3 1 wv 0 (ils ys 0)) := own_below O2.out hb3; have B3 : Hid (Below w.heap.size w w3) := bstep B2.out hb3; have G3 : Hid (Below w1.heap.size w1 w3) := bstep G2.out hb3; clear ho3 hb3)
      | (go_at_call 9; refine (HSg.out _ _ (il_of_own O3.out)).mono ?_; rintro e w' ⟨rfl, hw⟩; obtain rfl := hw.symm)
      | (go_at_call 7; have Z := M1; refine (iWalsh_yes (m := 1) (il_two w3 1 2) gw_two (by omega) rfl).mono ?_; rintro e w5 ⟨xv, rfl, ho5, hb5⟩; have O5 : Hid (Il w5 xv 2 (two 3 (-1))) := (il_congr wlv_two).mp (il_of_own ho5); have B5 : Hid (Below w.heap.size w w5) := bstep (bstep B3.out (below_one w3 (.cells #[.int .i64 1, .int .i64 2] 3))) hb5; clear ho5 hb5)
      | (go_at_call 10; refine (eq_yes (Il.below O5.out (below_one w5 (.cells #[.int .i64 3, .int .i64 (-1)] 3))) (il_two w5 3 (-1)) (by omega)).mono ?_; rintro e w6 ⟨rfl, hb6⟩; have B6 : Hid (Below w.heap.size w w6) := bstep (bstep B5.out (below_one w5 (.cells #[.int .i64 3, .int .i64 (-1)] 3))) hb6; clear hb6))
      go_ret
      exact ⟨rfl, B6.out⟩
  · rw [decide_eq_true (show (1048576 : Int) < (n : Int) by omega)] at hz
    clear hr
    go_enter Try.func3, Try.ntmps3
    go_wp2_with (go_at_call 5; (with_reducible refine (hz _).mono ?_); rintro e w' ⟨rfl, hw⟩; obtain rfl := hw.symm)
    go_ret
    exact ⟨rfl, Below.refl _ _⟩
end Go.Proofs.Ytfmllgohmlocoaa
