/- FnShaped. -/
import Derived.Test.YtnabpijackgmnaaD8
import Derived.Test.YtnabpijackgmnaaC4
namespace Go.Proofs.Ytnabpijackgmnaa
open Go.RowKit

theorem abs_y (r A : Int) (h : (r < 0 ∧ A = -r ∧ A ≤ 9223372036854775807) ∨ (0 ≤ r ∧ A = r)) (w : World) : Calls Try.prog 14 #[.int .i64 r] w fun e w' => e = .returned (.int .i64 A) ∧ w' = w := by
  rcases h with ⟨h, rfl, h2⟩ | ⟨h, rfl⟩
  · go_enter Try.func14, Try.ntmps14
    go_wp2
    go_ret
    exact ⟨rfl, rfl⟩
  · go_enter Try.func14, Try.ntmps14
    go_wp2
    go_ret
    exact ⟨rfl, rfl⟩

set_option maxHeartbeats 2000000 in
theorem dnoise_x {w : World} {a : Option Addr} {len cap : Nat} (hr : Row w a len) (hl : len ≤ 1048576) :
    Calls Try.prog 20 #[.slice a len cap] w fun e w' => ∃ u n ys, ∃ b : Int, e = .returned (.tuple #[u, .int .i64 b]) ∧ n ≤ 513 ∧ Il w' u n ys ∧ Below w.heap.size w w' := by
  have HR : Hid (Row w a len) := hr
  clear hr
  obtain ⟨c, hcd⟩ : ∃ c, w.heap.size = c := ⟨_, rfl⟩
  have HN : Hid (Calls Try.prog 29 #[.slice a len cap] w fun e w' => e = .returned (.pointer (some ⟨c, 0, none⟩)) ∧ Cu w' c a len cap ∧ Below w.heap.size w w') := by have := new_x (cap := cap) HR.out (by omega); rw [← hcd]; exact this
  have P7 : ∀ W, Cu W c a len cap → Calls Try.prog 41 #[.pointer (some ⟨c, 0, none⟩), .slice (some ⟨W.heap.size, 0, none⟩) 7 7] (W.alloc (.cells #[.int .i64 1, .int .i64 2, .int .i64 5, .int .i64 12, .int .i64 20, .int .i64 0, .int .i64 21] 3)) fun e w' => ∃ x : Int, e = .returned (.int .i64 x) ∧ Cu w' c a len cap ∧ Keep c W w' := fun W hW => pick_lit [1, 2, 5, 12, 20, 0, 21] (by decide) (by decide) hW
  go_enter Try.func20, Try.ntmps20
  go_wp2_with (first
    | (go_at_call 29; refine HN.out.mono ?_; rintro e w1 ⟨rfl, hc, hb⟩; have HC1 : Hid (Cu w1 c a len cap) := hc; have B1 : Hid (Below w.heap.size w w1) := hb; clear hc hb)
    | (go_at_call 39; refine (size_x a len cap 40 hl).mono ?_; rintro e w' ⟨x, rfl, hx1, _, hx2, hw⟩; have hx3 := hx2 (by omega); obtain rfl := hw.symm; clear hx2)
    | (go_at_call 55; refine (dany_y HC1.out x (by omega)).mono ?_; rintro e w3 ⟨u3, n3, ys3, rfl, hn3, hil, hor, hc, hk⟩; have HI3 : Hid (Il w3 u3 n3 ys3) := hil; have OR3 : Hid (0 < n3 → ∃ g o, (∃ cp, u3 = .slice (some ⟨g, o, none⟩) n3 cp) ∧ g ≠ c) := hor; have HC3 : Hid (Cu w3 c a len cap) := hc; have K3 : Hid (Keep c w1 w3) := hk; clear hil hk hc hor)
    | (go_at_call 41; refine (P7 _ HC3.out).mono ?_; rintro e w4 ⟨x4, rfl, hc, hk⟩; have K4 : Hid (Keep c w3 w4) := hk; clear hc hk))
  go_ret2
  exact ⟨_, _, _, _, rfl, hn3, Il.keep HI3.out OR3.out K4.out, Below.keep B1.out (K3.out.trans K4.out) (Nat.le_of_eq hcd)⟩

theorem noise3 (W : World) (u : Value) (h : Il W u 3 (fun _ => 1)) : Calls Try.prog 21 #[u, .int .i64 1] W fun e w' => Pst W w' e 3 (tld (fun _ => 1) 1) true :=
  iNoise_any h (by omega) 3 _ true (fun _ => ⟨rfl, rfl, rfl⟩) (fun h' => absurd ⟨⟨by omega, fun k hk => ⟨by show (-1000000000 : Int) ≤ 1; omega, by show (1 : Int) ≤ 1000000000; omega⟩⟩, by omega, by omega⟩ h')

theorem il_three (w : World) (t : TypeId) : Il (w.alloc (.cells #[.int .i64 1, .int .i64 1, .int .i64 1] t)) (.slice (some ⟨w.heap.size, 0, none⟩) 3 3) 3 (fun _ => 1) := by
  refine ⟨_, _, rfl, Nat.le_refl _, fun _ => ⟨_, 0, rfl, by simp, fun k hk => ?_⟩⟩
  obtain rfl | rfl | rfl : k = 0 ∨ k = 1 ∨ k = 2 := by omega
  all_goals simp

set_option maxRecDepth 20000 in
set_option maxHeartbeats 4000000 in
theorem walk_shaped {w : World} {a : Option Addr} {n cap : Nat} (hr : Row w a n) (hn : n ≤ 9223372036854775807) : Calls Try.prog 6 #[.slice a n cap] w fun e w' => e = .returned (.bool true) ∧ Below w.heap.size w w' := by
  have hz := fun W => big_x (w := W) a n cap hn
  by_cases h : n ≤ 1048576
  · rw [decide_eq_false (show ¬ (1048576 : Int) < (n : Int) by omega)] at hz
    have hd := dnoise_x (cap := cap) hr h
    clear hr
    go_enter Try.func6, Try.ntmps6
    go_upto_region 4 with (first | (go_at_call 8; (with_reducible refine (hz _).mono ?_); rintro e w' ⟨rfl, hw⟩; obtain rfl := hw.symm) | (go_at_call 20; refine hd.mono ?_; rintro e w1 ⟨u1, m, xs, b, rfl, hm, hil, hb1⟩; have F1 : Hid (Il w1 u1 m xs) := hil; have B1 : Hid (Below w.heap.size w w1) := hb1; clear hb1 hil))
    have HT : Hid (∀ W : World, Calls Try.prog 21 #[.slice (some ⟨W.heap.size, 0, none⟩) 3 3, .int .i64 1] (W.alloc (.cells #[.int .i64 1, .int .i64 1, .int .i64 1] 3)) fun e w' => Pst (W.alloc (.cells #[.int .i64 1, .int .i64 1, .int .i64 1] 3)) w' e 3 (tld (fun _ => 1) 1) true) := fun W => noise3 _ _ (il_three W 3)
    have F1' := F1.out
    obtain ⟨ao, cp, rfl, hcp, hcell⟩ := F1'
    clear hcell hz hd
    by_cases hg : GN m xs b
    · have T1 : Hid (∀ W u, Il W u m xs → Calls Try.prog 21 #[u, .int .i64 b] W fun e w' => Pst W w' e m (tld xs b) true) := fun W u hu => iNoise_any hu (by omega) m _ true (fun _ => ⟨rfl, rfl, rfl⟩) (fun h' => absurd hg h')
      have T2 : Hid (∀ W u, Il W u m xs → Calls Try.prog 22 #[u, .int .i64 b] W fun e w' => Pst W w' e m (tld xs b) true) := fun W u hu => sNoise_any hu (by omega) m _ true (fun _ => ⟨rfl, rfl, rfl⟩) (fun h' => absurd hg h')
      have HL : Hid (∀ k, k ≤ m → -((2 : Int) ^ b.toNat) ≤ 2 * lft xs b k ∧ 2 * lft xs b k ≤ (2 : Int) ^ b.toNat) := lft_bounds hg.1.2 hg.2
      have HSg : Hid (Sig m xs) := hg.1
      have hbb := hg.2
      have hD := two20 hg.2
      clear hg
      go_wp2_with (first | (go_at_call 21; (fail_if_success have := M1); refine (T1.out _ _ F1.out).mono ?_; rintro e x1 ⟨r1, rfl, ho, hb⟩; have M1 : Hid True := trivial; have FO : Hid (Il x1 r1 m (tld xs b)) := il_of_own ho; have FL1 : Hid (Il x1 (.slice ao m cp) m xs) := Il.below F1.out hb; have BB1 : Hid (Below w.heap.size w x1) := bstep B1.out hb; obtain ⟨ao3, cp3, rfl, hcp3, hce3⟩ := il_of_own ho; clear ho hb hce3) | (go_at_call 22; refine (T2.out _ _ FL1.out).mono ?_; rintro e x2 ⟨r2, rfl, ho, hb⟩; have FL2 : Hid (Il x2 (.slice ao m cp) m xs) := Il.below FL1.out hb; have FO2 : Hid (Il x2 (.slice ao3 m cp3) m (tld xs b)) := Il.below FO.out hb; have BB2 : Hid (Below w.heap.size w x2) := bstep BB1.out hb; clear ho hb))
      go_loopw [9, 10] (fun sm i wr => ∃ k : Nat, i = .int .i64 k ∧ sm = .int .i64 (lft xs b k) ∧ k ≤ m ∧ Hid (Below x2.heap.size x2 wr)) (fun _ i _ => m - (intOf i).toNat)
      case atStart => exact ⟨0, rfl, rfl, by omega, Below.refl _ _⟩
      case round =>
        obtain ⟨k, rfl, rfl, hk, hrel⟩ := hrel
        by_cases h1 : k < m
        · obtain ⟨aoL, cpL, eL, _, hcL⟩ := FL2.out
          obtain ⟨aoO, cpO, eO, _, hcO⟩ := FO2.out
          injection eL with eL1 eL2 eL3
          injection eO with eO1 eO2 eO3
          subst eL1 eO1 eL3 eO3
          clear eL2 eO2
          obtain ⟨b1, off1, rfl, hlt1, hcell1⟩ := hcL (by omega)
          obtain ⟨b2, off2, rfl, hlt2, hcell2⟩ := hcO (by omega)
          have c1 : wr.cell? ⟨b1, off1 + k, none⟩ = some (.int .i64 (xs k)) := (hrel.out.cell (p := ⟨b1, off1 + k, none⟩) hlt1).trans (hcell1 k h1)
          have c2 : wr.cell? ⟨b2, off2 + k, none⟩ = some (.int .i64 (tld xs b k)) := (hrel.out.cell (p := ⟨b2, off2 + k, none⟩) hlt2).trans (hcell2 k h1)
          clear hcell1 hcell2 hcL hcO
          have r1 := HL.out k hk
          have r2 := HSg.out.2 k h1
          have r3 := HL.out (k + 1) (by omega)
          have e0 : xs k + lft xs b k - tld xs b k * (2 : Int) ^ b.toNat = lft xs b (k + 1) := rfl
          have e1 : lft xs b k + xs k - tld xs b k * (2 : Int) ^ b.toNat = lft xs b (k + 1) := by omega
          have hp : -9000000000000000000 ≤ tld xs b k * (2 : Int) ^ b.toNat ∧ tld xs b k * (2 : Int) ^ b.toNat ≤ 9000000000000000000 := by omega
          clear e0
          have HE : Hid (lft xs b (k + 1) = lft xs b (k + 1)) := rfl
          generalize hG : lft xs b (k + 1) = s1 at r3 e1
          have HG : Hid _ := hG
          clear hG HE
          by_cases hsg : s1 < 0
          · have i2 := abs_y s1 (-s1) (.inl ⟨hsg, rfl, by omega⟩)
            go_upto_region 12 with fail
            go_quiet (fail)
            go_wp2_with (go_at_call 14; (with_reducible refine (i2 _).mono ?_); rintro e w' ⟨rfl, hw⟩; obtain rfl := hw.symm)
            go_roundw
            case rel => first | exact ⟨k + 1, by go_num, by rw [HG.out], by omega, below_drewN hrel.out _⟩ | (repeat apply Exists.intro); exact ⟨⟨k + 1, by go_num, by rw [HG.out], by omega, below_drewN hrel.out _⟩, rfl⟩
            case measure => simp [intOf]; omega
          · have i2 := abs_y s1 s1 (.inr ⟨by omega, rfl⟩)
            go_upto_region 12 with fail
            go_quiet (fail)
            go_wp2_with (go_at_call 14; (with_reducible refine (i2 _).mono ?_); rintro e w' ⟨rfl, hw⟩; obtain rfl := hw.symm)
            go_roundw
            case rel => first | exact ⟨k + 1, by go_num, by rw [HG.out], by omega, below_drewN hrel.out _⟩ | (repeat apply Exists.intro); exact ⟨⟨k + 1, by go_num, by rw [HG.out], by omega, below_drewN hrel.out _⟩, rfl⟩
            case measure => simp [intOf]; omega
        · obtain rfl : k = m := by omega
          go_wp2_with (go_at_call 21; refine (HT.out _).mono ?_; rintro e x9 ⟨r9, rfl, ho, hb9⟩; obtain ⟨ao9, cp9, rfl, _, hce9⟩ := il_of_own ho; clear ho hce9)
          go_ret
          exact ⟨rfl, bstep (bstep (bstep BB2.out hrel.out) (below_one _ _)) hb9⟩
    · have T1 : Hid (∀ W u, Il W u m xs → Calls Try.prog 21 #[u, .int .i64 b] W fun e w' => Pst W w' e 0 (fun _ => 0) false) := fun W u hu => iNoise_any hu (by omega) 0 _ false (fun h' => absurd h' hg) (fun _ => ⟨rfl, rfl⟩)
      have T2 : Hid (∀ W u, Il W u m xs → Calls Try.prog 22 #[u, .int .i64 b] W fun e w' => Pst W w' e 0 (fun _ => 0) false) := fun W u hu => sNoise_any hu (by omega) 0 _ false (fun h' => absurd h' hg) (fun _ => ⟨rfl, rfl⟩)
      clear hg
      go_wp2_with (first | (go_at_call 21; (fail_if_success have := M1); refine (T1.out _ _ F1.out).mono ?_; rintro e x1 ⟨r1, rfl, ho, hb⟩; have M1 : Hid True := trivial; have FO : Hid (Il x1 r1 0 (fun _ => 0)) := il_of_own ho; have FL1 : Hid (Il x1 (.slice ao m cp) m xs) := Il.below F1.out hb; have BB1 : Hid (Below w.heap.size w x1) := bstep B1.out hb; obtain ⟨ao3, cp3, rfl, hcp3, hce3⟩ := il_of_own ho; clear ho hb hce3) | (go_at_call 22; refine (T2.out _ _ FL1.out).mono ?_; rintro e x2 ⟨r2, rfl, ho, hb⟩; have FL2 : Hid (Il x2 (.slice ao m cp) m xs) := Il.below FL1.out hb; have FO2 : Hid (Il x2 (.slice ao3 0 cp3) 0 (fun _ => 0)) := Il.below FO.out hb; have BB2 : Hid (Below w.heap.size w x2) := bstep BB1.out hb; clear ho hb))
      go_loopw [9, 10] (fun sm i wr => i = .int .i64 0 ∧ sm = .int .i64 0 ∧ wr = x2) (fun _ _ _ => 0)
      case atStart => exact ⟨rfl, rfl, rfl⟩
      case round =>
        obtain ⟨rfl, rfl, hw⟩ := hrel
        obtain rfl := hw.symm
        go_wp2_with (go_at_call 21; refine (HT.out _).mono ?_; rintro e x9 ⟨r9, rfl, ho, hb9⟩; obtain ⟨ao9, cp9, rfl, _, hce9⟩ := il_of_own ho; clear ho hce9)
        go_ret
        exact ⟨rfl, bstep (bstep BB2.out (below_one _ _)) hb9⟩
  · rw [decide_eq_true (show (1048576 : Int) < (n : Int) by omega)] at hz
    go_enter Try.func6, Try.ntmps6
    go_wp2_with (go_at_call 8; (with_reducible refine (hz _).mono ?_); rintro e w' ⟨rfl, hw⟩; obtain rfl := hw.symm)
    go_ret
    exact ⟨rfl, Below.refl _ _⟩
end Go.Proofs.Ytnabpijackgmnaa
