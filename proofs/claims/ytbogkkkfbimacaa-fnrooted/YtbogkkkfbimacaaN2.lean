/- FnPowers: the walk. -/
import Derived.Test.YtbogkkkfbimacaaN1
import Derived.Test.YtbogkkkfbimacaaC1
import Derived.Test.YtbogkkkfbimacaaE1
namespace Go.Proofs.Ytbogkkkfbimacaa
open Go.RowKit

theorem all5 {f : Int → Int → Bool} (h : (five.all fun a => five.all fun b => f a b) = true) {x y : Int} (hx : -2 ≤ x ∧ x ≤ 2) (hy : -2 ≤ y ∧ y ≤ 2) : f x y = true :=
  List.all_eq_true.1 (List.all_eq_true.1 h x (mem_five hx)) y (mem_five hy)

theorem Vfk {x : Int} (h : -1000 ≤ x ∧ x ≤ 1000) : Vc (cn (fk x)) x := Vc.cn (fk_V x) (by omega)

/-- PowPair of a small pair. -/
theorem powV {x y : Int} (hx : -2 ≤ x ∧ x ≤ 2) (hy : -2 ≤ y ∧ y ≤ 2) (k : Nat) (hk : k ≤ 16) (w : World) : Calls Try.prog 18 #[Pv (fk x) (fk y), .int .i64 k] w fun e w' => ∃ u v, e = .returned (Pv u v) ∧ Vc (cn u) (ic x y k).1 ∧ Vc (cn v) (ic x y k).2 ∧ Below w.heap.size w w' := by
  refine (iPowP_any (fk x) (fk y) k (by omega) w).mono ?_
  rintro e w' ⟨u, v, rfl, he, hb⟩
  have hok := List.all_eq_true.1 (all5 ok_all hx hy) k (by simp; omega)
  obtain ⟨h1, h2⟩ := Vpow 5 k (some 4607182418800017408) (some 0) (cn (fk x)) (cn (fk y)) 1 0 x y ⟨_, rfl, ⟨false, by decide +kernel, rfl⟩, by decide⟩ ⟨_, rfl, ⟨false, by decide +kernel, rfl⟩, by decide⟩ (Vfk (by omega)) (Vfk (by omega)) hok
  rw [← he] at h1 h2
  exact ⟨u, v, rfl, h1, h2, hb⟩

theorem mulV {x y : Int} (hx : -2 ≤ x ∧ x ≤ 2) (hy : -2 ≤ y ∧ y ≤ 2) {m k u1 u2 v1 v2 p q : Nat} (hm : m < 9) (hk : k < 9) (a1 : Vc (cn u1) (ic x y m).1) (a2 : Vc (cn u2) (ic x y m).2) (b1 : Vc (cn v1) (ic x y k).1) (b2 : Vc (cn v2) (ic x y k).2)
    (ex : cn p = cre (cn u1) (cn u2) (cn v1) (cn v2)) (ey : cn q = cim (cn u1) (cn u2) (cn v1) (cn v2)) : Vc (cn p) (ic x y (m + k)).1 ∧ Vc (cn q) (ic x y (m + k)).2 := by
  have h := List.all_eq_true.1 (List.all_eq_true.1 (all5 mul_all hx hy) m (by simpa using hm)) k (by simpa using hk)
  simp only [Bool.and_eq_true, decide_eq_true_eq] at h
  obtain ⟨h1, h2⟩ := Vc.prod a1 a2 b1 b2 h.1
  rw [ex, ey, h.2]
  exact ⟨h1, h2⟩

theorem pow2V {x y : Int} {u v p : Nat} (h1 : Vc (cn u) x) (h2 : Vc (cn v) y) (hs : sml x y x y = true) (hp : cn p = cpw (cn u) (cn v)) : Vc (cn p) (x * x + y * y) := by
  unfold sml at hs
  simp only [Bool.and_eq_true, decide_eq_true_eq] at hs
  rw [hp]
  exact Vc.add (Vc.mul h1 h1 (by omega)) (Vc.mul h2 h2 (by omega)) (by omega)

theorem eqV {a b : Nat} {x : Int} (h1 : Vc (cn a) x) (h2 : Vc (cn b) x) : eqb a b = true := by
  obtain ⟨v1, s1⟩ := h1.of_cn
  obtain ⟨v2, s2⟩ := h2.of_cn
  have := V_eq v1 v2 s1 s2
  simpa using this

theorem norm_at {x y : Int} (hx : -2 ≤ x ∧ x ≤ 2) (hy : -2 ≤ y ∧ y ≤ 2) {k : Nat} (hk : k ≤ 16) : (ic x y k).1 * (ic x y k).1 + (ic x y k).2 * (ic x y k).2 = ipz (x * x + y * y) k ∧ sml (ic x y k).1 (ic x y k).2 (ic x y k).1 (ic x y k).2 = true ∧ (ipz (x * x + y * y) k).natAbs < 4503599627370496 := by
  have h := List.all_eq_true.1 (all5 norm_all hx hy) k (by simp; omega)
  simp only [Bool.and_eq_true, decide_eq_true_eq] at h
  exact ⟨h.1.1, h.1.2, h.2⟩

theorem V_one : Vc (cn 4607182418800017408) 1 := ⟨_, cn_one, ⟨false, by decide +kernel, rfl⟩, by decide⟩

theorem sml_all : (five.all fun a => five.all fun b => sml a b a b) = true := by decide +kernel

theorem cn_inv {b c : Nat} (h : cn b = some c) : b = c := by
  unfold cn at h
  split at h
  · cases h
  · exact Option.some.inj h

theorem i_three {u v : Nat} (h : (cn u, cn v) = cpw2 3 (some 4607182418800017408) (some 0) (cn 0) (cn 4607182418800017408)) : u = 9223372036854775808 ∧ v = 13830554455654793216 := by
  have e : cpw2 3 (some 4607182418800017408) (some 0) (cn 0) (cn 4607182418800017408) = (some 9223372036854775808, some 13830554455654793216) := by decide +kernel
  rw [e] at h
  exact ⟨cn_inv (congrArg Prod.fst h), cn_inv (congrArg Prod.snd h)⟩

theorem i_eq : (eqb 9223372036854775808 0 && eqb 13830554455654793216 13830554455654793216) = true := by decide +kernel

set_option maxHeartbeats 4000000 in
theorem walk_powers {w : World} {a : Option Addr} {n cap : Nat} (hr : Row w a n) (hn : n ≤ 9223372036854775807) : Calls Try.prog 4 #[.slice a n cap] w fun e w' => e = .returned (.bool true) ∧ Below w.heap.size w w' := by
  have hbg := fun W => big_any (w := W) a n cap hn
  by_cases h : n ≤ 1048576
  · rw [decide_eq_false (show ¬ (1048576 : Int) < n by omega)] at hbg
    have HR : Hid (Row w a n) := hr
    clear hr
    have hST := rStore
    have hM := rMul
    go_enter Try.func4, Try.ntmps4
    go_upto_region 6 with (first
      | (go_at_call 7; refine (hbg _).mono ?_; rintro e w' ⟨rfl, hw⟩; obtain rfl := hw.symm)
      | (go_at_call 16; refine (gauss_any HR.out h 0 (by omega)).mono ?_; rintro e w1 ⟨x, y, rfl, hx, hy, hb1⟩; have hB1 := bstep hb1 (below_one w1 (.cells #[.float .f64 (fk x), .float .f64 (fk y)] 26)); have f0 := Rb.new w1 (fk x) (fk y) 26 rfl)
      | (go_at_call 17; (fail_if_success have := hm); refine (at_any (HR.out.below hB1) h 2 (by omega)).mono ?_; rintro e w' ⟨u, rfl, lu, hw⟩; obtain rfl := hw.symm; obtain ⟨m, hm⟩ : ∃ m : Nat, (u : Int) % 9 = m := ⟨u % 9, by omega⟩)
      | (go_at_call 17; refine (at_any (HR.out.below hB1) h 3 (by omega)).mono ?_; rintro e w' ⟨v, rfl, lv, hw⟩; obtain rfl := hw.symm; obtain ⟨k, hk⟩ : ∃ k : Nat, (v : Int) % 9 = k := ⟨v % 9, by omega⟩)
      | (go_at_call 18; refine (powV hx hy (m + k) (by omega) _).mono ?_; rintro e w2 ⟨s1, s2, rfl, d1, d2, hb2⟩; have hB2 := bstep (bstep hB1 hb2) (below_one w2 (.cells #[.float .f64 s1, .float .f64 s2] 26)); have g0 := Rb.new w2 s1 s2 26 rfl; have f1 := (f0.call hb2).alloc (.cells #[.float .f64 s1, .float .f64 s2] 26)))
    clear hb2 f0
    generalize (w2.alloc (.cells #[.float .f64 s1, .float .f64 s2] 26)) = W at *
    generalize w2.heap.size = G2 at *
    generalize w1.heap.size = G1 at *
    have l0 : Below W.heap.size W W.drew := (Below.refl _ _).drew
    go_cut [7] from 10 (fun p wx => ∃ g p1 p2 : Nat, p = .pointer (some ⟨g, 0, none⟩) ∧ Rb wx g p1 p2 ∧ Vc (cn p1) (ic x y (m + k)).1 ∧ Vc (cn p2) (ic x y (m + k)).2 ∧ Below W.heap.size W wx)
    case first =>
      refine wp_region_any (by kernel_rfl) ?_
      change wpAny _ _ _ _ _ _ _ (World.drew _)
      refine wpI_any (I := fun X => Below W.heap.size W X) _ _ _ _ ?_
      refine wpI_take (i := 0) (v := ?_) rfl (by kernel_rfl) (by kernel_rfl) (by kernel_rfl) (fun _ _ _ h => h) ⟨by rfl, ?_⟩ ?_
      rotate_left
      · intro X hI; obtain ⟨c0, c1, _, _⟩ := f1.below hI f1.lt; go_simp; with_reducible rfl
      refine wpI_take (i := 1) (v := ?_) rfl (by kernel_rfl) (by kernel_rfl) (by kernel_rfl) (fun _ _ _ h => h) ⟨by rfl, ?_⟩ ?_
      rotate_left
      · intro X _; go_simp; with_reducible rfl
      refine wpI_take (i := 3) (v := ?_) rfl (by kernel_rfl) (by kernel_rfl) (by kernel_rfl) (fun _ _ _ h => h) ⟨by rfl, ?_⟩ ?_
      rotate_left
      · intro X hI; obtain ⟨c0, c1, _, _⟩ := f1.below hI f1.lt; go_simp; with_reducible rfl
      refine wpI_take (i := 4) (v := ?_) rfl (by kernel_rfl) (by kernel_rfl) (by kernel_rfl) (fun _ _ _ h => h) ⟨by rfl, ?_⟩ ?_
      rotate_left
      · intro X _; go_simp; with_reducible rfl
      refine wpI_two (i := 2) (j := 7) rfl rfl (by kernel_rfl) l0 (by rfl) (by rfl) ?_ ?_
      · intro K hK
        go_simp
        go_wp2_with (go_at_call 18; refine (powV hx hy m (by omega) _).mono ?_; rintro e x2 ⟨u1, u2, rfl, a1, a2, hb2⟩; have l1 := bstep l0 hb2)
        refine wpI_two (i := 5) (j := 7) rfl rfl (by kernel_rfl) l1 (by rfl) (by rfl) ?_ ?_
        · intro K hK
          go_simp
          go_wp2_with (go_at_call 18; refine (powV hx hy k (by omega) _).mono ?_; rintro e x5 ⟨v1, v2, rfl, b1, b2, hb5⟩; have l2 := bstep l1 hb5)
          refine wpI_two (i := 6) (j := 7) rfl rfl (by kernel_rfl) l2 (by rfl) (by rfl) ?_ ?_
          · intro K hK
            go_simp
            go_wp2_with (go_at_call 9; refine (iMul_any _ _ _ _ _).mono ?_; rintro e x6 ⟨x, y, rfl, ex, ey, hb6⟩; have l3 := bstep l2 hb6)
            refine wpI_only (i := 7) rfl (by kernel_rfl) l3 (by rfl) ?_
            intro K hK
            have n4 := Rb.new x6 0 0 26 (g := x6.heap.size) rfl
            have hg := l3.size
            have l4 := l3.alloc l3.size (.cells #[.float .f64 0, .float .f64 0] 26)
            go_simp
            refine hK _ _ ?_
            refine wpI_only (i := 8) rfl (by kernel_rfl) l4 (by rfl) ?_
            intro K hK
            have m5 := Rb.new x6 x y 26 (g := x6.heap.size) rfl
            have l5 := l3.alloc l3.size (.cells #[.float .f64 x, .float .f64 y] 26)
            obtain ⟨c0, c1, z0, z1⟩ := n4
            go_simp
            refine hK _ _ ?_
            refine wpI_done l5 (by kernel_rfl) ?_ _
            go_wp2
            go_meet
            obtain ⟨q1, q2⟩ := mulV hx hy (show m < 9 by omega) (show k < 9 by omega) a1 a2 b1 b2 ex ey
            exact ⟨x6.heap.size, _, _, rfl, m5, q1, q2, l5⟩
          · intro K hK
            have n3 := Rb.new x5 0 0 26 (g := x5.heap.size) rfl
            have hg := l2.size
            have l3 := l2.alloc l2.size (.cells #[.float .f64 0, .float .f64 0] 26)
            go_simp
            refine hK _ _ ?_
            refine wpI_only (i := 6) rfl (by kernel_rfl) l3 (by rfl) ?_
            intro K hK
            go_simp
            go_wp2_with (go_at_call 9; refine (iMul_any _ _ _ _ _).mono ?_; rintro e x6 ⟨x, y, rfl, ex, ey, hb6⟩; have l4 := bstep l3 hb6; have n4 := n3.call hb6)
            refine wpI_only (i := 8) rfl (by kernel_rfl) l4 (by rfl) ?_
            intro K hK
            have m5 := n4.put x y
            have l5 := (l4.setCell (p := ⟨x5.heap.size, 0, none⟩) hg (.float .f64 x)).setCell (p := ⟨x5.heap.size, 1, none⟩) hg (.float .f64 y)
            obtain ⟨c0, c1, z0, z1⟩ := n4
            go_simp
            refine hK _ _ ?_
            refine wpI_done l5 (by kernel_rfl) ?_ _
            go_wp2
            go_meet
            obtain ⟨q1, q2⟩ := mulV hx hy (show m < 9 by omega) (show k < 9 by omega) a1 a2 b1 b2 ex ey
            exact ⟨x5.heap.size, _, _, rfl, m5, q1, q2, l5⟩
        · intro K hK
          have n2 := Rb.new x2 0 0 26 (g := x2.heap.size) rfl
          have hg := l1.size
          have l2 := l1.alloc l1.size (.cells #[.float .f64 0, .float .f64 0] 26)
          go_simp
          refine hK _ _ ?_
          refine wpI_only (i := 5) rfl (by kernel_rfl) l2 (by rfl) ?_
          intro K hK
          go_simp
          go_wp2_with (go_at_call 18; refine (powV hx hy k (by omega) _).mono ?_; rintro e x5 ⟨v1, v2, rfl, b1, b2, hb5⟩; have l3 := bstep l2 hb5; have n3 := n2.call hb5)
          refine wpI_only (i := 6) rfl (by kernel_rfl) l3 (by rfl) ?_
          intro K hK
          go_simp
          go_wp2_with (go_at_call 9; refine (iMul_any _ _ _ _ _).mono ?_; rintro e x6 ⟨x, y, rfl, ex, ey, hb6⟩; have l4 := bstep l3 hb6; have n4 := n3.call hb6)
          refine wpI_only (i := 8) rfl (by kernel_rfl) l4 (by rfl) ?_
          intro K hK
          have m5 := n4.put x y
          have l5 := (l4.setCell (p := ⟨x2.heap.size, 0, none⟩) hg (.float .f64 x)).setCell (p := ⟨x2.heap.size, 1, none⟩) hg (.float .f64 y)
          obtain ⟨c0, c1, z0, z1⟩ := n4
          go_simp
          refine hK _ _ ?_
          refine wpI_done l5 (by kernel_rfl) ?_ _
          go_wp2
          go_meet
          obtain ⟨q1, q2⟩ := mulV hx hy (show m < 9 by omega) (show k < 9 by omega) a1 a2 b1 b2 ex ey
          exact ⟨x2.heap.size, _, _, rfl, m5, q1, q2, l5⟩
      · intro K hK
        have n1 := Rb.new W.drew 0 0 26 (g := W.heap.size) rfl
        have hg := l0.size
        have l1 := l0.alloc l0.size (.cells #[.float .f64 0, .float .f64 0] 26)
        go_simp
        refine hK _ _ ?_
        refine wpI_only (i := 2) rfl (by kernel_rfl) l1 (by rfl) ?_
        intro K hK
        go_simp
        go_wp2_with (go_at_call 18; refine (powV hx hy m (by omega) _).mono ?_; rintro e x2 ⟨u1, u2, rfl, a1, a2, hb2⟩; have l2 := bstep l1 hb2; have n2 := n1.call hb2)
        refine wpI_only (i := 5) rfl (by kernel_rfl) l2 (by rfl) ?_
        intro K hK
        go_simp
        go_wp2_with (go_at_call 18; refine (powV hx hy k (by omega) _).mono ?_; rintro e x5 ⟨v1, v2, rfl, b1, b2, hb5⟩; have l3 := bstep l2 hb5; have n3 := n2.call hb5)
        refine wpI_only (i := 6) rfl (by kernel_rfl) l3 (by rfl) ?_
        intro K hK
        go_simp
        go_wp2_with (go_at_call 9; refine (iMul_any _ _ _ _ _).mono ?_; rintro e x6 ⟨x, y, rfl, ex, ey, hb6⟩; have l4 := bstep l3 hb6; have n4 := n3.call hb6)
        refine wpI_only (i := 8) rfl (by kernel_rfl) l4 (by rfl) ?_
        intro K hK
        have m5 := n4.put x y
        have l5 := (l4.setCell (p := ⟨W.heap.size, 0, none⟩) hg (.float .f64 x)).setCell (p := ⟨W.heap.size, 1, none⟩) hg (.float .f64 y)
        obtain ⟨c0, c1, z0, z1⟩ := n4
        go_simp
        refine hK _ _ ?_
        refine wpI_done l5 (by kernel_rfl) ?_ _
        go_wp2
        go_meet
        obtain ⟨q1, q2⟩ := mulV hx hy (show m < 9 by omega) (show k < 9 by omega) a1 a2 b1 b2 ex ey
        exact ⟨W.heap.size, _, _, rfl, m5, q1, q2, l5⟩
    case rest =>
      obtain ⟨g, p1, p2, rfl, m1, c1, c2, k1⟩ := hcut
      have f2 := f1.call k1
      have g2 := g0.call k1
      have hB3 : Hid _ := bstep hB2 k1
      have D1 : Hid _ := And.intro d1 d2
      have C1 : Hid _ := And.intro c1 c2
      clear f1 g0 hB1 hB2 k1 l0 d1 d2 c1 c2
      obtain ⟨nn1, nn2, nn3⟩ := norm_at hx hy (show m + k ≤ 16 by omega)
      have NN : Hid _ := And.intro nn1 (And.intro nn2 nn3)
      clear nn1 nn2 nn3
      go_wp2
      go_loopw [8, 9] (fun z i wr => ∃ j Z : Nat, i = .int .i64 j ∧ z = .float .f64 Z ∧ j ≤ m + k ∧ Hid (Vc (cn Z) (ipz (x * x + y * y) j)) ∧ Hid (Below wc.heap.size wc wr)) (fun _ i _ => m + k - (intOf i).toNat)
      case atStart => exact ⟨0, _, rfl, rfl, by omega, V_one, Below.refl _ _⟩
      case round =>
        obtain ⟨j, Z, rfl, rfl, hj, hZ, hb⟩ := hrel
        by_cases h1 : j < m + k
        · obtain ⟨e0, e1, _, _⟩ := f2.call hb.out
          have hp := fun W => iPow_any (fk x) (fk y) W
          go_wp2_with (go_at_call 19; refine (hp _).mono ?_; rintro e w3 ⟨P, rfl, eP, hb3⟩; have EP : Hid _ := eP; clear eP)
          go_roundw
          case rel =>
            refine ⟨j + 1, _, by go_num, rfl, by omega, ?_, below_fwor (bstep hb.out hb3) _ _ _⟩
            show Vc _ _
            have hs : sml x y x y = true := all5 sml_all hx hy
            have h2 := pow2V (Vfk (x := x) (by omega)) (Vfk (x := y) (by omega)) hs EP.out
            rw [cn_fres]
            exact Vc.mul hZ.out h2 (by have := (norm_at hx hy (show j + 1 ≤ 16 by omega)).2.2; show (ipz _ (j + 1)).natAbs < _; omega)
          case measure => simp [intOf]; omega
        · obtain rfl : j = m + k := by omega
          obtain ⟨e0, e1, _, _⟩ := g2.call hb.out
          obtain ⟨q0, q1, _, _⟩ := m1.call hb.out
          have hE := fun W => iEq_any s1 s2 p1 p2 W
          rw [eqV D1.out.1 C1.out.1, eqV D1.out.2 C1.out.2] at hE
          have hp := fun W => iPow_any s1 s2 W
          have hI := fun W => iPowP_any 0 4607182418800017408 3 (by omega) W
          go_wp2_with (first
            | (go_at_call 14; (fail_if_success have := eP); refine (hE _).mono ?_; rintro e w3 ⟨rfl, hb3⟩; obtain ⟨e0, e1, _, _⟩ := (g2.call hb.out).call hb3)
            | (go_at_call 19; refine (hp _).mono ?_; rintro e w4 ⟨P, rfl, eP, hb4⟩; have hPZ : (FloatKind.f64.format.order P Z == some .eq) = true := eqV (by have := pow2V D1.out.1 D1.out.2 NN.out.2.1 eP; rw [NN.out.1] at this; exact this) hZ.out)
            | (go_at_call 18; refine (hI _).mono ?_; rintro e w5 ⟨u, v, rfl, euv, hb5⟩; obtain ⟨rfl, rfl⟩ := i_three euv)
            | (go_at_call 14; refine (iEq_any _ _ _ _ _).mono ?_; rintro e w6 ⟨rfl, hb6⟩; rw [i_eq]))
          go_ret
          exact ⟨rfl, bstep (bstep (bstep (bstep (bstep hB3.out hb.out) hb3) hb4) hb5) hb6⟩
  · rw [decide_eq_true (show (1048576 : Int) < n by omega)] at hbg
    clear hr
    go_enter Try.func4, Try.ntmps4
    go_wp2_with (go_at_call 7; refine (hbg _).mono ?_; rintro e w' ⟨rfl, hw⟩; obtain rfl := hw.symm)
    go_ret
    exact ⟨rfl, Below.refl _ _⟩
end Go.Proofs.Ytbogkkkfbimacaa
