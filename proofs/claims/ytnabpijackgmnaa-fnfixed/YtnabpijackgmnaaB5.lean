/- DotFix: the program's, the law's walk. -/
import Derived.Test.YtnabpijackgmnaaB4
namespace Go.Proofs.Ytnabpijackgmnaa
open Go.RowKit

theorem keepd {W w1 : World} (hb : Below W.heap.size W w1) {a : Addr} {v : Value} (h : W.cell? a = some v) : w1.cell? a = some v := (hb.cell (World.block_lt_of_cell? W _ h)).trans h

/-- Four boxes. -/
theorem box4 (w : World) (p q r s : Value) : Below w.heap.size w ((((w.alloc (.cells #[p] 32)).alloc (.cells #[q] 32)).alloc (.cells #[r] 3)).alloc (.cells #[s] 3)) ∧ ((((w.alloc (.cells #[p] 32)).alloc (.cells #[q] 32)).alloc (.cells #[r] 3)).alloc (.cells #[s] 3)).cell? ⟨w.heap.size, 0, none⟩ = some p ∧ ((((w.alloc (.cells #[p] 32)).alloc (.cells #[q] 32)).alloc (.cells #[r] 3)).alloc (.cells #[s] 3)).cell? ⟨w.heap.size + 1, 0, none⟩ = some q ∧ ((((w.alloc (.cells #[p] 32)).alloc (.cells #[q] 32)).alloc (.cells #[r] 3)).alloc (.cells #[s] 3)).cell? ⟨w.heap.size + 1 + 1, 0, none⟩ = some r ∧ ((((w.alloc (.cells #[p] 32)).alloc (.cells #[q] 32)).alloc (.cells #[r] 3)).alloc (.cells #[s] 3)).cell? ⟨w.heap.size + 1 + 1 + 1, 0, none⟩ = some s := by
  have b1 := below_one w (.cells #[p] 32)
  have b2 := below_one (w.alloc (.cells #[p] 32)) (.cells #[q] 32)
  have b3 := below_one ((w.alloc (.cells #[p] 32)).alloc (.cells #[q] 32)) (.cells #[r] 3)
  have b4 := below_one (((w.alloc (.cells #[p] 32)).alloc (.cells #[q] 32)).alloc (.cells #[r] 3)) (.cells #[s] 3)
  have n : ∀ (X : World) (v : Value) (t : TypeId), (X.alloc (.cells #[v] t)).cell? ⟨X.heap.size, 0, none⟩ = some v := fun X v t => by simp
  refine ⟨bstep (bstep (bstep b1 b2) b3) b4, keepd b4 (keepd b3 (keepd b2 (n w p 32))), keepd b4 (keepd b3 ?_), keepd b4 ?_, ?_⟩
  · simp
  · have := n ((w.alloc (.cells #[p] 32)).alloc (.cells #[q] 32)) r 3
    simpa using this
  · have := n (((w.alloc (.cells #[p] 32)).alloc (.cells #[q] 32)).alloc (.cells #[r] 3)) s 3
    simpa using this

theorem rStore (a : Addr) (P : Int) (m : Mode) (w : World) : (store a (Cv P) m).run Try.prog w = stored Try.prog w a (Cv P) m := run_store Try.prog w a _ m rfl

theorem one_cell (w : World) (v : Value) (t : TypeId) : (w.alloc (.cells #[v] t)).cell? ⟨w.heap.size, 0, none⟩ = some v := by simp

set_option maxHeartbeats 4000000 in
theorem iDot_any {w : World} {v u : Value} {n m : Nat} {xs ys : Nat → Int} {f b c : Int} {each : Bool} (hv : Il w v n xs) (hu : Il w u m ys) (hn : n ≤ 1048576) (hm : m ≤ 1048576) (R : Int)
    (hg : GD n m xs ys f b c → dfv n xs ys f b c each = R) (hb : ¬ GD n m xs ys f b c → 0 = R) :
    Calls Try.prog 16 #[v, u, .int .i64 f, .int .i64 b, .int .i64 c, .bool each] w fun e w' => e = .returned (.int .i64 R) ∧ Below w.heap.size w w' := by
  have HG : Hid (GD n m xs ys f b c → dfv n xs ys f b c each = R) := hg
  have HB : Hid (¬ GD n m xs ys f b c → 0 = R) := hb
  have FV : Hid (Il w v n xs) := hv
  have FU : Hid (Il w u m ys) := hu
  clear hg hb
  obtain ⟨ao, cap, rfl, hcap, hc⟩ := hv
  obtain ⟨bo, cap2, rfl, hcap2, hc2⟩ := hu
  have HC : Hid (0 < n → ∃ b off, ao = some ⟨b, off, none⟩ ∧ b < w.heap.size ∧ ∀ k, k < n → w.cell? ⟨b, off + k, none⟩ = some (.int .i64 (xs k))) := hc
  have HC2 : Hid (0 < m → ∃ b off, bo = some ⟨b, off, none⟩ ∧ b < w.heap.size ∧ ∀ k, k < m → w.cell? ⟨b, off + k, none⟩ = some (.int .i64 (ys k))) := hc2
  clear hc hc2
  have i1 := iFix_any f b c
  obtain ⟨hB, q0, q1, q2, q3⟩ := box4 w (.slice ao n cap) (.slice bo m cap2) (.int .i64 f) (.int .i64 c)
  have HBW : Hid _ := hB
  clear hB
  go_enter Try.func16, Try.ntmps16
  go_upto_region 1 with fail
  generalize (((w.alloc (.cells #[.slice ao n cap] 32)).alloc (.cells #[.slice bo m cap2] 32)).alloc (.cells #[.int .i64 f] 3)).alloc (.cells #[.int .i64 c] 3) = W at *
  generalize w.heap.size + 1 + 1 + 1 = g4 at *
  generalize w.heap.size + 1 + 1 = g3 at *
  generalize w.heap.size + 1 = g2 at *
  obtain ⟨g1, hg1⟩ : ∃ g1, w.heap.size = g1 := ⟨_, rfl⟩
  rw [hg1] at q0
  rw [hg1]
  have HG1 : Hid _ := hg1
  clear hg1
  by_cases hf1 : Fx f b c
  · rw [decide_eq_true hf1] at i1
    have HF : Hid (Fx f b c) := hf1
    have hbb := hf1.2.1
    clear hf1
    by_cases hnm : n = m
    · subst hnm
      by_cases h512 : n ≤ 512
      · have HP : Hid (1 ≤ hf b ∧ hf b ≤ 8388608) := half_bounds hbb
        have i2 := wordOf_any b hbb
        have CV : Hid (∀ W' v' xs', Il W' v' n xs' → Calls Try.prog 45 #[v', Cv (hf b)] W' fun e w' => e = .returned (.bool (allW (hf b) xs' n)) ∧ Below W'.heap.size W' w') := fun W' v' xs' h => words_any HP.out.1 h (by omega)
        have hST := rStore
        go_upto_region 4 with (first | (go_at_call 42; (with_reducible refine (i1 _).mono ?_); rintro e w' ⟨rfl, hw⟩; obtain rfl := hw.symm) | (go_at_call 43; (with_reducible refine (i2 _).mono ?_); rintro e w1 ⟨rfl, hb1⟩))
        clear hST
        have p0 := one_cell w1 (Cv (hf b)) 31
        have hb2 := below_one w1 (.cells #[Cv (hf b)] 31)
        replace q0 := keepd hb2 (keepd hb1 q0)
        replace q1 := keepd hb2 (keepd hb1 q1)
        replace q2 := keepd hb2 (keepd hb1 q2)
        replace q3 := keepd hb2 (keepd hb1 q3)
        have BX : Hid (Below w.heap.size w (w1.alloc (.cells #[Cv (hf b)] 31))) := bstep (bstep HBW.out hb1) hb2
        clear hb1 hb2
        generalize w1.alloc (.cells #[Cv (hf b)] 31) = X at *
        generalize w1.heap.size = g0 at *
        by_cases hx : ∀ k, k < n → Wrd (hf b) (xs k)
        · have j1 := CV.out X _ xs (Il.below FV.out BX.out)
          rw [allW_yes hx] at j1
          by_cases hy : ∀ k, k < n → Wrd (hf b) (ys k)
          · have CY : Hid (∀ W' v', Il W' v' n ys → Calls Try.prog 45 #[v', Cv (hf b)] W' fun e w' => e = .returned (.bool true) ∧ Below W'.heap.size W' w') := fun W' v' h => by rw [← allW_yes hy]; exact CV.out W' v' ys h
            have HE : Hid (dfv n xs ys f b c each = R) := HG.out ⟨HF.out, rfl, h512, hx, hy⟩
            have HX : Hid (∀ k, k < n → Wrd (hf b) (xs k)) := hx
            have HY : Hid (∀ k, k < n → Wrd (hf b) (ys k)) := hy
            have BP : Hid (∀ k, k ≤ n → -70368744177664 * (k : Int) ≤ ps xs ys k ∧ ps xs ys k ≤ 70368744177664 * (k : Int)) := ps_bounds HP.out.1 HP.out.2 hx hy
            have BE : Hid (∀ k, -8388608 ≤ es xs ys f b c k ∧ es xs ys f b c k ≤ 8388608) := es_bounds hbb
            clear hx hy HG HB CV i1 i2
            cases each
            · have HO : Hid (∀ W', Below w.heap.size w W' → W'.cell? ⟨g1, 0, none⟩ = some (.slice ao n cap) → W'.cell? ⟨g2, 0, none⟩ = some (.slice bo n cap2) →
                  Calls Try.prog 46 #[.int .i64 n, .int .i64 0, .func (.func 48) #[] #[.pointer (some ⟨g1, 0, none⟩), .pointer (some ⟨g2, 0, none⟩)]] W' fun e w' => e = .returned (.int .i64 (ps xs ys n)) ∧ Below W'.heap.size W' w') := by
                intro W' hW' a1 a2
                refine over40 h512 _ _ (ps xs ys) (fun k hk W2 hb2 => ?_)
                obtain ⟨b1, off1, e1, hlt1, hcell1⟩ := HC.out (by omega)
                obtain ⟨b2, off2, e2, hlt2, hcell2⟩ := HC2.out (by omega)
                subst e1 e2
                have hbp := BP.out k (by omega)
                exact step40 hk hk (keepd hb2 a1) (keepd hb2 a2) (keepd (bstep hW' hb2) (hcell1 k hk)) (keepd (bstep hW' hb2) (hcell2 k hk)) (word_mul HP.out.1 HP.out.2 (HX.out k hk) (HY.out k hk)) (by omega)
              go_upto_region 9 with (first | (go_at_call 45; (fail_if_success have := N1); refine j1.mono ?_; rintro e w3 ⟨rfl, hb3⟩; have N1 : Hid True := trivial; replace q0 := keepd hb3 q0; replace q1 := keepd hb3 q1; replace q2 := keepd hb3 q2; replace q3 := keepd hb3 q3; replace p0 := keepd hb3 p0; have BY3 : Hid (Below w.heap.size w w3) := bstep BX.out hb3; clear hb3) | (go_at_call 45; (fail_if_success have := N2); refine (CY.out _ _ (Il.below FU.out BY3.out)).mono ?_; rintro e w4 ⟨rfl, hb3⟩; have N2 : Hid True := trivial; replace q0 := keepd hb3 q0; replace q1 := keepd hb3 q1; replace q2 := keepd hb3 q2; replace q3 := keepd hb3 q3; replace p0 := keepd hb3 p0; have BY : Hid (Below w.heap.size w w4) := bstep BY3.out hb3; clear hb3) | (go_at_call 46; refine (HO.out _ BY.out q0 q1).mono ?_; rintro e w5 ⟨rfl, hb3⟩; replace q0 := keepd hb3 q0; replace q1 := keepd hb3 q1; replace q2 := keepd hb3 q2; replace q3 := keepd hb3 q3; replace p0 := keepd hb3 p0; have B5 : Hid (Below w4.heap.size w4 w5) := hb3; clear hb3))
              have ra : ∀ X, Below w5.heap.size w5 X → X.cell? ⟨g0, 0, none⟩ = some (Cv (hf b)) ∧ X.cell? ⟨g3, 0, none⟩ = some (.int .i64 f) ∧ X.cell? ⟨g4, 0, none⟩ = some (.int .i64 c) := fun X hX => ⟨keepd hX p0, keepd hX q2, keepd hX q3⟩
              have i4 := iShift_any (ps xs ys n) f c
              have i5 := clip_any (hf b) (shV (ps xs ys n) f c) HP.out.1
              unfold dfv at HE
              simp only [Bool.false_eq_true, if_false] at HE
              generalize clp (shV (ps xs ys n) f c) (hf b) = Z at i5 HE
              generalize shV (ps xs ys n) f c = Y at i4 i5
              have l0 : Below w5.heap.size w5 w5.drew := (Below.refl _ _).drew
              refine wp_region_any (by kernel_rfl) ?_
              change wpAny _ _ _ _ _ _ _ (World.drew _)
              refine wpI_any (I := fun X => Below w5.heap.size w5 X) _ _ _ _ ?_
              refine wpI_take (i := 0) (v := ?_) rfl (by kernel_rfl) (by kernel_rfl) (by kernel_rfl) (fun _ _ _ h => h) ⟨by rfl, ?_⟩ ?_
              rotate_left
              · intro X hI; obtain ⟨z0, z2, z3⟩ := ra X hI; go_simp; with_reducible rfl
              refine wpI_take (i := 1) (v := ?_) rfl (by kernel_rfl) (by kernel_rfl) (by kernel_rfl) (fun _ _ _ h => h) ⟨by rfl, ?_⟩ ?_
              rotate_left
              · intro X hI; go_simp; with_reducible rfl
              refine wpI_take (i := 2) (v := ?_) rfl (by kernel_rfl) (by kernel_rfl) (by kernel_rfl) (fun _ _ _ h => h) ⟨by rfl, ?_⟩ ?_
              rotate_left
              · intro X hI; obtain ⟨z0, z2, z3⟩ := ra X hI; go_simp; with_reducible rfl
              refine wpI_take (i := 3) (v := ?_) rfl (by kernel_rfl) (by kernel_rfl) (by kernel_rfl) (fun _ _ _ h => h) ⟨by rfl, ?_⟩ ?_
              rotate_left
              · intro X hI; obtain ⟨z0, z2, z3⟩ := ra X hI; go_simp; with_reducible rfl
              refine wpI_only (i := 4) rfl (by kernel_rfl) l0 (by rfl) ?_
              intro K hK
              go_simp
              go_wp2_with (go_at_call 13; (with_reducible refine (i4 _).mono ?_); rintro e w' ⟨rfl, hw⟩; obtain rfl := hw.symm)
              refine wpI_only (i := 5) rfl (by kernel_rfl) l0 (by rfl) ?_
              intro K hK
              go_simp
              go_wp2_with (go_at_call 44; (with_reducible refine (i5 _).mono ?_); rintro e x1 ⟨rfl, hb6⟩; have l1 := bstep l0 hb6)
              refine wpI_only (i := 6) rfl (by kernel_rfl) l1 (by rfl) ?_
              intro K hK
              go_simp
              refine hK _ _ ?_
              refine wpI_done l1 (by kernel_rfl) ?_ _
              go_wp2
              go_ret
              exact ⟨congrArg (fun z => Ending.returned (.int .i64 z)) HE.out, bstep (bstep BY.out B5.out) l1⟩
            · have HO : Hid (∀ W', Below w.heap.size w W' → W'.cell? ⟨g0, 0, none⟩ = some (Cv (hf b)) → W'.cell? ⟨g1, 0, none⟩ = some (.slice ao n cap) → W'.cell? ⟨g2, 0, none⟩ = some (.slice bo n cap2) → W'.cell? ⟨g3, 0, none⟩ = some (.int .i64 f) → W'.cell? ⟨g4, 0, none⟩ = some (.int .i64 c) →
                  Calls Try.prog 46 #[.int .i64 n, .int .i64 0, .func (.func 47) #[] #[.pointer (some ⟨g0, 0, none⟩), .pointer (some ⟨g1, 0, none⟩), .pointer (some ⟨g2, 0, none⟩), .pointer (some ⟨g3, 0, none⟩), .pointer (some ⟨g4, 0, none⟩)]] W' fun e w' => e = .returned (.int .i64 (es xs ys f b c n)) ∧ Below W'.heap.size W' w') := by
                intro W' hW' a0 a1 a2 a3 a4
                refine over39 h512 _ _ _ _ _ (es xs ys f b c) (fun k hk W2 hb2 => ?_)
                obtain ⟨b1, off1, e1, hlt1, hcell1⟩ := HC.out (by omega)
                obtain ⟨b2, off2, e2, hlt2, hcell2⟩ := HC2.out (by omega)
                subst e1 e2
                exact step39 hk hk (keepd hb2 a0) (keepd hb2 a1) (keepd hb2 a2) (keepd hb2 a3) (keepd hb2 a4) (keepd (bstep hW' hb2) (hcell1 k hk)) (keepd (bstep hW' hb2) (hcell2 k hk)) (word_mul HP.out.1 HP.out.2 (HX.out k hk) (HY.out k hk)) (BE.out k) HP.out.1 HP.out.2
              go_wp2_with (first | (go_at_call 45; (fail_if_success have := N1); refine j1.mono ?_; rintro e w3 ⟨rfl, hb3⟩; have N1 : Hid True := trivial; replace q0 := keepd hb3 q0; replace q1 := keepd hb3 q1; replace q2 := keepd hb3 q2; replace q3 := keepd hb3 q3; replace p0 := keepd hb3 p0; have BY3 : Hid (Below w.heap.size w w3) := bstep BX.out hb3; clear hb3) | (go_at_call 45; (fail_if_success have := N2); refine (CY.out _ _ (Il.below FU.out BY3.out)).mono ?_; rintro e w4 ⟨rfl, hb3⟩; have N2 : Hid True := trivial; replace q0 := keepd hb3 q0; replace q1 := keepd hb3 q1; replace q2 := keepd hb3 q2; replace q3 := keepd hb3 q3; replace p0 := keepd hb3 p0; have BY : Hid (Below w.heap.size w w4) := bstep BY3.out hb3; clear hb3) | (go_at_call 46; refine (HO.out _ BY.out p0 q0 q1 q2 q3).mono ?_; rintro e w5 ⟨rfl, hb5⟩))
              go_ret
              exact ⟨congrArg (fun z => Ending.returned (.int .i64 z)) HE.out, bstep BY.out hb5⟩
          · have CY : Hid (∀ W' v', Il W' v' n ys → Calls Try.prog 45 #[v', Cv (hf b)] W' fun e w' => e = .returned (.bool false) ∧ Below W'.heap.size W' w') := fun W' v' h => by rw [← allW_no hy]; exact CV.out W' v' ys h
            have E : Hid (0 = R) := HB.out (fun h => hy h.2.2.2.2)
            clear hx hy HG HB CV i1 i2
            go_wp2_with (first | (go_at_call 45; (fail_if_success have := N1); refine j1.mono ?_; rintro e w3 ⟨rfl, hb3⟩; have N1 : Hid True := trivial; replace q0 := keepd hb3 q0; replace q1 := keepd hb3 q1; replace q2 := keepd hb3 q2; replace q3 := keepd hb3 q3; replace p0 := keepd hb3 p0; have BY3 : Hid (Below w.heap.size w w3) := bstep BX.out hb3; clear hb3) | (go_at_call 45; (fail_if_success have := N2); refine (CY.out _ _ (Il.below FU.out BY3.out)).mono ?_; rintro e w4 ⟨rfl, hb3⟩; have N2 : Hid True := trivial; replace q0 := keepd hb3 q0; replace q1 := keepd hb3 q1; replace q2 := keepd hb3 q2; replace q3 := keepd hb3 q3; replace p0 := keepd hb3 p0; have BY : Hid (Below w.heap.size w w4) := bstep BY3.out hb3; clear hb3))
            go_ret
            exact ⟨congrArg (fun z => Ending.returned (.int .i64 z)) E.out, BY.out⟩
        · have j1 := CV.out X _ xs (Il.below FV.out BX.out)
          rw [allW_no hx] at j1
          have E : Hid (0 = R) := HB.out (fun h => hx h.2.2.2.1)
          clear hx HG HB CV i1 i2
          go_wp2_with (go_at_call 45; (fail_if_success have := N1); refine j1.mono ?_; rintro e w3 ⟨rfl, hb3⟩; have N1 : Hid True := trivial; replace q0 := keepd hb3 q0; replace q1 := keepd hb3 q1; replace q2 := keepd hb3 q2; replace q3 := keepd hb3 q3; replace p0 := keepd hb3 p0; have BY3 : Hid (Below w.heap.size w w3) := bstep BX.out hb3; clear hb3)
          go_ret
          exact ⟨congrArg (fun z => Ending.returned (.int .i64 z)) E.out, BY3.out⟩
      · have E : Hid (0 = R) := HB.out (fun h => h512 h.2.2.1)
        go_wp2_with (first | (go_at_call 42; (with_reducible refine (i1 _).mono ?_); rintro e w' ⟨rfl, hw⟩; obtain rfl := hw.symm))
        go_ret
        exact ⟨congrArg (fun z => Ending.returned (.int .i64 z)) E.out, HBW.out⟩
    · have E : Hid (0 = R) := HB.out (fun h => hnm h.2.1)
      go_wp2_with (first | (go_at_call 42; (with_reducible refine (i1 _).mono ?_); rintro e w' ⟨rfl, hw⟩; obtain rfl := hw.symm))
      go_ret
      exact ⟨congrArg (fun z => Ending.returned (.int .i64 z)) E.out, HBW.out⟩
  · rw [decide_eq_false hf1] at i1
    have E : Hid (0 = R) := HB.out (fun h => hf1 h.1)
    clear hf1
    go_wp2_with (first | (go_at_call 42; (with_reducible refine (i1 _).mono ?_); rintro e w' ⟨rfl, hw⟩; obtain rfl := hw.symm))
    go_ret
    exact ⟨congrArg (fun z => Ending.returned (.int .i64 z)) E.out, HBW.out⟩

end Go.Proofs.Ytnabpijackgmnaa
