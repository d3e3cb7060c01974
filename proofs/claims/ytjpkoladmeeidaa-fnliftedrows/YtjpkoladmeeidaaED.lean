/- LiftedRows: the law's walk. -/
import Derived.Test.YtjpkoladmeeidaaEC
namespace Go.Proofs.Ytjpkoladmeeidaa
open Go.RowKit

set_option maxHeartbeats 4000000 in
theorem dlift2_x {w : World} {a : Option Addr} {len cap : Nat} (hr : Row w a len) (hl : len ≤ 1048576) :
    Calls Try.prog 5 #[.slice a len cap] w fun e w' => ∃ (k : Int) (u : Value), e = .returned (.tuple #[.int .i64 k, u]) ∧ Hid ((∃ n ms X, n ≤ 6 ∧ (∀ k, ms k ≤ 8) ∧ Ipp w' u n ms X) ∧ Below w.heap.size w w') := by
  have HR : Hid (Row w a len) := hr
  clear hr
  obtain ⟨c, hcd⟩ : ∃ c, w.heap.size = c := ⟨_, rfl⟩
  have HN : Hid (Calls Try.prog 11 #[.slice a len cap] w fun e w' => e = .returned (.pointer (some ⟨c, 0, none⟩)) ∧ Cu w' c a len cap ∧ Below w.heap.size w w') := by have := new_x (cap := cap) HR.out (by omega); rw [← hcd]; exact this
  have HCD : Hid (w.heap.size ≤ c) := Nat.le_of_eq hcd
  clear hcd
  go_enter Try.func5, Try.ntmps5
  go_wp2_with (first
    | (go_at_call 11; refine HN.out.mono ?_; rintro e w1 ⟨rfl, hc, hb⟩; have HC1 : Hid (Cu w1 c a len cap) := hc; have B1 : Hid (Below w.heap.size w w1) := hb; clear hc hb)
    | (go_at_call 12; refine (below_x HC1.out 40).mono ?_; rintro e w2 ⟨k0, hk0, _, hk1, rfl, hc, hk⟩; have hk2 := hk1 (by omega); have HC2 : Hid (Cu w2 c a len cap) := hc; have K2 : Hid (Keep c w1 w2) := hk; clear hc hk hk1)
    | (go_at_call 13; refine (drows_x HC2.out).mono ?_; rintro e w3 ⟨v, n, ms, X, rfl, hn, hms, hI, hc, hk⟩; have F3 : Hid (∃ n ms X, n ≤ 6 ∧ (∀ k, ms k ≤ 8) ∧ Ipp w3 v n ms X) := ⟨n, ms, X, hn, hms, hI⟩; have B3 : Hid (Below w.heap.size w w3) := Below.keep B1.out (K2.out.trans hk) HCD.out; clear hc hk hI hms hn))
  go_ret2
  exact ⟨_, _, rfl, F3.out, B3.out⟩

/-- One row of two numbers, typed out. -/
def two (x y : Int) : Nat → Nat → Int := fun _ j => if j = 0 then x else y

theorem two_ipp (W : World) (x y : Int) : Ipp ((W.alloc (.cells #[.int .i64 x, .int .i64 y] 3)).alloc (.cells #[.slice (some ⟨W.heap.size, 0, none⟩) 2 2] 29)) (.slice (some ⟨W.heap.size + 1, 0, none⟩) 1 1) 1 (fun _ => 2) (two x y) := by
  refine ⟨_, 1, rfl, Nat.le_refl _, fun _ => ⟨W.heap.size + 1, 0, fun _ => .slice (some ⟨W.heap.size, 0, none⟩) 2 2, rfl, by simp, fun k hk => ?_⟩⟩
  obtain rfl : k = 0 := by omega
  refine ⟨by simp, ?_⟩
  have hI : Il (W.alloc (.cells #[.int .i64 x, .int .i64 y] 3)) (.slice (some ⟨W.heap.size, 0, none⟩) 2 2) 2 (two x y 0) := by
    refine ⟨_, 2, rfl, Nat.le_refl _, fun _ => ⟨W.heap.size, 0, rfl, by simp, fun k hk => ?_⟩⟩
    have : k = 0 ∨ k = 1 := by omega
    rcases this with rfl | rfl
    · simp [two]
    · simp [two]
  exact hI.below (below_one _ _)

theorem two_pln : Pln 1000000000 1 (fun _ => 2) (two 1 3) := ⟨by decide, fun k _ => ⟨rfl, (show 2 ≤ 64 by decide), fun j hj => by
  unfold two
  split <;> decide⟩⟩

theorem two_same : ∀ k, k < 1 → ∀ j, j < (fun _ : Nat => 2) k → Z2 1 1 2 (two 1 3) k j = two 2 2 k j := by
  intro k hk j hj
  obtain rfl : k = 0 := by omega
  have hj2 : j < 2 := hj
  have : j = 0 ∨ j = 1 := by omega
  rcases this with rfl | rfl
  · rfl
  · rfl

set_option maxRecDepth 20000 in
set_option maxHeartbeats 8000000 in
theorem walk_rows {w : World} {a : Option Addr} {n cap : Nat} (hr : Row w a n) (hn : n ≤ 9223372036854775807) : Calls Try.prog 3 #[.slice a n cap] w fun e w' => e = .returned (.bool true) ∧ Below w.heap.size w w' := by
  have hz := fun W => big_x (w := W) a n cap hn
  by_cases h : n ≤ 1048576
  · rw [decide_eq_false (show ¬ (1048576 : Int) < (n : Int) by omega)] at hz
    have hd := dlift2_x (cap := cap) hr h
    clear hr
    go_enter Try.func3, Try.ntmps3
    go_upto_region 4 with (first | (go_at_call 4; (with_reducible refine (hz _).mono ?_); rintro e w' ⟨rfl, hw⟩; obtain rfl := hw.symm) | (go_at_call 5; refine hd.mono ?_; rintro e w1 ⟨kind, v, rfl, hF⟩; have HF : Hid ((∃ n ms X, n ≤ 6 ∧ (∀ k, ms k ≤ 8) ∧ Ipp w1 v n ms X) ∧ Below w.heap.size w w1) := hF.out; clear hF))
    clear hd hz
    obtain ⟨⟨N, ms, X, hN, hms, hI⟩, hB1⟩ := HF.out
    have FV : Hid (Ipp w1 v N ms X) := hI
    have B1 : Hid (Below w.heap.size w w1) := hB1
    have HMS : Hid (∀ k, k < N → ms k ≤ 1048576) := fun k _ => Nat.le_trans (hms k) (by omega)
    have hm0 := hms 0
    clear HF hI hB1 hms
    by_cases hg : Knd kind ∧ Pln 1000000000 N ms X
    · obtain ⟨m, hm64, hm⟩ : ∃ m, m ≤ 64 ∧ ∀ k, k < N → ms k = m := ⟨ms 0, by omega, fun k hk => (hg.2.2 k hk).1⟩
      have i6 := iL2_good hg.1 FV.out hg.2 hm hm64
      have j7 : Hid (∀ W, Below w1.heap.size w1 W → Calls Try.prog 7 #[.int .i64 kind, v] W fun e w' => PsI W w' e N m (Z2 kind N m X) true) := fun W hW => sL2_good hg.1 (FV.out.below hW) hg.2 hm hm64
      have FC : Hid (Ipp w1 v N (fun _ => m) X) := FV.out.cast hm
      have hk : Knd kind := hg.1
      have HK : Hid (Knd kind) := hk
      clear hg hk hm
      by_cases hg2 : Pln 8000000000 N (fun _ => m) (Z2 kind N m X)
      · have HG2 : Hid (Pln 8000000000 N (fun _ => m) (Z2 kind N m X)) := hg2
        clear hg2
        go_wp2_with (first
          | (go_at_call 6; (with_reducible refine i6.mono ?_); rintro e w2 ⟨x, rfl, ho, hb⟩; have O2 : Hid (OPI w2 w1.heap.size w2.heap.size x N (fun _ => m) (Z2 kind N m X)) := ho; have D2 : Hid (Below w1.heap.size w1 w2) := hb; have i7 := j7.out w2 hb; clear ho hb)
          | (go_at_call 7; (with_reducible refine i7.mono ?_); rintro e w3 ⟨y0, rfl, _, hb⟩; have F3 : Hid (Ipp w3 x N (fun _ => m) (Z2 kind N m X)) := (OPI.ipp O2.out).below hb; have D3 : Hid (Below w1.heap.size w1 w3) := bstep D2.out hb; have i9 := iU2_good HK.out F3.out HG2.out (fun _ _ => rfl) hm64; clear hb)
          | (go_at_call 9; (with_reducible refine i9.mono ?_); rintro e w4 ⟨y, rfl, ho, hb⟩; have F4 : Hid (Ipp w4 y N (fun _ => m) (U2 kind N m (Z2 kind N m X))) := OPI.ipp ho; have E4 : Hid (Ipp w4 x N (fun _ => m) (Z2 kind N m X)) := Ipp.below F3.out hb; have D4 : Hid (Below w1.heap.size w1 w4) := bstep D3.out hb; have i10 := sU2_good HK.out E4.out HG2.out (fun _ _ => rfl) hm64; clear ho hb)
          | (go_at_call 10; (with_reducible refine i10.mono ?_); rintro e w5 ⟨y1, rfl, _, hb⟩; have D5 : Hid (Below w1.heap.size w1 w5) := bstep D4.out hb; have i8 := sameR_yes (F4.out.below hb) (FC.out.below D5.out) (fun i hi j hj => U2_Z2 kind N m X hi hj) (by omega) (fun _ _ => (show m ≤ 1048576 by omega)); clear hb)
          | (go_at_call 8; (with_reducible refine i8.mono ?_); rintro e w6 ⟨rfl, hb⟩; have D6 : Hid (Below w1.heap.size w1 w6) := bstep D5.out hb; clear hb))
        go_ret
        exact ⟨rfl, bstep B1.out D6.out⟩
      · have HG2 : Hid (¬ (Knd kind ∧ Pln 8000000000 N (fun _ => m) (Z2 kind N m X))) := fun h => hg2 h.2
        clear hg2
        go_wp2_with (first
          | (go_at_call 6; (with_reducible refine i6.mono ?_); rintro e w2 ⟨x, rfl, ho, hb⟩; have O2 : Hid (OPI w2 w1.heap.size w2.heap.size x N (fun _ => m) (Z2 kind N m X)) := ho; have D2 : Hid (Below w1.heap.size w1 w2) := hb; have i7 := j7.out w2 hb; clear ho hb)
          | (go_at_call 7; (with_reducible refine i7.mono ?_); rintro e w3 ⟨y0, rfl, _, hb⟩; have F3 : Hid (Ipp w3 x N (fun _ => m) (Z2 kind N m X)) := (OPI.ipp O2.out).below hb; have D3 : Hid (Below w1.heap.size w1 w3) := bstep D2.out hb; have i9 := iU2_bad F3.out (by omega) (fun _ _ => (show m ≤ 1048576 by omega)) HG2.out (fun _ _ => 0); clear hb)
          | (go_at_call 9; (with_reducible refine i9.mono ?_); rintro e w4 ⟨y, rfl, ho, hb⟩; have E4 : Hid (Ipp w4 x N (fun _ => m) (Z2 kind N m X)) := Ipp.below F3.out hb; have D4 : Hid (Below w1.heap.size w1 w4) := bstep D3.out hb; have i10 := sU2_bad E4.out (by omega) (fun _ _ => (show m ≤ 1048576 by omega)) HG2.out (fun _ _ => 0); clear ho hb)
          | (go_at_call 10; (with_reducible refine i10.mono ?_); rintro e w5 ⟨y1, rfl, _, hb⟩; have D5 : Hid (Below w1.heap.size w1 w5) := bstep D4.out hb; clear hb))
        go_ret
        exact ⟨rfl, bstep B1.out D5.out⟩
    · have i6 := iL2_bad FV.out (by omega) HMS.out hg (fun _ _ => 0)
      have j7 : Hid (∀ W, Below w1.heap.size w1 W → Calls Try.prog 7 #[.int .i64 kind, v] W fun e w' => PsI W w' e 0 0 (fun _ _ => 0) false) := fun W hW => sL2_bad (FV.out.below hW) (by omega) HMS.out hg (fun _ _ => 0)
      clear hg
      go_wp2_with (first
          | (go_at_call 6; (fail_if_success have := M6); (with_reducible refine i6.mono ?_); rintro e w2 ⟨x, rfl, _, hb⟩; have M6 : Hid True := trivial; have D2 : Hid (Below w1.heap.size w1 w2) := hb; have i7 := j7.out w2 hb; clear hb)
          | (go_at_call 7; (with_reducible refine i7.mono ?_); rintro e w3 ⟨y0, rfl, _, hb⟩; have D3 : Hid (Below w1.heap.size w1 w3) := bstep D2.out hb; have B3 : Hid (Below w3.heap.size w3 ((w3.alloc (.cells #[.int .i64 1, .int .i64 3] 3)).alloc (.cells #[.slice (some ⟨w3.heap.size, 0, none⟩) 2 2] 29))) := bstep (below_one _ _) (below_one _ _); have i6b := iL2_good (kind := 1) (show Knd 1 by decide) (two_ipp w3 1 3) two_pln (fun _ _ => rfl) (by decide); clear hb)
          | (go_at_call 6; have Z0 := M6; refine i6b.mono ?_; rintro e w4 ⟨y, rfl, ho, hb⟩; have D4 : Hid (Below w1.heap.size w1 w4) := bstep D3.out (bstep B3.out hb); have F4 : Hid (Ipp w4 y 1 (fun _ => 2) (Z2 1 1 2 (two 1 3))) := OPI.ipp ho; have B5 : Hid (Below w4.heap.size w4 ((w4.alloc (.cells #[.int .i64 2, .int .i64 2] 3)).alloc (.cells #[.slice (some ⟨w4.heap.size, 0, none⟩) 2 2] 29))) := bstep (below_one _ _) (below_one _ _); have i8 := sameR_yes (F4.out.below B5.out) (two_ipp w4 2 2) two_same (by omega) (fun _ _ => (show 2 ≤ 1048576 by omega)); clear ho hb)
          | (go_at_call 8; refine i8.mono ?_; rintro e w6 ⟨rfl, hb⟩; have D6 : Hid (Below w1.heap.size w1 w6) := bstep D4.out (bstep B5.out hb); clear hb))
      go_ret
      exact ⟨rfl, bstep B1.out D6.out⟩
  · rw [decide_eq_true (show (1048576 : Int) < (n : Int) by omega)] at hz
    clear hr
    go_enter Try.func3, Try.ntmps3
    go_wp2_with (first | (go_at_call 4; (with_reducible refine (hz _).mono ?_); rintro e w' ⟨rfl, hw⟩; obtain rfl := hw.symm))
    go_ret
    exact ⟨rfl, Below.refl _ _⟩
end Go.Proofs.Ytjpkoladmeeidaa
