/- DotFix: what it answers, the model's. -/
import Derived.Test.YtnabpijackgmnaaA5
namespace Go.Proofs.Ytnabpijackgmnaa
open Go.RowKit

/-- Clipped at each step. -/
def es (xs ys : Nat → Int) (f b c : Int) : Nat → Int
  | 0 => 0
  | k + 1 => clp (es xs ys f b c k + clp (shV (xs k * ys k) f c) (hf b)) (hf b)

/-- The sum of the products. -/
def ps (xs ys : Nat → Int) : Nat → Int
  | 0 => 0
  | k + 1 => ps xs ys k + xs k * ys k

/-- Good for DotFix. -/
abbrev GD (n m : Nat) (xs ys : Nat → Int) (f b c : Int) : Prop := Fx f b c ∧ n = m ∧ n ≤ 512 ∧ (∀ k, k < n → Wrd (hf b) (xs k)) ∧ (∀ k, k < n → Wrd (hf b) (ys k))

/-- What DotFix answers where all is good. -/
def dfv (n : Nat) (xs ys : Nat → Int) (f b c : Int) (each : Bool) : Int := if each = true then es xs ys f b c n else clp (shV (ps xs ys n) f c) (hf b)

theorem clp_bounds {x P : Int} (hP : 1 ≤ P) : -P ≤ clp x P ∧ clp x P ≤ P - 1 := by
  unfold clp
  split
  · omega
  · split <;> omega

theorem clp_word {x b : Int} (hb : 1 ≤ b ∧ b ≤ 24) : -8388608 ≤ clp x (hf b) ∧ clp x (hf b) ≤ 8388608 := by
  have h : 1 ≤ hf b ∧ hf b ≤ 8388608 := half_bounds hb
  have := clp_bounds (x := x) h.1
  omega

theorem es_bounds {xs ys : Nat → Int} {f b c : Int} (hb : 1 ≤ b ∧ b ≤ 24) : ∀ k, -8388608 ≤ es xs ys f b c k ∧ es xs ys f b c k ≤ 8388608
  | 0 => by simp only [es]; omega
  | k + 1 => by
    exact clp_word hb

theorem ps_bounds {xs ys : Nat → Int} {n : Nat} {P : Int} (hP : 1 ≤ P) (hP2 : P ≤ 8388608) (hx : ∀ k, k < n → Wrd P (xs k)) (hy : ∀ k, k < n → Wrd P (ys k)) : ∀ k, k ≤ n → -70368744177664 * (k : Int) ≤ ps xs ys k ∧ ps xs ys k ≤ 70368744177664 * (k : Int)
  | 0, _ => by simp only [ps]; omega
  | k + 1, hk => by
    have h1 := ps_bounds hP hP2 hx hy k (by omega)
    have h2 := word_mul hP hP2 (hx k (by omega)) (hy k (by omega))
    simp only [ps]
    omega

set_option maxHeartbeats 2000000 in
theorem sDot_any {w : World} {v u : Value} {n m : Nat} {xs ys : Nat → Int} {f b c : Int} {each : Bool} (hv : Il w v n xs) (hu : Il w u m ys) (hn : n ≤ 1048576) (hm : m ≤ 1048576) (R : Int)
    (hg : GD n m xs ys f b c → dfv n xs ys f b c each = R) (hb : ¬ GD n m xs ys f b c → 0 = R) :
    Calls Try.prog 17 #[v, u, .int .i64 f, .int .i64 b, .int .i64 c, .bool each] w fun e w' => e = .returned (.int .i64 R) ∧ Below w.heap.size w w' := by
  have HG : Hid (GD n m xs ys f b c → dfv n xs ys f b c each = R) := hg
  have HB : Hid (¬ GD n m xs ys f b c → 0 = R) := hb
  clear hg hb
  obtain ⟨ao, cap, rfl, hcap, hc⟩ := hv
  obtain ⟨bo, cap2, rfl, hcap2, hc2⟩ := hu
  have HC : Hid (0 < n → ∃ b off, ao = some ⟨b, off, none⟩ ∧ b < w.heap.size ∧ ∀ k, k < n → w.cell? ⟨b, off + k, none⟩ = some (.int .i64 (xs k))) := hc
  have HC2 : Hid (0 < m → ∃ b off, bo = some ⟨b, off, none⟩ ∧ b < w.heap.size ∧ ∀ k, k < m → w.cell? ⟨b, off + k, none⟩ = some (.int .i64 (ys k))) := hc2
  clear hc hc2
  have i1 := sFix_any f b c
  by_cases hf1 : Fx f b c
  · rw [decide_eq_true hf1] at i1
    have HF : Hid (Fx f b c) := hf1
    have hbb := hf1.2.1
    clear hf1
    by_cases hnm : n = m
    · subst hnm
      by_cases h512 : n ≤ 512
      · have HW : Hid (∀ x, ∀ W, Calls Try.prog 50 #[.int .i64 x, .int .i64 b] W fun e w' => e = .returned (.bool (decide (Wrd (hf b) x))) ∧ w' = W) := fun x => sWord_any x b hbb
        have hp := half_bounds hbb
        have HP : Hid (1 ≤ (2 : Int) ^ (b.toNat - 1) ∧ (2 : Int) ^ (b.toNat - 1) ≤ 8388608) := hp
        clear hp
        go_enter Try.func17, Try.ntmps17
        go_wp2_with (first | (go_at_call 49; (with_reducible refine (i1 _).mono ?_); rintro e w' ⟨rfl, hw⟩; obtain rfl := hw.symm))
        go_loopw [14] (fun i wr => ∃ k : Nat, i = .int .i64 k ∧ k ≤ n ∧ wr = w ∧ Hid (∀ j, j < k → Wrd (hf b) (xs j) ∧ Wrd (hf b) (ys j))) (fun i _ => n - (intOf i).toNat)
        case atStart => exact ⟨0, rfl, by omega, rfl, fun j hj => by omega⟩
        case round =>
          obtain ⟨k, rfl, hk, hwr, hal⟩ := hrel
          obtain rfl := hwr.symm
          by_cases h1 : k < n
          · obtain ⟨b1, off1, rfl, hlt1, hcell1⟩ := HC.out (by omega)
            obtain ⟨b2, off2, rfl, hlt2, hcell2⟩ := HC2.out (by omega)
            have c1 := hcell1 k h1
            have c2 := hcell2 k h1
            clear hcell1 hcell2
            have i2 := HW.out (xs k)
            have i3 := HW.out (ys k)
            by_cases hx : Wrd (hf b) (xs k)
            · have HX : Hid (Wrd (hf b) (xs k)) := hx
              rw [decide_eq_true hx] at i2
              clear hx
              by_cases hy : Wrd (hf b) (ys k)
              · have HY : Hid (Wrd (hf b) (ys k)) := hy
                rw [decide_eq_true hy] at i3
                clear hy
                go_wp2_with (first | (go_at_call 50; (with_reducible refine (i2 _).mono ?_); rintro e w' ⟨rfl, hw⟩; obtain rfl := hw.symm) | (go_at_call 50; (with_reducible refine (i3 _).mono ?_); rintro e w' ⟨rfl, hw⟩; obtain rfl := hw.symm))
                go_roundw
                case rel =>
                  refine ⟨k + 1, by go_num, by omega, by trivial, fun j hj => ?_⟩
                  by_cases hjk : j = k
                  · subst hjk; exact ⟨HX.out, HY.out⟩
                  · exact hal.out j (by omega)
                case measure => simp [intOf]; omega
              · have HY : Hid (¬ Wrd (hf b) (ys k)) := hy
                rw [decide_eq_false hy] at i3
                clear hy
                go_wp2_with (first | (go_at_call 50; (with_reducible refine (i2 _).mono ?_); rintro e w' ⟨rfl, hw⟩; obtain rfl := hw.symm) | (go_at_call 50; (with_reducible refine (i3 _).mono ?_); rintro e w' ⟨rfl, hw⟩; obtain rfl := hw.symm))
                go_ret
                exact ⟨congrArg (fun z => Ending.returned (.int .i64 z)) (HB.out (fun h => HY.out (h.2.2.2.2 k h1))), Below.refl _ _⟩
            · have HX : Hid (¬ Wrd (hf b) (xs k)) := hx
              rw [decide_eq_false hx] at i2
              clear hx
              go_wp2_with (first | (go_at_call 50; (with_reducible refine (i2 _).mono ?_); rintro e w' ⟨rfl, hw⟩; obtain rfl := hw.symm) | (go_at_call 50; (with_reducible refine (i3 _).mono ?_); rintro e w' ⟨rfl, hw⟩; obtain rfl := hw.symm))
              go_ret
              exact ⟨congrArg (fun z => Ending.returned (.int .i64 z)) (HB.out (fun h => HX.out (h.2.2.2.1 k h1))), Below.refl _ _⟩
          · obtain rfl : k = n := by omega
            have HE : Hid (dfv k xs ys f b c each = R) := HG.out ⟨HF.out, rfl, h512, fun j hj => (hal.out j hj).1, fun j hj => (hal.out j hj).2⟩
            clear HG HB h1
            cases each
            · go_wp2
              go_loopw [13, 15] (fun s i wr => ∃ q : Nat, i = .int .i64 q ∧ s = .int .i64 (ps xs ys q) ∧ q ≤ k ∧ Hid (Below w.heap.size w wr)) (fun _ i _ => k - (intOf i).toNat)
              case atStart => exact ⟨0, rfl, rfl, by omega, Below.refl _ _⟩
              case round =>
                obtain ⟨q, rfl, rfl, hq, hbl⟩ := hrel
                have r1 := ps_bounds HP.out.1 HP.out.2 (fun j hj => (hal.out j hj).1) (fun j hj => (hal.out j hj).2) q hq
                by_cases h1 : q < k
                · obtain ⟨b1, off1, rfl, hlt1, hcell1⟩ := HC.out (by omega)
                  obtain ⟨b2, off2, rfl, hlt2, hcell2⟩ := HC2.out (by omega)
                  have c1 : wr.cell? ⟨b1, off1 + q, none⟩ = some (.int .i64 (xs q)) := (hbl.out.cell (p := ⟨b1, off1 + q, none⟩) hlt1).trans (hcell1 q h1)
                  have c2 : wr.cell? ⟨b2, off2 + q, none⟩ = some (.int .i64 (ys q)) := (hbl.out.cell (p := ⟨b2, off2 + q, none⟩) hlt2).trans (hcell2 q h1)
                  clear hcell1 hcell2
                  have r2 := word_mul HP.out.1 HP.out.2 (hal.out q h1).1 (hal.out q h1).2
                  have e1 : ps xs ys q + xs q * ys q = ps xs ys (q + 1) := rfl
                  go_wp2_with (go_quiet (fail))
                  go_roundw
                  case rel => exact ⟨q + 1, by go_num, rfl, by omega, below_drewN hbl.out _⟩
                  case measure => simp [intOf]; omega
                · obtain rfl : q = k := by omega
                  have i4 := sShift_any (ps xs ys q) f c
                  have i5 := sClip_any (shV (ps xs ys q) f c) b
                  rw [← clV_yes hbb] at i5
                  unfold dfv at HE
                  simp only [Bool.false_eq_true, if_false] at HE
                  generalize clp (shV (ps xs ys q) f c) (hf b) = Z at i5 HE
                  generalize shV (ps xs ys q) f c = Y at i4 i5
                  go_wp2_with (first | (go_at_call 53; (with_reducible refine (i4 _).mono ?_); rintro e w' ⟨rfl, hw⟩; obtain rfl := hw.symm) | (go_at_call 51; (with_reducible refine (i5 _).mono ?_); rintro e w' ⟨rfl, hw⟩; obtain rfl := hw.symm))
                  go_ret
                  exact ⟨congrArg (fun z => Ending.returned (.int .i64 z)) HE.out, hbl.out⟩
            · go_wp2
              go_loopw [13, 15] (fun s i wr => ∃ q : Nat, i = .int .i64 q ∧ s = .int .i64 (es xs ys f b c q) ∧ q ≤ k ∧ Hid (Below w.heap.size w wr)) (fun _ i _ => k - (intOf i).toNat)
              case atStart => exact ⟨0, rfl, rfl, by omega, Below.refl _ _⟩
              case round =>
                obtain ⟨q, rfl, rfl, hq, hbl⟩ := hrel
                by_cases h1 : q < k
                · obtain ⟨b1, off1, rfl, hlt1, hcell1⟩ := HC.out (by omega)
                  obtain ⟨b2, off2, rfl, hlt2, hcell2⟩ := HC2.out (by omega)
                  have c1 : wr.cell? ⟨b1, off1 + q, none⟩ = some (.int .i64 (xs q)) := (hbl.out.cell (p := ⟨b1, off1 + q, none⟩) hlt1).trans (hcell1 q h1)
                  have c2 : wr.cell? ⟨b2, off2 + q, none⟩ = some (.int .i64 (ys q)) := (hbl.out.cell (p := ⟨b2, off2 + q, none⟩) hlt2).trans (hcell2 q h1)
                  clear hcell1 hcell2
                  have i4 := sMul_any (xs q) (ys q) f b c
                  rw [← mfV_yes ⟨HF.out, (hal.out q h1).1, (hal.out q h1).2⟩] at i4
                  have i5 := sClip_any (es xs ys f b c q + clp (shV (xs q * ys q) f c) (hf b)) b
                  rw [← clV_yes hbb] at i5
                  have E1 : Hid (clp (es xs ys f b c q + clp (shV (xs q * ys q) f c) (hf b)) (hf b) = es xs ys f b c (q + 1)) := rfl
                  have r1 := es_bounds (xs := xs) (ys := ys) (f := f) (c := c) hbb q
                  have r2 := clp_word (x := shV (xs q * ys q) f c) hbb
                  rw [E1.out] at i5
                  generalize clp (shV (xs q * ys q) f c) (hf b) = Y at i4 i5 r2
                  go_wp2_with (go_quiet (first | (go_at_call 52; (with_reducible refine (i4 _).mono ?_); rintro e w' ⟨rfl, rfl⟩; exact ⟨rfl, _, rfl⟩) | (go_at_call 51; (with_reducible refine (i5 _).mono ?_); rintro e w' ⟨rfl, rfl⟩; exact ⟨rfl, _, rfl⟩)))
                  go_roundw
                  case rel => exact ⟨q + 1, by go_num, rfl, by omega, below_drewN hbl.out _⟩
                  case measure => simp [intOf]; omega
                · obtain rfl : q = k := by omega
                  unfold dfv at HE
                  simp only [if_true] at HE
                  go_wp2
                  go_ret
                  exact ⟨congrArg (fun z => Ending.returned (.int .i64 z)) HE.out, hbl.out⟩
      · have E : Hid (0 = R) := HB.out (fun h => h512 h.2.2.1)
        go_enter Try.func17, Try.ntmps17
        go_wp2_with (first | (go_at_call 49; (with_reducible refine (i1 _).mono ?_); rintro e w' ⟨rfl, hw⟩; obtain rfl := hw.symm))
        go_ret
        exact ⟨congrArg (fun z => Ending.returned (.int .i64 z)) E.out, Below.refl _ _⟩
    · have E : Hid (0 = R) := HB.out (fun h => hnm h.2.1)
      go_enter Try.func17, Try.ntmps17
      go_wp2_with (first | (go_at_call 49; (with_reducible refine (i1 _).mono ?_); rintro e w' ⟨rfl, hw⟩; obtain rfl := hw.symm))
      go_ret
      exact ⟨congrArg (fun z => Ending.returned (.int .i64 z)) E.out, Below.refl _ _⟩
  · rw [decide_eq_false hf1] at i1
    have E : Hid (0 = R) := HB.out (fun h => hf1 h.1)
    clear hf1
    go_enter Try.func17, Try.ntmps17
    go_wp2_with (first | (go_at_call 49; (with_reducible refine (i1 _).mono ?_); rintro e w' ⟨rfl, hw⟩; obtain rfl := hw.symm))
    go_ret
    exact ⟨congrArg (fun z => Ending.returned (.int .i64 z)) E.out, Below.refl _ _⟩
end Go.Proofs.Ytnabpijackgmnaa
