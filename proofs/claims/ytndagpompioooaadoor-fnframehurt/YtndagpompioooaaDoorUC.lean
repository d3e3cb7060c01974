/- One number read. -/
import Derived.Test.YtndagpompioooaaDoorUB
import Derived.RegionTactic
namespace Go.Proofs.YtndagpompioooaaDoor
open Go.RowKit

theorem unf_any {u : Nat} (h : u ≤ 2000000000) (w : World) : Calls Tryd.prog 91 #[.int .i64 (u : Int)] w fun e w' => e = .returned (.int .i64 (unf u)) ∧ w' = w := by
  have e0 : (u : Int).tmod 2 = ((u % 2 : Nat) : Int) := by rw [Int.tmod_eq_emod_of_nonneg (by omega)]; omega
  have e9 : (u : Int) % 2 = ((u % 2 : Nat) : Int) := by omega
  by_cases h1 : u % 2 = 1
  · have e1 : unf u = -(((u + 1) / 2 : Nat) : Int) := by unfold unf; rw [if_pos h1]
    obtain ⟨z, hz⟩ : ∃ z : Nat, z = (u + 1) / 2 := ⟨_, rfl⟩
    have hz2 : z ≤ 1000000001 := by omega
    have e2 : (-((u : Int) + 1)).tdiv 2 = -(z : Int) := by rw [Int.neg_tdiv, Int.tdiv_eq_ediv_of_nonneg (by omega)]; omega
    have e3 : (-1 + -(u : Int)).tdiv 2 = -(z : Int) := by rw [← e2]; congr 1; omega
    have e4 : (-(u : Int) - 1).tdiv 2 = -(z : Int) := by rw [← e2]; congr 1; omega
    rw [e1, ← hz]
    rw [h1] at e0 e9
    clear e1 hz
    go_enter Tryd.func91, Tryd.ntmps91
    go_wp2
    go_ret
    exact ⟨rfl, rfl⟩
  · have e1 : unf u = ((u / 2 : Nat) : Int) := by unfold unf; rw [if_neg h1]
    obtain ⟨z, hz⟩ : ∃ z : Nat, z = u / 2 := ⟨_, rfl⟩
    have e2 : (u : Int).tdiv 2 = (z : Int) := by rw [Int.tdiv_eq_ediv_of_nonneg (by omega)]; omega
    have e3 : (u : Int) / 2 = (z : Int) := by omega
    rw [e1, ← hz]
    have h2 : u % 2 = 0 := by omega
    rw [h2] at e0 e9
    clear e1 hz
    go_enter Tryd.func91, Tryd.ntmps91
    go_wp2
    go_ret
    exact ⟨rfl, rfl⟩

/-- What reading one number comes to. -/
def Nmr (w w' : World) (e : Ending) (G Bx : Nat) (v : Value) (n k a : Nat) (b : Nat → Int) : Prop :=
  (∃ u a', rd1 b n k a = some (u, a') ∧ e = .returned (.int .i64 (unf u)) ∧ Rdr w' G Bx v n a' b ∧ Only G w w') ∨ (rd1 b n k a = none ∧ e = pan 3 ∧ Only G w w')

set_option maxRecDepth 20000 in
set_option maxHeartbeats 16000000 in
theorem number_any {w : World} {G Bx n a k : Nat} {v : Value} {b : Nat → Int} (h : Rdr w G Bx v n a b) (hb : ∀ i, i < n → Bit (b i)) (hn : n ≤ 1048576) (ha : a ≤ n) (hk : k ≤ 30) :
    Calls Tryd.prog 77 #[.pointer (some ⟨G, 0, none⟩), .int .i64 (k : Int)] w fun e w' => Nmr w w' e G Bx v n k a b := by
  have HR : Hid (Rdr w G Bx v n a b) := h
  have HB : Hid (∀ i, i < n → Bit (b i)) := hb
  obtain ⟨p, hp⟩ : ∃ p : Nat, p = 2 ^ k := ⟨_, rfl⟩
  have hp1 : 1 ≤ p ∧ p ≤ 1073741824 := by
    rw [hp]
    exact ⟨Nat.one_le_two_pow, Nat.pow_le_pow_right (by omega) hk⟩
  have e1 : (2 : Int) ^ k = (p : Int) := by rw [hp, Int.natCast_pow]; rfl
  have HP : Hid (p = 2 ^ k) := hp
  clear h hb hp
  go_enter Tryd.func77, Tryd.ntmps77
  go_wp2
  go_loopw [5] (fun hv wr => ∃ j h : Nat, hv = .int .i64 (h : Int) ∧ a + j ≤ n ∧ h ≤ 2000000000 ∧ Hid (h = j * p ∧ ∀ i, i < j → b (a + i) = 1) ∧ Hid (Rdr wr G Bx v n (a + j) b) ∧ Hid (Only G w wr)) (fun hv _ => 2000000001 - (intOf hv).toNat)
  case atStart => exact ⟨0, 0, rfl, by omega, by omega, ⟨(Nat.zero_mul _).symm, fun i hi => absurd hi (Nat.not_lt_zero _)⟩, HR.out, Only.refl _ _⟩
  case round =>
    clear HR
    obtain ⟨j, h, rfl, haj, hh, HJ, HR, HO⟩ := hrel
    by_cases h1 : a + j < n
    · rcases HB.out (a + j) h1 with hx | hx
      · -- a nought ends the ones
        have HX : Hid (b (a + j) = 0) := hx
        have HQ : Hid (run1 b n a = j) := run1_eq (by omega) HJ.out.2 (.inr (by rw [hx]; decide))
        clear hx
        go_wp2_with (first
          | (go_at_call 90; refine (next_some HR.out h1 hn).mono ?_; rw [HX.out]; rintro e w2 ⟨rfl, hr, ho⟩; have HR : Hid (Rdr w2 G Bx v n (a + j + 1) b) := hr; have HO : Hid (Only G w w2) := HO.out.trans ho; clear hr ho))
        go_loopw [6, 18] (fun lv cv wr => ∃ c l : Nat, lv = .int .i64 (l : Int) ∧ cv = .int .i64 (c : Int) ∧ c ≤ k ∧ l < 1073741824 ∧ a + j + 1 + c ≤ n ∧ Hid (l = bv b (a + j + 1) c) ∧ Hid (Rdr wr G Bx v n (a + j + 1 + c) b) ∧ Hid (Only G w wr)) (fun _ cv _ => k - (intOf cv).toNat)
        case atStart => exact ⟨0, 0, rfl, rfl, by omega, by omega, by omega, rfl, HR.out, HO.out⟩
        case round =>
          clear HR HO
          obtain ⟨c, l, rfl, rfl, hc, hl, hac, HL, HR, HO⟩ := hrel
          by_cases h2 : c < k
          · by_cases h3 : a + j + 1 + c < n
            · have hlt := bv_lt (b := b) (f := a + j + 1) (c + 1) (fun i hi => HB.out _ (by omega))
              have hpw : (2 : Nat) ^ (c + 1) ≤ 2 ^ 30 := Nat.pow_le_pow_right (by omega) (by omega)
              have HL2 : Hid (l * 2 + (b (a + j + 1 + c)).toNat = bv b (a + j + 1) (c + 1)) := by show _ = bv b (a + j + 1) c * 2 + _; rw [HL.out]
              rw [← HL2.out] at hlt
              have hbt := HB.out _ h3
              obtain ⟨y, hy⟩ : ∃ y : Nat, b (a + j + 1 + c) = (y : Int) := ⟨(b (a + j + 1 + c)).toNat, by rcases hbt with e | e <;> rw [e] <;> rfl⟩
              have HY : Hid (b (a + j + 1 + c) = (y : Int)) := hy
              rw [hy, Int.toNat_natCast] at hlt HL2
              have hy1 : y ≤ 1 := by rcases hbt with e | e <;> rw [hy] at e <;> omega
              clear hy hbt
              go_wp2_with (first
                | (go_at_call 90; refine (next_some HR.out h3 hn).mono ?_; rw [HY.out]; rintro e w2 ⟨rfl, hr, ho⟩; have HR : Hid (Rdr w2 G Bx v n (a + j + 1 + (c + 1)) b) := hr; have HO : Hid (Only G w w2) := HO.out.trans ho; clear hr ho))
              go_roundw
              case rel => exact ⟨c + 1, l * 2 + y, by congr 1; omega, by go_num, by omega, by omega, by omega, HL2.out, HR.out, HO.out⟩
              case measure => simp [intOf]; omega
            · have HF : Hid (rd1 b n k a = none) := rd1_no HQ.out (fun h9 => by have := h9.2.2.2.1; omega)
              go_wp2_with (first
                | (go_at_call 90; refine (next_none HR.out (by omega) hn (by omega)).mono ?_; rintro e w2 ⟨rfl, ho⟩; have HO : Hid (Only G w w2) := HO.out.trans ho; clear ho))
              exact ⟨rfl, .inr ⟨HF.out, rfl, HO.out⟩⟩
          · have e9 : k = c := by omega
            subst e9
            by_cases h3 : h + l ≤ 2000000000
            · have HF : Hid (rd1 b n k a = some (h + l, a + j + 1 + k)) := by
                have := rd1_yes (k := k) HQ.out h1 HX.out (by rw [← HP.out, ← HJ.out.1]; exact hh) hac (fun i hi => HB.out _ (by omega)) (by rw [← HP.out, ← HJ.out.1, ← HL.out]; exact h3)
                rw [← HP.out, ← HJ.out.1, ← HL.out] at this
                exact this
              have iu := unf_any h3
              have e8 : (h : Int) + (l : Int) = ((h + l : Nat) : Int) := by omega
              obtain ⟨u, hu⟩ : ∃ u, u = h + l := ⟨_, rfl⟩
              rw [← hu] at HF iu h3 e8
              clear hu
              go_wp2_with (first
                | (go_at_call 84; (first | rw [decide_eq_true (show u ≤ 2000000000 by omega)] | rw [decide_eq_true (show (u : Int) ≤ 2000000000 by omega)] | skip); (with_reducible refine (need_yes 3 _).mono ?_); rintro e w' ⟨rfl, hw⟩; obtain rfl := hw.symm)
                | (go_at_call 91; (with_reducible refine (iu _).mono ?_); rintro e w' ⟨rfl, hw⟩; obtain rfl := hw.symm))
              go_ret
              exact .inl ⟨u, _, HF.out, rfl, HR.out, HO.out⟩
            · have HF : Hid (rd1 b n k a = none) := rd1_no HQ.out (fun h9 => by have := h9.2.2.2.2.2; rw [← HP.out, ← HJ.out.1, ← HL.out] at this; omega)
              have e8 : (h : Int) + (l : Int) = ((h + l : Nat) : Int) := by omega
              obtain ⟨u, hu⟩ : ∃ u, u = h + l := ⟨_, rfl⟩
              rw [← hu] at h3 e8
              have hu2 : u ≤ 4000000000 := by omega
              clear hu
              go_wp2_with (first
                | (go_at_call 84; (first | rw [decide_eq_false (show ¬ u ≤ 2000000000 by omega)] | rw [decide_eq_false (show ¬ (u : Int) ≤ 2000000000 by omega)] | skip); (with_reducible refine (need_no 3 _).mono ?_); rintro e w' ⟨rfl, hw⟩; obtain rfl := hw.symm))
              exact ⟨rfl, .inr ⟨HF.out, rfl, HO.out⟩⟩
      · have HX : Hid (b (a + j) = 1) := hx
        have HJ2 : Hid (h + p = (j + 1) * p ∧ ∀ i, i < j + 1 → b (a + i) = 1) := ⟨by rw [HJ.out.1, Nat.add_mul, Nat.one_mul], fun i hi => by
          by_cases hij : i = j
          · rw [hij]; exact HX.out
          · exact HJ.out.2 i (by omega)⟩
        clear hx
        have e8 : (h : Int) + (p : Int) = ((h + p : Nat) : Int) := by omega
        obtain ⟨h2, hh2⟩ : ∃ h2, h2 = h + p := ⟨_, rfl⟩
        rw [← hh2] at HJ2 e8
        have hh3 : h2 ≤ 4000000000 ∧ h < h2 := by omega
        clear hh2
        by_cases h3 : h2 ≤ 2000000000
        · go_wp2_with (first
            | (go_at_call 90; refine (next_some HR.out h1 hn).mono ?_; rw [HX.out]; rintro e w2 ⟨rfl, hr, ho⟩; have HR : Hid (Rdr w2 G Bx v n (a + (j + 1)) b) := hr; have HO : Hid (Only G w w2) := HO.out.trans ho; clear hr ho)
            | (go_at_call 84; (first | rw [decide_eq_true (show h2 ≤ 2000000000 by omega)] | rw [decide_eq_true (show (h2 : Int) ≤ 2000000000 by omega)] | skip); (with_reducible refine (need_yes 3 _).mono ?_); rintro e w' ⟨rfl, hw⟩; obtain rfl := hw.symm))
          go_roundw
          case rel => exact ⟨j + 1, h2, by go_num, by omega, by omega, HJ2.out, HR.out, HO.out⟩
          case measure => simp [intOf]; omega
        · have HF : Hid (rd1 b n k a = none) := rd1_long (q := j + 1) (by omega) HJ2.out.2 (by rw [← HP.out, ← HJ2.out.1]; omega)
          go_wp2_with (first
            | (go_at_call 90; refine (next_some HR.out h1 hn).mono ?_; rw [HX.out]; rintro e w2 ⟨rfl, hr, ho⟩; have HO : Hid (Only G w w2) := HO.out.trans ho; clear hr ho)
            | (go_at_call 84; (first | rw [decide_eq_false (show ¬ h2 ≤ 2000000000 by omega)] | rw [decide_eq_false (show ¬ (h2 : Int) ≤ 2000000000 by omega)] | skip); (with_reducible refine (need_no 3 _).mono ?_); rintro e w' ⟨rfl, hw⟩; obtain rfl := hw.symm))
          exact ⟨rfl, .inr ⟨HF.out, rfl, HO.out⟩⟩
    · have HF : Hid (rd1 b n k a = none) := rd1_no (run1_eq (q := j) (by omega) HJ.out.2 (.inl (by omega))) (fun h9 => h1 h9.1)
      go_wp2_with (first
        | (go_at_call 90; refine (next_none HR.out (by omega) hn (by omega)).mono ?_; rintro e w2 ⟨rfl, ho⟩; have HO : Hid (Only G w w2) := HO.out.trans ho; clear ho))
      exact ⟨rfl, .inr ⟨HF.out, rfl, HO.out⟩⟩

theorem number_some {w : World} {G Bx n a k u a' : Nat} {v : Value} {b : Nat → Int} (h : Rdr w G Bx v n a b) (hb : ∀ i, i < n → Bit (b i)) (hn : n ≤ 1048576) (ha : a ≤ n) (hk : k ≤ 30) (hq : rd1 b n k a = some (u, a')) :
    Calls Tryd.prog 77 #[.pointer (some ⟨G, 0, none⟩), .int .i64 (k : Int)] w fun e w' => e = .returned (.int .i64 (unf u)) ∧ Rdr w' G Bx v n a' b ∧ Only G w w' := by
  refine (number_any h hb hn ha hk).mono ?_
  rintro e w' (⟨u2, a2, h1, rfl, h2, h3⟩ | ⟨h1, _⟩)
  · rw [hq] at h1
    injection h1 with h1
    injection h1 with e1 e2
    subst e1 e2
    exact ⟨rfl, h2, h3⟩
  · rw [hq] at h1; cases h1
theorem number_none {w : World} {G Bx n a k : Nat} {v : Value} {b : Nat → Int} (h : Rdr w G Bx v n a b) (hb : ∀ i, i < n → Bit (b i)) (hn : n ≤ 1048576) (ha : a ≤ n) (hk : k ≤ 30) (hq : rd1 b n k a = none) :
    Calls Tryd.prog 77 #[.pointer (some ⟨G, 0, none⟩), .int .i64 (k : Int)] w fun e w' => e = pan 3 ∧ Only G w w' := by
  refine (number_any h hb hn ha hk).mono ?_
  rintro e w' (⟨u2, a2, h1, _⟩ | ⟨_, rfl, h3⟩)
  · rw [hq] at h1; cases h1
  · exact ⟨rfl, h3⟩
end Go.Proofs.YtndagpompioooaaDoor
