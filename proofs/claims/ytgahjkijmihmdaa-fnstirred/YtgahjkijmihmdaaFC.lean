/- Follow and UnFollow: the register of the program. -/
import Derived.Test.YtgahjkijmihmdaaFA
import Derived.Laws.BitsAllLaws
import Derived.WalkMore
import Derived.ScopeJumps
namespace Go.Proofs.Ytgahjkijmihmdaa
open Go.RowKit

theorem cell_block {w w' : World} {b o : Nat} (h : w'.heap[b]? = w.heap[b]?) : w'.cell? ⟨b, o, none⟩ = w.cell? ⟨b, o, none⟩ := by
  simp only [World.cell?, h]

theorem follow_nil {w : World} {fed : Value} {t : Nat} : Calls Try.prog 25 #[.slice none 0 0, fed, .int .u16 (t : Int)] w fun e w' => e = .returned (.tuple #[]) ∧ w' = w := by
  go_enter Try.func25, Try.ntmps25
  go_wp2
  go_step3
  go_wp2
  go_step3
  go_wp2
  go_loopw [7] (fun i wr => i = .int .i64 0 ∧ wr = w) (fun _ _ => 0)
  case atStart => exact ⟨rfl, rfl⟩
  case round =>
    obtain ⟨rfl, rfl⟩ := hrel
    go_wp2
    try simp only [Exit.noGoto_normal]
    go_end0
    exact ⟨rfl, rfl⟩

set_option maxHeartbeats 8000000 in
theorem follow_false {w : World} {B g n cap t : Nat} {xs : Nat → Int} (ho : w.ownsRow B 3 1 (.slice (some ⟨g, 0, none⟩) n cap) n (ils xs n)) (hn : n ≤ 1024) (ht : t < 65536) (hb : ∀ k, k < n → Bit (xs k)) :
    Calls Try.prog 25 #[.slice (some ⟨g, 0, none⟩) n cap, .slice (some ⟨g, 0, none⟩) n cap, .int .u16 (t : Int)] w fun e w' => e = .returned (.tuple #[]) ∧ w'.ownsRow B 3 1 (.slice (some ⟨g, 0, none⟩) n cap) n (ils (fol false t xs) n) ∧ Only g w w' := by
  have HBT : Hid (∀ k, k < n → Bit (xs k)) := hb
  have HO : Hid (w.ownsRow B 3 1 (.slice (some ⟨g, 0, none⟩) n cap) n (ils xs n)) := ho
  skip
  have hcap : n ≤ cap := by rcases ho.2 with ⟨h3, _⟩ | ⟨g', cap', cur, h3, _, _, h4, _⟩ <;> cases h3; exact h4
  clear ho hb
  go_enter Try.func25, Try.ntmps25
  go_wp2
  refine wp_scope_jumps 0 (fun a' w' => ∃ (k r : Nat) (u8 u9 u10 u11 u12 u13 u14 u15 u16 u17 u18 u19 u20 u21 u22 u23 u24 u25 u26 u27 u28 u29 u30 u31 u32 u33 u34 u35 u36 u37 : Value), a' = { tmps := #[.slice (some ⟨g, 0, none⟩) n cap, .slice (some ⟨g, 0, none⟩) n cap, .int .u16 (t : Int), undef, undef, undef, .int .u16 (r : Int), .int .i64 (k : Int), u8, u9, u10, u11, u12, u13, u14, u15, u16, u17, u18, u19, u20, u21, u22, u23, u24, u25, u26, u27, u28, u29, u30, u31, u32, u33, u34, u35, u36, u37], defers := [] } ∧ k ≤ n ∧ Hid (r = frg false t xs k ∧ (∃ f', w'.ownsRow B 3 1 (.slice (some ⟨g, 0, none⟩) n cap) n (ils f' n) ∧ (∀ j, j < k → f' j = fol false t xs j) ∧ ∀ j, k ≤ j → j < n → f' j = xs j) ∧ Only g w w')) (fun a' _ => n - (intOf (a'.tmps.getD 7 undef)).toNat) rfl ?_ ?_
  · have HREL : Hid (0 = frg false t xs 0 ∧ (∃ f', w.ownsRow B 3 1 (.slice (some ⟨g, 0, none⟩) n cap) n (ils f' n) ∧ (∀ j, j < 0 → f' j = fol false t xs j) ∧ ∀ j, 0 ≤ j → j < n → f' j = xs j) ∧ Only g w w) := ⟨rfl, ⟨xs, HO.out, fun j hj => absurd hj (by omega), fun _ _ _ => rfl⟩, Only.refl _ _⟩
    clear HO
    go_wp2
    go_step3
    go_wp2
    go_loopw [6, 7, 8] (fun a b _ wr => ∃ (k r : Nat), a = .int .u16 (r : Int) ∧ b = .int .i64 (k : Int) ∧ 0 ≤ k ∧ k ≤ n ∧ Hid (r = frg false t xs k ∧ (∃ f', wr.ownsRow B 3 1 (.slice (some ⟨g, 0, none⟩) n cap) n (ils f' n) ∧ (∀ j, j < k → f' j = fol false t xs j) ∧ ∀ j, k ≤ j → j < n → f' j = xs j) ∧ Only g w wr)) (fun _ _ _ _ => 0)
    case atStart => exact ⟨0, 0, rfl, rfl, Nat.le_refl _, by omega, HREL.out⟩
    case round =>
      clear HREL
      obtain ⟨k, r, rfl, rfl, hkk, hk, HREL⟩ := hrel
      by_cases h1 : k < n
      · obtain ⟨f0, hf0, hf1, hf2⟩ := HREL.out.2.1
        obtain ⟨m, hm⟩ : ∃ m : Nat, m = r &&& t := ⟨_, rfl⟩
        have hmb : m < 65536 := by rw [hm]; exact Nat.lt_of_le_of_lt Nat.and_le_right ht
        have e1 : bits .and .u16 (r : Int) (t : Int) = (m : Int) := by have h3 := u16_and_nat r t (by rw [HREL.out.1]; exact frg_lt _ _ _ _) ht; rw [← hm] at h3; exact h3
        have HM : Hid (Bit (f0 k) ∧ xb (f0 k) (pty m) = fol false t xs k) := by
          rw [hf2 k (Nat.le_refl _) h1]
          refine ⟨HBT.out k h1, ?_⟩
          rw [hm]
          rw [HREL.out.1]; rfl
        have HF0 : Hid (wr.ownsRow B 3 1 (.slice (some ⟨g, 0, none⟩) n cap) n (ils f0 n) ∧ (∀ j, j < k → f0 j = fol false t xs j) ∧ (∀ j, k < j → j < n → f0 j = xs j) ∧ Only g w wr) := ⟨hf0, hf1, fun j h6 h7 => hf2 j (Nat.le_of_lt h6) h7, HREL.out.2.2⟩
        have hrb : r < 65536 := by rw [HREL.out.1]; exact frg_lt _ _ _ _
        have HRR : Hid (r = frg false t xs k) := HREL.out.1
        clear hf0 hf1 hf2 hm HREL
        go_wp2
        go_loopw [6, 7, 8] (fun a b l wr2 => ∃ (q : Nat) (f1 : Nat → Int), l = .int .u16 (q : Int) ∧ a = .int .u16 (r : Int) ∧ b = .int .i64 (k : Int) ∧ q < 65536 ∧ Hid ((Bit (f1 k) ∧ xb (f1 k) (pty q) = fol false t xs k) ∧ wr2.ownsRow B 3 1 (.slice (some ⟨g, 0, none⟩) n cap) n (ils f1 n) ∧ (∀ j, j < k → f1 j = fol false t xs j) ∧ (∀ j, k < j → j < n → f1 j = xs j) ∧ Only g w wr2)) (fun _ _ l _ => (intOf l).toNat)
        case atStart => exact ⟨m, f0, rfl, rfl, rfl, hmb, HM.out, HF0.out⟩
        case round =>
          rename World => wq
          obtain ⟨q, f1, rfl, rfl, rfl, hq, hrel⟩ := hrel
          have hown := hrel.out.2.1
          have c := hown.cellAt k (by omega)
          rw [ils_get h1] at c
          by_cases h2 : 0 < q
          · have hfz := hown.frozenAt k
            obtain ⟨y, hy⟩ : ∃ y, y = f1 k := ⟨_, rfl⟩
            rw [← hy] at c
            obtain ⟨z, hz⟩ : ∃ z, z = xb y 1 := ⟨_, rfl⟩
            have e2 : bits .xor .i64 y 1 = z := by rw [hz]; exact xor_bit (by rw [hy]; exact hrel.out.1.1) (.inr rfl)
            obtain ⟨p, hp⟩ : ∃ p : Nat, p = q &&& (q - 1) := ⟨_, rfl⟩
            obtain ⟨q1, hq1⟩ : ∃ q1 : Nat, q1 = q - 1 := ⟨_, rfl⟩
            have e3 : (q : Int) - 1 = (q1 : Int) := by omega
            have e4 : IntKind.u16.wrap (q1 : Int) = (q1 : Int) := by rw [IntKind.wrap_u16]; omega
            have e5 : bits .and .u16 (q : Int) (q1 : Int) = (p : Int) := by rw [u16_and_nat q q1 hq (by omega), hp, hq1]
            have hpq : p < q := by rw [hp]; exact low_lt q h2
            have e6 : ((q : Int) == 0) = false := by simp; omega
            have e7 : ¬ ((q : Int) = 0) := by omega
            have st := (hown.stored k (.int .i64 z)).1
            rw [ils_put] at st
            have HN : Hid ((Bit z ∧ xb z (pty p) = fol false t xs k)) := by
              refine ⟨by rw [hz]; exact xb_bit _ _, ?_⟩
              rw [hz, hp, pty_low q h2, ← hrel.out.1.2, hy]
              have hB1 := hrel.out.1.1
              rcases hB1 with e | e <;> rcases pty_bit q with e9 | e9 <;> rw [e, e9] <;> rfl
            have HS : Hid ((wq.setCell ⟨g, k, none⟩ (.int .i64 z)).ownsRow B 3 1 (.slice (some ⟨g, 0, none⟩) n cap) n (ils (fun i => if i = k then z else f1 i) n) ∧ Only g w (wq.setCell ⟨g, k, none⟩ (.int .i64 z))) := ⟨st, hrel.out.2.2.2.2.put k _⟩
            have HJ : Hid ((∀ j, j < k → f1 j = fol false t xs j) ∧ ∀ j, k < j → j < n → f1 j = xs j) := ⟨hrel.out.2.2.1, hrel.out.2.2.2.1⟩
            clear hown hy hz hp hq1 hrel st
            go_wp2
            go_roundw
            case rel =>
              refine ⟨p, fun i => if i = k then z else f1 i, rfl, rfl, rfl, by omega, ⟨?_, ?_⟩, HS.out.1, fun j hj => ?_, fun j hj hjn => ?_, HS.out.2⟩
              · show Bit (if k = k then z else f1 k); rw [if_pos rfl]; exact HN.out.1
              · show xb (if k = k then z else f1 k) _ = _; rw [if_pos rfl]; exact HN.out.2
              · show (if j = k then z else f1 j) = _; rw [if_neg (by omega)]; exact HJ.out.1 j hj
              · show (if j = k then z else f1 j) = _; rw [if_neg (by omega)]; exact HJ.out.2 j hj hjn
            case measure => simp [intOf]; omega
          · obtain rfl : q = 0 := by omega
            have hy : f1 k = fol false t xs k := by have h3 := hrel.out.1.2; rw [pty_zero, xb_zero hrel.out.1.1] at h3; exact h3
            obtain ⟨z, hz⟩ : ∃ z : Nat, z = (fol false t xs k).toNat := ⟨_, rfl⟩
            have hzb : fol false t xs k = (z : Int) ∧ z < 2 := by
              have hbb : Bit (fol false t xs k) := fol_bit _ _ _ _
              rcases hbb with e | e
              · rw [e] at hz ⊢; omega
              · rw [e] at hz ⊢; omega
            rw [hy, hzb.1] at c
            have hz2 := hzb.2
            obtain ⟨r2, hr2⟩ : ∃ r2 : Nat, r2 = frg false t xs (k + 1) := ⟨_, rfl⟩
            have HR2 : Hid (r2 = frg false t xs (k + 1)) := hr2
            obtain ⟨d, hd⟩ : ∃ d : Nat, d = (2 * r) % 65536 := ⟨_, rfl⟩
            have e2 : IntKind.u16.wrap ((r : Int) * 2) = (d : Int) := by rw [IntKind.wrap_u16]; omega
            have e3 : IntKind.u16.wrap (z : Int) = (z : Int) := by rw [IntKind.wrap_u16]; omega
            have e4 : bits .or .u16 (d : Int) (z : Int) = (r2 : Int) := by
              rw [u16_or_nat d z (by omega) (by omega), hr2, frg_next, ← HRR.out]
              obtain ⟨d1, hd1⟩ : ∃ d1, d = 2 * d1 := ⟨d / 2, by omega⟩
              rw [hd1, or_bit hz2, if_neg (by decide), ← hz]
              omega
            have HF : Hid ((∃ f', wq.ownsRow B 3 1 (.slice (some ⟨g, 0, none⟩) n cap) n (ils f' n) ∧ (∀ j, j < k + 1 → f' j = fol false t xs j) ∧ ∀ j, k + 1 ≤ j → j < n → f' j = xs j) ∧ Only g w wq) := by
              refine ⟨⟨f1, hrel.out.2.1, fun j hj => ?_, fun j hj hjn => hrel.out.2.2.2.1 j (by omega) hjn⟩, hrel.out.2.2.2.2⟩
              by_cases hjk : j = k
              · subst hjk; exact hy
              · exact hrel.out.2.2.1 j (by omega)
            clear hown hy hz hzb hr2 hd hrel
            go_wp2
            go_step3
            exact ⟨rfl, k + 1, r2, _, _, _, _, _, _, _, _, _, _, _, _, _, _, _, _, _, _, _, _, _, _, _, _, _, _, _, _, _, _, rfl, by omega, HR2.out, HF.out⟩
      · obtain rfl : n = k := by omega
        go_wp2
        try simp only [Exit.jump]
        go_end0
        obtain ⟨f0, hf0, hf1, _⟩ := HREL.out.2.1
        have h3 := hf0
        rw [ils_congr hf1] at h3
        exact ⟨rfl, h3, HREL.out.2.2⟩
  · rintro a' w' ⟨k0, r0, u8, u9, u10, u11, u12, u13, u14, u15, u16, u17, u18, u19, u20, u21, u22, u23, u24, u25, u26, u27, u28, u29, u30, u31, u32, u33, u34, u35, u36, u37, rfl, hk, hrel0⟩
    have HREL : Hid (r0 = frg false t xs k0 ∧ (∃ f', w'.ownsRow B 3 1 (.slice (some ⟨g, 0, none⟩) n cap) n (ils f' n) ∧ (∀ j, j < k0 → f' j = fol false t xs j) ∧ ∀ j, k0 ≤ j → j < n → f' j = xs j) ∧ Only g w w') := hrel0.out
    clear hrel0 HO
    go_wp2
    go_loopw [6, 7, 8] (fun a b _ wr => ∃ (k r : Nat), a = .int .u16 (r : Int) ∧ b = .int .i64 (k : Int) ∧ k0 ≤ k ∧ k ≤ n ∧ Hid (r = frg false t xs k ∧ (∃ f', wr.ownsRow B 3 1 (.slice (some ⟨g, 0, none⟩) n cap) n (ils f' n) ∧ (∀ j, j < k → f' j = fol false t xs j) ∧ ∀ j, k ≤ j → j < n → f' j = xs j) ∧ Only g w wr)) (fun _ _ _ _ => 0)
    case atStart => exact ⟨k0, r0, rfl, rfl, Nat.le_refl _, hk, HREL.out⟩
    case round =>
      clear HREL
      obtain ⟨k, r, rfl, rfl, hkk, hk, HREL⟩ := hrel
      by_cases h1 : k < n
      · obtain ⟨f0, hf0, hf1, hf2⟩ := HREL.out.2.1
        obtain ⟨m, hm⟩ : ∃ m : Nat, m = r &&& t := ⟨_, rfl⟩
        have hmb : m < 65536 := by rw [hm]; exact Nat.lt_of_le_of_lt Nat.and_le_right ht
        have e1 : bits .and .u16 (r : Int) (t : Int) = (m : Int) := by have h3 := u16_and_nat r t (by rw [HREL.out.1]; exact frg_lt _ _ _ _) ht; rw [← hm] at h3; exact h3
        have HM : Hid (Bit (f0 k) ∧ xb (f0 k) (pty m) = fol false t xs k) := by
          rw [hf2 k (Nat.le_refl _) h1]
          refine ⟨HBT.out k h1, ?_⟩
          rw [hm]
          rw [HREL.out.1]; rfl
        have HF0 : Hid (wr.ownsRow B 3 1 (.slice (some ⟨g, 0, none⟩) n cap) n (ils f0 n) ∧ (∀ j, j < k → f0 j = fol false t xs j) ∧ (∀ j, k < j → j < n → f0 j = xs j) ∧ Only g w wr) := ⟨hf0, hf1, fun j h6 h7 => hf2 j (Nat.le_of_lt h6) h7, HREL.out.2.2⟩
        have hrb : r < 65536 := by rw [HREL.out.1]; exact frg_lt _ _ _ _
        have HRR : Hid (r = frg false t xs k) := HREL.out.1
        clear hf0 hf1 hf2 hm HREL
        go_wp2
        go_loopw [6, 7, 8] (fun a b l wr2 => ∃ (q : Nat) (f1 : Nat → Int), l = .int .u16 (q : Int) ∧ a = .int .u16 (r : Int) ∧ b = .int .i64 (k : Int) ∧ q < 65536 ∧ Hid ((Bit (f1 k) ∧ xb (f1 k) (pty q) = fol false t xs k) ∧ wr2.ownsRow B 3 1 (.slice (some ⟨g, 0, none⟩) n cap) n (ils f1 n) ∧ (∀ j, j < k → f1 j = fol false t xs j) ∧ (∀ j, k < j → j < n → f1 j = xs j) ∧ Only g w wr2)) (fun _ _ l _ => (intOf l).toNat)
        case atStart => exact ⟨m, f0, rfl, rfl, rfl, hmb, HM.out, HF0.out⟩
        case round =>
          rename World => wq
          obtain ⟨q, f1, rfl, rfl, rfl, hq, hrel⟩ := hrel
          have hown := hrel.out.2.1
          have c := hown.cellAt k (by omega)
          rw [ils_get h1] at c
          by_cases h2 : 0 < q
          · have hfz := hown.frozenAt k
            obtain ⟨y, hy⟩ : ∃ y, y = f1 k := ⟨_, rfl⟩
            rw [← hy] at c
            obtain ⟨z, hz⟩ : ∃ z, z = xb y 1 := ⟨_, rfl⟩
            have e2 : bits .xor .i64 y 1 = z := by rw [hz]; exact xor_bit (by rw [hy]; exact hrel.out.1.1) (.inr rfl)
            obtain ⟨p, hp⟩ : ∃ p : Nat, p = q &&& (q - 1) := ⟨_, rfl⟩
            obtain ⟨q1, hq1⟩ : ∃ q1 : Nat, q1 = q - 1 := ⟨_, rfl⟩
            have e3 : (q : Int) - 1 = (q1 : Int) := by omega
            have e4 : IntKind.u16.wrap (q1 : Int) = (q1 : Int) := by rw [IntKind.wrap_u16]; omega
            have e5 : bits .and .u16 (q : Int) (q1 : Int) = (p : Int) := by rw [u16_and_nat q q1 hq (by omega), hp, hq1]
            have hpq : p < q := by rw [hp]; exact low_lt q h2
            have e6 : ((q : Int) == 0) = false := by simp; omega
            have e7 : ¬ ((q : Int) = 0) := by omega
            have st := (hown.stored k (.int .i64 z)).1
            rw [ils_put] at st
            have HN : Hid ((Bit z ∧ xb z (pty p) = fol false t xs k)) := by
              refine ⟨by rw [hz]; exact xb_bit _ _, ?_⟩
              rw [hz, hp, pty_low q h2, ← hrel.out.1.2, hy]
              have hB1 := hrel.out.1.1
              rcases hB1 with e | e <;> rcases pty_bit q with e9 | e9 <;> rw [e, e9] <;> rfl
            have HS : Hid ((wq.setCell ⟨g, k, none⟩ (.int .i64 z)).ownsRow B 3 1 (.slice (some ⟨g, 0, none⟩) n cap) n (ils (fun i => if i = k then z else f1 i) n) ∧ Only g w (wq.setCell ⟨g, k, none⟩ (.int .i64 z))) := ⟨st, hrel.out.2.2.2.2.put k _⟩
            have HJ : Hid ((∀ j, j < k → f1 j = fol false t xs j) ∧ ∀ j, k < j → j < n → f1 j = xs j) := ⟨hrel.out.2.2.1, hrel.out.2.2.2.1⟩
            clear hown hy hz hp hq1 hrel st
            go_wp2
            go_roundw
            case rel =>
              refine ⟨p, fun i => if i = k then z else f1 i, rfl, rfl, rfl, by omega, ⟨?_, ?_⟩, HS.out.1, fun j hj => ?_, fun j hj hjn => ?_, HS.out.2⟩
              · show Bit (if k = k then z else f1 k); rw [if_pos rfl]; exact HN.out.1
              · show xb (if k = k then z else f1 k) _ = _; rw [if_pos rfl]; exact HN.out.2
              · show (if j = k then z else f1 j) = _; rw [if_neg (by omega)]; exact HJ.out.1 j hj
              · show (if j = k then z else f1 j) = _; rw [if_neg (by omega)]; exact HJ.out.2 j hj hjn
            case measure => simp [intOf]; omega
          · obtain rfl : q = 0 := by omega
            have hy : f1 k = fol false t xs k := by have h3 := hrel.out.1.2; rw [pty_zero, xb_zero hrel.out.1.1] at h3; exact h3
            obtain ⟨z, hz⟩ : ∃ z : Nat, z = (fol false t xs k).toNat := ⟨_, rfl⟩
            have hzb : fol false t xs k = (z : Int) ∧ z < 2 := by
              have hbb : Bit (fol false t xs k) := fol_bit _ _ _ _
              rcases hbb with e | e
              · rw [e] at hz ⊢; omega
              · rw [e] at hz ⊢; omega
            rw [hy, hzb.1] at c
            have hz2 := hzb.2
            obtain ⟨r2, hr2⟩ : ∃ r2 : Nat, r2 = frg false t xs (k + 1) := ⟨_, rfl⟩
            have HR2 : Hid (r2 = frg false t xs (k + 1)) := hr2
            obtain ⟨d, hd⟩ : ∃ d : Nat, d = (2 * r) % 65536 := ⟨_, rfl⟩
            have e2 : IntKind.u16.wrap ((r : Int) * 2) = (d : Int) := by rw [IntKind.wrap_u16]; omega
            have e3 : IntKind.u16.wrap (z : Int) = (z : Int) := by rw [IntKind.wrap_u16]; omega
            have e4 : bits .or .u16 (d : Int) (z : Int) = (r2 : Int) := by
              rw [u16_or_nat d z (by omega) (by omega), hr2, frg_next, ← HRR.out]
              obtain ⟨d1, hd1⟩ : ∃ d1, d = 2 * d1 := ⟨d / 2, by omega⟩
              rw [hd1, or_bit hz2, if_neg (by decide), ← hz]
              omega
            have HF : Hid ((∃ f', wq.ownsRow B 3 1 (.slice (some ⟨g, 0, none⟩) n cap) n (ils f' n) ∧ (∀ j, j < k + 1 → f' j = fol false t xs j) ∧ ∀ j, k + 1 ≤ j → j < n → f' j = xs j) ∧ Only g w wq) := by
              refine ⟨⟨f1, hrel.out.2.1, fun j hj => ?_, fun j hj hjn => hrel.out.2.2.2.1 j (by omega) hjn⟩, hrel.out.2.2.2.2⟩
              by_cases hjk : j = k
              · subst hjk; exact hy
              · exact hrel.out.2.2.1 j (by omega)
            clear hown hy hz hzb hr2 hd hrel
            go_wp2
            go_step3
            exact ⟨rfl, ⟨k + 1, r2, _, _, _, _, _, _, _, _, _, _, _, _, _, _, _, _, _, _, _, _, _, _, _, _, _, _, _, _, _, _, rfl, by omega, HR2.out, HF.out⟩, by show n - (k + 1) < n - k0; omega⟩
      · obtain rfl : n = k := by omega
        go_wp2
        try simp only [Exit.jump]
        go_end0
        obtain ⟨f0, hf0, hf1, _⟩ := HREL.out.2.1
        have h3 := hf0
        rw [ils_congr hf1] at h3
        exact ⟨rfl, h3, HREL.out.2.2⟩

set_option maxHeartbeats 8000000 in
theorem follow_true {w : World} {B g n cap t : Nat} {xs : Nat → Int} (ho : w.ownsRow B 3 1 (.slice (some ⟨g, 0, none⟩) n cap) n (ils xs n)) (hn : n ≤ 1024) (ht : t < 65536) (hb : ∀ k, k < n → Bit (xs k)) {ao : Option Addr} {cap2 : Nat} (_ : n ≤ cap2) (hc : 0 < n → ∃ b off, ao = some ⟨b, off, none⟩ ∧ b < w.heap.size ∧ b ≠ g ∧ ∀ k, k < n → w.cell? ⟨b, off + k, none⟩ = some (.int .i64 (xs k))) :
    Calls Try.prog 25 #[.slice (some ⟨g, 0, none⟩) n cap, .slice ao n cap2, .int .u16 (t : Int)] w fun e w' => e = .returned (.tuple #[]) ∧ w'.ownsRow B 3 1 (.slice (some ⟨g, 0, none⟩) n cap) n (ils (fol true t xs) n) ∧ Only g w w' := by
  have HBT : Hid (∀ k, k < n → Bit (xs k)) := hb
  have HO : Hid (w.ownsRow B 3 1 (.slice (some ⟨g, 0, none⟩) n cap) n (ils xs n)) := ho
  have HC : Hid (0 < n → ∃ b off, ao = some ⟨b, off, none⟩ ∧ b < w.heap.size ∧ b ≠ g ∧ ∀ k, k < n → w.cell? ⟨b, off + k, none⟩ = some (.int .i64 (xs k))) := hc
  have hcap : n ≤ cap := by rcases ho.2 with ⟨h3, _⟩ | ⟨g', cap', cur, h3, _, _, h4, _⟩ <;> cases h3; exact h4
  clear ho hb hc
  go_enter Try.func25, Try.ntmps25
  go_wp2
  refine wp_scope_jumps 0 (fun a' w' => ∃ (k r : Nat) (u8 u9 u10 u11 u12 u13 u14 u15 u16 u17 u18 u19 u20 u21 u22 u23 u24 u25 u26 u27 u28 u29 u30 u31 u32 u33 u34 u35 u36 u37 : Value), a' = { tmps := #[.slice (some ⟨g, 0, none⟩) n cap, .slice ao n cap2, .int .u16 (t : Int), undef, undef, undef, .int .u16 (r : Int), .int .i64 (k : Int), u8, u9, u10, u11, u12, u13, u14, u15, u16, u17, u18, u19, u20, u21, u22, u23, u24, u25, u26, u27, u28, u29, u30, u31, u32, u33, u34, u35, u36, u37], defers := [] } ∧ k ≤ n ∧ Hid (r = frg true t xs k ∧ (∃ f', w'.ownsRow B 3 1 (.slice (some ⟨g, 0, none⟩) n cap) n (ils f' n) ∧ (∀ j, j < k → f' j = fol true t xs j) ∧ ∀ j, k ≤ j → j < n → f' j = xs j) ∧ Only g w w')) (fun a' _ => n - (intOf (a'.tmps.getD 7 undef)).toNat) rfl ?_ ?_
  · have HREL : Hid (0 = frg true t xs 0 ∧ (∃ f', w.ownsRow B 3 1 (.slice (some ⟨g, 0, none⟩) n cap) n (ils f' n) ∧ (∀ j, j < 0 → f' j = fol true t xs j) ∧ ∀ j, 0 ≤ j → j < n → f' j = xs j) ∧ Only g w w) := ⟨rfl, ⟨xs, HO.out, fun j hj => absurd hj (by omega), fun _ _ _ => rfl⟩, Only.refl _ _⟩
    clear HO
    go_wp2
    go_step3
    go_wp2
    go_loopw [6, 7, 8] (fun a b _ wr => ∃ (k r : Nat), a = .int .u16 (r : Int) ∧ b = .int .i64 (k : Int) ∧ 0 ≤ k ∧ k ≤ n ∧ Hid (r = frg true t xs k ∧ (∃ f', wr.ownsRow B 3 1 (.slice (some ⟨g, 0, none⟩) n cap) n (ils f' n) ∧ (∀ j, j < k → f' j = fol true t xs j) ∧ ∀ j, k ≤ j → j < n → f' j = xs j) ∧ Only g w wr)) (fun _ _ _ _ => 0)
    case atStart => exact ⟨0, 0, rfl, rfl, Nat.le_refl _, by omega, HREL.out⟩
    case round =>
      clear HREL
      obtain ⟨k, r, rfl, rfl, hkk, hk, HREL⟩ := hrel
      by_cases h1 : k < n
      · obtain ⟨f0, hf0, hf1, hf2⟩ := HREL.out.2.1
        obtain ⟨m, hm⟩ : ∃ m : Nat, m = r &&& t := ⟨_, rfl⟩
        have hmb : m < 65536 := by rw [hm]; exact Nat.lt_of_le_of_lt Nat.and_le_right ht
        have e1 : bits .and .u16 (r : Int) (t : Int) = (m : Int) := by have h3 := u16_and_nat r t (by rw [HREL.out.1]; exact frg_lt _ _ _ _) ht; rw [← hm] at h3; exact h3
        have HM : Hid (Bit (f0 k) ∧ xb (f0 k) (pty m) = fol true t xs k) := by
          rw [hf2 k (Nat.le_refl _) h1]
          refine ⟨HBT.out k h1, ?_⟩
          rw [hm]
          rw [HREL.out.1]; rfl
        have HF0 : Hid (wr.ownsRow B 3 1 (.slice (some ⟨g, 0, none⟩) n cap) n (ils f0 n) ∧ (∀ j, j < k → f0 j = fol true t xs j) ∧ (∀ j, k < j → j < n → f0 j = xs j) ∧ Only g w wr) := ⟨hf0, hf1, fun j h6 h7 => hf2 j (Nat.le_of_lt h6) h7, HREL.out.2.2⟩
        have hrb : r < 65536 := by rw [HREL.out.1]; exact frg_lt _ _ _ _
        have HRR : Hid (r = frg true t xs k) := HREL.out.1
        clear hf0 hf1 hf2 hm HREL
        go_wp2
        go_loopw [6, 7, 8] (fun a b l wr2 => ∃ (q : Nat) (f1 : Nat → Int), l = .int .u16 (q : Int) ∧ a = .int .u16 (r : Int) ∧ b = .int .i64 (k : Int) ∧ q < 65536 ∧ Hid ((Bit (f1 k) ∧ xb (f1 k) (pty q) = fol true t xs k) ∧ wr2.ownsRow B 3 1 (.slice (some ⟨g, 0, none⟩) n cap) n (ils f1 n) ∧ (∀ j, j < k → f1 j = fol true t xs j) ∧ (∀ j, k < j → j < n → f1 j = xs j) ∧ Only g w wr2)) (fun _ _ l _ => (intOf l).toNat)
        case atStart => exact ⟨m, f0, rfl, rfl, rfl, hmb, HM.out, HF0.out⟩
        case round =>
          rename World => wq
          obtain ⟨q, f1, rfl, rfl, rfl, hq, hrel⟩ := hrel
          have hown := hrel.out.2.1
          have c := hown.cellAt k (by omega)
          rw [ils_get h1] at c
          by_cases h2 : 0 < q
          · have hfz := hown.frozenAt k
            obtain ⟨y, hy⟩ : ∃ y, y = f1 k := ⟨_, rfl⟩
            rw [← hy] at c
            obtain ⟨z, hz⟩ : ∃ z, z = xb y 1 := ⟨_, rfl⟩
            have e2 : bits .xor .i64 y 1 = z := by rw [hz]; exact xor_bit (by rw [hy]; exact hrel.out.1.1) (.inr rfl)
            obtain ⟨p, hp⟩ : ∃ p : Nat, p = q &&& (q - 1) := ⟨_, rfl⟩
            obtain ⟨q1, hq1⟩ : ∃ q1 : Nat, q1 = q - 1 := ⟨_, rfl⟩
            have e3 : (q : Int) - 1 = (q1 : Int) := by omega
            have e4 : IntKind.u16.wrap (q1 : Int) = (q1 : Int) := by rw [IntKind.wrap_u16]; omega
            have e5 : bits .and .u16 (q : Int) (q1 : Int) = (p : Int) := by rw [u16_and_nat q q1 hq (by omega), hp, hq1]
            have hpq : p < q := by rw [hp]; exact low_lt q h2
            have e6 : ((q : Int) == 0) = false := by simp; omega
            have e7 : ¬ ((q : Int) = 0) := by omega
            have st := (hown.stored k (.int .i64 z)).1
            rw [ils_put] at st
            have HN : Hid ((Bit z ∧ xb z (pty p) = fol true t xs k)) := by
              refine ⟨by rw [hz]; exact xb_bit _ _, ?_⟩
              rw [hz, hp, pty_low q h2, ← hrel.out.1.2, hy]
              have hB1 := hrel.out.1.1
              rcases hB1 with e | e <;> rcases pty_bit q with e9 | e9 <;> rw [e, e9] <;> rfl
            have HS : Hid ((wq.setCell ⟨g, k, none⟩ (.int .i64 z)).ownsRow B 3 1 (.slice (some ⟨g, 0, none⟩) n cap) n (ils (fun i => if i = k then z else f1 i) n) ∧ Only g w (wq.setCell ⟨g, k, none⟩ (.int .i64 z))) := ⟨st, hrel.out.2.2.2.2.put k _⟩
            have HJ : Hid ((∀ j, j < k → f1 j = fol true t xs j) ∧ ∀ j, k < j → j < n → f1 j = xs j) := ⟨hrel.out.2.2.1, hrel.out.2.2.2.1⟩
            clear hown hy hz hp hq1 hrel st
            go_wp2
            go_roundw
            case rel =>
              refine ⟨p, fun i => if i = k then z else f1 i, rfl, rfl, rfl, by omega, ⟨?_, ?_⟩, HS.out.1, fun j hj => ?_, fun j hj hjn => ?_, HS.out.2⟩
              · show Bit (if k = k then z else f1 k); rw [if_pos rfl]; exact HN.out.1
              · show xb (if k = k then z else f1 k) _ = _; rw [if_pos rfl]; exact HN.out.2
              · show (if j = k then z else f1 j) = _; rw [if_neg (by omega)]; exact HJ.out.1 j hj
              · show (if j = k then z else f1 j) = _; rw [if_neg (by omega)]; exact HJ.out.2 j hj hjn
            case measure => simp [intOf]; omega
          · obtain rfl : q = 0 := by omega
            have hy : f1 k = fol true t xs k := by have h3 := hrel.out.1.2; rw [pty_zero, xb_zero hrel.out.1.1] at h3; exact h3
            obtain ⟨z, hz⟩ : ∃ z : Nat, z = (xs k).toNat := ⟨_, rfl⟩
            have hzb : xs k = (z : Int) ∧ z < 2 := by
              have hbb : Bit (xs k) := HBT.out k h1
              rcases hbb with e | e
              · rw [e] at hz ⊢; omega
              · rw [e] at hz ⊢; omega
            obtain ⟨b, off, rfl, hlt, hbg, hcell⟩ := HC.out (by omega)
            have c2 : wq.cell? ⟨b, off + k, none⟩ = some (.int .i64 (z : Int)) := by
              have h4 := hcell k h1
              rw [hzb.1] at h4
              rw [← h4]
              exact cell_block (hrel.out.2.2.2.2.block b hbg)
            clear hcell
            have hz2 := hzb.2
            obtain ⟨r2, hr2⟩ : ∃ r2 : Nat, r2 = frg true t xs (k + 1) := ⟨_, rfl⟩
            have HR2 : Hid (r2 = frg true t xs (k + 1)) := hr2
            obtain ⟨d, hd⟩ : ∃ d : Nat, d = (2 * r) % 65536 := ⟨_, rfl⟩
            have e2 : IntKind.u16.wrap ((r : Int) * 2) = (d : Int) := by rw [IntKind.wrap_u16]; omega
            have e3 : IntKind.u16.wrap (z : Int) = (z : Int) := by rw [IntKind.wrap_u16]; omega
            have e4 : bits .or .u16 (d : Int) (z : Int) = (r2 : Int) := by
              rw [u16_or_nat d z (by omega) (by omega), hr2, frg_next, ← HRR.out]
              obtain ⟨d1, hd1⟩ : ∃ d1, d = 2 * d1 := ⟨d / 2, by omega⟩
              rw [hd1, or_bit hz2, if_pos rfl, ← hz]
              omega
            have HF : Hid ((∃ f', wq.ownsRow B 3 1 (.slice (some ⟨g, 0, none⟩) n cap) n (ils f' n) ∧ (∀ j, j < k + 1 → f' j = fol true t xs j) ∧ ∀ j, k + 1 ≤ j → j < n → f' j = xs j) ∧ Only g w wq) := by
              refine ⟨⟨f1, hrel.out.2.1, fun j hj => ?_, fun j hj hjn => hrel.out.2.2.2.1 j (by omega) hjn⟩, hrel.out.2.2.2.2⟩
              by_cases hjk : j = k
              · subst hjk; exact hy
              · exact hrel.out.2.2.1 j (by omega)
            clear hown hy hz hzb hr2 hd hrel
            go_wp2
            go_step3
            exact ⟨rfl, k + 1, r2, _, _, _, _, _, _, _, _, _, _, _, _, _, _, _, _, _, _, _, _, _, _, _, _, _, _, _, _, _, _, rfl, by omega, HR2.out, HF.out⟩
      · obtain rfl : n = k := by omega
        go_wp2
        try simp only [Exit.jump]
        go_end0
        obtain ⟨f0, hf0, hf1, _⟩ := HREL.out.2.1
        have h3 := hf0
        rw [ils_congr hf1] at h3
        exact ⟨rfl, h3, HREL.out.2.2⟩
  · rintro a' w' ⟨k0, r0, u8, u9, u10, u11, u12, u13, u14, u15, u16, u17, u18, u19, u20, u21, u22, u23, u24, u25, u26, u27, u28, u29, u30, u31, u32, u33, u34, u35, u36, u37, rfl, hk, hrel0⟩
    have HREL : Hid (r0 = frg true t xs k0 ∧ (∃ f', w'.ownsRow B 3 1 (.slice (some ⟨g, 0, none⟩) n cap) n (ils f' n) ∧ (∀ j, j < k0 → f' j = fol true t xs j) ∧ ∀ j, k0 ≤ j → j < n → f' j = xs j) ∧ Only g w w') := hrel0.out
    clear hrel0 HO
    go_wp2
    go_loopw [6, 7, 8] (fun a b _ wr => ∃ (k r : Nat), a = .int .u16 (r : Int) ∧ b = .int .i64 (k : Int) ∧ k0 ≤ k ∧ k ≤ n ∧ Hid (r = frg true t xs k ∧ (∃ f', wr.ownsRow B 3 1 (.slice (some ⟨g, 0, none⟩) n cap) n (ils f' n) ∧ (∀ j, j < k → f' j = fol true t xs j) ∧ ∀ j, k ≤ j → j < n → f' j = xs j) ∧ Only g w wr)) (fun _ _ _ _ => 0)
    case atStart => exact ⟨k0, r0, rfl, rfl, Nat.le_refl _, hk, HREL.out⟩
    case round =>
      clear HREL
      obtain ⟨k, r, rfl, rfl, hkk, hk, HREL⟩ := hrel
      by_cases h1 : k < n
      · obtain ⟨f0, hf0, hf1, hf2⟩ := HREL.out.2.1
        obtain ⟨m, hm⟩ : ∃ m : Nat, m = r &&& t := ⟨_, rfl⟩
        have hmb : m < 65536 := by rw [hm]; exact Nat.lt_of_le_of_lt Nat.and_le_right ht
        have e1 : bits .and .u16 (r : Int) (t : Int) = (m : Int) := by have h3 := u16_and_nat r t (by rw [HREL.out.1]; exact frg_lt _ _ _ _) ht; rw [← hm] at h3; exact h3
        have HM : Hid (Bit (f0 k) ∧ xb (f0 k) (pty m) = fol true t xs k) := by
          rw [hf2 k (Nat.le_refl _) h1]
          refine ⟨HBT.out k h1, ?_⟩
          rw [hm]
          rw [HREL.out.1]; rfl
        have HF0 : Hid (wr.ownsRow B 3 1 (.slice (some ⟨g, 0, none⟩) n cap) n (ils f0 n) ∧ (∀ j, j < k → f0 j = fol true t xs j) ∧ (∀ j, k < j → j < n → f0 j = xs j) ∧ Only g w wr) := ⟨hf0, hf1, fun j h6 h7 => hf2 j (Nat.le_of_lt h6) h7, HREL.out.2.2⟩
        have hrb : r < 65536 := by rw [HREL.out.1]; exact frg_lt _ _ _ _
        have HRR : Hid (r = frg true t xs k) := HREL.out.1
        clear hf0 hf1 hf2 hm HREL
        go_wp2
        go_loopw [6, 7, 8] (fun a b l wr2 => ∃ (q : Nat) (f1 : Nat → Int), l = .int .u16 (q : Int) ∧ a = .int .u16 (r : Int) ∧ b = .int .i64 (k : Int) ∧ q < 65536 ∧ Hid ((Bit (f1 k) ∧ xb (f1 k) (pty q) = fol true t xs k) ∧ wr2.ownsRow B 3 1 (.slice (some ⟨g, 0, none⟩) n cap) n (ils f1 n) ∧ (∀ j, j < k → f1 j = fol true t xs j) ∧ (∀ j, k < j → j < n → f1 j = xs j) ∧ Only g w wr2)) (fun _ _ l _ => (intOf l).toNat)
        case atStart => exact ⟨m, f0, rfl, rfl, rfl, hmb, HM.out, HF0.out⟩
        case round =>
          rename World => wq
          obtain ⟨q, f1, rfl, rfl, rfl, hq, hrel⟩ := hrel
          have hown := hrel.out.2.1
          have c := hown.cellAt k (by omega)
          rw [ils_get h1] at c
          by_cases h2 : 0 < q
          · have hfz := hown.frozenAt k
            obtain ⟨y, hy⟩ : ∃ y, y = f1 k := ⟨_, rfl⟩
            rw [← hy] at c
            obtain ⟨z, hz⟩ : ∃ z, z = xb y 1 := ⟨_, rfl⟩
            have e2 : bits .xor .i64 y 1 = z := by rw [hz]; exact xor_bit (by rw [hy]; exact hrel.out.1.1) (.inr rfl)
            obtain ⟨p, hp⟩ : ∃ p : Nat, p = q &&& (q - 1) := ⟨_, rfl⟩
            obtain ⟨q1, hq1⟩ : ∃ q1 : Nat, q1 = q - 1 := ⟨_, rfl⟩
            have e3 : (q : Int) - 1 = (q1 : Int) := by omega
            have e4 : IntKind.u16.wrap (q1 : Int) = (q1 : Int) := by rw [IntKind.wrap_u16]; omega
            have e5 : bits .and .u16 (q : Int) (q1 : Int) = (p : Int) := by rw [u16_and_nat q q1 hq (by omega), hp, hq1]
            have hpq : p < q := by rw [hp]; exact low_lt q h2
            have e6 : ((q : Int) == 0) = false := by simp; omega
            have e7 : ¬ ((q : Int) = 0) := by omega
            have st := (hown.stored k (.int .i64 z)).1
            rw [ils_put] at st
            have HN : Hid ((Bit z ∧ xb z (pty p) = fol true t xs k)) := by
              refine ⟨by rw [hz]; exact xb_bit _ _, ?_⟩
              rw [hz, hp, pty_low q h2, ← hrel.out.1.2, hy]
              have hB1 := hrel.out.1.1
              rcases hB1 with e | e <;> rcases pty_bit q with e9 | e9 <;> rw [e, e9] <;> rfl
            have HS : Hid ((wq.setCell ⟨g, k, none⟩ (.int .i64 z)).ownsRow B 3 1 (.slice (some ⟨g, 0, none⟩) n cap) n (ils (fun i => if i = k then z else f1 i) n) ∧ Only g w (wq.setCell ⟨g, k, none⟩ (.int .i64 z))) := ⟨st, hrel.out.2.2.2.2.put k _⟩
            have HJ : Hid ((∀ j, j < k → f1 j = fol true t xs j) ∧ ∀ j, k < j → j < n → f1 j = xs j) := ⟨hrel.out.2.2.1, hrel.out.2.2.2.1⟩
            clear hown hy hz hp hq1 hrel st
            go_wp2
            go_roundw
            case rel =>
              refine ⟨p, fun i => if i = k then z else f1 i, rfl, rfl, rfl, by omega, ⟨?_, ?_⟩, HS.out.1, fun j hj => ?_, fun j hj hjn => ?_, HS.out.2⟩
              · show Bit (if k = k then z else f1 k); rw [if_pos rfl]; exact HN.out.1
              · show xb (if k = k then z else f1 k) _ = _; rw [if_pos rfl]; exact HN.out.2
              · show (if j = k then z else f1 j) = _; rw [if_neg (by omega)]; exact HJ.out.1 j hj
              · show (if j = k then z else f1 j) = _; rw [if_neg (by omega)]; exact HJ.out.2 j hj hjn
            case measure => simp [intOf]; omega
          · obtain rfl : q = 0 := by omega
            have hy : f1 k = fol true t xs k := by have h3 := hrel.out.1.2; rw [pty_zero, xb_zero hrel.out.1.1] at h3; exact h3
            obtain ⟨z, hz⟩ : ∃ z : Nat, z = (xs k).toNat := ⟨_, rfl⟩
            have hzb : xs k = (z : Int) ∧ z < 2 := by
              have hbb : Bit (xs k) := HBT.out k h1
              rcases hbb with e | e
              · rw [e] at hz ⊢; omega
              · rw [e] at hz ⊢; omega
            obtain ⟨b, off, rfl, hlt, hbg, hcell⟩ := HC.out (by omega)
            have c2 : wq.cell? ⟨b, off + k, none⟩ = some (.int .i64 (z : Int)) := by
              have h4 := hcell k h1
              rw [hzb.1] at h4
              rw [← h4]
              exact cell_block (hrel.out.2.2.2.2.block b hbg)
            clear hcell
            have hz2 := hzb.2
            obtain ⟨r2, hr2⟩ : ∃ r2 : Nat, r2 = frg true t xs (k + 1) := ⟨_, rfl⟩
            have HR2 : Hid (r2 = frg true t xs (k + 1)) := hr2
            obtain ⟨d, hd⟩ : ∃ d : Nat, d = (2 * r) % 65536 := ⟨_, rfl⟩
            have e2 : IntKind.u16.wrap ((r : Int) * 2) = (d : Int) := by rw [IntKind.wrap_u16]; omega
            have e3 : IntKind.u16.wrap (z : Int) = (z : Int) := by rw [IntKind.wrap_u16]; omega
            have e4 : bits .or .u16 (d : Int) (z : Int) = (r2 : Int) := by
              rw [u16_or_nat d z (by omega) (by omega), hr2, frg_next, ← HRR.out]
              obtain ⟨d1, hd1⟩ : ∃ d1, d = 2 * d1 := ⟨d / 2, by omega⟩
              rw [hd1, or_bit hz2, if_pos rfl, ← hz]
              omega
            have HF : Hid ((∃ f', wq.ownsRow B 3 1 (.slice (some ⟨g, 0, none⟩) n cap) n (ils f' n) ∧ (∀ j, j < k + 1 → f' j = fol true t xs j) ∧ ∀ j, k + 1 ≤ j → j < n → f' j = xs j) ∧ Only g w wq) := by
              refine ⟨⟨f1, hrel.out.2.1, fun j hj => ?_, fun j hj hjn => hrel.out.2.2.2.1 j (by omega) hjn⟩, hrel.out.2.2.2.2⟩
              by_cases hjk : j = k
              · subst hjk; exact hy
              · exact hrel.out.2.2.1 j (by omega)
            clear hown hy hz hzb hr2 hd hrel
            go_wp2
            go_step3
            exact ⟨rfl, ⟨k + 1, r2, _, _, _, _, _, _, _, _, _, _, _, _, _, _, _, _, _, _, _, _, _, _, _, _, _, _, _, _, _, _, rfl, by omega, HR2.out, HF.out⟩, by show n - (k + 1) < n - k0; omega⟩
      · obtain rfl : n = k := by omega
        go_wp2
        try simp only [Exit.jump]
        go_end0
        obtain ⟨f0, hf0, hf1, _⟩ := HREL.out.2.1
        have h3 := hf0
        rw [ils_congr hf1] at h3
        exact ⟨rfl, h3, HREL.out.2.2⟩
end Go.Proofs.Ytgahjkijmihmdaa
