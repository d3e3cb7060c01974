/- Names: the model. -/
import Derived.Test.YtiadfabhpagmpaaDoorNC
namespace Go.Proofs.YtiadfabhpagmpaaDoor
open Go.RowKit

/-- What may stand behind the first letter. -/
def Ltr2 (r : Int) : Prop := (48 ≤ r ∧ r ≤ 57) ∨ r = 95
instance (r : Int) : Decidable (Ltr2 r) := by unfold Ltr2; infer_instance

/-- What may not stand at a place of a name. -/
def Bad (s : ByteArray) (pos c : Nat) : Prop := (rn s pos).2 = 0 ∨ (¬ Ltr (rn s pos).1 ∧ (c = 0 ∨ ¬ Ltr2 (rn s pos).1))
instance (s : ByteArray) (pos c : Nat) : Decidable (Bad s pos c) := by unfold Bad; infer_instance

/-- A name from a place on, c runes of which have been seen. -/
def nmr (s : ByteArray) : Nat → Nat → Nat → Bool
  | 0, _, c => decide (1 ≤ c ∧ c ≤ 12)
  | b + 1, pos, c => if pos < s.size then if Bad s pos c then false else nmr s b (pos + (rn s pos).2) (c + 1) else decide (1 ≤ c ∧ c ≤ 12)

theorem nmr_end {s : ByteArray} {b pos c : Nat} (h : ¬ pos < s.size) : nmr s b pos c = decide (1 ≤ c ∧ c ≤ 12) := by
  cases b with
  | zero => rfl
  | succ b => exact if_neg h

theorem nmr_long (s : ByteArray) : ∀ (b pos c : Nat), 12 < c → nmr s b pos c = false
  | 0, _, c, h => decide_eq_false (by omega)
  | b + 1, pos, c, h => by
    unfold nmr
    by_cases h1 : pos < s.size
    · rw [if_pos h1]
      by_cases h2 : Bad s pos c
      · rw [if_pos h2]
      · rw [if_neg h2]
        exact nmr_long s b _ _ (by omega)
    · rw [if_neg h1]
      exact decide_eq_false (by omega)

theorem nmr_bad {s : ByteArray} {b pos c : Nat} (h : pos < s.size) (hb : s.size ≤ pos + b) (h2 : Bad s pos c) : nmr s b pos c = false := by
  cases b with
  | zero => omega
  | succ b =>
    unfold nmr
    rw [if_pos h, if_pos h2]

theorem nmr_step {s : ByteArray} {b pos c : Nat} (h : pos < s.size) (hb : s.size ≤ pos + b) (h2 : ¬ Bad s pos c) : ∃ b', b = b' + 1 ∧ nmr s b pos c = nmr s b' (pos + (rn s pos).2) (c + 1) := by
  cases b with
  | zero => omega
  | succ b =>
    refine ⟨b, rfl, ?_⟩
    show (if pos < s.size then if Bad s pos c then false else nmr s b (pos + (rn s pos).2) (c + 1) else _) = _
    rw [if_pos h, if_neg h2]

theorem nmr_full {s : ByteArray} {b pos : Nat} (h : pos < s.size) (hb : s.size ≤ pos + b) : nmr s b pos 12 = false := by
  by_cases h2 : Bad s pos 12
  · exact nmr_bad h hb h2
  · obtain ⟨b', rfl, e⟩ := nmr_step h hb h2
    rw [e]
    exact nmr_long s b' _ _ (by omega)

theorem rn_le (s : ByteArray) (i : Nat) : (rn s i).1 ≤ 3000 ∧ (rn s i).2 ≤ 2 := by
  unfold rn
  have h0 := bat_lt s i
  have h1 := bat_lt s (i + 1)
  split
  · exact ⟨by simp only []; omega, by simp⟩
  · split
    · exact ⟨by simp only []; omega, by simp⟩
    · exact ⟨by simp, by simp⟩

set_option maxRecDepth 20000 in
set_option maxHeartbeats 2000000 in
theorem sName_any (s : ByteArray) (hs : s.size ≤ 1048576) (w : World) : Calls Tryd.prog 34 #[.string s] w fun e w' => e = .returned (.bool (nmr s s.size 0 0)) ∧ w' = w := by
  obtain ⟨d, hd⟩ : ∃ d, d = nmr s s.size 0 0 := ⟨_, rfl⟩
  rw [← hd]
  have HD : Hid _ := hd
  clear hd
  go_enter Tryd.func34, Tryd.ntmps34
  go_wp2
  go_loopw [3, 4] (fun a i wr => ∃ (pos b c : Nat), a = .int .i64 c ∧ i = .int .i64 pos ∧ wr = w ∧ s.size ≤ pos + b ∧ c ≤ pos ∧ pos ≤ s.size + 2 ∧ Hid (nmr s b pos c = nmr s s.size 0 0)) (fun _ i _ => s.size + 3 - (intOf i).toNat)
  case atStart => exact ⟨0, s.size, 0, by rfl, by rfl, rfl, by omega, by omega, by omega, rfl⟩
  case round =>
    obtain ⟨pos, b, c, rfl, rfl, rfl, hb, hcp, hps, hc⟩ := hrel
    by_cases hp : pos < s.size
    · have hle := rn_le s pos
      obtain ⟨r, hr⟩ : ∃ r, r = (rn s pos).1 := ⟨_, rfl⟩
      obtain ⟨n, hn⟩ : ∃ n, n = (rn s pos).2 := ⟨_, rfl⟩
      rw [← hr, ← hn] at hle
      have HR : Hid _ := hr
      have HN : Hid _ := hn
      clear hr hn
      by_cases n0 : n = 0
      · have e0 : ((n : Int) == 0) = true := by simp [n0]
        have hB : Hid (Bad s pos c) := by show Bad s pos c; unfold Bad; rw [← HR.out, ← HN.out]; simp [n0]
        have kr : ∀ w : World, _ := fun w => by have k := sRune_any s pos hp hs w; rw [← HR.out, ← HN.out] at k; exact k
        go_wp2_with (first
          | (go_at_call 45; (with_reducible refine (kr _).mono ?_); rintro e w' ⟨rfl, hw⟩; obtain rfl := hw.symm)
          | (go_at_call 46; (with_reducible refine (sLtr_any _ _).mono ?_); rintro e w' ⟨rfl, hw⟩; obtain rfl := hw.symm; rw [hL])
          | (go_at_call 18; (with_reducible refine (in_one _ _ _ _).mono ?_); rintro e w' ⟨rfl, hw⟩; obtain rfl := hw.symm; rw [hD]))
        go_ret
        exact ⟨congrArg (fun z => Ending.returned (.bool z)) (by rw [HD.out, ← hc.out]; exact (nmr_bad hp hb hB.out).symm), rfl⟩
      · have e0 : ((n : Int) == 0) = false := by simp [n0]
        by_cases hl : Ltr r
        · have hL := decide_eq_true hl
          have hB : Hid (¬ Bad s pos c) := by show ¬ Bad s pos c; unfold Bad; rw [← HR.out, ← HN.out]; simp [n0, hl]
          have kr : ∀ w : World, _ := fun w => by have k := sRune_any s pos hp hs w; rw [← HR.out, ← HN.out] at k; exact k
          go_wp2_with (first
            | (go_at_call 45; (with_reducible refine (kr _).mono ?_); rintro e w' ⟨rfl, hw⟩; obtain rfl := hw.symm)
            | (go_at_call 46; (with_reducible refine (sLtr_any _ _).mono ?_); rintro e w' ⟨rfl, hw⟩; obtain rfl := hw.symm; rw [hL])
            | (go_at_call 18; (with_reducible refine (in_one _ _ _ _).mono ?_); rintro e w' ⟨rfl, hw⟩; obtain rfl := hw.symm; rw [hD]))
          go_roundw
          case rel =>
            obtain ⟨b', rfl, e⟩ := nmr_step hp hb hB.out
            rw [← HN.out] at e
            exact ⟨pos + n, b', c + 1, by go_num, by go_num, by trivial, by omega, by omega, by omega, (show nmr s b' (pos + n) (c + 1) = nmr s s.size 0 0 by rw [← e]; exact hc.out)⟩
          case measure => simp [intOf]; omega
        · have hL := decide_eq_false hl
          by_cases c0 : c = 0
          · have e1 : ((c : Int) == 0) = true := by simp [c0]
            have hB : Hid (Bad s pos c) := by show Bad s pos c; unfold Bad; rw [← HR.out, ← HN.out]; simp [n0, hl, c0]
            have kr : ∀ w : World, _ := fun w => by have k := sRune_any s pos hp hs w; rw [← HR.out, ← HN.out] at k; exact k
            go_wp2_with (first
              | (go_at_call 45; (with_reducible refine (kr _).mono ?_); rintro e w' ⟨rfl, hw⟩; obtain rfl := hw.symm)
              | (go_at_call 46; (with_reducible refine (sLtr_any _ _).mono ?_); rintro e w' ⟨rfl, hw⟩; obtain rfl := hw.symm; rw [hL])
              | (go_at_call 18; (with_reducible refine (in_one _ _ _ _).mono ?_); rintro e w' ⟨rfl, hw⟩; obtain rfl := hw.symm; rw [hD]))
            go_ret
            exact ⟨congrArg (fun z => Ending.returned (.bool z)) (by rw [HD.out, ← hc.out]; exact (nmr_bad hp hb hB.out).symm), rfl⟩
          · have e1 : ((c : Int) == 0) = false := by simp [c0]
            by_cases r95 : r = 95
            · have e2 : ((r : Int) != 95) = false := by simp [r95]
              have l2 : Ltr2 r := by unfold Ltr2; omega
              clear r95
              have hB : Hid (¬ Bad s pos c) := by show ¬ Bad s pos c; unfold Bad; rw [← HR.out, ← HN.out]; simp [n0, hl, c0, l2]
              have kr : ∀ w : World, _ := fun w => by have k := sRune_any s pos hp hs w; rw [← HR.out, ← HN.out] at k; exact k
              go_wp2_with (first
                | (go_at_call 45; (with_reducible refine (kr _).mono ?_); rintro e w' ⟨rfl, hw⟩; obtain rfl := hw.symm)
                | (go_at_call 46; (with_reducible refine (sLtr_any _ _).mono ?_); rintro e w' ⟨rfl, hw⟩; obtain rfl := hw.symm; rw [hL])
                | (go_at_call 18; (with_reducible refine (in_one _ _ _ _).mono ?_); rintro e w' ⟨rfl, hw⟩; obtain rfl := hw.symm; rw [hD]))
              go_roundw
              case rel =>
                obtain ⟨b', rfl, e⟩ := nmr_step hp hb hB.out
                rw [← HN.out] at e
                exact ⟨pos + n, b', c + 1, by go_num, by go_num, by trivial, by omega, by omega, by omega, (show nmr s b' (pos + n) (c + 1) = nmr s s.size 0 0 by rw [← e]; exact hc.out)⟩
              case measure => simp [intOf]; omega
            · have e2 : ((r : Int) != 95) = true := by simp; omega
              by_cases rd : 48 ≤ (r : Int) ∧ (r : Int) ≤ 57
              · have hD := decide_eq_true rd
                have l2 : Ltr2 r := Or.inl rd
                have hB : Hid (¬ Bad s pos c) := by show ¬ Bad s pos c; unfold Bad; rw [← HR.out, ← HN.out]; simp [n0, hl, c0, l2]
                have kr : ∀ w : World, _ := fun w => by have k := sRune_any s pos hp hs w; rw [← HR.out, ← HN.out] at k; exact k
                go_wp2_with (first
                  | (go_at_call 45; (with_reducible refine (kr _).mono ?_); rintro e w' ⟨rfl, hw⟩; obtain rfl := hw.symm)
                  | (go_at_call 46; (with_reducible refine (sLtr_any _ _).mono ?_); rintro e w' ⟨rfl, hw⟩; obtain rfl := hw.symm; rw [hL])
                  | (go_at_call 18; (with_reducible refine (in_one _ _ _ _).mono ?_); rintro e w' ⟨rfl, hw⟩; obtain rfl := hw.symm; rw [hD]))
                go_roundw
                case rel =>
                  obtain ⟨b', rfl, e⟩ := nmr_step hp hb hB.out
                  rw [← HN.out] at e
                  exact ⟨pos + n, b', c + 1, by go_num, by go_num, by trivial, by omega, by omega, by omega, (show nmr s b' (pos + n) (c + 1) = nmr s s.size 0 0 by rw [← e]; exact hc.out)⟩
                case measure => simp [intOf]; omega
              · have hD := decide_eq_false rd
                have l2 : ¬ Ltr2 r := by unfold Ltr2; omega
                have hB : Hid (Bad s pos c) := by show Bad s pos c; unfold Bad; rw [← HR.out, ← HN.out]; simp [n0, hl, c0, l2]
                have kr : ∀ w : World, _ := fun w => by have k := sRune_any s pos hp hs w; rw [← HR.out, ← HN.out] at k; exact k
                go_wp2_with (first
                  | (go_at_call 45; (with_reducible refine (kr _).mono ?_); rintro e w' ⟨rfl, hw⟩; obtain rfl := hw.symm)
                  | (go_at_call 46; (with_reducible refine (sLtr_any _ _).mono ?_); rintro e w' ⟨rfl, hw⟩; obtain rfl := hw.symm; rw [hL])
                  | (go_at_call 18; (with_reducible refine (in_one _ _ _ _).mono ?_); rintro e w' ⟨rfl, hw⟩; obtain rfl := hw.symm; rw [hD]))
                go_ret
                exact ⟨congrArg (fun z => Ending.returned (.bool z)) (by rw [HD.out, ← hc.out]; exact (nmr_bad hp hb hB.out).symm), rfl⟩
    · go_wp2_with (go_at_call 18; (with_reducible refine (in_one _ _ _ _).mono ?_); rintro e w' ⟨rfl, hw⟩; obtain rfl := hw.symm)
      go_ret
      exact ⟨congrArg (fun z => Ending.returned (.bool z)) (by rw [HD.out, ← hc.out, nmr_end hp, Bool.decide_and]; congr 1 <;> exact decide_eq_decide.2 (by omega)), rfl⟩

end Go.Proofs.YtiadfabhpagmpaaDoor
