/- Two ways held against each other. -/
import Derived.Test.YtgkcofjhajjjgaaLP
import Derived.BigQuiet
namespace Go.Proofs.Ytgkcofjhajjjgaa
open Go.RowKit

/-- A way's bits, as numbers of the language. -/
def wy (u : Nat → Nat) (k : Nat) : Int := ((u k : Nat) : Int)

theorem drew_more (w : World) (m k : Nat) : (w.drewN m).drewN k = w.drewN (m + k) := by
  simp [World.drewN, Nat.add_assoc]

theorem nan_any (x : Int) (w : World) : Calls Try.prog 71 #[.int .i64 x] w fun e w' => e = .returned (.bool false) ∧ w' = w := by
  go_enter Try.func71, Try.ntmps71
  go_wp2
  go_ret
  exact ⟨by simp, rfl⟩

/-- Held against each other. -/
def cmI (x y : Int) : Int := if x < y then -1 else if y < x then 1 else 0

theorem cmpI_any (x y : Int) (w : World) : Calls Try.prog 70 #[.int .i64 x, .int .i64 y] w fun e w' => e = .returned (.int .i64 (cmI x y)) ∧ w' = w := by
  have i1 := nan_any x
  have i2 := nan_any y
  unfold cmI
  by_cases h1 : x < y
  · rw [if_pos h1]
    go_enter Try.func70, Try.ntmps70
    go_wp2_with (first | (go_at_call 71; (with_reducible refine (i1 _).mono ?_); rintro e w' ⟨rfl, hw⟩; obtain rfl := hw.symm) | (go_at_call 71; (with_reducible refine (i2 _).mono ?_); rintro e w' ⟨rfl, hw⟩; obtain rfl := hw.symm))
    go_ret
    exact ⟨rfl, rfl⟩
  · rw [if_neg h1]
    by_cases h2 : y < x
    · rw [if_pos h2]
      go_enter Try.func70, Try.ntmps70
      go_wp2_with (first | (go_at_call 71; (with_reducible refine (i1 _).mono ?_); rintro e w' ⟨rfl, hw⟩; obtain rfl := hw.symm) | (go_at_call 71; (with_reducible refine (i2 _).mono ?_); rintro e w' ⟨rfl, hw⟩; obtain rfl := hw.symm))
      go_ret
      exact ⟨rfl, rfl⟩
    · rw [if_neg h2]
      go_enter Try.func70, Try.ntmps70
      go_wp2_with (first | (go_at_call 71; (with_reducible refine (i1 _).mono ?_); rintro e w' ⟨rfl, hw⟩; obtain rfl := hw.symm) | (go_at_call 71; (with_reducible refine (i2 _).mono ?_); rintro e w' ⟨rfl, hw⟩; obtain rfl := hw.symm))
      go_ret
      exact ⟨rfl, rfl⟩

set_option maxHeartbeats 2000000 in
theorem compare_any {w : World} {p q : Value} {i : Nat} {u v : Nat → Nat} (hp : Il w p i (wy u)) (hq : Il w q i (wy v)) (hi : i ≤ 1000) : Calls Try.prog 66 #[p, q] w fun e w' => ∃ r : Int, e = .returned (.int .i64 r) ∧ (r < 0 ↔ Tr.Fs u v i) ∧ w' = w := by
  obtain ⟨ao, cap, rfl, hcap, hc⟩ := hp
  obtain ⟨bo, cap2, rfl, hcap2, hc2⟩ := hq
  have HC : Hid (0 < i → ∃ b off, ao = some ⟨b, off, none⟩ ∧ b < w.heap.size ∧ ∀ k, k < i → w.cell? ⟨b, off + k, none⟩ = some (.int .i64 (wy u k))) := hc
  have HC2 : Hid (0 < i → ∃ b off, bo = some ⟨b, off, none⟩ ∧ b < w.heap.size ∧ ∀ k, k < i → w.cell? ⟨b, off + k, none⟩ = some (.int .i64 (wy v k))) := hc2
  clear hc hc2
  go_enter Try.func66, Try.ntmps66
  go_wp2
  go_loopw [5, 6, 7, 8, 11] (fun _ _ _ _ j wr => ∃ k : Nat, j = .int .i64 k ∧ k ≤ i ∧ wr = w ∧ Hid (∀ l, l < k → u l = v l)) (fun _ _ _ _ j _ => i - (intOf j).toNat)
  case atStart => exact ⟨0, rfl, by omega, rfl, fun l hl => by omega⟩
  case round =>
    obtain ⟨k, rfl, hk, rfl, hal⟩ := hrel
    by_cases h1 : k < i
    · obtain ⟨b, off, rfl, hlt, hcell⟩ := HC.out (by omega)
      obtain ⟨b2, off2, rfl, hlt2, hcell2⟩ := HC2.out (by omega)
      have c := hcell k h1
      have c2 := hcell2 k h1
      have i1 := cmpI_any (wy u k) (wy v k)
      have HU : Hid (wy u k = ((u k : Nat) : Int)) := rfl
      have HV : Hid (wy v k = ((v k : Nat) : Int)) := rfl
      generalize wy u k = x at *
      generalize wy v k = y at *
      clear hcell hcell2
      by_cases h2 : x < y
      · rw [cmI, if_pos h2] at i1
        have h3 : Hid (u k < v k) := by have := HU.out; have := HV.out; show u k < v k; omega
        clear h2
        go_wp2_with (first | (go_at_call 70; (with_reducible refine (i1 _).mono ?_); rintro e w' ⟨rfl, hw⟩; obtain rfl := hw.symm))
        go_ret
        exact ⟨_, rfl, ⟨fun _ => ⟨k, h1, h3.out, hal.out⟩, fun _ => by decide⟩, rfl⟩
      · by_cases h3 : y < x
        · rw [cmI, if_neg h2, if_pos h3] at i1
          have h4 : Hid (v k < u k) := by have := HU.out; have := HV.out; show v k < u k; omega
          clear h2 h3
          go_wp2_with (first | (go_at_call 70; (with_reducible refine (i1 _).mono ?_); rintro e w' ⟨rfl, hw⟩; obtain rfl := hw.symm))
          go_ret
          refine ⟨_, rfl, ⟨fun h => by omega, ?_⟩, rfl⟩
          rintro ⟨l, hl, h5, h6⟩
          exfalso
          rcases Nat.lt_trichotomy l k with h7 | h7 | h7
          · have := hal.out l h7; omega
          · subst h7; have := h4.out; omega
          · have := h6 k h7; have := h4.out; omega
        · rw [cmI, if_neg h2, if_neg h3] at i1
          have h4 : Hid (u k = v k) := by have := HU.out; have := HV.out; show u k = v k; omega
          clear h2 h3
          go_wp2_with (first | (go_at_call 70; (with_reducible refine (i1 _).mono ?_); rintro e w' ⟨rfl, hw⟩; obtain rfl := hw.symm))
          go_roundw
          case rel =>
            refine ⟨k + 1, by go_num, by omega, by trivial, fun l hl => ?_⟩
            by_cases e : l = k
            · subst e; exact h4.out
            · exact hal.out l (by omega)
          case measure => simp [intOf]; omega
    · obtain rfl : i = k := by omega
      go_wp2
      go_ret
      refine ⟨_, rfl, ⟨fun h => by omega, ?_⟩, rfl⟩
      rintro ⟨l, hl, h5, _⟩
      have := hal.out l hl
      omega

set_option maxHeartbeats 2000000 in
theorem first_any {w : World} {p q : Value} {i : Nat} {u v : Nat → Nat} (hp : Il w p i (wy u)) (hq : Il w q i (wy v)) (hi : i ≤ 1000) {d : Bool} (hd : d = true ↔ Tr.Fs u v i) : Calls Try.prog 62 #[p, q] w fun e w' => e = .returned (.bool d) ∧ ∃ m, w' = w.drewN m := by
  obtain ⟨ao, cap, rfl, hcap, hc⟩ := hp
  obtain ⟨bo, cap2, rfl, hcap2, hc2⟩ := hq
  have HC : Hid (0 < i → ∃ b off, ao = some ⟨b, off, none⟩ ∧ b < w.heap.size ∧ ∀ k, k < i → w.cell? ⟨b, off + k, none⟩ = some (.int .i64 (wy u k))) := hc
  have HC2 : Hid (0 < i → ∃ b off, bo = some ⟨b, off, none⟩ ∧ b < w.heap.size ∧ ∀ k, k < i → w.cell? ⟨b, off + k, none⟩ = some (.int .i64 (wy v k))) := hc2
  have HD : Hid (d = true ↔ Tr.Fs u v i) := hd
  clear hc hc2 hd
  go_enter Try.func62, Try.ntmps62
  go_wp2
  go_loopw [5] (fun j wr => ∃ k : Nat, j = .int .i64 k ∧ k ≤ i ∧ Hid ((∃ m, wr = w.drewN m) ∧ ∀ l, l < k → u l = v l)) (fun j _ => i - (intOf j).toNat)
  case atStart => exact ⟨0, rfl, by omega, ⟨0, rfl⟩, fun l hl => by omega⟩
  case round =>
    obtain ⟨k, rfl, hk, hal⟩ := hrel
    have HW : Hid (∃ m, wr = w.drewN m) := hal.out.1
    have HA : Hid (∀ l, l < k → u l = v l) := hal.out.2
    have HB : Hid (Below w.heap.size w wr) := by obtain ⟨m, hm⟩ := hal.out.1; rw [hm]; exact below_drewN (Below.refl _ _) _
    clear hal
    by_cases h1 : k < i
    · obtain ⟨b, off, rfl, hlt, hcell⟩ := HC.out (by omega)
      obtain ⟨b2, off2, rfl, hlt2, hcell2⟩ := HC2.out (by omega)
      have c := (HB.out.cell (p := ⟨b, off + k, none⟩) hlt).trans (hcell k h1)
      have c2 := (HB.out.cell (p := ⟨b2, off2 + k, none⟩) hlt2).trans (hcell2 k h1)
      have HU : Hid (wy u k = ((u k : Nat) : Int)) := rfl
      have HV : Hid (wy v k = ((v k : Nat) : Int)) := rfl
      generalize wy u k = x at *
      generalize wy v k = y at *
      clear hcell hcell2
      by_cases h2 : x = y
      · subst h2
        have h4 : Hid (u k = v k) := by have := HU.out; have := HV.out; show u k = v k; omega
        go_wp2_with (go_quiet (fail))
        go_roundw
        case rel =>
          refine ⟨k + 1, by go_num, by omega, ?_, fun l hl => ?_⟩
          · obtain ⟨m, hm⟩ := HW.out; exact ⟨_, by rw [hm]; exact drew_more _ _ _⟩
          · by_cases e : l = k
            · subst e; exact h4.out
            · exact HA.out l (by omega)
        case measure => simp [intOf]; omega
      · have h3 : (x != y) = true := by simp [h2]
        have h4 : Hid (¬ u k = v k) := by have := HU.out; have := HV.out; show ¬ u k = v k; omega
        have h5 : Hid (decide (x < y) = d) := by
          have e1 := HU.out
          have e2 := HV.out
          have e3 := h4.out
          show decide (x < y) = d
          by_cases h6 : x < y
          · rw [decide_eq_true h6]
            exact (HD.out.2 ⟨k, h1, by omega, HA.out⟩).symm
          · rw [decide_eq_false h6]
            cases hd : d with
            | false => rfl
            | true =>
              obtain ⟨l, hl, h7, h8⟩ := HD.out.1 hd
              exfalso
              rcases Nat.lt_trichotomy l k with h9 | h9 | h9
              · have := HA.out l h9; omega
              · subst h9; omega
              · exact e3 (h8 k h9)
        clear h2
        go_wp2_with (go_quiet (fail))
        go_ret
        refine ⟨congrArg (fun z => Ending.returned (.bool z)) h5.out, ?_⟩
        obtain ⟨m, hm⟩ := HW.out
        rw [hm]
        exact ⟨_, by first | exact drew_more _ _ _ | (rw [drew_more, drew_more])⟩
    · obtain rfl : i = k := by omega
      have h5 : false = d := by
        cases hd : d with
        | false => rfl
        | true =>
          obtain ⟨l, hl, h7, _⟩ := HD.out.1 hd
          have := HA.out l hl
          omega
      subst h5
      go_wp2
      go_ret
      exact ⟨rfl, HW.out⟩
end Go.Proofs.Ytgkcofjhajjjgaa
