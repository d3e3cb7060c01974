/- What both sides say of a list of bits before they reckon: wrong arguments, NaNs, or on. -/
import Derived.Test.YtghblaphkbcgpaaDoorZ2
import Derived.Test.YtghblaphkbcgpaaDoorV1
import Derived.Test.YtghblaphkbcgpaaDoorK2
namespace Go.Proofs.YtghblaphkbcgpaaDoor
open Go.RowKit

theorem allB_all {b : Nat → Bool} {n k : Nat} (h : allB b n = true) (hk : k < n) : b k = true := by
  cases hb : b k
  · rw [allB_no hk hb] at h; cases h
  · rfl

theorem anyB_no {b : Nat → Bool} {n k : Nat} (h : anyB b n = false) (hk : k < n) : b k = false := by
  induction n with
  | zero => omega
  | succ n ih =>
    simp only [anyB, Bool.or_eq_false_iff] at h
    by_cases e : k = n
    · subst e; exact h.2
    · exact ih h.1 (by omega)

theorem anyB_congr {b c : Nat → Bool} {n : Nat} (h : ∀ k, k < n → b k = c k) : anyB b n = anyB c n := by
  induction n with
  | zero => rfl
  | succ n ih => simp only [anyB, ih (fun k hk => h k (by omega)), h n (by omega)]

/-- The three ways: wrong arguments; a NaN; or numbers of one form. -/
theorem front (f mode : Int) (n : Nat) (xs : Nat → Int) (hn : n ≤ 1000) (hn0 : 0 < n) (hx : ∀ k, k < n → 0 ≤ xs k ∧ xs k < 18446744073709551616) :
    ((∀ W v, Lu W v n xs → Calls Tryd.prog 6 #[.int .i64 f, .int .i64 mode, v] W fun e w' => e = .returned (.bool false) ∧ w' = W) ∧
      (∀ W v, Shp W → Lu W v n xs → Calls Tryd.prog 14 #[.int .i64 f, .int .i64 mode, v] W fun e w' => e = .returned (.tuple #[.int .u64 0, .int .i64 0, .bool true]) ∧ Below W.heap.size W w')) ∨
    (∃ pl fl : Int, (∀ W v, Lu W v n xs → Calls Tryd.prog 6 #[.int .i64 f, .int .i64 mode, v] W fun e w' => e = .returned (.bool true) ∧ w' = W) ∧
      (∀ W v, Lu W v n xs → Calls Tryd.prog 7 #[.int .i64 f, v] W fun e w' => e = .returned (.tuple #[.int .u64 pl, .int .i64 fl, .bool true]) ∧ Below W.heap.size W w') ∧
      (∀ W v, Shp W → Lu W v n xs → Calls Tryd.prog 14 #[.int .i64 f, .int .i64 mode, v] W fun e w' => e = .returned (.tuple #[.int .u64 pl, .int .i64 fl, .bool true]) ∧ Below W.heap.size W w')) ∨
    (∃ wd p t S D h q pl fl : Int, Frm f wd p t S D h q ∧ 1 ≤ mode ∧ mode ≤ 5 ∧ (∀ k, k < n → xs k < D ∧ ¬ (2 * t + 1) * h < sz S (xs k)) ∧
      (∀ W v, Lu W v n xs → Calls Tryd.prog 6 #[.int .i64 f, .int .i64 mode, v] W fun e w' => e = .returned (.bool true) ∧ w' = W) ∧
      (∀ W v, Lu W v n xs → Calls Tryd.prog 7 #[.int .i64 f, v] W fun e w' => e = .returned (.tuple #[.int .u64 pl, .int .i64 fl, .bool false]) ∧ Below W.heap.size W w') ∧
      (∀ W v, Shp W → Lu W v n xs → Calls Tryd.prog 14 #[.int .i64 f, .int .i64 mode, v] W fun e w' => e = .returned (.tuple #[.int .u64 0, .int .i64 0, .bool false]) ∧ Below W.heap.size W w')) := by
  have hm : ∃ mo : Bool, (∀ w, Calls Tryd.prog 19 #[.int .i64 mode] w fun e w' => e = .returned (.bool mo) ∧ w' = w) ∧ (mo = true ↔ 1 ≤ mode ∧ mode ≤ 5) := by
    by_cases h : 1 ≤ mode ∧ mode ≤ 5
    · exact ⟨true, fun w => mode_yes mode h.1 h.2 w, by simpa using h⟩
    · exact ⟨false, fun w => mode_no mode (by omega) w, by simpa using h⟩
  obtain ⟨mo, hmo, hmi⟩ := hm
  by_cases hf : f < 1 ∨ 3 < f
  · refine Or.inl ⟨fun W v hv => ?_, fun W v _ _ => early_no f mode v (Or.inl hf)⟩
    have := args_any hv hn f mode (fun _ => false) mo (fun k _ w => l1Are_no f _ w hf) hmo
    rw [allB_no hn0 rfl] at this
    exact this
  · obtain ⟨wd, p, t, S, D, h, q, hF⟩ := frm_of f hf
    have hD0 : 0 < D := by rcases hF with ⟨_, _, _, _, _, rfl, _⟩ | ⟨_, _, _, _, _, rfl, _⟩ | ⟨_, _, _, _, _, rfl, _⟩ <;> decide
    have hlt : ∀ k, k < n → (xs k / D == 0) = true → xs k < D := fun k hk hb => by
      have e : xs k / D = 0 := by simpa using hb
      have e1 := Int.emod_lt_of_pos (xs k) hD0
      have e2 := Int.mul_ediv_add_emod (xs k) D
      rw [e] at e2
      simp at e2
      omega
    have hargs := fun W v (hv : Lu W v n xs) => args_any hv hn f mode (fun k => xs k / D == 0) mo (fun k hk w => l1Are_any hF.form (xs k) (hx k hk).1 (hx k hk).2 w) hmo
    cases hmv : mo
    · rw [hmv] at hargs hmi
      refine Or.inl ⟨fun W v hv => ?_, fun W v _ _ => early_no f mode v (Or.inr (by simp at hmi; omega))⟩
      have := hargs W v hv
      rwa [Bool.and_false] at this
    · rw [hmv] at hargs hmi
      have hm5 := hmi.1 rfl
      have hea := fun W v (hs : Shp W) (hv : Lu W v n xs) => early_any hF hv hn mode hm5.1 hm5.2 hs ((2 * t + 1) * h + h / 2) (fun k => xs k / D == 0) (fun k => decide ((2 * t + 1) * h < sz S (xs k))) (fun k => sigOf t h S (xs k))
        (fun k hk w hs => isBits_any hF.form (xs k) w hs) (fun k hk hb w => isNan_any hF (xs k) w (hx k hk).1 (hlt k hk hb)) (fun k hk hb w => isSig_any hF (xs k) w (hx k hk).1 (hlt k hk hb)) (fun w => plainNan_any hF w)
      cases hal : allB (fun k => xs k / D == 0) n
      · refine Or.inl ⟨fun W v hv => ?_, fun W v hs hv => ?_⟩
        · have := hargs W v hv
          rw [hal] at this
          exact this
        · have := hea W v hs hv
          rw [hal] at this
          exact this
      · have hall : ∀ k, k < n → xs k < D := fun k hk => hlt k hk (allB_all hal hk)
        have hun : ∀ k, ∃ u : Int × Bool × Int × Int, k < n → (∀ w, Calls Tryd.prog 8 #[.int .i64 f, .int .u64 (xs k)] w fun e w' => e = .returned (.agg #[.int .i64 u.1, .bool u.2.1, .int .i64 u.2.2.1, .int .u64 u.2.2.2]) ∧ Below w.heap.size w w') ∧ (u.1 = 3 ↔ (2 * t + 1) * h < sz S (xs k)) := fun k => by
          by_cases hk : k < n
          · obtain ⟨K, E, M, nb, hu, -, -, -, -, h3, -⟩ := unpack_told hF (xs k) (hx k hk).1 (hall k hk)
            exact ⟨⟨K, nb, E, M⟩, fun _ => ⟨hu, h3⟩⟩
          · exact ⟨⟨0, false, 0, 0⟩, fun h => absurd h hk⟩
        obtain ⟨u, hu⟩ := Classical.axiomOfChoice hun
        have hna := fun W v (hv : Lu W v n xs) => nans_any hv hn f ((2 * t + 1) * h + h / 2) (fun k => (u k).1) (fun k => (u k).2.2.1) (fun k => (u k).2.2.2) (fun k => (u k).2.1) (fun k => sigOf t h S (xs k)) (fun k hk w => (hu k hk).1 w) (fun k hk w => signal_any hF (xs k) w (hx k hk).1 (hall k hk)) (fun w => l1Plain_any hF w)
        have hnn : anyB (fun k => (u k).1 == 3) n = anyB (fun k => decide ((2 * t + 1) * h < sz S (xs k))) n := anyB_congr fun k hk => by
          rw [Bool.eq_iff_iff]
          simpa using (hu k hk).2
        rw [hnn] at hna
        have hA : ∀ W v, Lu W v n xs → Calls Tryd.prog 6 #[.int .i64 f, .int .i64 mode, v] W fun e w' => e = .returned (.bool true) ∧ w' = W := fun W v hv => by
          have := hargs W v hv
          rw [hal] at this
          exact this
        cases han : anyB (fun k => decide ((2 * t + 1) * h < sz S (xs k))) n
        · rw [han] at hna
          refine Or.inr (Or.inr ⟨wd, p, t, S, D, h, q, _, _, hF, hm5.1, hm5.2, fun k hk => ⟨hall k hk, by simpa using anyB_no han hk⟩, hA, hna, fun W v hs hv => ?_⟩)
          have := hea W v hs hv
          rw [hal, han] at this
          exact this
        · rw [han] at hna
          refine Or.inr (Or.inl ⟨_, _, hA, hna, fun W v hs hv => ?_⟩)
          have := hea W v hs hv
          rw [hal, han] at this
          exact this
end Go.Proofs.YtghblaphkbcgpaaDoor
