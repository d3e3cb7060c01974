/- Two hurt places of the coder 7, 5 do not matter. -/
import Derived.Test.YtgkcofjhajjjgaaLP
namespace Go.Proofs.Ytgkcofjhajjjgaa
open Go.RowKit

open Tr

/-- The coder of memory 2: its state and what it tells, by the bits. -/
theorem stt_two {u : Nat → Nat} (hu : ∀ k, u k ≤ 1) : ∀ i, stt 2 u i = 2 * sh u 2 i + sh u 1 i
  | 0 => rfl
  | i + 1 => by
    show (2 * stt 2 u i + u i) % 2 ^ 2 = _
    rw [stt_two hu i]
    have h1 : sh u 1 (i + 1) = u i := by unfold sh; rw [if_neg (by omega)]; rfl
    have h2 : sh u 2 (i + 1) = sh u 1 i := by
      unfold sh
      by_cases h : i < 1
      · rw [if_pos h, if_pos (by omega)]
      · rw [if_neg h, if_neg (by omega)]; congr 1
    have h3 : sh u 1 i ≤ 1 := by unfold sh; split; omega; exact hu _
    have h4 := hu i
    rw [h1, h2]
    omega

theorem par7 : ∀ x y z : Fin 2, par ((4 * x.val + 2 * y.val + z.val) &&& 7) = (z.val + y.val + x.val) % 2 := by decide
theorem par5 : ∀ x y z : Fin 2, par ((4 * x.val + 2 * y.val + z.val) &&& 5) = (z.val + x.val) % 2 := by decide

theorem sh_le {u : Nat → Nat} (hu : ∀ k, u k ≤ 1) (k i : Nat) : sh u k i ≤ 1 := by
  unfold sh; split; omega; exact hu _

/-- What the coder 7, 5 tells at place k. -/
def out75 (u : Nat → Nat) (k : Nat) : Nat := par (rgg 2 u (k / 2) &&& (if k % 2 = 0 then 7 else 5))

theorem out75_even {u : Nat → Nat} (hu : ∀ k, u k ≤ 1) (i : Nat) : out75 u (2 * i) = (u i + sh u 1 i + sh u 2 i) % 2 := by
  have h := par7 ⟨sh u 2 i, by have := sh_le hu 2 i; omega⟩ ⟨sh u 1 i, by have := sh_le hu 1 i; omega⟩ ⟨u i, by have := hu i; omega⟩
  unfold out75 rgg
  rw [show 2 * i / 2 = i by omega, if_pos (by omega), stt_two hu i, show 2 * (2 * sh u 2 i + sh u 1 i) + u i = 4 * sh u 2 i + 2 * sh u 1 i + u i by omega]
  exact h
theorem out75_odd {u : Nat → Nat} (hu : ∀ k, u k ≤ 1) (i : Nat) : out75 u (2 * i + 1) = (u i + sh u 2 i) % 2 := by
  have h := par5 ⟨sh u 2 i, by have := sh_le hu 2 i; omega⟩ ⟨sh u 1 i, by have := sh_le hu 1 i; omega⟩ ⟨u i, by have := hu i; omega⟩
  unfold out75 rgg
  rw [show (2 * i + 1) / 2 = i by omega, if_neg (by omega), stt_two hu i, show 2 * (2 * sh u 2 i + sh u 1 i) + u i = 4 * sh u 2 i + 2 * sh u 1 i + u i by omega]
  exact h

theorem sm_two (f : Nat → Nat) : ∀ n, sm f (2 * n) = sm (fun i => f (2 * i) + f (2 * i + 1)) n
  | 0 => rfl
  | n + 1 => by
    rw [show 2 * (n + 1) = 2 * n + 1 + 1 by omega, sm, sm, sm_two f n, sm]
    omega

theorem sh_df (u v : Nat → Nat) (k i : Nat) : sh (fun j => df (u j) (v j)) k i = df (sh u k i) (sh v k i) := by
  unfold sh
  split
  · rfl
  · rfl

/-- Two messages are five places apart. -/
theorem apart_five {u v : Nat → Nat} {n j : Nat} (hu : ∀ k, u k ≤ 1) (hv : ∀ k, v k ≤ 1) (hz : ∀ k, n ≤ k → u k = 0 ∧ v k = 0) (hj : u j ≠ v j) : 5 ≤ sm (fun k => df (out75 u k) (out75 v k)) (2 * (n + 2)) := by
  rw [sm_two]
  have h := five (u := fun k => df (u k) (v k)) (n := n) (fun i => by show (u i + v i) % 2 < 2; omega) (fun i hi => by show (u i + v i) % 2 = 0; have := hz i hi; omega) (j := j) (by show (u j + v j) % 2 = 1; have := hu j; have := hv j; omega)
  refine Nat.le_trans h (Nat.le_of_eq (sm_congr fun i _ => ?_))
  show wt _ _ _ = df (out75 u (2 * i)) (out75 v (2 * i)) + df (out75 u (2 * i + 1)) (out75 v (2 * i + 1))
  rw [out75_even hu, out75_even hv, out75_odd hu, out75_odd hv, df_wt, sh_df, sh_df]

/-- The score as the search counts it. -/
theorem vl_sc {u : Nat → Nat} {r : Nat → Nat} {xs : Nat → Int} : ∀ {i : Nat}, (∀ k, k < 2 * i → xs k = 2 * (r k : Int) - 1) → vl (nx 2) (gg 7 5 xs) u i = sc r (out75 u) (2 * i)
  | 0, _ => rfl
  | i + 1, h => by
    rw [show 2 * (i + 1) = 2 * i + 1 + 1 by omega]
    simp only [vl, sc]
    rw [vl_sc (fun k hk => h k (by omega))]
    unfold gg out75
    rw [h (2 * i) (by omega), h (2 * i + 1) (by omega), show 2 * i / 2 = i by omega, show (2 * i + 1) / 2 = i by omega, if_pos (by omega), if_neg (by omega)]
    show _ + (_ * (2 * ((par ((2 * ru (nx 2) u i + u i) &&& 7) : Nat) : Int) - 1) + _ * (2 * ((par ((2 * ru (nx 2) u i + u i) &&& 5) : Nat) : Int) - 1)) = _
    unfold rgg stt
    omega

/-- Hurt at some places: how often it differs. -/
theorem sm_hurt {c r : Nat → Nat} {N q : Nat} {ps : Nat → Nat} (hc : ∀ k, c k ≤ 1) (hq : q ≤ 2) (hp : ∀ j, j < q → ps j < N) (hd : q = 2 → ps 0 ≠ ps 1) (hr : ∀ k, k < N → r k = if ∃ j, j < q ∧ ps j = k then 1 - c k else c k) : sm (fun k => df (r k) (c k)) N = q := by
  have key : ∀ n, n ≤ N → sm (fun k => df (r k) (c k)) n = (if 0 < q ∧ ps 0 < n then 1 else 0) + (if 1 < q ∧ ps 1 < n then 1 else 0) := by
    intro n
    induction n with
    | zero => intro _; rw [if_neg (by omega), if_neg (by omega)]; rfl
    | succ n ih =>
      intro hn
      rw [sm, ih (by omega)]
      have h1 := hr n (by omega)
      have h2 := hc n
      by_cases h3 : ∃ j, j < q ∧ ps j = n
      · rw [if_pos h3] at h1
        have h4 : df (r n) (c n) = 1 := by rw [h1]; unfold df; omega
        rw [h4]
        obtain ⟨j, hj, h5⟩ := h3
        obtain rfl | rfl : j = 0 ∨ j = 1 := by omega
        · have h6 : ¬ (1 < q ∧ ps 1 = n) := fun h => hd (by omega) (by omega)
          rw [if_neg (show ¬ (0 < q ∧ ps 0 < n) by omega), if_pos (show 0 < q ∧ ps 0 < n + 1 by omega)]
          by_cases h7 : 1 < q ∧ ps 1 < n
          · rw [if_pos h7, if_pos (by omega)]
          · rw [if_neg h7, if_neg (by omega)]
        · have h6 : ¬ (ps 0 = n) := fun h => hd (by omega) (by omega)
          rw [if_neg (show ¬ (1 < q ∧ ps 1 < n) by omega), if_pos (show 1 < q ∧ ps 1 < n + 1 by omega)]
          by_cases h7 : 0 < q ∧ ps 0 < n
          · rw [if_pos h7, if_pos (by omega)]
          · rw [if_neg h7, if_neg (by omega)]
      · rw [if_neg h3] at h1
        have h4 : df (r n) (c n) = 0 := by rw [h1]; unfold df; omega
        have h5 : ¬ (0 < q ∧ ps 0 = n) := fun h => h3 ⟨0, h.1, h.2⟩
        have h6 : ¬ (1 < q ∧ ps 1 = n) := fun h => h3 ⟨1, h.1, h.2⟩
        rw [h4]
        split <;> split <;> split <;> split <;> omega
  rw [key N (Nat.le_refl _)]
  obtain rfl | rfl | rfl : q = 0 ∨ q = 1 ∨ q = 2 := by omega
  · rfl
  · rw [if_pos ⟨by omega, hp 0 (by omega)⟩, if_neg (by omega)]
  · rw [if_pos ⟨by omega, hp 0 (by omega)⟩, if_pos ⟨by omega, hp 1 (by omega)⟩]

/-- The message is found again. -/
theorem found {n q : Nat} {c u r : Nat → Nat} {xs : Nat → Int} (hc : ∀ k, c k ≤ 1) (hcz : ∀ k, n ≤ k → c k = 0) (hr : ∀ k, k < 2 * (n + 2) → r k < 2) (hx : ∀ k, k < 2 * (n + 2) → xs k = 2 * (r k : Int) - 1)
    (hd : sm (fun k => df (r k) (out75 c k)) (2 * (n + 2)) = q) (hq : q ≤ 2) (hu : Tr.Op (nx 2) (gg 7 5 xs) (alw n) u (n + 2) 0) :
    (∀ k, k < n → u k = c k) ∧ vl (nx 2) (gg 7 5 xs) u (n + 2) = ((2 * (n + 2) : Nat) : Int) - 2 * (q : Int) := by
  have hol : ∀ (v : Nat → Nat) k, out75 v k < 2 := fun v k => by unfold out75; have := par_le (rgg 2 v (k / 2) &&& (if k % 2 = 0 then 7 else 5)); omega
  have hsc : vl (nx 2) (gg 7 5 xs) c (n + 2) = ((2 * (n + 2) : Nat) : Int) - 2 * (q : Int) := by
    rw [vl_sc (r := r) hx, sc_df hr (fun i _ => hol c i), hd]
  have hsm : Sm u c (n + 2) := by
    rcases hu.2.2 c (tail_zero (M := 2) (by omega) (fun k hk _ => hcz k hk)) (fun k _ => ⟨hc k, fun h => hcz k h⟩) with h | h
    · -- u as a message with noughts behind it
      by_cases hj : ∃ j, j < n + 2 ∧ u j ≠ c j
      · exfalso
        obtain ⟨j, hj, hne⟩ := hj
        have hu2 : ∀ k, (fun k => if k < n + 2 then u k else 0) k ≤ 1 := fun k => by
          show (if k < n + 2 then u k else 0) ≤ 1
          split
          · rename_i hk; exact (hu.2.1 k hk).1
          · omega
        have huz : ∀ k, n ≤ k → (if k < n + 2 then u k else 0) = 0 ∧ c k = 0 := fun k hk => ⟨by split; rename_i h9; exact (hu.2.1 k h9).2 hk; rfl, hcz k hk⟩
        have h5 := apart_five (u := c) (v := fun k => if k < n + 2 then u k else 0) (n := n) (j := j) hc hu2 (fun k hk => ⟨(huz k hk).2, (huz k hk).1⟩) (by show c j ≠ if j < n + 2 then u j else 0; rw [if_pos hj]; exact fun e => hne e.symm)
        have hls := less_score (r := r) (c := out75 c) (d := out75 (fun k => if k < n + 2 then u k else 0)) hr (fun i _ => hol c i) (fun i _ => hol _ i) (by rw [hd]; exact hq) h5
        rw [← vl_sc (r := r) hx, ← vl_sc (r := r) hx, vl_sm (nx := nx 2) (g := gg 7 5 xs) (u := fun k => if k < n + 2 then u k else 0) (v := u) (i := n + 2) (fun k hk => if_pos hk)] at hls
        rcases h with h | ⟨h, _⟩
        · omega
        · omega
      · intro k hk
        rcases Nat.lt_trichotomy (u k) (c k) with h1 | h1 | h1
        · exact absurd ⟨k, hk, by omega⟩ hj
        · exact h1
        · exact absurd ⟨k, hk, by omega⟩ hj
    · exact h
  exact ⟨fun k hk => hsm k (by omega), by rw [vl_sm hsm]; exact hsc⟩
end Go.Proofs.Ytgkcofjhajjjgaa
