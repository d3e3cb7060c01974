/- The signs of a word, by the document. -/
import Derived.Test.YtpjpkkgcnnmljaaGS
import Derived.Test.YtpjpkkgcnnmljaaAW
namespace Go.Proofs.Ytpjpkkgcnnmljaa
open Go.RowKit

set_option maxRecDepth 20000 in
set_option maxHeartbeats 1000000 in
theorem sPow_any {k : Nat} (hk : k ≤ 100000) (w : World) : Calls Try.prog 33 #[.int .i64 (k : Int)] w fun e w' => e = .returned (.int .i64 ((gpw k : Nat) : Int)) ∧ w' = w := by
  obtain ⟨z, hz9⟩ : ∃ z, z = gpw k := ⟨_, rfl⟩
  have HZ : Hid (z = gpw (k % 255)) := by rw [hz9]; exact (gpw_mod k).symm
  rw [← hz9]
  clear hz9
  obtain ⟨r, hr⟩ : ∃ r, r = k % 255 := ⟨_, rfl⟩
  rw [← hr] at HZ
  have e1 : (k : Int) % 255 = (r : Int) := by omega
  have e2 : (k : Int).tmod 255 = (r : Int) := by rw [Int.tmod_eq_emod_of_nonneg (by omega)]; omega
  clear hr
  go_enter Try.func33, Try.ntmps33
  go_wp2
  go_loopw [3, 4] (fun pv iv wr => ∃ i p : Nat, iv = .int .i64 (i : Int) ∧ pv = .int .i64 (p : Int) ∧ i ≤ r ∧ p < 256 ∧ wr = w ∧ Hid (p = gpw i)) (fun _ iv _ => r - (intOf iv).toNat)
  case atStart => exact ⟨0, 1, rfl, rfl, by omega, by omega, rfl, rfl⟩
  case round =>
    obtain ⟨i, p, rfl, rfl, hi, hp, rfl, hrel⟩ := hrel
    by_cases h1 : i < r
    · have i1 : ∀ w, Calls Try.prog 32 #[.int .i64 (p : Int), .int .i64 2] w fun e w' => e = .returned (.int .i64 ((gm p 2 : Nat) : Int)) ∧ w' = w := sMul_yes (b := 2) hp (by omega)
      have HN : Hid (gm p 2 = gpw (i + 1)) := by rw [hrel.out, gpw_succ]; exact rfl
      have hg := gm_lt hp 2
      generalize gm p 2 = q at *
      clear hrel
      go_wp2_with (first | (go_at_call 32; (with_reducible refine (i1 _).mono ?_); rintro e w' ⟨rfl, hw⟩; obtain rfl := hw.symm))
      go_roundw
      case rel => exact ⟨i + 1, q, by go_num, rfl, by omega, hg, by trivial, HN.out⟩
      case measure => simp [intOf]; omega
    · obtain rfl : r = i := by omega
      obtain rfl : p = z := hrel.out.trans HZ.out.symm
      go_wp2
      go_ret
      exact ⟨rfl, rfl⟩

theorem sMend_any (t : Int) (w : World) : Calls Try.prog 31 #[.int .i64 t] w fun e w' => e = .returned (.bool (decide (1 ≤ t ∧ t ≤ 8))) ∧ w' = w := by
  have i1 := in_any t 1 8
  generalize decide (1 ≤ t ∧ t ≤ 8) = d at *
  go_enter Try.func31, Try.ntmps31
  go_wp2_with (first | (go_at_call 14; (with_reducible refine (i1 _).mono ?_); rintro e w' ⟨rfl, hw⟩; obtain rfl := hw.symm))
  go_ret
  exact ⟨rfl, rfl⟩

def syi (n : Nat) (g : Nat → Nat) (j : Nat) : Int := ((syn n g j : Nat) : Int)

/-- No sign up to j is other than 0. -/
def cln (n : Nat) (g : Nat → Nat) : Nat → Bool
  | 0 => true
  | j + 1 => cln n g j && decide (syn n g j = 0)
theorem cln_iff (n : Nat) (g : Nat → Nat) : ∀ j, cln n g j = true ↔ ∀ i, i < j → syn n g i = 0
  | 0 => ⟨fun _ i hi => by omega, fun _ => rfl⟩
  | j + 1 => by
    rw [cln, Bool.and_eq_true, cln_iff n g j, decide_eq_true_iff]
    refine ⟨fun h i hi => ?_, fun h => ⟨fun i hi => h i (by omega), h j (by omega)⟩⟩
    by_cases e : i = j
    · subst e; exact h.2
    · exact h.1 i (by omega)

end Go.Proofs.Ytpjpkkgcnnmljaa
