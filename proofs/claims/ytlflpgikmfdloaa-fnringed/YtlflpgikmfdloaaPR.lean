/- Rings in plain numbers: what comes out, what is found going back. -/
import Derived.Test.YtlflpgikmfdloaaPE
namespace Go.Proofs.Ytlflpgikmfdloaa
open Go.RowKit

theorem plc_ne {n o a b : Nat} (h1 : a < b) (h2 : b < a + n) : plc n o a ≠ plc n o b := by
  intro e
  unfold plc at e
  have x := Nat.div_add_mod (o + a) n
  have y := Nat.div_add_mod (o + b) n
  rw [← e] at y
  generalize (o + a) % n = r at x y
  generalize (o + a) / n = p at x
  generalize (o + b) / n = q at y
  rcases Nat.lt_or_ge p q with h | h
  · have := Nat.mul_le_mul_left n (show p + 1 ≤ q by omega)
    rw [Nat.mul_add, Nat.mul_one] at this
    omega
  · have := Nat.mul_le_mul_left n h
    omega

theorem rcl_old {n o : Nat} {cs xs : Nat → Int} {i : Nat} : ∀ k, (∀ m, m < k → plc n o m ≠ i) → rcl n o cs xs k i = cs i
  | 0, _ => rfl
  | k + 1, h => by
    show (if i = plc n o k then xs k else rcl n o cs xs k i) = cs i
    rw [if_neg (fun e => h k (by omega) e.symm)]
    exact rcl_old k (fun m hm => h m (by omega))

theorem rcl_new {n o : Nat} {cs xs : Nat → Int} {m : Nat} : ∀ k, m < k → (∀ q, m < q → q < k → plc n o m ≠ plc n o q) → rcl n o cs xs k (plc n o m) = xs m
  | 0, h, _ => by omega
  | k + 1, h, hd => by
    show (if plc n o m = plc n o k then xs k else rcl n o cs xs k (plc n o m)) = xs m
    by_cases e : m = k
    · subst e; rw [if_pos rfl]
    · rw [if_neg (hd k (by omega) (by omega))]
      exact rcl_new k (by omega) (fun q h1 h2 => hd q h1 (by omega))

/-- What comes out: what was there, then what was pushed a whole ring ago. -/
theorem rtl_first {n o i : Nat} {cs xs : Nat → Int} (h : i < n) : rtl n o cs xs i = cs ((o + i) % n) :=
  rcl_old i (fun m hm => plc_ne hm (by omega))

theorem rtl_later {n o i : Nat} {cs xs : Nat → Int} (h0 : 0 < n) (h : n ≤ i) : rtl n o cs xs i = xs (i - n) := by
  have e : plc n o i = plc n o (i - n) := by
    unfold plc
    rw [show o + i = o + (i - n) + n by omega, Nat.add_mod_right]
  unfold rtl
  rw [e]
  exact rcl_new i (by omega) (fun q h1 h2 => plc_ne h1 (by omega))

theorem back_place {n o N b : Nat} (_ : 0 < n) (_ : b ≤ n) (h2 : b ≤ N) : (((plc n o N : Nat) : Int) - (b : Int) + (n : Int)) % (n : Int) = ((plc n o (N - b) : Nat) : Int) := by
  unfold plc
  rw [Int.natCast_emod, Int.natCast_emod, Int.add_emod_right, Int.emod_sub_emod]
  congr 1
  omega

theorem tap_back {n o N b : Nat} {cs xs : Nat → Int} (h0 : 0 < n) (hb : 1 ≤ b) (h1 : b ≤ n) (h2 : b ≤ N) : tapV n (rcl n o cs xs N) ((plc n o N : Nat) : Int) (b : Int) = xs (N - b) := by
  unfold tapV
  rw [back_place h0 h1 h2, Int.toNat_natCast]
  exact rcl_new N (by omega) (fun q h3 h4 => plc_ne h3 (by omega))

theorem rcl_smp {n o N : Nat} {cs xs : Nat → Int} (hc : ∀ k, k < n → Smp (cs k)) (hx : ∀ k, k < N → Smp (xs k)) : ∀ k, k ≤ N → ∀ i, i < n → Smp (rcl n o cs xs k i)
  | 0, _, i, hi => hc i hi
  | k + 1, hk, i, hi => by
    show Smp (if i = plc n o k then xs k else rcl n o cs xs k i)
    by_cases e : i = plc n o k
    · rw [if_pos e]; exact hx k (by omega)
    · rw [if_neg e]; exact rcl_smp hc hx k (by omega) i hi

theorem ring_on {n N o : Nat} {cs xs : Nat → Int} (h : GPu n N cs xs (o : Int)) : Rgo n (rcl n o cs xs N) ((plc n o N : Nat) : Int) := by
  have h0 : 0 < n := by have := h.1.2; omega
  have := plc_lt (o := o) (k := N) h0
  exact ⟨⟨h.1.1.1, rcl_smp h.1.1.2 h.2.2 N (Nat.le_refl _)⟩, by omega, by omega⟩
end Go.Proofs.Ytlflpgikmfdloaa
