/- Coins in plain numbers: in how many ways some of n are chosen, and the sums of these. -/
import Derived.Test.YtmpbhmmhdllkhaaChecked
namespace Go.Proofs.Ytmpbhmmhdllkhaa

/-- In how many ways k of n are chosen. -/
def cb : Nat → Nat → Nat
  | _, 0 => 1
  | 0, _ + 1 => 0
  | n + 1, k + 1 => cb n k + cb n (k + 1)

theorem cb_zero (n : Nat) : cb n 0 = 1 := by cases n <;> rfl

theorem cb_succ (n k : Nat) : cb (n + 1) (k + 1) = cb n k + cb n (k + 1) := rfl

theorem cb_big : ∀ n k, n < k → cb n k = 0
  | _, 0, h => absurd h (Nat.not_lt_zero _)
  | 0, _ + 1, _ => rfl
  | n + 1, k + 1, h => by rw [cb_succ, cb_big n k (by omega), cb_big n (k + 1) (by omega)]

theorem cb_self : ∀ n, cb n n = 1
  | 0 => rfl
  | n + 1 => by rw [cb_succ, cb_self n, cb_big n (n + 1) (by omega)]

theorem cb_sum : ∀ n k, cb n (k + 1) * (k + 1) + cb n k * k = cb n k * n
  | 0, 0 => rfl
  | 0, k + 1 => by rw [show cb 0 (k + 1 + 1) = 0 from rfl, show cb 0 (k + 1) = 0 from rfl]; simp
  | n + 1, 0 => by
    have h := cb_sum n 0
    rw [cb_succ, cb_zero, cb_zero]
    rw [cb_zero] at h
    omega
  | n + 1, k + 1 => by
    have h0 := cb_sum n k
    have h1 := cb_sum n (k + 1)
    rw [cb_succ n (k + 1), cb_succ n k]
    generalize cb n k = a at *
    generalize cb n (k + 1) = b at *
    generalize cb n (k + 1 + 1) = c at *
    grind

/-- The next number of a row. -/
theorem cb_next (n k : Nat) : cb n k * (n - k) / (k + 1) = cb n (k + 1) := by
  have h0 := cb_sum n k
  have h1 : cb n k * (n - k) = cb n (k + 1) * (k + 1) := by rw [Nat.mul_sub]; omega
  rw [h1, Nat.mul_div_cancel _ (by omega)]

theorem cb_turn : ∀ s a b, a + b = s → cb s a = cb s b
  | _, 0, b, h => by
    obtain rfl : b = _ := by simpa using h
    rw [cb_zero, cb_self]
  | _, a + 1, 0, h => by
    obtain rfl : a + 1 = _ := h
    rw [cb_zero, cb_self]
  | 0, a + 1, b + 1, h => by omega
  | s + 1, a + 1, b + 1, h => by
    rw [cb_succ, cb_succ, cb_turn s a (b + 1) (by omega), cb_turn s (a + 1) b (by omega), Nat.add_comm]

/-- A sum. -/
def sg (f : Nat → Nat) : Nat → Nat
  | 0 => 0
  | m + 1 => sg f m + f m

theorem sg_head (f : Nat → Nat) : ∀ m, sg f (m + 1) = f 0 + sg (fun j => f (j + 1)) m
  | 0 => by simp [sg]
  | m + 1 => by rw [sg, sg_head f m, sg]; omega

theorem sg_congr {f g : Nat → Nat} : ∀ {m}, (∀ j, j < m → f j = g j) → sg f m = sg g m
  | 0, _ => rfl
  | m + 1, h => by rw [sg, sg, sg_congr (fun j hj => h j (by omega)), h m (by omega)]

theorem sg_rev : ∀ m (f : Nat → Nat), sg f (m + 1) = sg (fun j => f (m - j)) (m + 1)
  | 0, f => rfl
  | m + 1, f => by
    rw [sg_head (fun j => f (m + 1 - j)) (m + 1), sg, sg_rev m f, Nat.add_comm]
    congr 1
    refine sg_congr fun j _ => ?_
    show f (m - j) = f (m + 1 - (j + 1))
    congr 1
    omega

theorem sg_add (f g : Nat → Nat) : ∀ m, sg (fun j => f j + g j) m = sg f m + sg g m
  | 0 => rfl
  | m + 1 => by rw [sg, sg, sg, sg_add f g m]; omega

theorem sg_mono {f g : Nat → Nat} (h : ∀ j, f j ≤ g j) : ∀ m, sg f m ≤ sg g m
  | 0 => Nat.le_refl _
  | m + 1 => Nat.add_le_add (sg_mono h m) (h m)

theorem sg_up {f : Nat → Nat} {m n : Nat} (h : m ≤ n) : sg f m ≤ sg f n := by
  induction h with
  | refl => exact Nat.le_refl _
  | step _ ih => exact Nat.le_trans ih (Nat.le_add_right _ _)

/-- Nothing more comes. -/
theorem sg_end {f : Nat → Nat} {m n : Nat} (h : m ≤ n) (h0 : ∀ j, m ≤ j → j < n → f j = 0) : sg f n = sg f m := by
  induction h with
  | refl => rfl
  | @step k hk ih => rw [sg, ih (fun j h1 h2 => h0 j h1 (Nat.lt_succ_of_lt h2)), h0 k hk (Nat.lt_succ_self _), Nat.add_zero]

theorem row_sum : ∀ n, sg (cb n) (n + 1) = 2 ^ n
  | 0 => rfl
  | n + 1 => by
    have h := row_sum n
    have h1 := sg_head (cb n) (n + 1)
    rw [sg, h, cb_zero, cb_big n (n + 1) (by omega)] at h1
    rw [sg_head, cb_zero, show (fun j => cb (n + 1) (j + 1)) = fun j => cb n j + cb n (j + 1) from rfl, sg_add, Nat.pow_succ]
    have h2 : sg (fun j => cb n j) (n + 1) = 2 ^ n := h
    rw [h2]
    omega

/-- How many lists of n have a sum of at least t, counted from the greatest sum on. -/
def wv (n : Nat) (t : Int) (m : Nat) : Nat := sg (fun j => if t ≤ (n : Int) - 2 * (j : Int) then cb n j else 0) m

/-- The same, counted from the least one on. -/
def sv (n : Nat) (t : Int) (m : Nat) : Nat := sg (fun j => if t ≤ 2 * (j : Int) - (n : Int) then cb n j else 0) m

/-- How many lists of n have a sum of at least t. -/
def wys (n : Nat) (t : Int) : Nat := wv n t (n + 1)

theorem sv_wys (n : Nat) (t : Int) : sv n t (n + 1) = wys n t := by
  unfold sv wys wv
  rw [sg_rev]
  refine sg_congr fun j hj => ?_
  have e : cb n (n - j) = cb n j := cb_turn n (n - j) j (by omega)
  show (if t ≤ 2 * ((n - j : Nat) : Int) - (n : Int) then cb n (n - j) else 0) = _
  rw [e]
  by_cases h : t ≤ (n : Int) - 2 * (j : Int)
  · rw [if_pos h, if_pos (by omega)]
  · rw [if_neg h, if_neg (by omega)]

theorem wv_le (n : Nat) (t : Int) {m : Nat} (h : m ≤ n + 1) : wv n t m ≤ 2 ^ n := by
  rw [← row_sum n]
  refine Nat.le_trans (sg_up h) (sg_mono (fun j => ?_) _)
  split <;> omega

theorem sv_le (n : Nat) (t : Int) {m : Nat} (h : m ≤ n + 1) : sv n t m ≤ 2 ^ n := by
  rw [← row_sum n]
  refine Nat.le_trans (sg_up h) (sg_mono (fun j => ?_) _)
  split <;> omega

theorem wv_step {n m : Nat} {t : Int} (h : t ≤ (n : Int) - 2 * (m : Int)) : wv n t (m + 1) = wv n t m + cb n m := by
  show wv n t m + (if t ≤ (n : Int) - 2 * (m : Int) then cb n m else 0) = _
  rw [if_pos h]

theorem sv_step {n m : Nat} {t : Int} (h : t ≤ 2 * (m : Int) - (n : Int)) : sv n t (m + 1) = sv n t m + cb n m := by
  show sv n t m + (if t ≤ 2 * (m : Int) - (n : Int) then cb n m else 0) = _
  rw [if_pos h]

theorem sv_pass {n m : Nat} {t : Int} (h : ¬ t ≤ 2 * (m : Int) - (n : Int)) : sv n t (m + 1) = sv n t m := by
  show sv n t m + (if t ≤ 2 * (m : Int) - (n : Int) then cb n m else 0) = _
  rw [if_neg h, Nat.add_zero]

theorem wv_stop {n m : Nat} {t : Int} (hm : m ≤ n + 1) (h : m ≤ n → (n : Int) - 2 * (m : Int) < t) : wys n t = wv n t m :=
  sg_end hm fun j h1 h2 => by
    have := h (by omega)
    show (if t ≤ (n : Int) - 2 * (j : Int) then cb n j else 0) = 0
    rw [if_neg (by omega)]

/-- A row of the triangle, as a list. -/
def addr : Nat → List Nat → List Nat
  | a, [] => [a]
  | a, x :: l => (a + x) :: addr x l

def prow : Nat → List Nat
  | 0 => [1]
  | n + 1 => addr 0 (prow n)

theorem addr_zero (a : Nat) (l : List Nat) : (addr a l).getD 0 0 = a + l.getD 0 0 := by cases l <;> simp [addr]

theorem addr_succ : ∀ (l : List Nat) (a k : Nat), (addr a l).getD (k + 1) 0 = l.getD k 0 + l.getD (k + 1) 0
  | [], a, k => by simp [addr]
  | x :: l, a, 0 => by
    have := addr_zero x l
    simpa [addr] using this
  | x :: l, a, k + 1 => by
    have := addr_succ l x k
    simpa [addr] using this

theorem prow_get : ∀ n k, (prow n).getD k 0 = cb n k
  | 0, 0 => rfl
  | 0, k + 1 => rfl
  | n + 1, 0 => by rw [prow, addr_zero, prow_get n 0, cb_zero, cb_zero]
  | n + 1, k + 1 => by rw [prow, addr_succ, prow_get n k, prow_get n (k + 1), cb_succ]

theorem row60 : (prow 60).all (fun x => decide (x ≤ 118264581564861424)) = true := by decide +kernel

theorem cb_mono (n k : Nat) : cb n k ≤ cb (n + 1) k := by
  cases k with
  | zero => rw [cb_zero, cb_zero]; exact Nat.le_refl _
  | succ k => rw [cb_succ]; omega

theorem cb_up {m n : Nat} (h : m ≤ n) (k : Nat) : cb m k ≤ cb n k := by
  induction h with
  | refl => exact Nat.le_refl _
  | step _ ih => exact Nat.le_trans ih (cb_mono _ _)

theorem cb_le {n : Nat} (h : n ≤ 60) (k : Nat) : cb n k ≤ 118264581564861424 := by
  refine Nat.le_trans (cb_up h k) ?_
  rw [← prow_get]
  by_cases hk : k < (prow 60).length
  · have := List.all_eq_true.1 row60 _ (List.getElem_mem hk)
    rw [List.getD_eq_getElem?_getD, List.getElem?_eq_getElem hk]
    simpa using this
  · rw [List.getD_eq_getElem?_getD, List.getElem?_eq_none (by omega)]
    simp

theorem two60 {n : Nat} (h : n ≤ 60) : 2 ^ n ≤ 1152921504606846976 := Nat.le_trans (Nat.pow_le_pow_right (by omega) h) (by decide)
end Go.Proofs.Ytmpbhmmhdllkhaa
