/- A row transformed by halves: what it comes to. -/
import Derived.Test.YtabdondefoldaaaDoorC1
import Derived.BigRegion
namespace Go.Proofs.YtabdondefoldaaaDoor
open Go.RowKit

/-- Half of a block. -/
abbrev Hlf (h : Nat) : Prop := h = 1 ∨ h = 2 ∨ h = 4 ∨ h = 8 ∨ h = 16 ∨ h = 32 ∨ h = 64 ∨ h = 128

/-- Which pair a place belongs to. -/
def pidx (h t : Nat) : Nat := t / (2 * h) * h + t % h

/-- The place of a pair's first number. -/
def pat (h k : Nat) : Nat := k % h + k / h * h * 2

/-- What stands at a place behind a round. -/
def nw (mf : Int → Int → Nat → Int × Int) (f : Nat → Int) (h r t : Nat) : Int :=
  if t % (2 * h) < h then (mf (f t) (f (t + h)) (t % h * 2 ^ r)).1 else (mf (f (t - h)) (f t) (t % h * 2 ^ r)).2

/-- Behind k pairs. -/
def pst (mf : Int → Int → Nat → Int × Int) (f : Nat → Int) (h r k : Nat) : Nat → Int := fun t => if pidx h t < k then nw mf f h r t else f t

/-- Behind some rounds. -/
def trf (mf : Int → Int → Nat → Int × Int) (n : Nat) (f : Nat → Int) : Nat → Nat → Int
  | 0 => f
  | r + 1 => nw mf (trf mf n f r) (n / 2 ^ (r + 1)) r

theorem pidx_iff {h t k : Nat} (hh : Hlf h) : pidx h t = k ↔ t = pat h k ∨ t = pat h k + h := by
  unfold pidx pat
  rcases hh with rfl | rfl | rfl | rfl | rfl | rfl | rfl | rfl <;> omega

theorem pat_first {h k : Nat} (hh : Hlf h) : pat h k % (2 * h) < h ∧ pat h k % h = k % h ∧ ¬ (pat h k + h) % (2 * h) < h ∧ (pat h k + h) % h = k % h := by
  unfold pat
  rcases hh with rfl | rfl | rfl | rfl | rfl | rfl | rfl | rfl <;> omega

theorem pst_old {mf : Int → Int → Nat → Int × Int} {f : Nat → Int} {h r k : Nat} (hh : Hlf h) : pst mf f h r k (pat h k) = f (pat h k) ∧ pst mf f h r k (pat h k + h) = f (pat h k + h) := by
  have e1 := (pidx_iff (t := pat h k) (k := k) hh).2 (.inl rfl)
  have e2 := (pidx_iff (t := pat h k + h) (k := k) hh).2 (.inr rfl)
  unfold pst
  rw [e1, e2, if_neg (by omega), if_neg (by omega)]
  exact ⟨rfl, rfl⟩

theorem pst_step {mf : Int → Int → Nat → Int × Int} {f : Nat → Int} {h r k : Nat} (hh : Hlf h) :
    (fun t => if t = pat h k + h then (mf (f (pat h k)) (f (pat h k + h)) (k % h * 2 ^ r)).2 else (fun t => if t = pat h k then (mf (f (pat h k)) (f (pat h k + h)) (k % h * 2 ^ r)).1 else pst mf f h r k t) t) = pst mf f h r (k + 1) := by
  funext t
  have hi := pidx_iff (t := t) (k := k) hh
  obtain ⟨p1, p2, p3, p4⟩ := pat_first (k := k) hh
  have h0 : 0 < h := by rcases hh with rfl | rfl | rfl | rfl | rfl | rfl | rfl | rfl <;> omega
  by_cases c2 : t = pat h k + h
  · have e := hi.2 (.inr c2)
    rw [if_pos c2]
    unfold pst
    rw [if_pos (by omega)]
    unfold nw
    rw [c2, if_neg p3, p4, Nat.add_sub_cancel]
  · rw [if_neg c2]
    by_cases c1 : t = pat h k
    · have e := hi.2 (.inl c1)
      show (if t = pat h k then _ else _) = _
      rw [if_pos c1]
      unfold pst
      rw [if_pos (by omega)]
      unfold nw
      rw [c1, if_pos p1, p2]
    · show (if t = pat h k then _ else _) = _
      rw [if_neg c1]
      unfold pst
      have ne : pidx h t ≠ k := fun e => by rcases hi.1 e with h | h <;> omega
      by_cases c3 : pidx h t < k
      · rw [if_pos c3, if_pos (by omega)]
      · rw [if_neg c3, if_neg (by omega)]

theorem pst_zero (mf : Int → Int → Nat → Int × Int) (f : Nat → Int) (h r : Nat) : pst mf f h r 0 = f := by
  funext t
  unfold pst
  rw [if_neg (by omega)]

/-- A whole length as a power of two, and its halves. -/
theorem half_facts {n m r : Nat} (hm : m ≤ 8) (hn : n = 2 ^ m) (hr : r < m) : Hlf (n / 2 ^ (r + 1)) ∧ (∀ t, t < n → pidx (n / 2 ^ (r + 1)) t < n / 2) ∧ (∀ k, k < n / 2 → pat (n / 2 ^ (r + 1)) k + n / 2 ^ (r + 1) < n ∧ k % (n / 2 ^ (r + 1)) * 2 ^ r < n / 2) := by
  subst hn
  have : m = 1 ∨ m = 2 ∨ m = 3 ∨ m = 4 ∨ m = 5 ∨ m = 6 ∨ m = 7 ∨ m = 8 := by omega
  unfold pidx pat
  rcases this with rfl | rfl | rfl | rfl | rfl | rfl | rfl | rfl
  all_goals
    have : r = 0 ∨ r = 1 ∨ r = 2 ∨ r = 3 ∨ r = 4 ∨ r = 5 ∨ r = 6 ∨ r = 7 := by omega
    rcases this with rfl | rfl | rfl | rfl | rfl | rfl | rfl | rfl <;> first | omega | (refine ⟨by decide, ?_, ?_⟩ <;> simp only [Nat.reducePow, Nat.reduceDiv, Nat.reduceAdd, Nat.reduceMul] <;> omega)
end Go.Proofs.YtabdondefoldaaaDoor
