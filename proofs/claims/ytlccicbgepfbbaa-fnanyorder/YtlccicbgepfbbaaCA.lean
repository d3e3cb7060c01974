/- What is due, as a map; the blocks that can fire. -/
import Derived.Test.YtlccicbgepfbbaaBE
import Derived.Maps.RangeWalk
import Derived.Maps.OwnOps
import Derived.Maps.OwnSet
namespace Go.Proofs.Ytlccicbgepfbbaa
open Go.RowKit

/-- One number less. -/
def dec (lf : Nat → Nat) (b k : Nat) : Nat := if k = b then lf b - 1 else lf k

/-- How many are not nought. -/
def nz (n : Nat) (lf : Nat → Nat) : Nat := smN n fun k => if lf k ≠ 0 then 1 else 0

theorem nz_congr {n : Nat} {f g : Nat → Nat} (h : ∀ k, k < n → (f k ≠ 0 ↔ g k ≠ 0)) : nz n f = nz n g := smN_congr fun k hk => by
  have := h k hk
  by_cases e : f k ≠ 0
  · rw [if_pos e, if_pos (this.1 e)]
  · rw [if_neg e, if_neg (fun x => e (this.2 x))]

theorem nz_put {n b : Nat} {f g : Nat → Nat} (hb : b < n) (h : ∀ k, k < n → k ≠ b → (f k ≠ 0 ↔ g k ≠ 0)) : nz n g + (if f b ≠ 0 then 1 else 0) = nz n f + (if g b ≠ 0 then 1 else 0) := by
  have gen : ∀ m, m ≤ n → nz m g + (if b < m ∧ f b ≠ 0 then 1 else 0) = nz m f + (if b < m ∧ g b ≠ 0 then 1 else 0) := by
    intro m
    induction m with
    | zero =>
      intro _
      rw [if_neg (by omega), if_neg (by omega)]
      rfl
    | succ m ih =>
      intro hm
      have h1 := ih (by omega)
      show smN m _ + (if g m ≠ 0 then 1 else 0) + _ = smN m _ + (if f m ≠ 0 then 1 else 0) + _
      unfold nz at h1
      by_cases e : m = b
      · subst e
        rw [if_neg (by omega), if_neg (by omega)] at h1
        by_cases e1 : f m ≠ 0 <;> by_cases e2 : g m ≠ 0 <;> simp [e1, e2] at h1 ⊢ <;> omega
      · have h2 := h m (by omega) e
        have h3 : (b < m + 1) ↔ (b < m) := by omega
        rw [show (if b < m + 1 ∧ f b ≠ 0 then 1 else 0) = (if b < m ∧ f b ≠ 0 then 1 else 0) by simp only [h3], show (if b < m + 1 ∧ g b ≠ 0 then 1 else 0) = (if b < m ∧ g b ≠ 0 then 1 else 0) by simp only [h3]]
        by_cases e1 : f m ≠ 0
        · rw [if_pos e1, if_pos (h2.1 e1)]; omega
        · rw [if_neg e1, if_neg (fun x => e1 (h2.2 x))]; omega
  have := gen n (Nat.le_refl _)
  simpa [hb] using this

theorem nz_zero {n : Nat} {f : Nat → Nat} : nz n f = 0 ↔ ∀ k, k < n → f k = 0 := by
  constructor
  · intro h k hk
    have h1 := smN_one (f := fun k => if f k ≠ 0 then 1 else 0) hk
    unfold nz at h
    by_cases e : f k ≠ 0
    · rw [if_pos e] at h1; omega
    · exact Classical.not_not.1 e
  · intro h
    induction n with
    | zero => rfl
    | succ n ih =>
      show smN n _ + (if f n ≠ 0 then 1 else 0) = 0
      have h1 := ih (fun k hk => h k (by omega))
      unfold nz at h1
      rw [h1, if_neg (fun e => e (h n (by omega)))]

abbrev Dw := DataW Unit
abbrev kb (b : Nat) : Lit := .int .i64 (b : Int)

/-- A map of what is due. -/
structure Due (D : Dw) (n : Nat) (lf : Nat → Nat) : Prop where
  tidy : Maps.Tidy D
  has : ∀ x : Int, Maps.has D (.int .i64 x) = decide (0 ≤ x ∧ x < n ∧ lf x.toNat ≠ 0)
  val : ∀ b, b < n → lf b ≠ 0 → ∀ z, D.atKey (kb b) z = .lit (.int .i64 (lf b : Int))
  size : Maps.size D = nz n lf

theorem due_0 (n : Nat) : Due (.map []) n (fun _ => 0) :=
  ⟨Maps.tidy_empty, fun x => by simp [Maps.has], fun b _ h => absurd rfl h, by rw [nz_zero.2 (fun _ _ => rfl)]; rfl⟩

theorem kb_ne {b c : Nat} (h : c ≠ b) : kb c ≠ kb b := by
  intro e
  injection e with _ e
  omega

theorem lit_ne {x : Int} {b : Nat} (h : x ≠ (b : Int)) : (Lit.int .i64 x) ≠ kb b := by
  intro e
  injection e with _ e
  exact h e

theorem due_put {D : Dw} {n b v : Nat} {lf lf' : Nat → Nat} (h : Due D n lf) (hb : b < n) (hv : v ≠ 0) (h1 : lf' b = v) (h2 : ∀ k, k < n → k ≠ b → lf' k = lf k) : Due (D.put (kb b) (.lit (.int .i64 (v : Int)))) n lf' := by
  have hk : WideAt.IsKeyLit (kb b) := trivial
  refine ⟨h.tidy.put hk _, fun x => ?_, fun c hc hne z => ?_, ?_⟩
  · by_cases e : x = (b : Int)
    · rw [e, show (Lit.int IntKind.i64 (b : Int)) = kb b from rfl, Maps.has_put_same h.tidy.isMap hk]
      have : lf' (b : Int).toNat ≠ 0 := by rw [show (b : Int).toNat = b by omega, h1]; exact hv
      exact (decide_eq_true ⟨by omega, by omega, this⟩).symm
    · rw [Maps.has_put_other (lit_ne e), h.has x]
      by_cases e1 : 0 ≤ x ∧ x < n
      · rw [h2 x.toNat (by omega) (by omega)]
      · rw [decide_eq_false (fun y => e1 ⟨y.1, y.2.1⟩), decide_eq_false (fun y => e1 ⟨y.1, y.2.1⟩)]
  · by_cases e : c = b
    · rw [e, Maps.atKey_put_same h.tidy.isMap hk, h1]
    · rw [Maps.atKey_put_other (kb_ne e), h2 c hc e]
      exact h.val c hc (by rw [← h2 c hc e]; exact hne) z
  · rw [Maps.size_put h.tidy, h.size, show Maps.has D (kb b) = decide (lf b ≠ 0) by
      rw [show kb b = Lit.int .i64 (b : Int) from rfl, h.has, show (b : Int).toNat = b by omega]
      by_cases e : lf b ≠ 0
      · rw [decide_eq_true e, decide_eq_true ⟨by omega, by omega, e⟩]
      · rw [decide_eq_false e, decide_eq_false (fun y => e y.2.2)]]
    have h3 := nz_put (f := lf) (g := lf') hb (fun k hk hne => by rw [h2 k hk hne])
    rw [if_pos (show lf' b ≠ 0 by rw [h1]; exact hv)] at h3
    by_cases e : lf b ≠ 0
    · rw [if_pos e] at h3; rw [if_pos (decide_eq_true e)]; omega
    · rw [if_neg e] at h3; rw [if_neg (by rw [decide_eq_false e]; decide)]; omega

theorem due_del {D : Dw} {n b : Nat} {lf lf' : Nat → Nat} (h : Due D n lf) (hb : b < n) (h1 : lf' b = 0) (h2 : ∀ k, k < n → k ≠ b → lf' k = lf k) : Due (D.del (kb b)) n lf' := by
  refine ⟨h.tidy.del _, fun x => ?_, fun c hc hne z => ?_, ?_⟩
  · by_cases e : x = (b : Int)
    · rw [e, show (Lit.int IntKind.i64 (b : Int)) = kb b from rfl, Maps.has_del_same]
      exact (decide_eq_false (fun y => by have := y.2.2; rw [show (b : Int).toNat = b by omega, h1] at this; exact this rfl)).symm
    · rw [Maps.has_del_other (lit_ne e), h.has x]
      by_cases e1 : 0 ≤ x ∧ x < n
      · rw [h2 x.toNat (by omega) (by omega)]
      · rw [decide_eq_false (fun y => e1 ⟨y.1, y.2.1⟩), decide_eq_false (fun y => e1 ⟨y.1, y.2.1⟩)]
  · by_cases e : c = b
    · rw [e, h1] at hne; exact absurd rfl hne
    · rw [Maps.atKey_del_other (kb_ne e), h2 c hc e]
      exact h.val c hc (by rw [← h2 c hc e]; exact hne) z
  · have h3 := Maps.size_del (k := kb b) h.tidy
    rw [h.size, show Maps.has D (kb b) = decide (lf b ≠ 0) by
      rw [show kb b = Lit.int .i64 (b : Int) from rfl, h.has, show (b : Int).toNat = b by omega]
      by_cases e : lf b ≠ 0
      · rw [decide_eq_true e, decide_eq_true ⟨by omega, by omega, e⟩]
      · rw [decide_eq_false e, decide_eq_false (fun y => e y.2.2)]] at h3
    have h4 := nz_put (f := lf) (g := lf') hb (fun k hk hne => by rw [h2 k hk hne])
    rw [if_neg (show ¬ lf' b ≠ 0 by rw [h1]; simp)] at h4
    by_cases e : lf b ≠ 0
    · rw [if_pos e] at h4; rw [if_pos (decide_eq_true e)] at h3; omega
    · rw [if_neg e] at h4; rw [if_neg (by rw [decide_eq_false e]; decide)] at h3; omega

/-- A map that reads as a datum has as many entries as that. -/
theorem own_norm {P : Program} {k : TypeId} {R : Value → Option (Dw × List MemPlace)} {w : World} {b n : Nat} {D : Dw} (h : w.ownsMap P k R b n D) : w.ownsMap P k R b (Maps.size D) D := by
  obtain ⟨es, clock, hb, F, hs, hD⟩ := h
  refine ⟨es, clock, hb, F, ?_, hD⟩
  rw [hD, Maps.size_eq, Go.length_read]
  exact Nat.le_refl _

/-- The blocks that can fire and are due. -/
def rdl (n m : Nat) (ss : Nat → Wr) (lf : Nat → Nat) (h : Nat → Int) : List Nat := (List.range n).filter fun b => decide (lf b ≠ 0 ∧ Can m ss h (b : Int))

theorem mem_rdl {n m : Nat} {ss : Nat → Wr} {lf : Nat → Nat} {h : Nat → Int} {b : Nat} : b ∈ rdl n m ss lf h ↔ b < n ∧ lf b ≠ 0 ∧ Can m ss h (b : Int) := by
  unfold rdl
  rw [List.mem_filter, List.mem_range]
  exact and_congr_right fun _ => decide_eq_true_iff

theorem rdl_sorted (n m : Nat) (ss : Nat → Wr) (lf : Nat → Nat) (h : Nat → Int) : (rdl n m ss lf h).Pairwise (· < ·) := List.Pairwise.filter _ List.pairwise_lt_range

theorem rdl_nodup (n m : Nat) (ss : Nat → Wr) (lf : Nat → Nat) (h : Nat → Int) : (rdl n m ss lf h).Nodup := (rdl_sorted n m ss lf h).imp fun h => by omega
end Go.Proofs.Ytlccicbgepfbbaa
