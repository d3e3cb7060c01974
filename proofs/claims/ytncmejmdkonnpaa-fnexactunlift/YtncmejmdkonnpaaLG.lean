/- LiftOnce: the program. -/
import Derived.Test.YtncmejmdkonnpaaLF
namespace Go.Proofs.Ytncmejmdkonnpaa
open Go.RowKit

theorem own_ne {w w' : World} {B s n c g g' : Nat} {e : TypeId} {xs : List Value} (h : w.ownsRow B e s (.slice (some ⟨g', 0, none⟩) n c) n xs) (ho : Only g w w') (hne : g' ≠ g) : w'.ownsRow B e s (.slice (some ⟨g', 0, none⟩) n c) n xs :=
  own_apart (x := .slice (some ⟨g, 0, none⟩) 0 0) h ho (.inl rfl) (.inr (fun e => hne (by simpa [Value.ownBlock] using e)))

/-- Filled up to k. -/
def upk (F : Nat → Int) (k j : Nat) : Int := if j < k then F j else 0

theorem upk_zero (F : Nat → Int) (p : Nat) : ils (upk F 0) p = ils (fun _ => 0) p := ils_congr fun k _ => by simp [upk]

theorem upk_put (F : Nat → Int) (k p : Nat) : ils (fun i => if i = k then F k else upk F k i) p = ils (upk F (k + 1)) p := ils_congr fun i _ => by
  by_cases h : i = k
  · subst h; simp [upk]
  · simp only [if_neg h, upk]
    by_cases h2 : i < k
    · rw [if_pos h2, if_pos (by omega)]
    · rw [if_neg h2, if_neg (by omega)]

theorem upk_putv {F : Nat → Int} {y : Int} {k p : Nat} (h : y = F k) : ils (fun i => if i = k then y else upk F k i) p = ils (upk F (k + 1)) p := by
  subst h
  exact upk_put F k p

theorem upk_full (F : Nat → Int) (p : Nat) : ils (upk F p) p = ils F p := ils_congr fun k hk => by simp [upk, hk]

theorem Only.drewN {g : Nat} {w w' : World} (h : Only g w w') (m : Nat) : Only g w (w'.drewN m) := ⟨h.os, h.tape, h.output, h.size, h.block⟩

theorem Only.drew {g : Nat} {w w' : World} (h : Only g w w') : Only g w w'.drew := ⟨h.os, h.tape, h.output, h.size, h.block⟩

theorem Only.trans {g : Nat} {w w1 w2 : World} (h : Only g w w1) (h2 : Only g w1 w2) : Only g w w2 := ⟨h2.os.trans h.os, h2.tape.trans h.tape, h2.output.trans h.output, Nat.le_trans h.size h2.size, fun k hk => (h2.block k hk).trans (h.block k hk)⟩

theorem Only.cell {g : Nat} {w w' : World} (h : Only g w w') {p : Addr} (hp : p.block ≠ g) : w'.cell? p = w.cell? p := World.cell?_of_block (w := w) (h.block _ hp)

theorem Il.only {g : Nat} {w w' : World} {v : Value} {n : Nat} {xs : Nat → Int} (h : Il w v n xs) (ho : Only g w w') (hb : w.heap.size ≤ g) : Il w' v n xs := by
  obtain ⟨ao, cap, rfl, hcap, hc⟩ := h
  refine ⟨ao, cap, rfl, hcap, fun h0 => ?_⟩
  obtain ⟨b, off, rfl, hlt, hcell⟩ := hc h0
  exact ⟨b, off, rfl, Nat.lt_of_lt_of_le hlt ho.size, fun k hk => (ho.cell (p := ⟨b, off + k, none⟩) (by show b ≠ g; omega)).trans (hcell k hk)⟩

/-- Two lists told, each in memory of its own. -/
def P2 (w w' : World) (e : Ending) (n m : Nat) (ys zs : Nat → Int) : Prop := ∃ u0 u1, e = .returned (.tuple #[u0, u1]) ∧ w'.ownsRow w.heap.size 3 1 u0 n (ils ys n) ∧ w'.ownsRow w.heap.size 3 1 u1 m (ils zs m) ∧ Apart u0 u1 ∧ Below w.heap.size w w'

end Go.Proofs.Ytncmejmdkonnpaa
