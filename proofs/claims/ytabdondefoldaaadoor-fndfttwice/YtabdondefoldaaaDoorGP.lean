/- Rows in blocks apart: marked, held. -/
import Derived.Test.YtabdondefoldaaaDoorGO
namespace Go.Proofs.YtabdondefoldaaaDoor
open Go.RowKit

theorem OPI.rng {w w' : World} {B H C D : Nat} {v : Value} {n : Nat} {ms : Nat → Nat} {X : Nat → Nat → Int} (h : OPI w C D v n ms X) (hr : Rng B H w w') (hH : H ≤ C) : OPI w' C D v n ms X := by
  obtain ⟨g, cap, R, Bs, hv, hcap, h1, h2, h3, h4, hlt, hrr⟩ := h
  have hBs : ∀ i, i ≤ n → g < Bs i := fun i => by
    induction i with
    | zero => intro _; exact h2
    | succ i ih => intro hi; exact Nat.lt_of_lt_of_le (ih (by omega)) (h3 i (by omega))
  refine ⟨g, cap, R, Bs, hv, hcap, h1, h2, h3, h4, Nat.lt_of_lt_of_le hlt hr.size, fun k hk => ⟨?_, hr.own (hrr k hk).2.1 (by have := hBs k (by omega); omega), (hrr k hk).2.2⟩⟩
  exact (World.cell?_of_block (w := w) (a := ⟨g, k, none⟩) (hr.block g (.inr (by omega)))).trans (hrr k hk).1

theorem Rgr.open {X : World} {B n c : Nat} {o : Value} {gs cs : Nat → Nat} {M : Nat → Nat → Int} (h : Rgr X B o n c gs cs M) : ∃ ao cap, o = .slice ao n cap ∧ n ≤ cap ∧ (0 < n → ∃ g, ao = some ⟨g, 0, none⟩) := by
  rcases h.row.2 with ⟨rfl, rfl⟩ | ⟨g, cap, cur, rfl, _, _, hc, _⟩
  · exact ⟨none, 0, rfl, Nat.le_refl _, fun h => by omega⟩
  · exact ⟨_, cap, rfl, hc, fun _ => ⟨g, rfl⟩⟩

theorem Rgr.at {X : World} {B n c g cap : Nat} {gs cs : Nat → Nat} {M : Nat → Nat → Int} (h : Rgr X B (.slice (some ⟨g, 0, none⟩) n cap) n c gs cs M) {i : Nat} (hi : i < n) : X.cell? ⟨g, i, none⟩ = some (rv gs cs c i) := by
  rw [World.ownsRow.cellAt h.row i (by omega), vls_get hi]

theorem Rgr.ipp {X : World} {B n c : Nat} {o : Value} {gs cs : Nat → Nat} {M : Nat → Nat → Int} (h : Rgr X B o n c gs cs M) : Ipp X o n (fun _ => c) M := by
  obtain ⟨ao, cap, rfl, hcap, ha⟩ := h.open
  refine ⟨ao, cap, rfl, hcap, fun h0 => ?_⟩
  obtain ⟨g, rfl⟩ := ha h0
  exact ⟨g, 0, rv gs cs c, rfl, (World.ownsRow.lt h.row g rfl).2, fun k hk => ⟨by rw [Nat.zero_add]; exact h.at hk, il_of_own (h.rows k hk)⟩⟩

theorem Rgr.rng {w w' : World} {B H C n c : Nat} {o : Value} {gs cs : Nat → Nat} {M : Nat → Nat → Int} (h : Rgr w C o n c gs cs M) (hr : Rng B H w w') (hH : H ≤ C) : Rgr w' C o n c gs cs M :=
  ⟨hr.own h.row hH, fun i hi => hr.own (h.rows i hi) hH, h.inj⟩

theorem Rgr.none {w : World} {B c : Nat} {o : Value} (gs cs : Nat → Nat) (M : Nat → Nat → Int) (h : w.ownsRow B 29 1 o 0 []) : Rgr w B o 0 c gs cs M := ⟨h, fun i hi => by omega, fun i k hi => by omega⟩

end Go.Proofs.YtabdondefoldaaaDoor
