/- FnMatched: matches in plain numbers. -/
import Derived.Test.YthfmcfgnegfkdaaMP
namespace Go.Proofs.Ythfmcfgnegfkdaa
open Go.RowKit

/-- A sum. -/
def sI (g : Nat → Int) : Nat → Int
  | 0 => 0
  | k + 1 => sI g k + g k

theorem sI_head (g : Nat → Int) : ∀ m, sI g (m + 1) = g 0 + sI (fun j => g (j + 1)) m
  | 0 => by simp [sI]
  | m + 1 => by rw [sI, sI_head g m, sI]; omega

theorem sI_congr {f g : Nat → Int} : ∀ {m}, (∀ j, j < m → f j = g j) → sI f m = sI g m
  | 0, _ => rfl
  | m + 1, h => by rw [sI, sI, sI_congr (fun j hj => h j (by omega)), h m (by omega)]

theorem sI_rev : ∀ m (g : Nat → Int), sI g (m + 1) = sI (fun j => g (m - j)) (m + 1)
  | 0, g => rfl
  | m + 1, g => by
    rw [sI_head (fun j => g (m + 1 - j)) (m + 1), sI, sI_rev m g, Int.add_comm]
    congr 1
    refine sI_congr fun j _ => ?_
    show g (m - j) = g (m + 1 - (j + 1))
    congr 1
    omega

theorem dsm_sI (ps xs : Nat → Int) (i : Nat) : ∀ m, dsm ps xs i m = sI (fun j => ps j * xs (i + j)) m
  | 0 => rfl
  | m + 1 => by rw [dsm, sI, dsm_sI ps xs i m]

theorem dts_sI (f z : Nat → Int) : ∀ m, dts f z m = sI (fun j => f j * z j) m
  | 0 => rfl
  | m + 1 => by rw [dts, sI, dts_sI f z m]

/-- What the filter turned around tells. -/
theorem fir_dsm (ps xs : Nat → Int) (i q : Nat) : fir (q + 1) (fun k => ps (q - k)) (fun _ => 0) xs (i + q) = dsm ps xs i (q + 1) := by
  unfold fir
  rw [dts_sI, dsm_sI, sI_rev q (fun j => ps j * xs (i + j))]
  refine sI_congr fun k hk => ?_
  show ps (q - k) * shf (xs (i + q)) (pst (fun _ => 0) xs (i + q)) k = ps (q - k) * xs (i + (q - k))
  congr 1
  unfold shf
  by_cases h : k = 0
  · subst h; rw [if_pos rfl, Nat.sub_zero]
  · rw [if_neg h, pst_at, if_pos (by omega)]
    congr 1
    omega

theorem bsw_max (f : Nat → Int) : ∀ k i, i < k → f i ≤ f (bsw f k)
  | 0, _, h => absurd h (Nat.not_lt_zero _)
  | k + 1, i, h => by
    rw [bsw]
    by_cases e : i = k
    · subst e
      split <;> omega
    · have := bsw_max f k i (by omega)
      split <;> omega

/-- A list that is written out. -/
theorem lit2 (W : World) : Calls Try.prog 6 #[.slice (some ⟨W.heap.size, 0, none⟩) 3 3, .slice (some ⟨W.heap.size + 1, 0, none⟩) 2 2] ((W.alloc (.cells #[.int .i64 1, .int .i64 2, .int .i64 3] 3)).alloc (.cells #[.int .i64 1, .int .i64 1] 3)) fun e w' => ∃ u, e = .returned (.tuple #[u, .bool true]) ∧ Il w' u 2 (fun i => [3, 5].getD i 0) ∧ Below W.heap.size W w' := by
  have l2 := lit_il (W.alloc (.cells #[.int .i64 1, .int .i64 2, .int .i64 3] 3)) [1, 1]
  rw [World.size_alloc] at l2
  have h := iMatch_good ((lit_il W [1, 2, 3]).below (below_one _ _)) l2 (by decide)
  refine Calls.mono h ?_
  rintro e w' ⟨u, rfl, ho, hb⟩
  obtain ⟨ao, cap, rfl, hcap, hc⟩ := il_of_own ho
  refine ⟨_, rfl, ⟨ao, cap, rfl, hcap, fun h0 => ?_⟩, bstep (bstep (below_one _ _) (below_one _ _)) hb⟩
  obtain ⟨b, off, rfl, hlt, hcell⟩ := hc h0
  refine ⟨b, off, rfl, hlt, fun k hk => (hcell k hk).trans ?_⟩
  have : k = 0 ∨ k = 1 := by omega
  rcases this with rfl | rfl <;> rfl
end Go.Proofs.Ythfmcfgnegfkdaa
