/- FnDftBack: what the law leans on. -/
import Derived.Test.YtbbbahbbfaglbaaDoorDA
import Derived.Test.YtbbbahbbfaglbaaDoorF4
namespace Go.Proofs.YtbbbahbbfaglbaaDoor
open Go.RowKit

set_option maxHeartbeats 1000000 in
/-- Two lists that hold the same: eqIntS says so. -/
theorem eq_yes {w : World} {v u : Value} {n : Nat} {xs : Nat → Int} (hv : Il w v n xs) (hu : Il w u n xs) (hn : n ≤ 1048576) :
    Calls Tryd.prog 9 #[v, u] w fun e w' => e = .returned (.bool true) ∧ Below w.heap.size w w' := by
  obtain ⟨ao, cap, rfl, hcap, hc⟩ := hv
  obtain ⟨bo, cap2, rfl, hcap2, hc2⟩ := hu
  have HC : Hid (0 < n → ∃ b off, ao = some ⟨b, off, none⟩ ∧ b < w.heap.size ∧ ∀ k, k < n → w.cell? ⟨b, off + k, none⟩ = some (.int .i64 (xs k))) := hc
  have HC2 : Hid (0 < n → ∃ b off, bo = some ⟨b, off, none⟩ ∧ b < w.heap.size ∧ ∀ k, k < n → w.cell? ⟨b, off + k, none⟩ = some (.int .i64 (xs k))) := hc2
  clear hc hc2
  go_enter Tryd.func9, Tryd.ntmps9
  go_wp2
  go_loopw [5] (fun i wr => ∃ k : Nat, i = .int .i64 k ∧ k ≤ n ∧ Hid (Below w.heap.size w wr)) (fun i _ => n - (intOf i).toNat)
  case atStart => exact ⟨0, rfl, by omega, Below.refl _ _⟩
  case round =>
    obtain ⟨k, rfl, hk, hbl⟩ := hrel
    by_cases h1 : k < n
    · obtain ⟨b, off, rfl, hlt, hcell⟩ := HC.out (by omega)
      obtain ⟨b2, off2, rfl, hlt2, hcell2⟩ := HC2.out (by omega)
      have c : wr.cell? ⟨b, off + k, none⟩ = some (.int .i64 (xs k)) := (hbl.out.cell (p := ⟨b, off + k, none⟩) hlt).trans (hcell k h1)
      have c2 : wr.cell? ⟨b2, off2 + k, none⟩ = some (.int .i64 (xs k)) := (hbl.out.cell (p := ⟨b2, off2 + k, none⟩) hlt2).trans (hcell2 k h1)
      clear hcell hcell2 hlt hlt2
      go_wp2_with (go_quiet (fail))
      go_roundw
      case rel => exact ⟨k + 1, by go_num, by omega, below_drewN hbl.out _⟩
      case measure => simp [intOf]; omega
    · obtain rfl : k = n := by omega
      go_wp2
      go_ret
      exact ⟨rfl, hbl.out⟩

/-- A list of two that was written out. -/
def two (x y : Int) (k : Nat) : Int := if k = 0 then x else y

theorem il_two (w : World) (x y : Int) : Il (w.alloc (.cells #[.int .i64 x, .int .i64 y] 3)) (.slice (some ⟨w.heap.size, 0, none⟩) 2 2) 2 (two x y) := by
  refine ⟨_, 2, rfl, Nat.le_refl _, fun _ => ⟨w.heap.size, 0, rfl, by simp, fun k hk => ?_⟩⟩
  have : k = 0 ∨ k = 1 := by omega
  rcases this with rfl | rfl <;> simp [two]

theorem Il.at {w : World} {ao : Option Addr} {m cap n : Nat} {xs : Nat → Int} (h : Il w (.slice ao m cap) n xs) (h0 : 0 < n) : ∃ b off, ao = some ⟨b, off, none⟩ ∧ b < w.heap.size ∧ ∀ k, k < n → w.cell? ⟨b, off + k, none⟩ = some (.int .i64 (xs k)) := by
  obtain ⟨ao', cap', he, _, hc⟩ := h
  injection he with h1 h2 h3
  subst h1
  exact hc h0

theorem ils_congr' {f g : Nat → Int} {n : Nat} (h : ∀ k, k < n → f k = g k) : ils f n = ils g n := by
  unfold ils
  refine List.map_congr_left fun i hi => ?_
  rw [h i (List.mem_range.mp hi)]

theorem Pst.congr {w w' : World} {e : Ending} {N : Nat} {f g : Nat → Int} {ok : Bool} (h : Pst w w' e N f ok) (hfg : ∀ k, k < N → f k = g k) : Pst w w' e N g ok := by
  obtain ⟨u, he, ho, hb⟩ := h
  rw [ils_congr' hfg] at ho
  exact ⟨u, he, ho, hb⟩

/-- A sum, made a residue at each step. -/
def smr (xs : Nat → Int) (p : Int) : Nat → Int
  | 0 => 0
  | k + 1 => (smr xs p k + xs k) % p

theorem smr_dsum (xs : Nat → Int) (W p : Int) : ∀ k, dsum xs W 0 k % p = smr xs p k
  | 0 => by simp [dsum, smr]
  | k + 1 => by
    rw [dsum, smr, Nat.zero_mul, Int.pow_zero, Int.mul_one, ← smr_dsum xs W p k, Int.emod_add_emod]

theorem smr_bounds {xs : Nat → Int} {p : Int} (hp : 1 ≤ p) : ∀ k, 0 ≤ smr xs p k ∧ smr xs p k < p
  | 0 => by rw [smr]; omega
  | k + 1 => ⟨Int.emod_nonneg _ (by omega), Int.emod_lt_of_pos _ (by omega)⟩

theorem dft_bounds {xs : Nat → Int} {n : Nat} {W b p : Int} (hp : 1 ≤ p) (k : Nat) : 0 ≤ dft xs n W b p k ∧ dft xs n W b p k ≤ p - 1 := by
  have h1 := Int.emod_nonneg (dsum xs W k n % p * b) (show p ≠ 0 by omega)
  have h2 := Int.emod_lt_of_pos (dsum xs W k n % p * b) (show 0 < p by omega)
  unfold dft
  omega

theorem unV_pos {n : Nat} {p : Int} (hp : Prm p) (hn : Whl n) : 1 ≤ unV n p ∧ unV n p ≤ p - 1 := by
  have hb := hp.bounds
  have bu := unV_bounds (n := n) hp
  have hq := hn.bounds
  refine ⟨?_, by omega⟩
  rcases Int.lt_or_le (unV n p) 1 with h | h
  · exfalso
    have h0 : unV n p = 0 := by omega
    have h1 := unit_full hp hn
    rw [h0, Int.zero_pow (by omega)] at h1
    obtain ⟨t, ht⟩ := h1
    have h5 : t ≤ -1 ∨ 0 ≤ t := by omega
    rcases h5 with h5 | h5
    · have := Int.mul_le_mul_of_nonneg_left h5 (show 0 ≤ p by omega)
      omega
    · have := Int.mul_nonneg (show 0 ≤ p by omega) h5
      omega
  · exact h

/-- Dft of a list that is taken, and back. -/
theorem dft_more {n : Nat} {xs : Nat → Int} {p : Int} (hg : GF n xs p) : ∃ ys, (∀ w v, Prs w → Il w v n xs → Calls Tryd.prog 7 #[v, .int .i64 p, .bool false] w fun e w' => Pst w w' e n ys true) ∧ (∀ w v, Il w v n xs → Calls Tryd.prog 8 #[v, .int .i64 p, .bool false] w fun e w' => Pst w w' e n ys true) ∧
    (∀ w v, Prs w → Il w v n ys → Calls Tryd.prog 7 #[v, .int .i64 p, .bool true] w fun e w' => Pst w w' e n xs true) ∧ ys 0 = smr xs p n ∧ ys = dft xs n (unV n p) 1 p := by
  have hp := hg.1
  have hpb := hp.bounds
  have hw := hg.2.2
  have hwb := hw.bounds
  have hu := unV_pos hp hw
  refine ⟨dft xs n (unV n p) 1 p, fun w v hs hv => iDft_yes hs hv hg, fun w v hv => sDft_any hv (by omega) n _ true (fun _ => ⟨rfl, rfl, rfl⟩) (fun h => absurd hg h), fun w v hs hv => ?_, ?_, rfl⟩
  · refine (iDft_yes (back := true) hs hv ⟨hp, ⟨hg.2.1.1, fun k _ => dft_bounds (by omega) k⟩, hw⟩).mono fun e w' h => h.congr fun k hk => ?_
    exact dft_back hp hw (fun h2 => half_root hp hw h2 false) (inv_mul hp hu) (inv_mul hp (by omega)) hg.2.1.2 hk
  · show dft xs n (unV n p) 1 p 0 = _
    unfold dft
    rw [smr_dsum, Int.mul_one]
    have := smr_bounds (xs := xs) (p := p) (by omega) n
    exact Int.emod_eq_of_lt this.1 this.2

theorem gf_two : GF 2 (two 1 2) 167772161 := ⟨.inr (.inl rfl), ⟨by omega, fun k hk => by
  have : k = 0 ∨ k = 1 := by omega
  rcases this with rfl | rfl <;> decide⟩, by decide⟩

theorem unit_two : unV ((2 : Nat) : Int) 167772161 = 167772160 := by
  obtain ⟨H, h1, h2⟩ := halfZ (p := 167772161) (.inr (.inl rfl))
  have e : ((167772161 - 1 : Int) / ((2 : Nat) : Int)).toNat = H := by omega
  unfold unV
  rw [if_pos ⟨.inr (.inl rfl), by decide⟩, e, h1.mod_eq]
  decide

theorem dW_two : dW ((2 : Nat) : Int) 167772161 false = 167772160 := by
  unfold dW
  rw [if_neg (by decide)]
  exact unit_two

theorem dft_lit2 {W b : Int} (hW : W = 167772160) (hb : b = 1) : ∀ k, k < 2 → dft (two 1 2) 2 W b 167772161 k = two 3 167772160 k := by
  intro k hk
  have : k = 0 ∨ k = 1 := by omega
  subst hW hb
  rcases this with rfl | rfl <;> decide +kernel

/-- Dft of the list that is written out. -/
theorem dft_lit {w : World} (hs : Prs w) : Calls Tryd.prog 7 #[.slice (some ⟨w.heap.size, 0, none⟩) 2 2, .int .i64 167772161, .bool false] (w.alloc (.cells #[.int .i64 1, .int .i64 2] 3)) fun e w' => Pst (w.alloc (.cells #[.int .i64 1, .int .i64 2] 3)) w' e 2 (two 3 167772160) true :=
  (iDft_yes (back := false) (hs.below (below_one w _)) (il_two w 1 2) gf_two).mono fun _ _ h => h.congr (dft_lit2 dW_two rfl)

/-- Dft of any list, both sides. -/
theorem dft_no {n : Nat} {xs : Nat → Int} {p : Int} (hn : n ≤ 1048576) (hg : ¬ GF n xs p) : (∀ w v, Prs w → Il w v n xs → Calls Tryd.prog 7 #[v, .int .i64 p, .bool false] w fun e w' => Pst w w' e 0 (fun _ => 0) false) ∧ (∀ w v, Il w v n xs → Calls Tryd.prog 8 #[v, .int .i64 p, .bool false] w fun e w' => Pst w w' e 0 (fun _ => 0) false) :=
  ⟨fun _ _ hs hv => iDft_no hs hv hn hg _, fun _ _ hv => sDft_any hv hn 0 _ false (fun h => absurd h hg) (fun _ => ⟨rfl, rfl⟩)⟩
end Go.Proofs.YtbbbahbbfaglbaaDoor
