/- FnPeaked: the draw, and what the walk wants. -/
import Derived.Test.YtlcgnphckmcdhaaPF
import Derived.Test.YtlcgnphckmcdhaaD4
namespace Go.Proofs.Ytlcgnphckmcdhaa
open Go.RowKit

set_option maxHeartbeats 4000000 in
theorem dpk_x {w : World} {a : Option Addr} {len cap : Nat} (hr : Row w a len) (hl : len ≤ 1048576) :
    Calls Try.prog 5 #[.slice a len cap] w fun e w' => ∃ (u : Value) (i j : Int), e = .returned (.tuple #[u, .int .i64 i, .int .i64 j]) ∧ Hid ((-50 ≤ i ∧ i ≤ 349 ∧ -400 ≤ j ∧ j ≤ 400) ∧ (∃ n ys, n ≤ 513 ∧ Il w' u n ys) ∧ Below w.heap.size w w') := by
  have HR : Hid (Row w a len) := hr
  clear hr
  obtain ⟨c, hcd⟩ : ∃ c, w.heap.size = c := ⟨_, rfl⟩
  have HN : Hid (Calls Try.prog 9 #[.slice a len cap] w fun e w' => e = .returned (.pointer (some ⟨c, 0, none⟩)) ∧ Cu w' c a len cap ∧ Below w.heap.size w w') := by have := new_x (cap := cap) HR.out (by omega); rw [← hcd]; exact this
  have HCD : Hid (w.heap.size = c) := hcd
  clear hcd
  go_enter Try.func5, Try.ntmps5
  go_wp2_with (first
    | (go_at_call 9; refine HN.out.mono ?_; rintro e w1 ⟨rfl, hc, hb⟩; have CU : Hid (Cu w1 c a len cap) := hc; have B1 : Hid (Below w.heap.size w w1) := hb; clear hc hb)
    | (go_at_call 10; (fail_if_success have := M1); (with_reducible refine (below_x CU.out 400).mono ?_); rintro e w2 ⟨x0, hx0, hx1, hx2, rfl, hc, hk⟩; have M1 : Hid True := trivial; have hx3 := hx2 (by omega); have CU2 : Hid (Cu w2 c a len cap) := hc; have K2 : Hid (Keep c w1 w2) := hk; clear hc hk hx2)
    | (go_at_call 12; refine (size_x a len cap 40 hl).mono ?_; rintro e w' ⟨z, rfl, hz5, _, hz6, hw⟩; obtain rfl := hw.symm; have hz7 := hz6 (by omega); clear hz6)
    | (go_at_call 11; refine (dany_x CU2.out z (by omega)).mono ?_; rintro e w8 ⟨v, n, ys, rfl, hn, hI, hc, hk⟩; have CU8 : Hid (Cu w8 c a len cap) := hc; have F8 : Hid (n ≤ 513 ∧ w8.ownsRow w2.heap.size 3 1 v n (ils ys n) ∧ Keep c w1 w8) := ⟨hn, hI, K2.out.trans hk⟩; clear hc hk hI hn)
    | (go_at_call 10; have ZZ := M1; (fail_if_success have := M2); (with_reducible refine (below_x CU8.out 300).mono ?_); rintro e w9 ⟨x1, hy0, hy1, hy2, rfl, hc, hk⟩; have M2 : Hid True := trivial; have hy3 := hy2 (by omega); have CU9 : Hid (Cu w9 c a len cap) := hc; have K9 : Hid (Keep c w8 w9) := hk; clear hc hk hy2)
    | (go_at_call 10; have ZZ := M2; (with_reducible refine (below_x CU9.out 20).mono ?_); rintro e w10 ⟨x2, hv0, hv1, hv2, rfl, hc, hk⟩; have hv3 := hv2 (by omega); have K10 : Hid (Keep c w8 w10) := K9.out.trans hk; clear hc hk hv2))
  refine bodyPost_ret (results_tmp3 rfl _ _ _) rfl ?_
  refine ⟨_, _, _, rfl, ⟨by omega, by omega, by omega, by omega⟩, ⟨n, ys, F8.out.1, ?_⟩, Below.keep B1.out (F8.out.2.2.trans K10.out) (Nat.le_of_eq HCD.out)⟩
  exact il_of_own (own_keep F8.out.2.1 K10.out CU2.out.lt)

/-- A list that is written out. -/
theorem lit_il (W : World) (L : List Int) : Il (W.alloc (.cells (L.map (fun x => Value.int .i64 x)).toArray 3)) (.slice (some ⟨W.heap.size, 0, none⟩) L.length L.length) L.length (fun i => L.getD i 0) := by
  refine ⟨_, _, rfl, Nat.le_refl _, fun _ => ⟨W.heap.size, 0, rfl, by simp, fun k hk => ?_⟩⟩
  rw [Nat.zero_add]
  exact lit_cells W L 3 k hk

/-- The peaks of a list that is written out. -/
theorem pk_lit (W : World) : Calls Try.prog 6 #[.slice (some ⟨W.heap.size, 0, none⟩) 4 4, .int .i64 5, .int .i64 2] (W.alloc (.cells #[.int .i64 1, .int .i64 9, .int .i64 2, .int .i64 0] 3)) fun e w' => ∃ g cap : Nat, e = .returned (.tuple #[.slice (some ⟨g, 0, none⟩) 1 cap, .bool true]) ∧ 1 ≤ cap ∧ w'.cell? ⟨g, 0, none⟩ = some (.int .i64 1) ∧ w'.cell? ⟨g, 1, none⟩ = some (.int .i64 9) ∧ Below W.heap.size W w' := by
  have h := iPk_good (lit_il W [1, 9, 2, 0]) (by decide) (high := 5) (low := 2) (by decide)
  refine Calls.mono h ?_
  rintro e w' ⟨u, rfl, ho, hb⟩
  rw [show pkl 5 2 (fun i => ([1, 9, 2, 0] : List Int).getD i 0) ([1, 9, 2, 0] : List Int).length = [(1, 9)] from by decide] at ho
  obtain ⟨g, cap, rfl, hcap, _⟩ := own2_shape (m := 0) ho
  exact ⟨g, cap, rfl, hcap, own2_cell (n := 1) ho (j := 0) (by decide), own2_cell (n := 1) ho (j := 1) (by decide), bstep (below_one _ _) hb⟩

/-- Is one of the first k at least high? -/
def anyB (high : Int) (xs : Nat → Int) : Nat → Bool
  | 0 => false
  | k + 1 => anyB high xs k || decide (high ≤ xs k)

theorem anyB_iff (high : Int) (xs : Nat → Int) : ∀ k, anyB high xs k = true ↔ ∃ j, j < k ∧ high ≤ xs j
  | 0 => ⟨fun h => (by cases h), fun ⟨j, h, _⟩ => absurd h (Nat.not_lt_zero _)⟩
  | k + 1 => by
    rw [anyB, Bool.or_eq_true, anyB_iff high xs k, decide_eq_true_iff]
    constructor
    · rintro (⟨j, h1, h2⟩ | h)
      · exact ⟨j, by omega, h2⟩
      · exact ⟨k, by omega, h⟩
    · rintro ⟨j, h1, h2⟩
      rcases Nat.lt_or_ge j k with g | g
      · exact .inl ⟨j, g, h2⟩
      · obtain rfl : j = k := by omega
        exact .inr h2

/-- Is one of those behind p, ahead of k, below low? -/
def btB (p : Nat) (low : Int) (xs : Nat → Int) : Nat → Bool
  | 0 => false
  | k + 1 => btB p low xs k || (decide (p < k) && decide (xs k < low))

theorem btB_yes {p j : Nat} {low : Int} {xs : Nat → Int} (h1 : p < j) (h2 : xs j < low) : ∀ k, j < k → btB p low xs k = true
  | 0, h => absurd h (Nat.not_lt_zero _)
  | k + 1, h => by
    rw [btB]
    rcases Nat.lt_or_ge j k with g | g
    · rw [btB_yes h1 h2 k g]; rfl
    · obtain rfl : j = k := by omega
      simp [h1, h2]

/-- A sum of a list. -/
def smI (f : Nat → Int) : Nat → Int
  | 0 => 0
  | k + 1 => smI f k + f k

/-- What the walk wants. -/
structure Pw (n : Nat) (xs : Nat → Int) (high low : Int) (NN : Nat) (z : Nat → Int) (ok : Bool) (MM : Nat) (cf : Nat → Int) : Prop where
  s : NN ≤ 512
  f1 : ∀ k, k < NN → ∃ p : Nat, z (k * 2) = (p : Int) ∧ p < n ∧ xs p = z (k * 2 + 1) ∧ high ≤ z (k * 2 + 1)
  f2 : ∀ k, k + 1 < NN → ∃ j p q : Nat, z (k * 2) = (p : Int) ∧ z ((k + 1) * 2) = (q : Int) ∧ p < j ∧ j < q ∧ xs j < low
  f4 : ok = true → anyB high xs n = decide (0 < NN)
  m : MM ≤ 3
  c : ∀ k, k < MM → 0 ≤ cf k ∧ cf k ≤ 512
  t : ok = true → smI cf MM = (n : Int)
  i : ∀ W u, Il W u n xs → Calls Try.prog 6 #[u, .int .i64 high, .int .i64 low] W fun e w' => Ppk W w' e NN z ok
  sp : ∀ W u, Il W u n xs → Calls Try.prog 7 #[u, .int .i64 high, .int .i64 low] W fun e w' => Ppk W w' e NN z ok
  ct : ∀ W u, Il W u n xs → Calls Try.prog 8 #[u, .slice (some ⟨W.heap.size, 0, none⟩) 2 2] (W.alloc (.cells #[.int .i64 low, .int .i64 (high + 1)] 3)) fun e w' => ∃ v, e = .returned (.tuple #[v, .bool ok]) ∧ Il w' v MM cf ∧ Below W.heap.size W w'

theorem pw_any {n : Nat} {xs : Nat → Int} {high low : Int} (hn : n ≤ 513) : ∃ NN z ok MM cf, Pw n xs high low NN z ok MM cf := by
  by_cases h : Sig n xs ∧ low ≤ high
  · obtain ⟨e1, e2, e3, e4⟩ := pf_any high low xs n
    have hl := pst_len high low xs n
    have h5 := h.1.1
    have hct : Cts 2 (fun i => [low, high + 1].getD i 0) := ⟨by omega, fun j hj h0 => by
      obtain rfl : j = 1 := by omega
      show low < high + 1
      omega⟩
    refine ⟨_, zf (pkl high low xs n), true, 3, cnt (fun i => [low, high + 1].getD i 0) 2 xs n, ⟨by omega, fun k hk => ?_, fun k hk => ?_, fun _ => ?_, by omega, fun k _ => ?_, fun _ => ?_, fun W u hu => iPk_good hu h.1 h.2, fun W u hu => sPk_good hu h.1 h.2, fun W u hu => ?_⟩⟩
    · rw [zf_0, zf_1]; exact e1 k hk
    · rw [zf_0, zf_0]; exact e2 k hk
    · rw [Bool.eq_iff_iff, anyB_iff, decide_eq_true_iff]; exact e4.symm
    · have := cnt_in (fun i => [low, high + 1].getD i 0) 2 xs n k; omega
    · have := cnt_sum (fun i => [low, high + 1].getD i 0) xs n
      show 0 + _ + _ + _ = (n : Int)
      rw [Int.zero_add]
      exact this
    · refine Calls.mono (iCt_good (hu.below (below_one _ _)) (lit_il W [low, high + 1]) h.1 hct) ?_
      rintro e w' ⟨v, rfl, ho, hb⟩
      exact ⟨v, rfl, il_of_own ho, bstep (below_one _ _) hb⟩
  · have h' : ¬ (Sig n xs ∧ Cts 2 (fun i => [low, high + 1].getD i 0)) := fun ⟨h1, h2⟩ => h ⟨h1, by
      have : low < high + 1 := h2.2 1 (by omega) (by omega)
      omega⟩
    refine ⟨0, fun _ => 0, false, 0, fun _ => 0, ⟨by omega, fun k hk => by omega, fun k hk => by omega, fun h => (by cases h), by omega, fun k hk => by omega, fun h => (by cases h), fun W u hu => iPk_bad hu (by omega) h _, fun W u hu => sPk_bad hu (by omega) h _, fun W u hu => ?_⟩⟩
    refine Calls.mono (iCt_bad (hu.below (below_one _ _)) (lit_il W [low, high + 1]) (by omega) (by show 2 ≤ _; omega) h' (fun _ => 0)) ?_
    rintro e w' ⟨v, rfl, ho, hb⟩
    exact ⟨v, rfl, il_of_own ho, bstep (below_one _ _) hb⟩
end Go.Proofs.Ytlcgnphckmcdhaa
