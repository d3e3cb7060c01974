/- What both sides' Unpack tells; NaNs that are signalling, on both sides. -/
import Derived.Test.YtghblaphkbcgpaaDoorHC1
import Derived.RegionTactic
import Derived.Deep.RegionWith
namespace Go.Proofs.YtghblaphkbcgpaaDoor
open Go.RowKit

/-- What both sides' Unpack tells of bits of a form: the same four fields, and what is known of them. -/
theorem unpack_told {f wd p t S D h q : Int} (hF : Frm f wd p t S D h q) (x : Int) (hx0 : 0 ≤ x) (hD : x < D) :
    ∃ (K E : Int) (M : Nat) (nb : Bool), (∀ w, Calls Tryd.prog 8 #[.int .i64 f, .int .u64 x] w fun e w' => e = .returned (.agg #[.int .i64 K, .bool nb, .int .i64 E, .int .u64 (M : Int)]) ∧ Below w.heap.size w w') ∧
      (∀ w, Shp w → Brj w → Calls Tryd.prog 17 #[.int .i64 f, .int .u64 x] w fun e w' => e = .returned (.agg #[.int .i64 K, .bool nb, .int .i64 E, .int .u64 (M : Int)]) ∧ Below w.heap.size w w') ∧
      (K = 0 ∨ K = 1 ∨ K = 2 ∨ K = 3) ∧ (K = 1 → 0 < M ∧ M < 9007199254740992 ∧ -1074 ≤ E ∧ E ≤ 2000) ∧ (K ≠ 1 → M = 0 ∧ E = 0) ∧ (K = 3 ↔ (2 * t + 1) * h < sz S x) ∧ (K = 3 → nb = false) := by
  obtain ⟨hsz, hX0, hX1, hf0, hf1⟩ := sz_of hF x hx0 hD
  obtain ⟨ha, hn⟩ := and_any hF.form x hx0 hD
  have hn' : bits .andNot .u64 x S = sz S x := hn
  have hnb : ((if x < S then (0 : Int) else S) != 0) = (x / S == 1) := by
    rcases hF with ⟨rfl, rfl, rfl, rfl, rfl, rfl, rfl, rfl⟩ | ⟨rfl, rfl, rfl, rfl, rfl, rfl, rfl, rfl⟩ | ⟨rfl, rfl, rfl, rfl, rfl, rfl, rfl, rfl⟩
    all_goals
      split
      · have e : x / _ = 0 := Int.ediv_eq_zero_of_lt hx0 ‹_›
        rw [e]; rfl
      · rw [Bool.eq_iff_iff]
        simp
        omega
  have hszlt : sz S x < D ∧ 0 ≤ sz S x := by
    unfold sz
    rcases hF with ⟨rfl, rfl, rfl, rfl, rfl, rfl, rfl, rfl⟩ | ⟨rfl, rfl, rfl, rfl, rfl, rfl, rfl, rfl⟩ | ⟨rfl, rfl, rfl, rfl, rfl, rfl, rfl, rfl⟩ <;> split <;> omega
  have hi : 0 < (2 * t + 1) * h ∧ 0 < h ∧ h < 18446744073709551616 := by
    rcases hF with ⟨rfl, rfl, rfl, rfl, rfl, rfl, rfl, rfl⟩ | ⟨rfl, rfl, rfl, rfl, rfl, rfl, rfl, rfl⟩ | ⟨rfl, rfl, rfl, rfl, rfl, rfl, rfl, rfl⟩ <;> decide
  by_cases hX : x / h % q = 2 * t + 1
  · by_cases hf : x % h = 0
    · have e1 : sz S x = (2 * t + 1) * h := by rw [hsz, hX, hf]; omega
      refine ⟨2, 0, 0, _, fun w => sunpack_inf hF x w hx0 hD hX (by simpa using hf), fun w hs _ => ?_, by simp, by simp, by simp, by rw [e1]; simp, by simp⟩
      exact unpack_inf hF x (sz S x) _ _ w hs hx0 hD ha hnb hn' (by simp; omega) (by simpa using e1)
    · have e1 : (2 * t + 1) * h < sz S x := by rw [hsz, hX]; omega
      refine ⟨3, 0, 0, false, fun w => sunpack_nan hF x w hx0 hD hX (by simpa using hf), fun w hs _ => ?_, by simp, by simp, by simp, by simpa using e1, by simp⟩
      exact unpack_nan hF x (sz S x) _ _ w hs hx0 hD ha rfl hn' (by simp; omega) (by simp; omega) e1
  · by_cases hX2 : x / h % q = 0
    · by_cases hf : x % h = 0
      · have e1 : sz S x = 0 := by rw [hsz, hX2, hf]; omega
        refine ⟨0, 0, 0, _, fun w => sunpack_zero hF x w hx0 hD hX2 (by simpa using hf), fun w hs _ => ?_, by simp, by simp, by simp, by rw [e1]; simp; omega, by simp⟩
        exact unpack_zero hF x (sz S x) _ _ w hs hx0 hD ha hnb hn' (by simpa using e1)
      · have e1 : sz S x = x % h := by rw [hsz, hX2]; omega
        have e2 : x % h < (2 * t + 1) * h := by
          rcases hF with ⟨rfl, rfl, rfl, rfl, rfl, rfl, rfl, rfl⟩ | ⟨rfl, rfl, rfl, rfl, rfl, rfl, rfl, rfl⟩ | ⟨rfl, rfl, rfl, rfl, rfl, rfl, rfl, rfl⟩ <;> omega
        obtain ⟨man, k, ht, ho⟩ := tz_exists (x % h) (by omega) (by omega)
        have hle := ht.le (show x % h < 18446744073709551616 by omega)
        have hpos := ht.pos
        obtain ⟨M, rfl⟩ := Int.eq_ofNat_of_zero_le (show 0 ≤ man by omega)
        have hbd : 15 ≤ t ∧ t ≤ 1023 ∧ 11 ≤ p ∧ p ≤ 53 ∧ h ≤ 4503599627370496 ∧ -1074 ≤ 2 - t - p := by
          rcases hF with ⟨rfl, rfl, rfl, rfl, rfl, rfl, rfl, rfl⟩ | ⟨rfl, rfl, rfl, rfl, rfl, rfl, rfl, rfl⟩ | ⟨rfl, rfl, rfl, rfl, rfl, rfl, rfl, rfl⟩ <;> decide
        refine ⟨1, 2 - t - p + 0 + k, M, (x / S == 1), fun w => (sunpack_low hF x w hx0 hD hX2 (by simpa using hf)).mono ?_, fun w hs hb => ?_, by simp, fun _ => by omega, by simp, by simp; omega, by simp⟩
        · rintro e w' ⟨k', man', ht', ho', he, hb⟩
          obtain ⟨rfl, rfl⟩ := ht.unique ht' ho ho'
          rw [Int.add_zero]
          exact ⟨he, hb⟩
        · refine unpack_fin hF x (sz S x) _ _ w hs hx0 hD ha hnb hn' (by simp; omega) (by simp; omega) (by omega) _ _ hb fun w hb => ?_
          rw [e1]
          exact finite_low hF _ _ (M : Int) k w (by omega) (by omega) ht ho hb
    · have e3 : sz S x / h = x / h % q ∧ sz S x % h = x % h ∧ h ≤ sz S x ∧ sz S x < (2 * t + 1) * h := by
        rw [hsz]
        rcases hF with ⟨rfl, rfl, rfl, rfl, rfl, rfl, rfl, rfl⟩ | ⟨rfl, rfl, rfl, rfl, rfl, rfl, rfl, rfl⟩ | ⟨rfl, rfl, rfl, rfl, rfl, rfl, rfl, rfl⟩ <;> omega
      have e4 : x % h + h < 18446744073709551616 := by
        rcases hF with ⟨rfl, rfl, rfl, rfl, rfl, rfl, rfl, rfl⟩ | ⟨rfl, rfl, rfl, rfl, rfl, rfl, rfl, rfl⟩ | ⟨rfl, rfl, rfl, rfl, rfl, rfl, rfl, rfl⟩ <;> omega
      obtain ⟨man, k, ht, ho⟩ := tz_exists (x % h + h) (by omega) e4
      have hle := ht.le e4
      have hpos := ht.pos
      obtain ⟨M, rfl⟩ := Int.eq_ofNat_of_zero_le (show 0 ≤ man by omega)
      have hbd : 15 ≤ t ∧ t ≤ 1023 ∧ 11 ≤ p ∧ p ≤ 53 ∧ h ≤ 4503599627370496 ∧ -1074 ≤ 2 - t - p := by
        rcases hF with ⟨rfl, rfl, rfl, rfl, rfl, rfl, rfl, rfl⟩ | ⟨rfl, rfl, rfl, rfl, rfl, rfl, rfl, rfl⟩ | ⟨rfl, rfl, rfl, rfl, rfl, rfl, rfl, rfl⟩ <;> decide
      have hst : 0 ≤ sz S x / h - 1 ∧ sz S x / h - 1 ≤ 2 * t := by omega
      refine ⟨1, 2 - t - p + (sz S x / h - 1) + k, M, (x / S == 1), fun w => (sunpack_norm hF x w hx0 hD hX2 hX).mono ?_, fun w hs hb => ?_, by simp, fun _ => by omega, by simp, by simp; omega, by simp⟩
      · rintro e w' ⟨k', man', ht', ho', he, hb⟩
        obtain ⟨rfl, rfl⟩ := ht.unique ht' ho ho'
        rw [e3.1]
        have e5 : 2 - t - p + (x / h % q - 1) + (k : Int) = x / h % q - t - p + 1 + k := by omega
        rw [e5]
        exact ⟨he, hb⟩
      · refine unpack_fin hF x (sz S x) _ _ w hs hx0 hD ha hnb hn' (by simp; omega) (by simp; omega) (by omega) _ _ hb fun w hb => ?_
        have ht2 : Tz (sz S x % h + h) (M : Int) k := by rw [e3.2.1]; exact ht
        exact finite_norm hF _ _ (M : Int) k w e3.2.2.1 hszlt.1 ht2 ho hb

set_option maxHeartbeats 1000000 in
theorem isNan_any {f wd p t S D h q : Int} (hF : Frm f wd p t S D h q) (x : Int) (w : World) (h0 : 0 ≤ x) (h1 : x < D) :
    Calls Tryd.prog 37 #[.agg #[.int .i64 wd, .int .i64 p, .int .i64 t], .int .u64 x] w fun e w' => e = .returned (.bool (decide ((2 * t + 1) * h < sz S x))) ∧ Below w.heap.size w w' := by
  have e : bits .andNot .u64 x S = sz S x := (and_any hF.form x h0 h1).2
  have hS := fun w => signBit_any hF w
  have hI := fun w => infinity_any hF w
  generalize sz S x = s at *
  generalize (2 * t + 1) * h = i at *
  clear h0 h1 hF
  go_enter Tryd.func37, Tryd.ntmps37
  go_wp2
  go_region_with (first | (go_at_call 45; refine (hS _).mono ?_; rintro e w' ⟨rfl, rfl⟩) | (go_at_call 46; refine (hI _).mono ?_; rintro e w' ⟨rfl, rfl⟩))
  all_goals (go_wp2; go_ret; exact ⟨rfl, below_34d _ _ _⟩)

theorem quiet_bit {f wd p t S D h q : Int} (hF : Frm f wd p t S D h q) (x : Int) (h0 : 0 ≤ x) (h1 : x < D) : (bits .and .u64 x (h / 2) == 0) = (x / (h / 2) % 2 == 0) := by
  obtain ⟨n, rfl⟩ := Int.eq_ofNat_of_zero_le h0
  have key : ∀ k : Nat, k < 63 → n < 18446744073709551616 → (bits .and .u64 (n : Int) ((2 ^ k : Nat) : Int) == 0) = ((n : Int) / ((2 ^ k : Nat) : Int) % 2 == 0) := by
    intro k hk hn
    have h2 : 2 ^ k < 2 ^ 64 := Nat.pow_lt_pow_right (by omega) (by omega)
    rw [u64_and_nat n (2 ^ k) hn (by omega), nat_bit]
    have hp : 0 < 2 ^ k := Nat.pow_pos (by decide)
    generalize 2 ^ k = m at *
    have e : ((n : Int) / (m : Int) % 2) = ((n / m % 2 : Nat) : Int) := by rw [Int.natCast_emod, Int.natCast_ediv]; rfl
    rw [e]
    rcases Nat.mod_two_eq_zero_or_one (n / m) with h | h
    · rw [h]; simp
    · rw [h]
      simp
      omega
  rcases hF with ⟨rfl, rfl, rfl, rfl, rfl, rfl, rfl, rfl⟩ | ⟨rfl, rfl, rfl, rfl, rfl, rfl, rfl, rfl⟩ | ⟨rfl, rfl, rfl, rfl, rfl, rfl, rfl, rfl⟩
  · exact key 9 (by decide) (by omega)
  · exact key 22 (by decide) (by omega)
  · exact key 51 (by decide) (by omega)

/-- A NaN that is signalling. -/
def sigOf (t h S x : Int) : Bool := decide ((2 * t + 1) * h < sz S x) && (x / (h / 2) % 2 == 0)

theorem cells3_below {w W : World} {wd p t : Int} (hb : Below (w.alloc (Obj.cells #[.int .i64 wd, .int .i64 p, .int .i64 t] 58)).heap.size (w.alloc (Obj.cells #[.int .i64 wd, .int .i64 p, .int .i64 t] 58)) W) :
    W.cell? ⟨w.heap.size, 0, none⟩ = some (.int .i64 wd) ∧ W.cell? ⟨w.heap.size, 1, none⟩ = some (.int .i64 p) ∧ W.cell? ⟨w.heap.size, 2, none⟩ = some (.int .i64 t) := by
  refine ⟨?_, ?_, ?_⟩
  all_goals
    rw [hb.cell (by show w.heap.size < _; simp)]
    simp

set_option maxHeartbeats 1000000 in
theorem isSig_any {f wd p t S D h q : Int} (hF : Frm f wd p t S D h q) (x : Int) (w : World) (h0 : 0 ≤ x) (h1 : x < D) :
    Calls Tryd.prog 38 #[.agg #[.int .i64 wd, .int .i64 p, .int .i64 t], .int .u64 x] w fun e w' => e = .returned (.bool (sigOf t h S x)) ∧ Below w.heap.size w w' := by
  have hN := fun w => isNan_any hF x w h0 h1
  have hQ := fun w => quietBit_any hF w
  have hq := quiet_bit hF x h0 h1
  unfold sigOf
  clear hF h0 h1
  generalize decide ((2 * t + 1) * h < sz S x) = nn at *
  generalize (x / (h / 2) % 2 == 0) = qq at *
  generalize h / 2 = h2 at *
  cases nn
  · go_enter Tryd.func38, Tryd.ntmps38
    go_wp2_with (go_at_call 37; refine (hN _).mono ?_; rintro e w' ⟨rfl, hb⟩)
    go_ret
    exact ⟨by simp, (below_one _).trans (hb.mono (below_one _).size)⟩
  · go_enter Tryd.func38, Tryd.ntmps38
    go_wp2_with (first | (go_at_call 37; refine (hN _).mono ?_; rintro e w' ⟨rfl, hb⟩; obtain ⟨c0, c1, c2⟩ := cells3_below hb) | (go_at_call 49; refine (hQ _).mono ?_; rintro e w' ⟨rfl, rfl⟩))
    go_ret
    refine ⟨by simp, ?_⟩
    have := (below_one _).trans (hb.mono (below_one _).size)
    exact this.alloc this.size _

theorem signal_any {f wd p t S D h q : Int} (hF : Frm f wd p t S D h q) (x : Int) (w : World) (h0 : 0 ≤ x) (h1 : x < D) :
    Calls Tryd.prog 20 #[.int .i64 f, .int .u64 x] w fun e w' => e = .returned (.bool (sigOf t h S x)) ∧ Below w.heap.size w w' := by
  obtain ⟨K, E, M, nb, hA, -, -, -, -, h3, -⟩ := unpack_told hF x h0 h1
  have hG := fun w => l1Form_any hF.form w
  have hfl := fun w => fld24 K E M nb w
  unfold sigOf
  have hk : (K == 3) = decide ((2 * t + 1) * h < sz S x) := by
    rw [Bool.eq_iff_iff]
    simpa using h3
  rw [← hk]
  clear hk h3
  by_cases k3 : K = 3
  · subst k3
    rcases hF with ⟨rfl, rfl, rfl, rfl, rfl, rfl, rfl, rfl⟩ | ⟨rfl, rfl, rfl, rfl, rfl, rfl, rfl, rfl⟩ | ⟨rfl, rfl, rfl, rfl, rfl, rfl, rfl, rfl⟩
    all_goals
      go_enter Tryd.func20, Tryd.ntmps20
      go_wp2_with (first | (go_at_call 21; refine (hG _).mono ?_; rintro e w' ⟨rfl, rfl⟩) | (go_at_call 8; refine (hA _).mono ?_; rintro e w' ⟨rfl, hb⟩))
      go_ret
      exact ⟨by simp, hb⟩
  · have hkb : (K == 3) = false := by simpa using k3
    rw [hkb]
    clear hF
    go_enter Tryd.func20, Tryd.ntmps20
    go_wp2_with (first | (go_at_call 21; refine (hG _).mono ?_; rintro e w' ⟨rfl, rfl⟩) | (go_at_call 8; refine (hA _).mono ?_; rintro e w' ⟨rfl, hb⟩))
    go_ret
    exact ⟨by simp, hb⟩
end Go.Proofs.YtghblaphkbcgpaaDoor
