/- What both sides' Unpack tells, infinities included. -/
import Derived.Test.YtcpnmcfpnhokgaaDoorV1
namespace Go.Proofs.YtcpnmcfpnhokgaaDoor
open Go.RowKit

/-- What both sides' Unpack tells, and which bits an infinity has. -/
theorem unpack_more {f wd p t S D h q : Int} (hF : Frm f wd p t S D h q) (x : Int) (hx0 : 0 ≤ x) (hD : x < D) :
    ∃ (K E : Int) (M : Nat) (nb : Bool), (∀ w, Calls Tryd.prog 12 #[.int .i64 f, .int .u64 x] w fun e w' => e = .returned (.agg #[.int .i64 K, .bool nb, .int .i64 E, .int .u64 (M : Int)]) ∧ Below w.heap.size w w') ∧
      (∀ w, Shp w → Brj w → Calls Tryd.prog 11 #[.int .i64 f, .int .u64 x] w fun e w' => e = .returned (.agg #[.int .i64 K, .bool nb, .int .i64 E, .int .u64 (M : Int)]) ∧ Below w.heap.size w w') ∧
      (K = 0 ∨ K = 1 ∨ K = 2 ∨ K = 3) ∧ (K = 1 → 0 < M ∧ M < 9007199254740992 ∧ -1074 ≤ E ∧ E ≤ 2000) ∧ (K ≠ 1 → M = 0 ∧ E = 0) ∧ (K = 3 ↔ (2 * t + 1) * h < sz S x) ∧ (K = 2 → x = (2 * t + 1) * h + (if nb then S else 0)) := by
  obtain ⟨hsz, hX0, hX1, hf0, hf1⟩ := sz_of hF x hx0 hD
  obtain ⟨ha, hn⟩ := and_any hF.form x hx0 hD
  have hn' : bits .andNot .u64 x S = sz S x := hn
  have hnb : ((if x < S then (0 : Int) else S) != 0) = (x / S == 1) := by
    rcases hF with ⟨rfl, rfl, rfl, rfl, rfl, rfl, rfl, rfl⟩ | ⟨rfl, rfl, rfl, rfl, rfl, rfl, rfl, rfl⟩ | ⟨rfl, rfl, rfl, rfl, rfl, rfl, rfl, rfl⟩
    all_goals
      split
      · have e : x / _ = 0 := Int.ediv_eq_zero_of_lt hx0 ‹_›
        rw [e]; rfl
      · rw [Bool.eq_iff_iff]
        simp
        omega
  have hszlt : sz S x < D ∧ 0 ≤ sz S x := by
    unfold sz
    rcases hF with ⟨rfl, rfl, rfl, rfl, rfl, rfl, rfl, rfl⟩ | ⟨rfl, rfl, rfl, rfl, rfl, rfl, rfl, rfl⟩ | ⟨rfl, rfl, rfl, rfl, rfl, rfl, rfl, rfl⟩ <;> split <;> omega
  have hi : 0 < (2 * t + 1) * h ∧ 0 < h ∧ h < 18446744073709551616 := by
    rcases hF with ⟨rfl, rfl, rfl, rfl, rfl, rfl, rfl, rfl⟩ | ⟨rfl, rfl, rfl, rfl, rfl, rfl, rfl, rfl⟩ | ⟨rfl, rfl, rfl, rfl, rfl, rfl, rfl, rfl⟩ <;> decide
  have hinf : sz S x = (2 * t + 1) * h → x = (2 * t + 1) * h + (if (x / S == 1) then S else 0) := by
    rw [← hnb]
    unfold sz
    rcases hF with ⟨rfl, rfl, rfl, rfl, rfl, rfl, rfl, rfl⟩ | ⟨rfl, rfl, rfl, rfl, rfl, rfl, rfl, rfl⟩ | ⟨rfl, rfl, rfl, rfl, rfl, rfl, rfl, rfl⟩ <;> split <;> intro e <;> simp <;> omega
  by_cases hX : x / h % q = 2 * t + 1
  · by_cases hf : x % h = 0
    · have e1 : sz S x = (2 * t + 1) * h := by rw [hsz, hX, hf]; omega
      refine ⟨2, 0, 0, _, fun w => sunpack_inf hF x w hx0 hD hX (by simpa using hf), fun w hs _ => ?_, by simp, by simp, by simp, by rw [e1]; simp, fun _ => ?_⟩
      rotate_left
      · exact hinf e1
      exact unpack_inf hF x (sz S x) _ _ w hs hx0 hD ha hnb hn' (by simp; omega) (by simpa using e1)
    · have e1 : (2 * t + 1) * h < sz S x := by rw [hsz, hX]; omega
      refine ⟨3, 0, 0, false, fun w => sunpack_nan hF x w hx0 hD hX (by simpa using hf), fun w hs _ => ?_, by simp, by simp, by simp, by simpa using e1, by simp⟩
      exact unpack_nan hF x (sz S x) _ _ w hs hx0 hD ha rfl hn' (by simp; omega) (by simp; omega) e1
  · by_cases hX2 : x / h % q = 0
    · by_cases hf : x % h = 0
      · have e1 : sz S x = 0 := by rw [hsz, hX2, hf]; omega
        refine ⟨0, 0, 0, _, fun w => sunpack_zero hF x w hx0 hD hX2 (by simpa using hf), fun w hs _ => ?_, by simp, by simp, by simp, by rw [e1]; simp; omega, by simp⟩
        exact unpack_zero hF x (sz S x) _ _ w hs hx0 hD ha hnb hn' (by simpa using e1)
      · have e1 : sz S x = x % h := by rw [hsz, hX2]; omega
        have e2 : x % h < (2 * t + 1) * h := by
          rcases hF with ⟨rfl, rfl, rfl, rfl, rfl, rfl, rfl, rfl⟩ | ⟨rfl, rfl, rfl, rfl, rfl, rfl, rfl, rfl⟩ | ⟨rfl, rfl, rfl, rfl, rfl, rfl, rfl, rfl⟩ <;> omega
        obtain ⟨man, k, ht, ho⟩ := tz_exists (x % h) (by omega) (by omega)
        have hle := ht.le (show x % h < 18446744073709551616 by omega)
        have hpos := ht.pos
        obtain ⟨M, rfl⟩ := Int.eq_ofNat_of_zero_le (show 0 ≤ man by omega)
        have hbd : 15 ≤ t ∧ t ≤ 1023 ∧ 11 ≤ p ∧ p ≤ 53 ∧ h ≤ 4503599627370496 ∧ -1074 ≤ 2 - t - p := by
          rcases hF with ⟨rfl, rfl, rfl, rfl, rfl, rfl, rfl, rfl⟩ | ⟨rfl, rfl, rfl, rfl, rfl, rfl, rfl, rfl⟩ | ⟨rfl, rfl, rfl, rfl, rfl, rfl, rfl, rfl⟩ <;> decide
        refine ⟨1, 2 - t - p + 0 + k, M, (x / S == 1), fun w => (sunpack_low hF x w hx0 hD hX2 (by simpa using hf)).mono ?_, fun w hs hb => ?_, by simp, fun _ => by omega, by simp, by simp; omega, by simp⟩
        · rintro e w' ⟨k', man', ht', ho', he, hb⟩
          obtain ⟨rfl, rfl⟩ := ht.unique ht' ho ho'
          rw [Int.add_zero]
          exact ⟨he, hb⟩
        · refine unpack_fin hF x (sz S x) _ _ w hs hx0 hD ha hnb hn' (by simp; omega) (by simp; omega) (by omega) _ _ hb fun w hb => ?_
          rw [e1]
          exact finite_low hF _ _ (M : Int) k w (by omega) (by omega) ht ho hb
    · have e3 : sz S x / h = x / h % q ∧ sz S x % h = x % h ∧ h ≤ sz S x ∧ sz S x < (2 * t + 1) * h := by
        rw [hsz]
        rcases hF with ⟨rfl, rfl, rfl, rfl, rfl, rfl, rfl, rfl⟩ | ⟨rfl, rfl, rfl, rfl, rfl, rfl, rfl, rfl⟩ | ⟨rfl, rfl, rfl, rfl, rfl, rfl, rfl, rfl⟩ <;> omega
      have e4 : x % h + h < 18446744073709551616 := by
        rcases hF with ⟨rfl, rfl, rfl, rfl, rfl, rfl, rfl, rfl⟩ | ⟨rfl, rfl, rfl, rfl, rfl, rfl, rfl, rfl⟩ | ⟨rfl, rfl, rfl, rfl, rfl, rfl, rfl, rfl⟩ <;> omega
      obtain ⟨man, k, ht, ho⟩ := tz_exists (x % h + h) (by omega) e4
      have hle := ht.le e4
      have hpos := ht.pos
      obtain ⟨M, rfl⟩ := Int.eq_ofNat_of_zero_le (show 0 ≤ man by omega)
      have hbd : 15 ≤ t ∧ t ≤ 1023 ∧ 11 ≤ p ∧ p ≤ 53 ∧ h ≤ 4503599627370496 ∧ -1074 ≤ 2 - t - p := by
        rcases hF with ⟨rfl, rfl, rfl, rfl, rfl, rfl, rfl, rfl⟩ | ⟨rfl, rfl, rfl, rfl, rfl, rfl, rfl, rfl⟩ | ⟨rfl, rfl, rfl, rfl, rfl, rfl, rfl, rfl⟩ <;> decide
      have hst : 0 ≤ sz S x / h - 1 ∧ sz S x / h - 1 ≤ 2 * t := by omega
      refine ⟨1, 2 - t - p + (sz S x / h - 1) + k, M, (x / S == 1), fun w => (sunpack_norm hF x w hx0 hD hX2 hX).mono ?_, fun w hs hb => ?_, by simp, fun _ => by omega, by simp, by simp; omega, by simp⟩
      · rintro e w' ⟨k', man', ht', ho', he, hb⟩
        obtain ⟨rfl, rfl⟩ := ht.unique ht' ho ho'
        rw [e3.1]
        have e5 : 2 - t - p + (x / h % q - 1) + (k : Int) = x / h % q - t - p + 1 + k := by omega
        rw [e5]
        exact ⟨he, hb⟩
      · refine unpack_fin hF x (sz S x) _ _ w hs hx0 hD ha hnb hn' (by simp; omega) (by simp; omega) (by omega) _ _ hb fun w hb => ?_
        have ht2 : Tz (sz S x % h + h) (M : Int) k := by rw [e3.2.1]; exact ht
        exact finite_norm hF _ _ (M : Int) k w e3.2.2.1 hszlt.1 ht2 ho hb

end Go.Proofs.YtcpnmcfpnhokgaaDoor
