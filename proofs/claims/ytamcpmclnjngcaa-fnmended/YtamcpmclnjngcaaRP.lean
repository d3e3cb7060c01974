/- A word is filled. -/
import Derived.Test.YtamcpmclnjngcaaRF
import Derived.Test.YtamcpmclnjngcaaRX
namespace Go.Proofs.Ytamcpmclnjngcaa
open Go.RowKit

/-- The place ahead. -/
def gah (pl : Nat → Nat) : Nat → Int
  | 0 => -1
  | k + 1 => ((pl k : Nat) : Int)

set_option maxHeartbeats 4000000 in
theorem places_yes {w : World} {o : Value} {n m : Nat} {pl : Nat → Nat} (ho : Il w o m (fun k => ((pl k : Nat) : Int))) (hlt : ∀ k, k < m → pl k < n) (hinc : ∀ i k, i < k → k < m → pl i < pl k) (hm : m ≤ 16) (_ : n ≤ 255) :
    Calls Try.prog 57 #[o, .int .i64 (n : Int)] w fun e w' => e = .returned (.bool true) ∧ w' = w := by
  obtain ⟨ao, cap, rfl, hcap, hc⟩ := ho
  have HC : Hid (0 < m → ∃ b off, ao = some ⟨b, off, none⟩ ∧ b < w.heap.size ∧ ∀ k, k < m → w.cell? ⟨b, off + k, none⟩ = some (.int .i64 ((pl k : Nat) : Int))) := hc
  have HG : Hid (∀ k, k < m → gah pl k < ((pl k : Nat) : Int) ∧ pl k < n) := fun k hk => by
    refine ⟨?_, hlt k hk⟩
    cases k with
    | zero => show (-1 : Int) < _; omega
    | succ k => have := hinc k (k + 1) (by omega) hk; show ((pl k : Nat) : Int) < _; omega
  clear hc hlt hinc
  go_enter Try.func57, Try.ntmps57
  go_wp2
  go_loopw [5, 7, 10] (fun av _ iv wr => ∃ k : Nat, iv = .int .i64 (k : Int) ∧ k ≤ m ∧ av = .int .i64 (gah pl k) ∧ w = wr) (fun _ _ iv _ => m - (intOf iv).toNat)
  case atStart => exact ⟨0, rfl, by omega, rfl, rfl⟩
  case round =>
    obtain ⟨k, rfl, hk, rfl, rfl⟩ := hrel
    by_cases h1 : k < m
    · obtain ⟨b, off, rfl, hb, hcell⟩ := HC.out (by omega)
      have ck := hcell k h1
      obtain ⟨h2, h3⟩ := HG.out k h1
      have HE : Hid (((pl k : Nat) : Int) = gah pl (k + 1)) := rfl
      generalize pl k = p at *
      generalize gah pl k = g at *
      clear hcell
      go_wp2
      go_roundw
      case rel => exact ⟨k + 1, by go_num, by omega, by rw [HE.out], (by first | exact rfl | trivial)⟩
      case measure => simp [intOf]; omega
    · obtain rfl : k = m := by omega
      go_wp2
      go_ret
      exact ⟨rfl, rfl⟩

set_option maxHeartbeats 4000000 in
theorem gone_yes {w : World} {o : Value} {n m t : Nat} {pl : Nat → Nat} (ho : Il w o m (fun k => ((pl k : Nat) : Int))) (hlt : ∀ k, k < m → pl k < n) (hinc : ∀ i k, i < k → k < m → pl i < pl k) (hm : m ≤ 2 * t) (hn : n ≤ 255) (ht : t ≤ 8) :
    Calls Try.prog 35 #[o, .int .i64 (n : Int), .int .i64 (t : Int)] w fun e w' => e = .returned (.bool true) ∧ w' = w := by
  have i1 := places_yes ho hlt hinc (by omega) hn
  obtain ⟨ao, cap, rfl, hcap, hc⟩ := ho
  clear hc hlt hinc
  go_enter Try.func35, Try.ntmps35
  go_wp2_with (first | (go_at_call 57; (with_reducible refine (i1).mono ?_); rintro e w' ⟨rfl, hw⟩; obtain rfl := hw.symm))
  go_ret
  exact ⟨rfl, rfl⟩

set_option maxHeartbeats 4000000 in
/-- A word is filled where it is known which places are gone. -/
theorem fill_told {w : World} {v o : Value} {n t m : Nat} {G C pl : Nat → Nat} (hv : Bl w v n (fun q => ((G q : Nat) : Int))) (hG : ∀ q, G q < 256) (hC : ∀ q, C q < 256) (ho : Il w o m (fun k => ((pl k : Nat) : Int))) (hp : Pls n m pl) (hk : Bk (n : Int) (t : Int)) (hm : m ≤ 2 * t) (hsame : ∀ q, q < n → (∀ k, k < m → pl k ≠ q) → C q = G q) (hclean : ∀ j, j < 2 * t → syn n C j = 0) (hinc : ∀ i k, i < k → k < m → pl i < pl k) :
    Calls Try.prog 16 #[v, o, .int .i64 (t : Int)] w fun e w' => Pbo w w' e n (fun q => ((C q : Nat) : Int)) true := by
  have i1 := iBlock_any (n : Int) (t : Int)
  rw [decide_eq_true hk] at i1
  have hn : 1 ≤ n ∧ n ≤ 255 := by have := hk.2; have := hk.1; omega
  have ht : 1 ≤ t ∧ t ≤ 8 := by have := hk.1; omega
  have i2 := gone_yes (t := t) ho hp.lt hinc hm hn.2 ht.2
  have i3 : Calls Try.prog 31 #[v, o, .int .i64 (t : Int)] w fun e w' => Pbo w w' e n (fun q => ((C q : Nat) : Int)) true := by
    have hf := fld_told (X := pwr n pl) (S := syz n G (2 * t)) hp hn.2 hn.1 hm ht.2 rfl rfl hG hC hsame hclean
    refine (filled_any (t := t) hv hG ho hp hn.2 hn.1 ht.2 _ (pwr n pl) rfl rfl).mono ?_
    rintro e w' ⟨N, ys, h3, h4, _⟩
    have hcl : cln n (fld (pwr n pl) m (syz n G (2 * t)) pl G m) (2 * t) = true := by
      rw [cln_congr hf, cln_iff]
      exact hclean
    rw [hcl] at h3
    obtain ⟨rfl, rfl⟩ := h4 hcl
    obtain ⟨u, h5, h6, h7⟩ := h3
    refine ⟨u, h5, ?_, h7⟩
    have e9 := bls_congr (n := N) (f := fun q => ((fld (pwr N pl) m (syz N G (2 * t)) pl G m q : Nat) : Int)) (g := fun q => ((C q : Nat) : Int)) (fun q hq2 => by show ((fld (pwr N pl) m (syz N G (2 * t)) pl G m q : Nat) : Int) = _; rw [hf q hq2])
    rw [← e9]
    exact h6
  obtain ⟨ao, cap, rfl, hcap, _⟩ := hv
  obtain ⟨bo, cap2, rfl, hcap2, _⟩ := ho
  clear hk hG hC hp hsame hclean hinc
  go_enter Try.func16, Try.ntmps16
  go_wp2_with (first
    | (go_at_call 30; (with_reducible refine (i1 _).mono ?_); rintro e w' ⟨rfl, hw⟩; obtain rfl := hw.symm)
    | (go_at_call 35; (refine i2.mono ?_); rintro e w' ⟨rfl, hw⟩; obtain rfl := hw.symm)
    | (go_at_call 31; (refine i3.mono ?_); rintro e w4 ⟨u4, rfl, ho4, hb4⟩; have O4 : Hid (w4.ownsRow w.heap.size 5 1 u4 n (bls (fun q => ((C q : Nat) : Int)) n)) := ho4; have B4 : Hid (Below w.heap.size w w4) := hb4; clear ho4 hb4))
  go_ret2
  exact ⟨_, rfl, O4.out, B4.out⟩
end Go.Proofs.Ytamcpmclnjngcaa
