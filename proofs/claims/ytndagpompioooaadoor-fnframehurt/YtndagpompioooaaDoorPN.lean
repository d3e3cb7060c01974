/- Bytes of bits: the program. -/
import Derived.Test.YtndagpompioooaaDoorPM
namespace Go.Proofs.YtndagpompioooaaDoor
open Go.RowKit

theorem pieces_any {n r q : Nat} (hn : n ≤ 1048576) (h0 : 1 ≤ r) (hr : r ≤ 1048576) (hq : q = (n + r - 1) / r) (w : World) : Calls Tryd.prog 57 #[.int .i64 (n : Int), .int .i64 (r : Int)] w fun e w' => e = .returned (.int .i64 (q : Int)) ∧ w' = w := by
  obtain ⟨s, hs⟩ : ∃ s : Nat, s = n + r - 1 := ⟨_, rfl⟩
  have e0 : (n : Int) + (r : Int) - 1 = (s : Int) := by omega
  have e1 : (s : Int) / (r : Int) = (q : Int) := by rw [hq, ← hs]; exact (Int.natCast_ediv s r).symm
  have e2 : (s : Int).tdiv (r : Int) = (q : Int) := by rw [Int.tdiv_eq_ediv_of_nonneg (by omega)]; exact e1
  have e3 : ¬ ((r : Int) = 0) := by omega
  have hqs : q ≤ s := by rw [hq, ← hs]; exact Nat.div_le_self _ _
  clear hq hs
  go_enter Tryd.func57, Tryd.ntmps57
  go_wp2
  go_ret
  exact ⟨rfl, rfl⟩

set_option maxRecDepth 20000 in
set_option maxHeartbeats 2000000 in
theorem pnum_any {w : World} {v : Value} {n f c : Nat} {xs : Nat → Int} (hv : Il w v n xs) (h : ∀ k, k < n → Bit (xs k)) (h5 : n ≤ 1048576) (hf : f ≤ 1048576) (hc8 : c ≤ 8) :
    Calls Tryd.prog 81 #[v, .int .i64 (f : Int), .int .i64 (c : Int)] w fun e w' => e = .returned (.int .i64 ((nba n xs f c : Nat) : Int)) ∧ w' = w := by
  have HBT : Hid (∀ k, k < n → Bit (xs k)) := h
  obtain ⟨z, hz⟩ : ∃ z : Nat, z = nba n xs f c := ⟨_, rfl⟩
  have HZ : Hid (z = nba n xs f c) := hz
  rw [← hz]
  obtain ⟨ao, cap, rfl, hcap, hc⟩ := hv
  have HC : Hid (0 < n → ∃ b off, ao = some ⟨b, off, none⟩ ∧ b < w.heap.size ∧ ∀ k, k < n → w.cell? ⟨b, off + k, none⟩ = some (.int .i64 (xs k))) := hc
  clear hc h hz
  go_enter Tryd.func81, Tryd.ntmps81
  go_wp2
  go_loopw [7, 8, 10] (fun a _ i wr => ∃ k q : Nat, i = .int .i64 (k : Int) ∧ a = .int .i64 (q : Int) ∧ k ≤ c ∧ q < 256 ∧ wr = w ∧ Hid (q = nba n xs f k)) (fun _ _ i _ => c - (intOf i).toNat)
  case atStart => exact ⟨0, 0, rfl, rfl, by omega, by omega, rfl, rfl⟩
  case round =>
    obtain ⟨k, q, rfl, rfl, hk, hq, rfl, hrel⟩ := hrel
    by_cases h1 : k < c
    · have hlt2 : nba n xs f (k + 1) < 2 ^ (k + 1) := nba_lt HBT.out f (k + 1)
      have hp : (2 : Nat) ^ (k + 1) ≤ 2 ^ 8 := Nat.pow_le_pow_right (by omega) (by omega)
      by_cases h2 : f + k < n
      · obtain ⟨b, off, rfl, hlt, hcell⟩ := HC.out (by omega)
        have c0 := hcell (f + k) h2
        rw [nb_eq HBT.out h2] at c0
        obtain ⟨y, hy⟩ : ∃ y : Nat, y = nb xs (f + k) := ⟨_, rfl⟩
        rw [← hy] at c0
        have hn1 : nba n xs f (k + 1) = q * 2 + y := by rw [nba, if_pos h2, ← hrel.out, hy]
        have hyb : y ≤ 1 := by rw [hy]; exact nb_le HBT.out h2
        have HN : Hid (q * 2 + y = nba n xs f (k + 1)) := hn1.symm
        rw [hn1] at hlt2
        obtain ⟨m, hm⟩ : ∃ m : Nat, m = f + k := ⟨_, rfl⟩
        have e0 : (f : Int) + (k : Int) = (m : Int) := by omega
        rw [← hm] at c0 h2
        clear hcell hrel hn1 hy hm
        go_wp2
        go_roundw
        case rel => exact ⟨k + 1, q * 2 + y, by go_num, by go_num, by omega, by omega, by trivial, HN.out⟩
        case measure => simp [intOf]; omega
      · have hn1 : nba n xs f (k + 1) = q * 2 := by rw [nba, if_neg h2, ← hrel.out, Nat.add_zero]
        have HN : Hid (q * 2 = nba n xs f (k + 1)) := hn1.symm
        rw [hn1] at hlt2
        clear hrel hn1
        go_wp2
        go_roundw
        case rel => exact ⟨k + 1, q * 2, by go_num, by go_num, by omega, by omega, by trivial, HN.out⟩
        case measure => simp [intOf]; omega
    · obtain rfl : c = k := by omega
      have hqz : q = z := by rw [HZ.out]; exact hrel.out
      subst hqz
      go_wp2
      go_ret
      exact ⟨rfl, rfl⟩

set_option maxRecDepth 20000 in
set_option maxHeartbeats 4000000 in
theorem bytes_any {w : World} {v : Value} {n q : Nat} {xs : Nat → Int} (hv : Il w v n xs) (h : ∀ k, k < n → Bit (xs k)) (h5 : n ≤ 100000) (hq : q = (n + 7) / 8) :
    Calls Tryd.prog 62 #[v] w fun e w' => ∃ u, e = .returned u ∧ w'.ownsRow w.heap.size 5 1 u q (bls (pk8 n xs) q) ∧ Below w.heap.size w w' := by
  obtain ⟨i0, hi, hz0, hz1, hz2⟩ := info_parts Tryd.info5
  have HBT : Hid (∀ k, k < n → Bit (xs k)) := h
  have i2 : ∀ W, Calls Tryd.prog 57 #[.int .i64 (n : Int), .int .i64 8] W fun e w' => e = .returned (.int .i64 (q : Int)) ∧ w' = W := pieces_any (n := n) (r := 8) (q := q) (by omega) (by omega) (by omega) (by rw [hq]; omega)
  have hqb : q ≤ 12501 := by omega
  have OW : Hid ((w.alloc (.cells #[] 5)).ownsRow w.heap.size 5 1 (.slice (some ⟨w.heap.size, 0, none⟩) 0 0) 0 (bls (pk8 n xs) 0)) := own_empty w 5 1
  have BL : Hid (Below w.heap.size w (w.alloc (.cells #[] 5))) := below_one _ _
  have HV : Hid (Il w v n xs) := hv
  obtain ⟨ao, cap, rfl, hcap, hc⟩ := hv
  clear hc h hq
  go_enter Tryd.func62, Tryd.ntmps62
  go_wp2_with (first | (go_at_call 57; (with_reducible refine (i2 _).mono ?_); rintro e w' ⟨rfl, hw⟩; obtain rfl := hw.symm))
  clear i2
  generalize w.alloc (.cells #[] 5) = W at *
  go_loopw [3, 4, 9] (fun o _ i wr => ∃ k : Nat, i = .int .i64 (k : Int) ∧ k ≤ q ∧ Hid (wr.ownsRow w.heap.size 5 1 o k (bls (pk8 n xs) k) ∧ Below w.heap.size w wr)) (fun _ _ i _ => q - (intOf i).toNat)
  case atStart => exact ⟨0, rfl, by omega, OW.out, BL.out⟩
  case round =>
    obtain ⟨k, rfl, hk, hrel⟩ := hrel
    by_cases h1 : k < q
    · obtain ⟨m, hm⟩ : ∃ m : Nat, m = 8 * k := ⟨_, rfl⟩
      have e0 : (k : Int) * 8 = (m : Int) := by omega
      have i3 : Calls Tryd.prog 81 #[.slice ao n cap, .int .i64 (m : Int), .int .i64 8] wr fun e w' => e = .returned (.int .i64 ((nba n xs m 8 : Nat) : Int)) ∧ w' = wr := pnum_any (c := 8) (HV.out.below hrel.out.2) HBT.out (by omega) (by omega) (by omega)
      have hzb : nba n xs m 8 < 256 := nba_lt HBT.out m 8
      obtain ⟨z, hz⟩ : ∃ z : Nat, z = nba n xs m 8 := ⟨_, rfl⟩
      rw [← hz] at i3 hzb
      have e1 : IntKind.u8.wrap (z : Int) = (z : Int) := by rw [IntKind.wrap_u8']; omega
      have hzz : (z : Int) = pk8 n xs k := by rw [hz, hm]; rfl
      have HZ : Hid ((z : Int) = pk8 n xs k) := hzz
      have hb3 := below_one wr (.cells #[.int .u8 (z : Int)] 5)
      have HO3 := own_below hrel.out.1 hb3
      have HB3 := bstep hrel.out.2 hb3
      clear hz hzz hm hb3 hrel
      go_wp2_with (first | (go_at_call 81; (with_reducible refine (i3).mono ?_); rintro e w' ⟨rfl, hw⟩; obtain rfl := hw.symm) | (at_builtin; refine wpList_append_own _ rfl _ _ 22 rfl w.heap.size 5 i0 (.int .u8 0) 1 1 Tryd.underlying22 hi hz0 hz1 hz2 rfl (by decide) _ _ _ rfl HO3 ⟨wr.heap.size, 0, none⟩ 1 1 [.int .u8 (z : Int)] rfl rfl (one_new _ _ _) (by simp [Value.oneCell']) (by unfold maxLen; omega) (by omega) HB3.size ?_))
      intro v' w4 hown' hgrow _
      have HB4 : Hid (Below w.heap.size w w4) := grown_below HB3 (Nat.le_refl _) HO3 hgrow
      rw [show Value.int .u8 (z : Int) = .int .u8 (pk8 n xs k) from congrArg _ HZ.out, ← bls_snoc (pk8 n xs) k] at hown'
      have HO4 : Hid (w4.ownsRow w.heap.size 5 1 v' (k + 1) (bls (pk8 n xs) (k + 1))) := hown'
      clear hown' hgrow HB3 HO3
      go_wp2
      go_roundw
      case rel => exact ⟨k + 1, by go_num, by omega, HO4.out, HB4.out⟩
      case measure => simp [intOf]; omega
    · obtain rfl : q = k := by omega
      go_wp2
      go_ret
      exact ⟨_, rfl, hrel.out.1, hrel.out.2⟩
end Go.Proofs.YtndagpompioooaaDoor
