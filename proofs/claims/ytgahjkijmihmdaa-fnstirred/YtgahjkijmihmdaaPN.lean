/- Numbers read out of bits and put behind them: the program's. -/
import Derived.Test.YtgahjkijmihmdaaPM
namespace Go.Proofs.Ytgahjkijmihmdaa
open Go.RowKit

set_option maxHeartbeats 2000000 in
theorem number_any {w : World} {v : Value} {n f c : Nat} {xs : Nat → Int} (hv : Il w v n xs) (h : Bts n xs) (hf : f ≤ 1048576) (hc8 : c ≤ 8) :
    Calls Try.prog 36 #[v, .int .i64 (f : Int), .int .i64 (c : Int)] w fun e w' => e = .returned (.int .i64 ((nba n xs f c : Nat) : Int)) ∧ w' = w := by
  have h5 := h.1
  have HBT : Hid (∀ k, k < n → Bit (xs k)) := h.2
  obtain ⟨z, hz⟩ : ∃ z : Nat, z = nba n xs f c := ⟨_, rfl⟩
  have HZ : Hid (z = nba n xs f c) := hz
  rw [← hz]
  obtain ⟨ao, cap, rfl, hcap, hc⟩ := hv
  have HC : Hid (0 < n → ∃ b off, ao = some ⟨b, off, none⟩ ∧ b < w.heap.size ∧ ∀ k, k < n → w.cell? ⟨b, off + k, none⟩ = some (.int .i64 (xs k))) := hc
  clear hc h hz
  go_enter Try.func36, Try.ntmps36
  go_wp2
  go_loopw [7, 8, 10] (fun a _ i wr => ∃ k q : Nat, i = .int .i64 (k : Int) ∧ a = .int .i64 (q : Int) ∧ k ≤ c ∧ q < 256 ∧ wr = w ∧ Hid (q = nba n xs f k)) (fun _ _ i _ => c - (intOf i).toNat)
  case atStart => exact ⟨0, 0, rfl, rfl, by omega, by omega, rfl, rfl⟩
  case round =>
    obtain ⟨k, q, rfl, rfl, hk, hq, rfl, hrel⟩ := hrel
    by_cases h1 : k < c
    · have hlt2 : nba n xs f (k + 1) < 2 ^ (k + 1) := nba_lt HBT.out f (k + 1)
      have hp : (2 : Nat) ^ (k + 1) ≤ 2 ^ 8 := Nat.pow_le_pow_right (by omega) (by omega)
      by_cases h2 : f + k < n
      · obtain ⟨b, off, rfl, hlt, hcell⟩ := HC.out (by omega)
        have c0 := hcell (f + k) h2
        rw [nb_eq HBT.out h2] at c0
        obtain ⟨y, hy⟩ : ∃ y : Nat, y = nb xs (f + k) := ⟨_, rfl⟩
        rw [← hy] at c0
        have hn1 : nba n xs f (k + 1) = q * 2 + y := by rw [nba, if_pos h2, ← hrel.out, hy]
        have hyb : y ≤ 1 := by rw [hy]; exact nb_le HBT.out h2
        have HN : Hid (q * 2 + y = nba n xs f (k + 1)) := hn1.symm
        rw [hn1] at hlt2
        obtain ⟨m, hm⟩ : ∃ m : Nat, m = f + k := ⟨_, rfl⟩
        have e0 : (f : Int) + (k : Int) = (m : Int) := by omega
        rw [← hm] at c0 h2
        clear hcell hrel hn1 hy hm
        go_wp2
        go_roundw
        case rel => exact ⟨k + 1, q * 2 + y, by go_num, by go_num, by omega, by omega, by trivial, HN.out⟩
        case measure => simp [intOf]; omega
      · have hn1 : nba n xs f (k + 1) = q * 2 := by rw [nba, if_neg h2, ← hrel.out, Nat.add_zero]
        have HN : Hid (q * 2 = nba n xs f (k + 1)) := hn1.symm
        rw [hn1] at hlt2
        clear hrel hn1
        go_wp2
        go_roundw
        case rel => exact ⟨k + 1, q * 2, by go_num, by go_num, by omega, by omega, by trivial, HN.out⟩
        case measure => simp [intOf]; omega
    · obtain rfl : c = k := by omega
      have hqz : q = z := by rw [HZ.out]; exact hrel.out
      subst hqz
      go_wp2
      go_ret
      exact ⟨rfl, rfl⟩

/-- The bits of a number, the highest of c first. -/
def bfn (x : Nat) (c i : Nat) : Int := (((x / 2 ^ (c - 1 - i)) % 2 : Nat) : Int)

/-- Rows put behind one another. -/
def cat (N : Nat) (f g : Nat → Int) (i : Nat) : Int := if i < N then f i else g (i - N)

theorem and_one_nat {x : Nat} (h : x < 9223372036854775808) : bits .and .i64 (x : Int) 1 = ((x % 2 : Nat) : Int) := by
  have h1 := and_nat (a := x) (b := 1) h (by omega)
  rw [Nat.and_one_is_mod] at h1
  exact h1

set_option maxHeartbeats 4000000 in
theorem append_any {w W : World} {v : Value} {N x c : Nat} {f : Nat → Int} (ho : W.ownsRow w.heap.size 3 1 v N (ils f N)) (hb : Below w.heap.size w W) (hN : N ≤ 100000) (hx : x < 65536) (hc : c ≤ 8) :
    Calls Try.prog 30 #[v, .int .i64 (x : Int), .int .i64 (c : Int)] W fun e w' => ∃ u, e = .returned u ∧ w'.ownsRow w.heap.size 3 1 u (N + c) (ils (cat N f (bfn x c)) (N + c)) ∧ Below w.heap.size w w' := by
  obtain ⟨i0, hi, hz0, hz1, hz2⟩ := info_parts Try.info3
  have hcf : ils (cat N f (bfn x c)) N = ils f N := ils_congr fun k hk => by unfold cat; rw [if_pos hk]
  have HO : Hid (W.ownsRow w.heap.size 3 1 v (N + 0) (ils (cat N f (bfn x c)) (N + 0))) := by rw [Nat.add_zero, hcf]; exact ho
  have HB : Hid (Below w.heap.size w W) := hb
  clear ho hb hcf
  go_enter Try.func30, Try.ntmps30
  go_wp2
  go_loopw [0, 7, 9] (fun o _ i wr => ∃ k : Nat, i = .int .i64 (k : Int) ∧ k ≤ c ∧ Hid (wr.ownsRow w.heap.size 3 1 o (N + k) (ils (cat N f (bfn x c)) (N + k)) ∧ Below w.heap.size w wr)) (fun _ _ i _ => c - (intOf i).toNat)
  case atStart => exact ⟨0, rfl, by omega, HO.out, HB.out⟩
  case round =>
    obtain ⟨k, rfl, hk, hrel⟩ := hrel
    by_cases h1 : k < c
    · obtain ⟨d, hd⟩ : ∃ d : Nat, d = c - 1 - k := ⟨_, rfl⟩
      have e0 : (c : Int) - 1 - (k : Int) = (d : Int) := by omega
      obtain ⟨y, hy⟩ : ∃ y : Nat, y = x / 2 ^ d := ⟨_, rfl⟩
      have hyb : y ≤ x := by rw [hy]; exact Nat.div_le_self _ _
      have e1 : (x : Int) / 2 ^ d = (y : Int) := by rw [hy, Int.natCast_ediv, Int.natCast_pow]; rfl
      have e2 := and_one_nat (x := y) (by omega)
      have hdb : d ≤ 7 := by omega
      obtain ⟨z, hz⟩ : ∃ z : Int, z = ((y % 2 : Nat) : Int) := ⟨_, rfl⟩
      rw [← hz] at e2
      have hzz : z = cat N f (bfn x c) (N + k) := by
        unfold cat bfn
        rw [if_neg (by omega), hz, hy, hd, show N + k - N = k by omega]
      have HZ : Hid (z = cat N f (bfn x c) (N + k)) := hzz
      have HO1 := hrel.out.1
      have HB1 := hrel.out.2
      clear hd hy hz hzz hrel
      have hb3 := below_one wr (.cells #[.int .i64 z] 3)
      have HO3 := own_below HO1 hb3
      have HB3 := bstep HB1 hb3
      clear hb3 HO1 HB1
      go_wp2_with (first | (at_builtin; refine wpList_append_own _ rfl _ _ 24 rfl w.heap.size 3 i0 (.int .i64 0) 1 8 Try.underlying24 hi hz0 hz1 hz2 rfl (by decide) _ _ _ rfl HO3 ⟨wr.heap.size, 0, none⟩ 1 1 [.int .i64 z] rfl rfl (one_new _ _ _) (by simp [Value.oneCell']) (by unfold maxLen; omega) (by omega) HB3.size ?_))
      intro v' w4 hown' hgrow _
      have HB4 : Hid (Below w.heap.size w w4) := grown_below HB3 (Nat.le_refl _) HO3 hgrow
      rw [show Value.int .i64 z = .int .i64 (cat N f (bfn x c) (N + k)) from congrArg _ HZ.out, ← ils_snoc (cat N f (bfn x c)) (N + k)] at hown'
      have HO4 : Hid (w4.ownsRow w.heap.size 3 1 v' (N + (k + 1)) (ils (cat N f (bfn x c)) (N + (k + 1)))) := hown'
      clear hown' hgrow HB3 HO3
      go_wp2
      go_roundw
      case rel => exact ⟨k + 1, by go_num, by omega, HO4.out, HB4.out⟩
      case measure => simp [intOf]; omega
    · obtain rfl : c = k := by omega
      go_wp2
      go_ret
      exact ⟨_, rfl, hrel.out⟩
end Go.Proofs.Ytgahjkijmihmdaa
