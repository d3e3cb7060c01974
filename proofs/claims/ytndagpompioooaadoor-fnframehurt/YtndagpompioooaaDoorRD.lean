/- Bits of numbers: rows as lists. -/
import Derived.Test.YtndagpompioooaaDoorRA
import Derived.Test.YtndagpompioooaaDoorUD
import Derived.Test.YtndagpompioooaaDoorX0
import Derived.Test.YtndagpompioooaaDoorC1
import Derived.Test.YtndagpompioooaaDoorAP
namespace Go.Proofs.YtndagpompioooaaDoor
open Go.RowKit

/-- The t highest of the k lowest bits of a number. -/
def low (u k t : Nat) : List Int := (List.range t).map fun j => (((u / 2 ^ (k - 1 - j)) % 2 : Nat) : Int)

theorem low_len (u k t : Nat) : (low u k t).length = t := by simp [low]
theorem low_succ (u k t : Nat) : low u k (t + 1) = low u k t ++ [(((u / 2 ^ (k - 1 - t)) % 2 : Nat) : Int)] := by simp [low, List.range_succ]

/-- The bits of the first i numbers. -/
def ric (k : Nat) (xs : Nat → Int) : Nat → List Int
  | 0 => []
  | i + 1 => ((ric k xs i ++ List.replicate (zig (xs i) / 2 ^ k) 1) ++ [0]) ++ low (zig (xs i)) k k

theorem ric_len (k : Nat) (xs : Nat → Int) (i : Nat) : (ric k xs i).length = rbt k xs i := by
  induction i with
  | zero => rfl
  | succ i ih =>
    show (((ric k xs i ++ List.replicate (zig (xs i) / 2 ^ k) 1) ++ [0]) ++ low (zig (xs i)) k k).length = rbt k xs i + (zig (xs i) / 2 ^ k + 1 + k)
    rw [List.length_append, List.length_append, List.length_append, low_len, List.length_replicate, List.length_singleton, ih]
    omega

/-- The bits of a number, the highest of c first. -/
def bfn (x : Nat) (c i : Nat) : Int := (((x / 2 ^ (c - 1 - i)) % 2 : Nat) : Int)

/-- Rows put behind one another. -/
def cat (N : Nat) (f g : Nat → Int) (i : Nat) : Int := if i < N then f i else g (i - N)

theorem and_one_nat {x : Nat} (h : x < 9223372036854775808) : bits .and .i64 (x : Int) 1 = ((x % 2 : Nat) : Int) := by
  have h1 := and_nat (a := x) (b := 1) h (by omega)
  rw [Nat.and_one_is_mod] at h1
  exact h1

set_option maxHeartbeats 4000000 in
theorem append_any {w W : World} {v : Value} {N x c : Nat} {f : Nat → Int} (ho : W.ownsRow w.heap.size 3 1 v N (ils f N)) (hb : Below w.heap.size w W) (hN : N ≤ 100000) (hx : x < 4294967296) (hc : c ≤ 31) :
    Calls Tryd.prog 46 #[v, .int .i64 (x : Int), .int .i64 (c : Int)] W fun e w' => ∃ u, e = .returned u ∧ w'.ownsRow w.heap.size 3 1 u (N + c) (ils (cat N f (bfn x c)) (N + c)) ∧ Below w.heap.size w w' := by
  obtain ⟨i0, hi, hz0, hz1, hz2⟩ := info_parts Tryd.info3
  have hcf : ils (cat N f (bfn x c)) N = ils f N := ils_congr fun k hk => by unfold cat; rw [if_pos hk]
  have HO : Hid (W.ownsRow w.heap.size 3 1 v (N + 0) (ils (cat N f (bfn x c)) (N + 0))) := by rw [Nat.add_zero, hcf]; exact ho
  have HB : Hid (Below w.heap.size w W) := hb
  clear ho hb hcf
  go_enter Tryd.func46, Tryd.ntmps46
  go_wp2
  go_loopw [0, 7, 9] (fun o _ i wr => ∃ k : Nat, i = .int .i64 (k : Int) ∧ k ≤ c ∧ Hid (wr.ownsRow w.heap.size 3 1 o (N + k) (ils (cat N f (bfn x c)) (N + k)) ∧ Below w.heap.size w wr)) (fun _ _ i _ => c - (intOf i).toNat)
  case atStart => exact ⟨0, rfl, by omega, HO.out, HB.out⟩
  case round =>
    obtain ⟨k, rfl, hk, hrel⟩ := hrel
    by_cases h1 : k < c
    · obtain ⟨d, hd⟩ : ∃ d : Nat, d = c - 1 - k := ⟨_, rfl⟩
      have e0 : (c : Int) - 1 - (k : Int) = (d : Int) := by omega
      obtain ⟨y, hy⟩ : ∃ y : Nat, y = x / 2 ^ d := ⟨_, rfl⟩
      have hyb : y ≤ x := by rw [hy]; exact Nat.div_le_self _ _
      have e1 : (x : Int) / 2 ^ d = (y : Int) := by rw [hy, Int.natCast_ediv, Int.natCast_pow]; rfl
      have e2 := and_one_nat (x := y) (by omega)
      have hdb : d ≤ 31 := by omega
      obtain ⟨z, hz⟩ : ∃ z : Int, z = ((y % 2 : Nat) : Int) := ⟨_, rfl⟩
      rw [← hz] at e2
      have hzz : z = cat N f (bfn x c) (N + k) := by
        unfold cat bfn
        rw [if_neg (by omega), hz, hy, hd, show N + k - N = k by omega]
      have HZ : Hid (z = cat N f (bfn x c) (N + k)) := hzz
      have HO1 := hrel.out.1
      have HB1 := hrel.out.2
      clear hd hy hz hzz hrel
      have hb3 := below_one wr (.cells #[.int .i64 z] 3)
      have HO3 := own_below HO1 hb3
      have HB3 := bstep HB1 hb3
      clear hb3 HO1 HB1
      go_wp2_with (first | (at_builtin; refine wpList_append_own _ rfl _ _ 24 rfl w.heap.size 3 i0 (.int .i64 0) 1 8 Tryd.underlying24 hi hz0 hz1 hz2 rfl (by decide) _ _ _ rfl HO3 ⟨wr.heap.size, 0, none⟩ 1 1 [.int .i64 z] rfl rfl (one_new _ _ _) (by simp [Value.oneCell']) (by unfold maxLen; omega) (by omega) HB3.size ?_))
      intro v' w4 hown' hgrow _
      have HB4 : Hid (Below w.heap.size w w4) := grown_below HB3 (Nat.le_refl _) HO3 hgrow
      rw [show Value.int .i64 z = .int .i64 (cat N f (bfn x c) (N + k)) from congrArg _ HZ.out, ← ils_snoc (cat N f (bfn x c)) (N + k)] at hown'
      have HO4 : Hid (w4.ownsRow w.heap.size 3 1 v' (N + (k + 1)) (ils (cat N f (bfn x c)) (N + (k + 1)))) := hown'
      clear hown' hgrow HB3 HO3
      go_wp2
      go_roundw
      case rel => exact ⟨k + 1, by go_num, by omega, HO4.out, HB4.out⟩
      case measure => simp [intOf]; omega
    · obtain rfl : c = k := by omega
      go_wp2
      go_ret
      exact ⟨_, rfl, hrel.out⟩

theorem cat_low {M : List Int} {u k : Nat} : ils (cat M.length (lf M) (bfn u k)) (M.length + k) = ils (lf (M ++ low u k k)) (M.length + k) := by
  refine ils_congr fun i hi => ?_
  unfold cat
  by_cases h : i < M.length
  · rw [if_pos h, lf_left h]
  · rw [if_neg h, lf_right (by omega)]
    unfold bfn low lf
    rw [List.getD_eq_getElem?_getD, List.getElem?_map, List.getElem?_range (by omega)]
    rfl
end Go.Proofs.YtndagpompioooaaDoor
