/- Widths, nearest levels and their bits. -/
import Derived.Test.YtpoiejmpdlmegaaGR
import Derived.Test.YtpoiejmpdlmegaaPA
import Derived.Test.YtpoiejmpdlmegaaA2
import Derived.Test.YtpoiejmpdlmegaaAW
namespace Go.Proofs.Ytpoiejmpdlmegaa
open Go.RowKit

/-- The bits of a number, the highest of c first. -/
def bfn (x : Nat) (c i : Nat) : Int := (((x / 2 ^ (c - 1 - i)) % 2 : Nat) : Int)

/-- Rows put behind one another. -/
def cat (N : Nat) (f g : Nat → Int) (i : Nat) : Int := if i < N then f i else g (i - N)

theorem and_one_nat {x : Nat} (h : x < 9223372036854775808) : bits .and .i64 (x : Int) 1 = ((x % 2 : Nat) : Int) := by
  have h1 := and_nat (a := x) (b := 1) h (by omega)
  rw [Nat.and_one_is_mod] at h1
  exact h1

/-- The nearest level. -/
def nlv (h : Nat) (x : Int) : Int := if rdV (x + (2 ^ h - 1)) 2 < 0 then 0 else if 2 ^ h - 1 < rdV (x + (2 ^ h - 1)) 2 then 2 ^ h - 1 else rdV (x + (2 ^ h - 1)) 2

theorem nlv_in {h : Nat} (hh : Hlf h) (x : Int) : 0 ≤ nlv h x ∧ nlv h x ≤ 2 ^ h - 1 := by
  have hp : (0 : Int) ≤ 2 ^ h - 1 := by rcases hh with rfl | rfl | rfl | rfl <;> decide
  unfold nlv
  split
  · omega
  · split <;> omega

/-- Its Gray. -/
def glv (h : Nat) (x : Int) : Nat := gry (nlv h x).toNat

theorem top_in {h : Nat} (hh : Hlf h) : (1 : Int) ≤ 2 ^ h - 1 ∧ (2 : Int) ^ h - 1 ≤ 15 := by
  rcases hh with rfl | rfl | rfl | rfl <;> decide

theorem glv_lt {h : Nat} (hh : Hlf h) (x : Int) : glv h x < 16 := by
  have h1 := nlv_in hh x
  have h2 := top_in hh
  have h3 : gry (nlv h x).toNat < 2 ^ 4 := gry_lt (by have h9 : (2 : Nat) ^ 4 = 16 := rfl; omega)
  exact h3

/-- The bits of points. -/
def dcz (h : Nat) (z : Nat → Int) (i : Nat) : Int := if i % (2 * h) < h then bfn (glv h (z (i / (2 * h) * 2))) h (i % (2 * h)) else bfn (glv h (z (i / (2 * h) * 2 + 1))) h (i % (2 * h) - h)

theorem dm {k h r : Nat} (hr : r < 2 * h) : (k * (2 * h) + r) / (2 * h) = k ∧ (k * (2 * h) + r) % (2 * h) = r := by
  constructor
  · rw [Nat.mul_comm, Nat.mul_add_div (by omega), Nat.div_eq_of_lt hr, Nat.add_zero]
  · rw [Nat.mul_comm, Nat.mul_add_mod, Nat.mod_eq_of_lt hr]

theorem cat_x {h k : Nat} {z : Nat → Int} {x : Int} (h1 : 1 ≤ h) (hx : x = z (k * 2)) : ils (cat (k * (2 * h)) (dcz h z) (bfn (glv h x) h)) (k * (2 * h) + h) = ils (dcz h z) (k * (2 * h) + h) := by
  refine ils_congr fun i hi => ?_
  unfold cat
  by_cases h2 : i < k * (2 * h)
  · rw [if_pos h2]
  · obtain ⟨r, rfl⟩ : ∃ r, i = k * (2 * h) + r := ⟨i - k * (2 * h), by omega⟩
    have h3 := dm (k := k) (h := h) (r := r) (by omega)
    rw [if_neg h2]
    unfold dcz
    rw [h3.1, h3.2, if_pos (by omega), hx, Nat.add_sub_cancel_left]

theorem cat_y {h k : Nat} {z : Nat → Int} {y : Int} (_ : 1 ≤ h) (hy : y = z (k * 2 + 1)) : ils (cat (k * (2 * h) + h) (dcz h z) (bfn (glv h y) h)) (k * (2 * h) + h + h) = ils (dcz h z) ((k + 1) * (2 * h)) := by
  have e : k * (2 * h) + h + h = (k + 1) * (2 * h) := by rw [Nat.add_mul, Nat.one_mul]; omega
  rw [← e]
  refine ils_congr fun i hi => ?_
  unfold cat
  by_cases h2 : i < k * (2 * h) + h
  · rw [if_pos h2]
  · obtain ⟨r, rfl⟩ : ∃ r, i = k * (2 * h) + h + r := ⟨i - (k * (2 * h) + h), by omega⟩
    have h3 := dm (k := k) (h := h) (r := h + r) (by omega)
    rw [← Nat.add_assoc] at h3
    rw [if_neg h2]
    unfold dcz
    rw [h3.1, h3.2, if_neg (by omega), hy, Nat.add_sub_cancel_left, Nat.add_sub_cancel_left]

/-- Points whose numbers are samples. -/
abbrev Pok (n : Nat) (z : Nat → Int) : Prop := ∀ k, k < n → Smp (z (k * 2)) ∧ Smp (z (k * 2 + 1))
/-- Good for Decide. -/
abbrev GDc (n : Nat) (z : Nat → Int) (x : Int) : Prop := Wid x ∧ (n : Int) * x ≤ 1024 ∧ Pok n z

set_option maxHeartbeats 4000000 in
theorem append_any {w W : World} {v : Value} {N x c : Nat} {f : Nat → Int} (ho : W.ownsRow w.heap.size 3 1 v N (ils f N)) (hb : Below w.heap.size w W) (hN : N ≤ 100000) (hx : x < 65536) (hc : c ≤ 8) :
    Calls Try.prog 21 #[v, .int .i64 (x : Int), .int .i64 (c : Int)] W fun e w' => ∃ u, e = .returned u ∧ w'.ownsRow w.heap.size 3 1 u (N + c) (ils (cat N f (bfn x c)) (N + c)) ∧ Below w.heap.size w w' ∧ W.heap.size ≤ w'.heap.size ∧ ∀ b, b < W.heap.size → v.ownBlock ≠ some b → w'.heap[b]? = W.heap[b]? ∧ u.ownBlock ≠ some b := by
  obtain ⟨i0, hi, hz0, hz1, hz2⟩ := info_parts Try.info3
  have hcf : ils (cat N f (bfn x c)) N = ils f N := ils_congr fun k hk => by unfold cat; rw [if_pos hk]
  have HO : Hid (W.ownsRow w.heap.size 3 1 v (N + 0) (ils (cat N f (bfn x c)) (N + 0))) := by rw [Nat.add_zero, hcf]; exact ho
  have HB : Hid (Below w.heap.size w W) := hb
  clear ho hb hcf
  obtain ⟨v0, hv0⟩ : ∃ v0, v0 = v.ownBlock := ⟨_, rfl⟩
  have HV0 : Hid (v0 = v.ownBlock) := hv0
  rw [← hv0]
  clear hv0
  go_enter Try.func21, Try.ntmps21
  go_wp2
  go_loopw [0, 7, 9] (fun o _ i wr => ∃ k : Nat, i = .int .i64 (k : Int) ∧ k ≤ c ∧ Hid (wr.ownsRow w.heap.size 3 1 o (N + k) (ils (cat N f (bfn x c)) (N + k)) ∧ Below w.heap.size w wr ∧ W.heap.size ≤ wr.heap.size ∧ ∀ b, b < W.heap.size → v0 ≠ some b → wr.heap[b]? = W.heap[b]? ∧ o.ownBlock ≠ some b)) (fun _ _ i _ => c - (intOf i).toNat)
  case atStart => exact ⟨0, rfl, by omega, HO.out, HB.out, Nat.le_refl _, fun b _ hb => ⟨rfl, by rw [← HV0.out]; exact hb⟩⟩
  case round =>
    obtain ⟨k, rfl, hk, hrel⟩ := hrel
    by_cases h1 : k < c
    · obtain ⟨d, hd⟩ : ∃ d : Nat, d = c - 1 - k := ⟨_, rfl⟩
      have e0 : (c : Int) - 1 - (k : Int) = (d : Int) := by omega
      obtain ⟨y, hy⟩ : ∃ y : Nat, y = x / 2 ^ d := ⟨_, rfl⟩
      have hyb : y ≤ x := by rw [hy]; exact Nat.div_le_self _ _
      have e1 : (x : Int) / 2 ^ d = (y : Int) := by rw [hy, Int.natCast_ediv, Int.natCast_pow]; rfl
      have e2 := and_one_nat (x := y) (by omega)
      have hdb : d ≤ 7 := by omega
      obtain ⟨z, hz⟩ : ∃ z : Int, z = ((y % 2 : Nat) : Int) := ⟨_, rfl⟩
      rw [← hz] at e2
      have hzz : z = cat N f (bfn x c) (N + k) := by
        unfold cat bfn
        rw [if_neg (by omega), hz, hy, hd, show N + k - N = k by omega]
      have HZ : Hid (z = cat N f (bfn x c) (N + k)) := hzz
      have HR : Hid (W.heap.size ≤ wr.heap.size ∧ ∀ b, b < W.heap.size → v0 ≠ some b → wr.heap[b]? = W.heap[b]? ∧ u0.ownBlock ≠ some b) := hrel.out.2.2
      have HO1 := hrel.out.1
      have HB1 := hrel.out.2.1
      clear hd hy hz hzz hrel
      have hb3 := below_one wr (.cells #[.int .i64 z] 3)
      have HO3 := own_below HO1 hb3
      have HB3 := bstep HB1 hb3
      have HH : Hid (Below wr.heap.size wr (wr.alloc (.cells #[.int .i64 z] 3))) := hb3
      clear hb3 HO1 HB1
      go_wp2_with (first | (at_builtin; refine wpList_app _ rfl _ _ 24 rfl w.heap.size 3 i0 (.int .i64 0) 1 8 Try.underlying24 hi hz0 hz1 hz2 rfl (by decide) _ _ _ rfl HO3 ⟨wr.heap.size, 0, none⟩ 1 1 [.int .i64 z] rfl rfl (one_new _ _ _) (by simp [Value.oneCell']) (by unfold maxLen; omega) (by omega) HB3.size (by omega) ?_))
      intro v' w4 hown' hgrow hwh
      have HB4 : Hid (Below w.heap.size w w4) := grown_below HB3 (Nat.le_refl _) HO3 hgrow
      rw [show Value.int .i64 z = .int .i64 (cat N f (bfn x c) (N + k)) from congrArg _ HZ.out, ← ils_snoc (cat N f (bfn x c)) (N + k)] at hown'
      have HO4 : Hid (w4.ownsRow w.heap.size 3 1 v' (N + (k + 1)) (ils (cat N f (bfn x c)) (N + (k + 1)))) := hown'
      have HR4 : Hid (W.heap.size ≤ w4.heap.size ∧ ∀ b, b < W.heap.size → v0 ≠ some b → w4.heap[b]? = W.heap[b]? ∧ v'.ownBlock ≠ some b) := by
        have hs : wr.heap.size ≤ w4.heap.size := Nat.le_trans HH.out.size hgrow.size
        refine ⟨Nat.le_trans HR.out.1 hs, fun b hb hv => ?_⟩
        have h7 := HR.out.2 b hb hv
        have h8 : b < wr.heap.size := Nat.lt_of_lt_of_le hb HR.out.1
        refine ⟨(hgrow.block b (Nat.lt_of_lt_of_le h8 HH.out.size) (fun e => h7.2 e.symm)).trans ((HH.out.block b h8).trans h7.1), ?_⟩
        rcases hwh with h9 | h9
        · rw [h9]; exact h7.2
        · rw [h9.1]; intro h10; injection h10 with h10; omega
      clear hown' hgrow HB3 HO3 hwh HR HH
      go_wp2
      go_roundw
      case rel => exact ⟨k + 1, by go_num, by omega, HO4.out, HB4.out, HR4.out⟩
      case measure => simp [intOf]; omega
    · obtain rfl : c = k := by omega
      go_wp2
      go_ret
      exact ⟨_, rfl, hrel.out⟩
end Go.Proofs.Ytpoiejmpdlmegaa
