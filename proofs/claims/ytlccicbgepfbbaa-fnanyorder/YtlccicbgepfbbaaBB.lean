/- Divisors; a balance in memory. -/
import Derived.Test.YtlccicbgepfbbaaWK
import Derived.Test.YtlccicbgepfbbaaBA
import Derived.Deep.QuietTactic
namespace Go.Proofs.Ytlccicbgepfbbaa
open Go.RowKit

/-- A struct of two in a block of its own. -/
structure Rg (W : World) (g : Nat) (x y : Value) : Prop where
  c0 : W.cell? ⟨g, 0, none⟩ = some x
  c1 : W.cell? ⟨g, 1, none⟩ = some y
  z0 : W.frozen? ⟨g, 0, none⟩ = false
  z1 : W.frozen? ⟨g, 1, none⟩ = false

theorem Rg.lt {W : World} {g : Nat} {x y : Value} (h : Rg W g x y) : g < W.heap.size := World.block_lt_of_cell? W _ h.c0

theorem Rg.new (w : World) (x y : Value) (t : TypeId) : Rg (w.alloc (.cells #[x, y] t)) w.heap.size x y := ⟨by simp, by simp, by simp, by simp⟩

theorem Rg.block {W W' : World} {g : Nat} {x y : Value} (h : Rg W g x y) (e : W'.heap[g]? = W.heap[g]?) : Rg W' g x y :=
  ⟨(World.cell?_of_block (w := W) e).trans h.c0, (World.cell?_of_block (w := W) e).trans h.c1, (World.frozen?_of_block (w := W) e).trans h.z0, (World.frozen?_of_block (w := W) e).trans h.z1⟩

theorem Rg.put0 {W : World} {g : Nat} {x y : Value} (h : Rg W g x y) (x' : Value) : Rg (W.setCell ⟨g, 0, none⟩ x') g x' y := by
  obtain ⟨c0, c1, z0, z1⟩ := h
  exact ⟨by simp [go_sem, c0], by simp [go_sem, c1], by simp [go_sem, z0], by simp [go_sem, z1]⟩

theorem Rg.put1 {W : World} {g : Nat} {x y : Value} (h : Rg W g x y) (y' : Value) : Rg (W.setCell ⟨g, 1, none⟩ y') g x y' := by
  obtain ⟨c0, c1, z0, z1⟩ := h
  exact ⟨by simp [go_sem, c0], by simp [go_sem, c1], by simp [go_sem, z0], by simp [go_sem, z1]⟩


theorem tmod_nat (x y : Nat) : Int.tmod (x : Int) (y : Int) = ((x % y : Nat) : Int) := by
  rw [Int.tmod_eq_emod_of_nonneg (by omega)]
  exact (Int.natCast_emod x y).symm

theorem gcd_step (x y : Nat) : Nat.gcd y (x % y) = Nat.gcd x y := by rw [Nat.gcd_comm y, ← Nat.gcd_rec, Nat.gcd_comm]

set_option maxHeartbeats 2000000 in
theorem iGcd_any (a b : Nat) (ha : a ≤ 1000000000000) (hb : b ≤ 1000000000000) (w : World) : Calls Try.prog 67 #[.int .i64 (a : Int), .int .i64 (b : Int)] w fun e w' => e = .returned (.int .i64 (Nat.gcd a b : Nat)) ∧ Below w.heap.size w w' := by
  obtain ⟨d, hd⟩ : ∃ d, d = Nat.gcd a b := ⟨_, rfl⟩
  rw [← hd]
  have HD : Hid (d = Nat.gcd a b) := hd
  have HA : Hid (a ≤ 1000000000000 ∧ b ≤ 1000000000000) := ⟨ha, hb⟩
  clear hd ha hb
  go_enter Try.func67, Try.ntmps67
  go_wp2
  go_loopw [0, 1] (fun u v wr => ∃ x y : Nat, u = .int .i64 x ∧ v = .int .i64 y ∧ Hid (Nat.gcd x y = d ∧ x ≤ 1000000000000 ∧ y ≤ 1000000000000) ∧ Hid (Below w.heap.size w wr)) (fun _ v _ => (intOf v).toNat)
  case atStart => exact ⟨a, b, rfl, rfl, ⟨HD.out.symm, HA.out⟩, Below.refl _ _⟩
  case round =>
    obtain ⟨x, y, rfl, rfl, hg, hbl⟩ := hrel
    by_cases h1 : 0 < y
    · obtain ⟨r, hr⟩ : ∃ r, r = x % y := ⟨_, rfl⟩
      have hlt : r < y := by rw [hr]; exact Nat.mod_lt _ h1
      have hm : Int.tmod (x : Int) (y : Int) = (r : Int) := by rw [hr]; exact tmod_nat x y
      have HG : Hid (Nat.gcd y r = d ∧ y ≤ 1000000000000 ∧ r ≤ 1000000000000) := ⟨by rw [hr, gcd_step]; exact hg.out.1, hg.out.2.2, by have := hg.out.2.2; omega⟩
      have hy0 : ¬ (y : Int) = 0 := by omega
      have hx2 : (x : Int) ≤ 1000000000000 := by have := hg.out.2.1; omega
      have hy2 : (y : Int) ≤ 1000000000000 := by have := hg.out.2.2; omega
      clear hr
      go_wp2
      go_quiet (fail)
      go_wp2
      go_roundw
      case rel => exact ⟨y, r, rfl, rfl, HG.out, hbl.out.trans ((below_dn _ _).mono hbl.out.size)⟩
      case measure => simp [intOf]; omega
    · obtain rfl : y = 0 := by omega
      have HX : Hid (x = d) := by have := hg.out.1; rw [Nat.gcd_zero_right] at this; exact this
      clear hg
      go_wp2
      go_ret
      rw [HX.out]
      exact ⟨rfl, hbl.out⟩

set_option maxHeartbeats 2000000 in
theorem sGcd_any (a b : Nat) (ha : a ≤ 1000000000000) (hb : b ≤ 1000000000000) (w : World) : Calls Try.prog 74 #[.int .i64 (a : Int), .int .i64 (b : Int)] w fun e w' => e = .returned (.int .i64 (Nat.gcd a b : Nat)) ∧ w' = w := by
  obtain ⟨d, hd⟩ : ∃ d, d = Nat.gcd a b := ⟨_, rfl⟩
  rw [← hd]
  have HD : Hid (d = Nat.gcd a b) := hd
  have HA : Hid (a ≤ 1000000000000 ∧ b ≤ 1000000000000) := ⟨ha, hb⟩
  clear hd ha hb
  go_enter Try.func74, Try.ntmps74
  go_wp2
  go_loopw [0, 1, 5] (fun u v _ wr => ∃ x y : Nat, u = .int .i64 x ∧ v = .int .i64 y ∧ Hid (Nat.gcd x y = d ∧ x ≤ 1000000000000 ∧ y ≤ 1000000000000) ∧ wr = w) (fun _ v _ _ => (intOf v).toNat)
  case atStart => exact ⟨a, b, rfl, rfl, ⟨HD.out.symm, HA.out⟩, rfl⟩
  case round =>
    obtain ⟨x, y, rfl, rfl, hg, rfl⟩ := hrel
    by_cases h1 : 0 < y
    · obtain ⟨r, hr⟩ : ∃ r, r = x % y := ⟨_, rfl⟩
      have hlt : r < y := by rw [hr]; exact Nat.mod_lt _ h1
      have hm : Int.tmod (x : Int) (y : Int) = (r : Int) := by rw [hr]; exact tmod_nat x y
      have HG : Hid (Nat.gcd y r = d ∧ y ≤ 1000000000000 ∧ r ≤ 1000000000000) := ⟨by rw [hr, gcd_step]; exact hg.out.1, hg.out.2.2, by have := hg.out.2.2; omega⟩
      have hy0 : ¬ (y : Int) = 0 := by omega
      have hx2 : (x : Int) ≤ 1000000000000 := by have := hg.out.2.1; omega
      have hy2 : (y : Int) ≤ 1000000000000 := by have := hg.out.2.2; omega
      clear hr
      go_wp2
      go_roundw
      case rel => exact ⟨y, r, rfl, rfl, HG.out, trivial⟩
      case measure => simp [intOf]; omega
    · obtain rfl : y = 0 := by omega
      have HX : Hid (x = d) := by have := hg.out.1; rw [Nat.gcd_zero_right] at this; exact this
      clear hg
      go_wp2
      go_ret
      rw [HX.out]
      exact ⟨rfl, rfl⟩

/-- A balance in memory. -/
structure Blc (w : World) (B G P Q n cf cg : Nat) (f g : Nat → Int) : Prop where
  rg : Rg w G (.slice (some ⟨P, 0, none⟩) n cf) (.slice (some ⟨Q, 0, none⟩) n cg)
  of : w.ownsRow B 3 1 (.slice (some ⟨P, 0, none⟩) n cf) n (ils f n)
  og : w.ownsRow B 3 1 (.slice (some ⟨Q, 0, none⟩) n cg) n (ils g n)
  ne : P ≠ Q
  lt : G < B

theorem Blc.below {w w' : World} {B G P Q n cf cg : Nat} {f g : Nat → Int} (h : Blc w B G P Q n cf cg f g) (hb : Below w.heap.size w w') : Blc w' B G P Q n cf cg f g :=
  ⟨h.rg.block (hb.block G h.rg.lt), own_below h.of hb, own_below h.og hb, h.ne, h.lt⟩

set_option maxHeartbeats 4000000 in
theorem few_any {w : World} {B G P Q n cf cg : Nat} {f g : Nat → Nat} (h : Blc w B G P Q n cf cg (fun i => (f i : Int)) (fun i => (g i : Int))) (hn : n ≤ 20) (hf : ∀ b, b < n → f b ≤ 1000000000000) :
    Calls Try.prog 69 #[.pointer (some ⟨G, 0, none⟩)] w fun e w' => e = .returned (.bool (decide (smN n f ≤ 2000))) ∧ w' = w := by
  have hc0 := h.rg.c0
  have HOF : Hid _ := h.of
  have HF : Hid (∀ b, b < n → f b ≤ 1000000000000) := hf
  have hmx : ∀ k, k ≤ n → smN k f ≤ k * 1000000000000 := by
    intro k
    induction k with
    | zero => intro _; exact Nat.zero_le _
    | succ k ih =>
      intro hk
      have h1 := ih (by omega)
      have h2 := hf k (by omega)
      show smN k f + f k ≤ _
      omega
  have HM : Hid (∀ k, k ≤ n → smN k f ≤ k * 1000000000000) := hmx
  obtain ⟨d, hd⟩ : ∃ d, d = decide (smN n f ≤ 2000) := ⟨_, rfl⟩
  rw [← hd]
  have HD : Hid (d = decide (smN n f ≤ 2000)) := hd
  clear h hf hmx hd
  go_enter Try.func69, Try.ntmps69
  go_wp2
  go_loopw [3, 5, 11] (fun sm _ i wr => ∃ k : Nat, i = .int .i64 k ∧ k ≤ n ∧ sm = .int .i64 ((smN k f : Nat) : Int) ∧ wr = w) (fun _ _ i _ => n - (intOf i).toNat)
  case atStart => exact ⟨0, rfl, by omega, rfl, rfl⟩
  case round =>
    obtain ⟨k, rfl, hk, rfl, rfl⟩ := hrel
    by_cases h1 : k < n
    · have a0 := World.ownsRow.cellAt HOF.out k (by omega)
      rw [ils_get h1] at a0
      have b1 := HM.out k (by omega)
      have b2 := HF.out k h1
      have e1 : smN (k + 1) f = smN k f + f k := rfl
      obtain ⟨x, hx⟩ : ∃ x, x = smN k f := ⟨_, rfl⟩
      obtain ⟨y, hy⟩ : ∃ y, y = f k := ⟨_, rfl⟩
      have HE : Hid (smN (k + 1) f = x + y) := by show _ = _; rw [e1, hx, hy]
      rw [← hx] at b1 ⊢
      rw [← hy] at a0 b2
      clear e1 hx hy
      have hx3 : (x : Int) ≤ 20000000000000 := by omega
      have hy3 : (y : Int) ≤ 1000000000000 := by omega
      clear b1 b2
      go_wp2
      go_roundw
      case rel => exact ⟨k + 1, by go_num, by omega, by rw [HE.out]; go_num, trivial⟩
      case measure => simp [intOf]; omega
    · obtain rfl : k = n := by omega
      obtain ⟨x, hx⟩ : ∃ x, x = smN k f := ⟨_, rfl⟩
      have HX : Hid (x = smN k f) := hx
      rw [← hx]
      clear hx
      by_cases h2 : x ≤ 2000
      · go_wp2
        go_ret
        rw [HD.out, show decide (smN k f ≤ 2000) = true from decide_eq_true (by rw [← HX.out]; exact h2)]
        exact ⟨by simp; omega, rfl⟩
      · go_wp2
        go_ret
        rw [HD.out, show decide (smN k f ≤ 2000) = false from decide_eq_false (by rw [← HX.out]; exact h2)]
        exact ⟨by simp; omega, rfl⟩
end Go.Proofs.Ytlccicbgepfbbaa
