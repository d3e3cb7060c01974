/- A word divided, in plain numbers. -/
import Derived.Test.YtpjpkkgcnnmljaaRD
import Derived.Test.YtpjpkkgcnnmljaaGM
namespace Go.Proofs.Ytpjpkkgcnnmljaa
open Go.RowKit

theorem hz_add {f g : Nat → Nat} (hf : ∀ k, f k < 256) (hg : ∀ k, g k < 256) {x : Nat} (hx : x < 256) : ∀ n, hz (fun k => f k ^^^ g k) x n = hz f x n ^^^ hz g x n
  | 0 => by show (0 : Nat) = 0 ^^^ 0; rfl
  | n + 1 => by
    show gm (hz (fun k => f k ^^^ g k) x n) x ^^^ (f n ^^^ g n) = (gm (hz f x n) x ^^^ f n) ^^^ (gm (hz g x n) x ^^^ g n)
    rw [hz_add hf hg hx n, gm_add_l x (hz_lt hf x n) (hz_lt hg x n), xor_swap]
theorem hz_mul {f : Nat → Nat} (hf : ∀ k, f k < 256) {a x : Nat} (ha : a < 256) (hx : x < 256) : ∀ n, hz (fun k => gm a (f k)) x n = gm a (hz f x n)
  | 0 => (gm_zero_r ha).symm
  | n + 1 => by
    show gm (hz (fun k => gm a (f k)) x n) x ^^^ gm a (f n) = gm a (gm (hz f x n) x ^^^ f n)
    rw [hz_mul hf ha hx n, gm_add_r ha (gm_lt (hz_lt hf x n) x) (hf n), gm_assoc ha (hz_lt hf x n) hx]
theorem hz_zero {x : Nat} : ∀ n, hz (fun _ => 0) x n = 0
  | 0 => rfl
  | n + 1 => by
    show gm (hz (fun _ => 0) x n) x ^^^ 0 = 0
    rw [hz_zero n, gm_zero_l]
    rfl
/-- The first number of a word, and the others. -/
theorem hz_head {f : Nat → Nat} (hf : ∀ k, f k < 256) {x : Nat} (hx : x < 256) : ∀ k, hz f x (k + 1) = gm (f 0) (gpow x k) ^^^ hz (fun i => f (i + 1)) x k
  | 0 => by
    show gm 0 x ^^^ f 0 = gm (f 0) 1 ^^^ 0
    rw [gm_zero_l, gm_one_r (hf 0), Nat.zero_xor, Nat.xor_zero]
  | k + 1 => by
    show gm (hz f x (k + 1)) x ^^^ f (k + 1) = gm (f 0) (gm (gpow x k) x) ^^^ (gm (hz (fun i => f (i + 1)) x k) x ^^^ f (k + 1))
    rw [hz_head hf hx k, gm_add_l x (gm_lt (hf 0) _) (hz_lt (fun i => hf (i + 1)) x k), gm_assoc (hf 0) (gpow_lt k) hx, Nat.xor_assoc]
/-- A word behind another. -/
theorem hz_cat {f : Nat → Nat} (hf : ∀ k, f k < 256) {x : Nat} (hx : x < 256) (n : Nat) : ∀ k, hz f x (n + k) = gm (hz f x n) (gpow x k) ^^^ hz (fun i => f (n + i)) x k
  | 0 => by
    show hz f x n = gm (hz f x n) 1 ^^^ 0
    rw [gm_one_r (hz_lt hf x n), Nat.xor_zero]
  | k + 1 => by
    show gm (hz f x (n + k)) x ^^^ f (n + k) = gm (hz f x n) (gm (gpow x k) x) ^^^ (gm (hz (fun i => f (n + i)) x k) x ^^^ f (n + k))
    rw [hz_cat hf hx n k, gm_add_l x (gm_lt (hz_lt hf x n) _) (hz_lt (fun i => hf (n + i)) x k), gm_assoc (hz_lt hf x n) (gpow_lt k) hx, Nat.xor_assoc]

/-- The numbers of the product of x less each of the first j powers, that of the highest power first. -/
def gen : Nat → Nat → Nat
  | 0 => fun i => if i = 0 then 1 else 0
  | j + 1 => fun i => (if i ≤ j then gen j i else 0) ^^^ (if i = 0 then 0 else gm (gen j (i - 1)) (gpw j))
theorem gen_lt : ∀ j i, gen j i < 256
  | 0, i => by show (if i = 0 then 1 else 0) < 256; split <;> omega
  | j + 1, i => by
    show (if i ≤ j then gen j i else 0) ^^^ (if i = 0 then 0 else gm (gen j (i - 1)) (gpw j)) < 256
    refine xor_lt8 ?_ ?_
    · split
      · exact gen_lt j i
      · omega
    · split
      · omega
      · exact gm_lt (gen_lt j _) _
theorem gen_zero : ∀ j, gen j 0 = 1
  | 0 => rfl
  | j + 1 => by
    show (if 0 ≤ j then gen j 0 else 0) ^^^ 0 = 1
    rw [if_pos (by omega), gen_zero j]
    rfl
theorem gen_far : ∀ j i, j < i → gen j i = 0
  | 0, i, h => by show (if i = 0 then 1 else 0) = 0; rw [if_neg (by omega)]
  | j + 1, i, h => by
    show (if i ≤ j then gen j i else 0) ^^^ (if i = 0 then 0 else gm (gen j (i - 1)) (gpw j)) = 0
    rw [if_neg (by omega), if_neg (by omega), gen_far j (i - 1) (by omega), gm_zero_l]
    rfl

theorem hz_congr2 {g g' : Nat → Nat} {x : Nat} : ∀ n, (∀ k, k < n → g k = g' k) → hz g x n = hz g' x n
  | 0, _ => rfl
  | n + 1, h => by
    unfold hz
    rw [hz_congr2 n (fun k hk => h k (by omega)), h n (by omega)]

/-- At x it is the product. -/
theorem gen_step (j : Nat) {x : Nat} (hx : x < 256) : hz (gen (j + 1)) x (j + 2) = gm (hz (gen j) x (j + 1)) (x ^^^ gpw j) := by
  have ha : ∀ k, (fun i => if i ≤ j then gen j i else 0) k < 256 := fun k => by show (if k ≤ j then gen j k else 0) < 256; split; exact gen_lt j k; omega
  have hb : ∀ k, (fun i => if i = 0 then 0 else gm (gen j (i - 1)) (gpw j)) k < 256 := fun k => by show (if k = 0 then 0 else gm (gen j (k - 1)) (gpw j)) < 256; split; omega; exact gm_lt (gen_lt j _) _
  have e : hz (gen (j + 1)) x (j + 2) = hz (fun i => if i ≤ j then gen j i else 0) x (j + 2) ^^^ hz (fun i => if i = 0 then 0 else gm (gen j (i - 1)) (gpw j)) x (j + 2) := hz_add ha hb hx (j + 2)
  have e1 : hz (fun i => if i ≤ j then gen j i else 0) x (j + 2) = gm (hz (gen j) x (j + 1)) x := by
    show gm (hz (fun i => if i ≤ j then gen j i else 0) x (j + 1)) x ^^^ (if j + 1 ≤ j then gen j (j + 1) else 0) = _
    rw [if_neg (by omega), Nat.xor_zero, hz_congr2 (j + 1) (fun k hk => if_pos (by omega))]
  have e2 : hz (fun i => if i = 0 then 0 else gm (gen j (i - 1)) (gpw j)) x (j + 2) = gm (hz (gen j) x (j + 1)) (gpw j) := by
    rw [hz_head hb hx (j + 1)]
    show gm 0 (gpow x (j + 1)) ^^^ hz (fun i => gm (gen j i) (gpw j)) x (j + 1) = _
    rw [gm_zero_l, Nat.zero_xor, hz_congr2 (g' := fun i => gm (gpw j) (gen j i)) (j + 1) (fun k _ => gm_comm (gen_lt j k) (gpw_lt j)), hz_mul (gen_lt j) (gpw_lt j) hx, gm_comm (gpw_lt j) (hz_lt (gen_lt j) x _)]
  rw [e, e1, e2, ← gm_add_r (hz_lt (gen_lt j) x _) hx (gpw_lt j)]

theorem gen_root : ∀ L j, j < L → hz (gen L) (gpw j) (L + 1) = 0
  | 0, j, h => absurd h (by omega)
  | L + 1, j, h => by
    rw [gen_step L (gpw_lt j)]
    by_cases e : j = L
    · rw [e, Nat.xor_self, gm_zero_r (hz_lt (gen_lt L) _ _)]
    · rw [gen_root L j (by omega), gm_zero_l]

/-- The rest behind i numbers of the data. -/
def rst (L : Nat) (d : Nat → Nat) : Nat → Nat → Nat
  | 0 => fun _ => 0
  | i + 1 => fun k => (if k + 1 < L then rst L d i (k + 1) else 0) ^^^ gm (rst L d i 0 ^^^ d i) (gen L (k + 1))
theorem rst_lt {L : Nat} {d : Nat → Nat} (hd : ∀ k, d k < 256) : ∀ i k, rst L d i k < 256
  | 0, _ => by show (0 : Nat) < 256; omega
  | i + 1, k => by
    show (if k + 1 < L then rst L d i (k + 1) else 0) ^^^ gm (rst L d i 0 ^^^ d i) (gen L (k + 1)) < 256
    refine xor_lt8 ?_ (gm_lt (xor_lt8 (rst_lt hd i 0) (hd i)) _)
    split
    · exact rst_lt hd i _
    · omega

theorem xor_aab (a b : Nat) : a ^^^ (a ^^^ b) = b := by rw [← Nat.xor_assoc, Nat.xor_self, Nat.zero_xor]

theorem rst_val {L : Nat} (hL : 1 ≤ L) {d : Nat → Nat} (hd : ∀ k, d k < 256) {x : Nat} (hx : x < 256) (hr : hz (gen L) x (L + 1) = 0) : ∀ i, hz (rst L d i) x L = gm (hz d x i) (gpow x L)
  | 0 => by
    show hz (fun _ => 0) x L = gm 0 _
    rw [hz_zero, gm_zero_l]
  | i + 1 => by
    obtain ⟨k, rfl⟩ : ∃ k, L = k + 1 := ⟨L - 1, by omega⟩
    have hR := rst_lt (L := k + 1) hd i
    have hf : rst (k + 1) d i 0 ^^^ d i < 256 := xor_lt8 (hR 0) (hd i)
    have ha : ∀ j, (fun j => if j + 1 < k + 1 then rst (k + 1) d i (j + 1) else 0) j < 256 := fun j => by show (if j + 1 < k + 1 then rst (k + 1) d i (j + 1) else 0) < 256; split; exact hR _; omega
    have e : hz (rst (k + 1) d (i + 1)) x (k + 1) = hz (fun j => if j + 1 < k + 1 then rst (k + 1) d i (j + 1) else 0) x (k + 1) ^^^ hz (fun j => gm (rst (k + 1) d i 0 ^^^ d i) (gen (k + 1) (j + 1))) x (k + 1) := hz_add ha (fun j => gm_lt hf _) hx (k + 1)
    have e1 : hz (fun j => if j + 1 < k + 1 then rst (k + 1) d i (j + 1) else 0) x (k + 1) = gm (hz (fun j => rst (k + 1) d i (j + 1)) x k) x := by
      show gm (hz (fun j => if j + 1 < k + 1 then rst (k + 1) d i (j + 1) else 0) x k) x ^^^ (if k + 1 < k + 1 then rst (k + 1) d i (k + 1) else 0) = _
      rw [if_neg (by omega), Nat.xor_zero, hz_congr2 k (fun j hj => if_pos (by omega))]
    have e2 : hz (fun j => gen (k + 1) (j + 1)) x (k + 1) = gpow x (k + 1) := by
      rw [hz_head (gen_lt _) hx, gen_zero, gm_one_l (gpow_lt _)] at hr
      have := congrArg (fun z => gpow x (k + 1) ^^^ z) hr
      simp only [xor_aab, Nat.xor_zero] at this
      exact this
    have ih := rst_val hL hd hx hr i
    rw [hz_head hR hx k] at ih
    rw [e, e1, hz_mul (fun j => gen_lt _ _) hf hx, e2]
    show _ = gm (gm (hz d x i) x ^^^ d i) (gpow x (k + 1))
    have hp := gpow_lt (x := x) (k + 1)
    have hs := hz_lt (fun j => hR (j + 1)) x k
    have hh := hz_lt hd x i
    rw [gm_add_l _ (hR 0) (hd i), gm_add_l _ (gm_lt hh x) (hd i), ← Nat.xor_assoc]
    congr 1
    have e3 : gm (gm (hz d x i) x) (gpow x (k + 1)) = gm (gm (hz d x i) (gpow x (k + 1))) x := by
      rw [gm_assoc hh hx hp, gm_comm hx hp, ← gm_assoc hh hp hx]
    rw [e3, ← ih, gm_add_l x (gm_lt (hR 0) _) hs, gm_assoc (hR 0) (gpow_lt k) hx, Nat.xor_comm]
    rfl

/-- Data and rest are a clean word. -/
def cwd (L nd : Nat) (d : Nat → Nat) (k : Nat) : Nat := if k < nd then d k else rst L d nd (k - nd)
theorem cwd_lt {L nd : Nat} {d : Nat → Nat} (hd : ∀ k, d k < 256) (k : Nat) : cwd L nd d k < 256 := by
  unfold cwd
  split
  · exact hd k
  · exact rst_lt hd _ _
theorem cwd_clean {L nd : Nat} (hL : 1 ≤ L) {d : Nat → Nat} (hd : ∀ k, d k < 256) {j : Nat} (hj : j < L) : syn (nd + L) (cwd L nd d) j = 0 := by
  unfold syn
  rw [hz_cat (cwd_lt hd) (gpw_lt j) nd L, hz_congr2 (g := cwd L nd d) (g' := d) nd (fun k hk => if_pos hk), hz_congr2 (g := fun i => cwd L nd d (nd + i)) (g' := rst L d nd) L (fun k _ => by unfold cwd; rw [if_neg (by omega), Nat.add_sub_cancel_left]), rst_val hL hd (gpw_lt j) (gen_root L j hj) nd, Nat.xor_self]
end Go.Proofs.Ytpjpkkgcnnmljaa
