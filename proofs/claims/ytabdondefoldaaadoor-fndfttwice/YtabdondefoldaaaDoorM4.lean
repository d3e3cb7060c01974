/- Modulo a prime: the transform of lists convolved around is the product of both. -/
import Derived.Test.YtabdondefoldaaaDoorM3
namespace Go.Proofs.YtabdondefoldaaaDoor

theorem sm_congr {f g : Nat → Int} : ∀ n, (∀ i, i < n → f i = g i) → sm f n = sm g n
  | 0, _ => rfl
  | n + 1, h => by rw [sm, sm, sm_congr n (fun i hi => h i (by omega)), h n (by omega)]

theorem sm_ind (g : Nat → Int) {q : Nat} : ∀ n, q < n → sm (fun m => if q = m then g m else 0) n = g q
  | n + 1, h => by
    rw [sm]
    by_cases e : q = n
    · subst e
      have : sm (fun m => if q = m then g m else 0) q = 0 := by
        rw [sm_congr (g := fun _ => 0) q (fun i hi => by rw [if_neg (by omega)]), sm_zero]
      rw [this, if_pos rfl, Int.zero_add]
    · rw [sm_ind g n (by omega), if_neg e, Int.add_zero]

/-- Two lists of n convolved around. -/
def arn (a b : Nat → Int) (n m : Nat) : Int := sm (fun i => sm (fun k => if (i + k) % n = m then a i * b k else 0) n) n

theorem pow_around {p W : Int} {n : Nat} (hW : Cg p (W ^ n) 1) (q t : Nat) : Cg p (W ^ (t * (q % n))) (W ^ (t * q)) := by
  have e : t * q = t * (q % n) + n * (t * (q / n)) := by
    have := Nat.div_add_mod q n
    rw [Nat.mul_left_comm n t, ← Nat.mul_add]
    congr 1
    omega
  rw [e, Int.pow_add, show W ^ (n * (t * (q / n))) = (W ^ n) ^ (t * (q / n)) from Int.pow_mul]
  have h := hW.pow (t * (q / n))
  rw [Int.one_pow] at h
  have := (Cg.refl p (W ^ (t * (q % n)))).mul h
  rw [Int.mul_one] at this
  exact this.symm

/-- The transform of what is convolved around. -/
theorem around_sum {p W : Int} {n : Nat} (hW : Cg p (W ^ n) 1) (hn : 0 < n) (a b : Nat → Int) (t : Nat) :
    Cg p (sm (fun m => arn a b n m * W ^ (t * m)) n) (sm (fun i => a i * W ^ (t * i)) n * sm (fun k => b k * W ^ (t * k)) n) := by
  have e1 : sm (fun m => arn a b n m * W ^ (t * m)) n = sm (fun i => sm (fun k => a i * b k * W ^ (t * ((i + k) % n))) n) n := by
    have h1 : ∀ m, arn a b n m * W ^ (t * m) = sm (fun i => sm (fun k => if (i + k) % n = m then a i * b k * W ^ (t * m) else 0) n) n := by
      intro m
      unfold arn
      rw [Int.mul_comm, ← sm_mul]
      refine sm_congr n (fun i _ => ?_)
      rw [← sm_mul]
      refine sm_congr n (fun k _ => ?_)
      split
      · rw [Int.mul_comm]
      · rw [Int.mul_zero]
    rw [sm_congr n (fun m _ => h1 m), sm_swap]
    refine sm_congr n (fun i _ => ?_)
    rw [sm_swap]
    refine sm_congr n (fun k _ => ?_)
    exact sm_ind (fun m => a i * b k * W ^ (t * m)) n (Nat.mod_lt _ hn)
  rw [e1]
  have e2 : sm (fun i => a i * W ^ (t * i)) n * sm (fun k => b k * W ^ (t * k)) n = sm (fun i => sm (fun k => a i * b k * W ^ (t * (i + k))) n) n := by
    rw [Int.mul_comm, ← sm_mul]
    refine sm_congr n (fun i _ => ?_)
    rw [Int.mul_comm, ← sm_mul]
    refine sm_congr n (fun k _ => ?_)
    rw [Nat.mul_add, Int.pow_add]
    grind
  rw [e2]
  refine sm_cg n (fun i _ => sm_cg n (fun k _ => ?_))
  exact (Cg.refl p (a i * b k)).mul (pow_around hW (i + k) t)
end Go.Proofs.YtabdondefoldaaaDoor
