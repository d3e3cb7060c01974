/- The model's Fourier. -/
import Derived.Test.YtlcnciibjhcbiaaDoorOK
namespace Go.Proofs.YtlcnciibjhcbiaaDoor
open Go.RowKit

theorem turn_of {n : Nat} (q k : Nat) (bk : Bool) : sgn bk * (q : Int) * (k : Int) * (256 / (n : Int)) = ((q * k : Nat) : Int) * strd n bk := by
  unfold sgn strd
  push_cast
  generalize (256 : Int) / (n : Int) = d
  cases bk
  · simp only [Bool.false_eq_true, if_false]
    rw [Int.neg_mul, Int.neg_mul, Int.neg_mul, Int.one_mul, Int.mul_neg]
  · simp only [if_true]
    rw [Int.one_mul]

theorem tdiv_256 {n : Nat} : (256 : Int).tdiv (n : Int) = 256 / (n : Int) := Int.tdiv_eq_ediv_of_nonneg (by decide)

theorem sgn_mul (bk : Bool) (q : Nat) (hq : q ≤ 128) : -128 ≤ sgn bk * (q : Int) ∧ sgn bk * (q : Int) ≤ 128 := by
  unfold sgn
  cases bk
  · simp only [Bool.false_eq_true, if_false]
    omega
  · simp only [if_true]
    omega

theorem mul_in {a b A B : Int} (h1 : -A ≤ a) (h2 : a ≤ A) (h3 : 0 ≤ b) (h4 : b ≤ B) (hA : 0 ≤ A) : -(A * B) ≤ a * b ∧ a * b ≤ A * B := by
  have e : (a * b).natAbs ≤ A.natAbs * B.natAbs := by
    rw [Int.natAbs_mul]
    exact Nat.mul_le_mul (by omega) (by omega)
  have e2 : A * B = ((A.natAbs * B.natAbs : Nat) : Int) := by
    rw [Int.natCast_mul, Int.natAbs_of_nonneg hA, Int.natAbs_of_nonneg (by omega)]
  omega

theorem sFour_bad {w : World} {v : Value} {n : Nat} {xs ys : Nat → Nat} (hv : Fp w v n xs ys) (_ : n ≤ 1048576) (h8 : ¬ H8 (n : Int)) (bk : Bool) (C : Nat → Option Nat × Option Nat) : Calls Tryd.prog 7 #[v, .bool bk] w fun e w' => Pf w w' e 0 C false := by
  have i1 := sH8_any n
  rw [decide_eq_false h8] at i1
  have ho := own_empty w 40 2
  have HO : Hid ((w.alloc (.cells #[] 40)).ownsRow w.heap.size 40 2 (.slice (some ⟨w.heap.size, 0, none⟩) 0 0) 0 []) := ho
  have HB : Hid (Below w.heap.size w (w.alloc (.cells #[] 40))) := below_one _ _
  have hnot : ∀ (x : Bool) (w : World), (Op.unary .not (.bool x)).run Tryd.prog w = .ok (.bool (!x)) w := fun _ _ => rfl
  obtain ⟨ao, cap, rfl, hcap, hc⟩ := hv
  clear hc ho h8
  go_enter Tryd.func7, Tryd.ntmps7
  go_wp2_with (go_at_call 20; refine (i1 _).mono ?_; rintro e w' ⟨rfl, hw⟩; obtain rfl := hw.symm)
  go_ret2
  exact ⟨_, fun _ => 0, fun _ => 0, [], rfl, ⟨_, _, rfl, Nat.le_refl _, fun h => absurd h (by omega)⟩, fun k hk => by omega, HO.out, HB.out⟩

theorem iFour_bad {w : World} {v : Value} {n : Nat} {xs ys : Nat → Nat} (hv : Fp w v n xs ys) (_ : n ≤ 1048576) (h8 : ¬ H8 (n : Int)) (bk : Bool) (C : Nat → Option Nat × Option Nat) : Calls Tryd.prog 9 #[v, .bool bk] w fun e w' => Pf w w' e 0 C false := by
  have i1 := iH8_any n
  rw [decide_eq_false h8] at i1
  have hbx := below_one w (.cells #[.int .i64 n] 3)
  have ho := own_base (own_empty (w.alloc (.cells #[.int .i64 n] 3)) 40 2) hbx.size
  have hb := bstep hbx (below_one _ (.cells #[] 40))
  have hz : (w.alloc (.cells #[.int .i64 n] 3)).heap.size = w.heap.size + 1 := by simp
  rw [hz] at ho
  have HO : Hid (((w.alloc (.cells #[.int .i64 n] 3)).alloc (.cells #[] 40)).ownsRow w.heap.size 40 2 (.slice (some ⟨w.heap.size + 1, 0, none⟩) 0 0) 0 []) := ho
  have HB : Hid (Below w.heap.size w ((w.alloc (.cells #[.int .i64 n] 3)).alloc (.cells #[] 40))) := hb
  have hnot : ∀ (x : Bool) (w : World), (Op.unary .not (.bool x)).run Tryd.prog w = .ok (.bool (!x)) w := fun _ _ => rfl
  obtain ⟨ao, cap, rfl, hcap, hc⟩ := hv
  clear hc ho h8 hz hb hbx
  go_enter Tryd.func9, Tryd.ntmps9
  go_wp2_with (go_at_call 27; refine (i1 _).mono ?_; rintro e w' ⟨rfl, hw⟩; obtain rfl := hw.symm)
  go_ret2
  exact ⟨_, fun _ => 0, fun _ => 0, [], rfl, ⟨_, _, rfl, Nat.le_refl _, fun h => absurd h (by omega)⟩, fun k hk => by omega, HO.out, HB.out⟩

/-- What the model answers, with no word on whose memory it is. -/
def Pg (w w' : World) (e : Ending) (N : Nat) (C : Nat → Option Nat × Option Nat) (ok : Bool) : Prop := ∃ u X Y, e = .returned (.tuple #[u, .bool ok]) ∧ Fp w' u N X Y ∧ (∀ k, k < N → (cn (X k), cn (Y k)) = C k) ∧ Below w.heap.size w w'

theorem Pf.pg {w w' : World} {e : Ending} {N : Nat} {C : Nat → Option Nat × Option Nat} {ok : Bool} (h : Pf w w' e N C ok) : Pg w w' e N C ok := by
  obtain ⟨u, X, Y, L, h1, h2, h3, h4, h5⟩ := h
  exact ⟨u, X, Y, h1, h2, h3, h5⟩

end Go.Proofs.YtlcnciibjhcbiaaDoor
