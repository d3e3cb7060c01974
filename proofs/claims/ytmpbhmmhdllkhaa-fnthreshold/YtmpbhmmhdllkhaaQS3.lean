/- The model's whole numbers: sums, differences, and what is shifted down. -/
import Derived.Test.YtmpbhmmhdllkhaaQS2
namespace Go.Proofs.Ytmpbhmmhdllkhaa.Q
open Go.RowKit

theorem Try.info48 : (Try.prog.info? 48).map (fun i => (i.zero, i.size, i.bytes)) = some (some (.int .u32 0), 1, 4) := by kernel_rfl

theorem hol_empty (w : World) : Hol w.heap.size (w.alloc (.cells #[] 48)) (.slice (some ⟨w.heap.size, 0, none⟩) 0 0) 0 0 :=
  ⟨by decide, rfl, Or.inr ⟨w.heap.size, 0, #[], rfl, Nat.le_refl _, heap_alloc_new w _, Nat.le_refl _, by decide, rfl, rfl⟩⟩

theorem app_step {B : Nat} {w wr w1 : World} {v v' : Value} {i S : Nat} {x : Int} {o : Obj} (hH : Hol B wr v i S) (x' : Nat) (hx : x = (x' : Int)) (hx1 : x' < 4294967296) (hbl : Below B w wr) (hB : B ≤ wr.heap.size)
    (hown : w1.ownsRow B 48 1 v' (i + 1) (wds i S ++ [.int .u32 x])) (hgrow : (wr.alloc o).grownBy w1 v.ownBlock) : Hol B w1 v' (i + 1) (S + x' * 4294967296 ^ i) ∧ Below B w w1 := by
  subst hx
  rw [wds_snoc hH.1 hx1] at hown
  exact ⟨⟨snoc_lt hH.1 hx1, hown⟩, (hbl.alloc hB o).grown hgrow (by simp; omega) fun k hk => (hH.2.lt k hk).1⟩

theorem mod_succ (A k : Nat) : A % 4294967296 ^ (k + 1) = A % 4294967296 ^ k + wd A k * 4294967296 ^ k := by
  unfold wd
  rw [Nat.pow_succ, Nat.mod_mul, Nat.mul_comm (4294967296 ^ k)]

theorem wd_past {A n k : Nat} (h : A < 4294967296 ^ n) (hk : n ≤ k) : wd A k = 0 := by
  unfold wd
  rw [Nat.div_eq_of_lt (Nat.lt_of_lt_of_le h (Nat.pow_le_pow_right (by decide) hk))]

theorem mod_past {A n k : Nat} (h : A < 4294967296 ^ n) (hk : n ≤ k) : A % 4294967296 ^ k = A :=
  Nat.mod_eq_of_lt (Nat.lt_of_lt_of_le h (Nat.pow_le_pow_right (by decide) hk))

theorem add_step {A B S C k x : Nat} (h : A % 4294967296 ^ k + B % 4294967296 ^ k = S + C * 4294967296 ^ k) (hx : x = C + wd A k + wd B k) :
    A % 4294967296 ^ (k + 1) + B % 4294967296 ^ (k + 1) = (S + x % 4294967296 * 4294967296 ^ k) + x / 4294967296 * 4294967296 ^ (k + 1) := by
  rw [mod_succ, mod_succ, pow_succ']
  generalize 4294967296 ^ k = P at *
  have e : x % 4294967296 * P + x / 4294967296 * (P * 4294967296) = x * P := by
    rw [show x / 4294967296 * (P * 4294967296) = (4294967296 * (x / 4294967296)) * P by ac_rfl, ← Nat.add_mul, Nat.mod_add_div]
  have e2 : x * P = C * P + wd A k * P + wd B k * P := by rw [hx, Nat.add_mul, Nat.add_mul]
  omega

theorem one_new (w : World) (x : Int) (j : Nat) (u : Value) (hj : [Value.int .u32 x][j]? = some u) : (w.alloc (.cells #[.int .u32 x] 48)).cell? ((⟨w.heap.size, 0, none⟩ : Addr).add j) = some u := by
  match j, hj with
  | 0, hj =>
    simp at hj
    subst hj
    simp [Addr.add]

theorem one_cell (x : Int) (u : Value) (hu : u ∈ [Value.int .u32 x]) : u.oneCell' = true := by
  simp at hu
  subst hu
  rfl

/-- What the loop of l1Add holds on to. -/
def AddRel (A B b : Nat) (w wr : World) (v : Value) (k C : Nat) : Prop := ∃ S, A % 4294967296 ^ k + B % 4294967296 ^ k = S + C * 4294967296 ^ k ∧ Hol b wr v k S ∧ Below b w wr

theorem addRel_next {A B b : Nat} {w wr w1 : World} {v v' : Value} {k C : Nat} {x : Int} {o : Obj} {S : Nat} (he : A % 4294967296 ^ k + B % 4294967296 ^ k = S + C * 4294967296 ^ k) (hH : Hol b wr v k S) (hbl : Below b w wr) (hB : b ≤ wr.heap.size)
    (X : Nat) (hX : X = C + wd A k + wd B k) (hx : x = ((X % 4294967296 : Nat) : Int)) (hown : w1.ownsRow b 48 1 v' (k + 1) (wds k S ++ [.int .u32 x])) (hgrow : (wr.alloc o).grownBy w1 v.ownBlock) :
    AddRel A B b w w1 v' (k + 1) (X / 4294967296) := by
  obtain ⟨h1, h2⟩ := app_step hH (X % 4294967296) hx (Nat.mod_lt _ (by decide)) hbl hB hown hgrow
  exact ⟨_, add_step he hX, h1, h2⟩

theorem cells_of {w wr : World} {ao : Option Addr} {n N b k : Nat} (HC : ∀ k, k < n → ∃ g, ao = some ⟨g, 0, none⟩ ∧ 0 ≤ g ∧ g < w.heap.size ∧ w.cell? ⟨g, k, none⟩ = some (.int .u32 ((wd N k : Nat) : Int))) (hbl : Below b w wr) (hb : w.heap.size ≤ b) (hk : k < n) :
    ∃ g, ao = some ⟨g, 0, none⟩ ∧ wr.cell? ⟨g, k, none⟩ = some (.int .u32 ((wd N k : Nat) : Int)) := by
  obtain ⟨g, e, _, hg, hc⟩ := HC k hk
  exact ⟨g, e, (hbl.cell (show g < b by omega)).trans hc⟩

end Go.Proofs.Ytmpbhmmhdllkhaa.Q
