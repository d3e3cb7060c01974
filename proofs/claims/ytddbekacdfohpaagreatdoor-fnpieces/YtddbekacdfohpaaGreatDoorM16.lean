/- QW4 QU3. -/
import Derived.Test.YtddbekacdfohpaaGreatDoorQW2
import Derived.Test.YtddbekacdfohpaaGreatDoorM14
import Derived.Test.YtddbekacdfohpaaGreatDoorM15
namespace Go.Proofs.YtddbekacdfohpaaGreatDoor.Q
open Go.RowKit

theorem ord_eq (S x y : Int) (hx0 : 0 ≤ x) (hy0 : 0 ≤ y) : cmp3 (rk S x 1) (rk S y 1) = ord S x y := by
  unfold cmp3 rk ord
  by_cases hx : x < S <;> by_cases hy : y < S
  · rw [if_pos hx, if_pos hy]
    repeat' split
    all_goals omega
  · rw [if_pos hx, if_neg hy]
    repeat' split
    all_goals omega
  · rw [if_neg hx, if_pos hy]
    repeat' split
    all_goals omega
  · rw [if_neg hx, if_neg hy]
    repeat' split
    all_goals omega

theorem div_no {x D : Int} (h0 : 0 < D) (h1 : D ≤ x) : (x / D == 0) = false := by
  rw [beq_eq_false_iff_ne]
  intro h
  have := (Int.le_ediv_iff_mul_le h0 (a := 1) (b := x)).2 (by omega)
  omega

end Go.Proofs.YtddbekacdfohpaaGreatDoor.Q

namespace Go.Proofs.YtddbekacdfohpaaGreatDoor.Q
open Go.RowKit

/-- The size's bits: all but the sign. -/
def sz (S x : Int) : Int := if x < S then x else x - S
/-- The kind of bits whose size's bits are s, the infinity being i. -/
def kd (i s : Int) : Int := if s = 0 then 0 else if s < i then 1 else if s = i then 2 else 3

theorem sz_of {f wd p t S D h q : Int} (hF : Frm f wd p t S D h q) (x : Int) (h0 : 0 ≤ x) (h1 : x < D) :
    sz S x = (x / h % q) * h + x % h ∧ 0 ≤ x / h % q ∧ x / h % q ≤ 2 * t + 1 ∧ 0 ≤ x % h ∧ x % h < h := by
  unfold sz
  rcases hF with ⟨rfl, rfl, rfl, rfl, rfl, rfl, rfl, rfl⟩ | ⟨rfl, rfl, rfl, rfl, rfl, rfl, rfl, rfl⟩ | ⟨rfl, rfl, rfl, rfl, rfl, rfl, rfl, rfl⟩
  all_goals (split <;> omega)

/-- What the model's Unpack answers has the kind that the size's bits say. -/
theorem sunpack_kind {f wd p t S D h q : Int} (hF : Frm f wd p t S D h q) (x : Int) (w : World) (h0 : 0 ≤ x) (h1 : x < D) :
    Calls Tryz.prog 88 #[.int .i64 f, .int .u64 x] w fun e w' => ∃ (n : Bool) (a m : Int), e = .returned (.agg #[.int .i64 (kd ((2 * t + 1) * h) (sz S x)), .bool n, .int .i64 a, .int .u64 m]) ∧ Below w.heap.size w w' := by
  obtain ⟨hs, hx0, hx1, hf0, hf1⟩ := sz_of hF x h0 h1
  have hh : 0 < h := by omega
  by_cases hX : x / h % q = 2 * t + 1
  · by_cases hf : x % h = 0
    · have e : kd ((2 * t + 1) * h) (sz S x) = 2 := by
        rw [hs, hX, hf]
        unfold kd
        have : (2 * t + 1) * h + 0 ≠ 0 := by
          have : 0 < (2 * t + 1) * h := by
            rcases hF with ⟨rfl, rfl, rfl, rfl, rfl, rfl, rfl, rfl⟩ | ⟨rfl, rfl, rfl, rfl, rfl, rfl, rfl, rfl⟩ | ⟨rfl, rfl, rfl, rfl, rfl, rfl, rfl, rfl⟩ <;> decide
          omega
        rw [if_neg this, if_neg (by omega), if_pos (by omega)]
      rw [e]
      exact (sunpack_inf hF x w h0 h1 hX (by simpa using hf)).mono fun e w' h => ⟨_, _, _, h.1, h.2⟩
    · have e : kd ((2 * t + 1) * h) (sz S x) = 3 := by
        rw [hs, hX]
        unfold kd
        have : 0 < (2 * t + 1) * h := by
            rcases hF with ⟨rfl, rfl, rfl, rfl, rfl, rfl, rfl, rfl⟩ | ⟨rfl, rfl, rfl, rfl, rfl, rfl, rfl, rfl⟩ | ⟨rfl, rfl, rfl, rfl, rfl, rfl, rfl, rfl⟩ <;> decide
        rw [if_neg (by omega), if_neg (by omega), if_neg (by omega)]
      rw [e]
      exact (sunpack_nan hF x w h0 h1 hX (by simpa using hf)).mono fun e w' h => ⟨_, _, _, h.1, h.2⟩
  · by_cases hX0 : x / h % q = 0
    · by_cases hf : x % h = 0
      · have e : kd ((2 * t + 1) * h) (sz S x) = 0 := by rw [hs, hX0, hf]; simp [kd]
        rw [e]
        exact (sunpack_zero hF x w h0 h1 hX0 (by simpa using hf)).mono fun e w' h => ⟨_, _, _, h.1, h.2⟩
      · have e : kd ((2 * t + 1) * h) (sz S x) = 1 := by
          rw [hs, hX0]
          unfold kd
          rcases hF with ⟨rfl, rfl, rfl, rfl, rfl, rfl, rfl, rfl⟩ | ⟨rfl, rfl, rfl, rfl, rfl, rfl, rfl, rfl⟩ | ⟨rfl, rfl, rfl, rfl, rfl, rfl, rfl, rfl⟩
          all_goals rw [if_neg (by omega), if_pos (by omega)]
        rw [e]
        exact (sunpack_low hF x w h0 h1 hX0 (by simpa using hf)).mono fun e w' ⟨k, m, _, _, h, g⟩ => ⟨_, _, _, h, g⟩
    · have e : kd ((2 * t + 1) * h) (sz S x) = 1 := by
        rw [hs]
        unfold kd
        rcases hF with ⟨rfl, rfl, rfl, rfl, rfl, rfl, rfl, rfl⟩ | ⟨rfl, rfl, rfl, rfl, rfl, rfl, rfl, rfl⟩ | ⟨rfl, rfl, rfl, rfl, rfl, rfl, rfl, rfl⟩
        all_goals rw [if_neg (by omega), if_pos (by omega)]
      rw [e]
      exact (sunpack_norm hF x w h0 h1 hX0 hX).mono fun e w' ⟨k, m, _, _, h, g⟩ => ⟨_, _, _, h, g⟩

set_option maxHeartbeats 1000000 in
theorem sunpack_bad (f x : Int) (w : World) (hA : ∀ w, Calls Tryz.prog 101 #[.int .i64 f, .int .u64 x] w fun e w' => e = .returned (.bool false) ∧ w' = w) (hG : ∀ w, ∃ a b c d, Calls Tryz.prog 64 #[.int .i64 f] w fun e w' => e = .returned (.tuple #[.int .i64 a, .int .i64 b, .int .i64 c, .bool d]) ∧ w' = w) :
    Calls Tryz.prog 88 #[.int .i64 f, .int .u64 x] w fun e w' => e = .returned (.agg #[.int .i64 4, .bool false, .int .i64 0, .int .u64 0]) ∧ Below w.heap.size w w' := by
  obtain ⟨a, b, c, d, hG⟩ := hG (w.alloc (.cells #[.int .i64 0, .bool false, .int .i64 0, .int .u64 0] 101))
  go_enter Tryz.func88, Tryz.ntmps88
  go_wp2_with (first | (go_at_call 64; refine hG.mono ?_; rintro e w' ⟨rfl, rfl⟩) | (go_at_call 101; refine (hA _).mono ?_; rintro e w' ⟨rfl, rfl⟩))
  exact bodyPost_ret (v := .agg #[.int .i64 4, .bool false, .int .i64 0, .int .u64 0]) (by simp [results, Tryz.results88, go_sem]) rfl ⟨rfl, below_one _⟩

theorem below_22 {w w1 w2 : World} (o o' : Obj) (hb1 : Below w.heap.size w w1) (hb2 : Below w1.heap.size w1 w2) : Below w.heap.size w ((w2.alloc o).alloc o') := by
  have h1 := hb1.size
  have h2 := hb2.size
  exact ((hb1.trans (hb2.mono h1)).alloc (by omega) _).alloc (by simp; omega) _

theorem l1Plain_any {f wd p t S D h q : Int} (hF : Frm f wd p t S D h q) (w : World) :
    Calls Tryz.prog 49 #[.int .i64 f] w fun e w' => e = .returned (.int .u64 ((2 * t + 1) * h + h / 2)) ∧ w' = w := by
  have hG := fun w => l1Form_any hF.form w
  rcases hF with ⟨rfl, rfl, rfl, rfl, rfl, rfl, rfl, rfl⟩ | ⟨rfl, rfl, rfl, rfl, rfl, rfl, rfl, rfl⟩ | ⟨rfl, rfl, rfl, rfl, rfl, rfl, rfl, rfl⟩
  all_goals
    go_enter Tryz.func49, Tryz.ntmps49
    go_wp2_with (go_at_call 64; refine (hG _).mono ?_; rintro e w' ⟨rfl, rfl⟩)
    go_ret
    exact ⟨rfl, rfl⟩

theorem l1Inf_false {f wd p t S D h q : Int} (hF : Frm f wd p t S D h q) (w : World) :
    Calls Tryz.prog 51 #[.int .i64 f, .bool false] w fun e w' => e = .returned (.int .u64 ((2 * t + 1) * h)) ∧ w' = w := by
  have hG := fun w => l1Form_any hF.form w
  rcases hF with ⟨rfl, rfl, rfl, rfl, rfl, rfl, rfl, rfl⟩ | ⟨rfl, rfl, rfl, rfl, rfl, rfl, rfl, rfl⟩ | ⟨rfl, rfl, rfl, rfl, rfl, rfl, rfl, rfl⟩
  all_goals
    go_enter Tryz.func51, Tryz.ntmps51
    go_wp2_with (first | (go_at_call 64; refine (hG _).mono ?_; rintro e w' ⟨rfl, rfl⟩) | go_in)
    go_ret
    exact ⟨rfl, rfl⟩

theorem fld24 (k u m : Int) (b : Bool) (w : World) : (Instr.field 101 (.agg #[.int .i64 k, .bool b, .int .i64 u, .int .u64 m]) 0).run Tryz.prog w = .ok (.int .i64 k) w := by kernel_rfl

/-- The next bits, of a form whose sign bit is S and whose infinity is i (h half of the hidden bit more: the plain NaN). -/
def nxt (S i n x : Int) : Int := if i < sz S x then n else if x = S ∨ x = 0 then 1 else if x = i then x else if S ≤ x then x - 1 else x + 1

end Go.Proofs.YtddbekacdfohpaaGreatDoor.Q
