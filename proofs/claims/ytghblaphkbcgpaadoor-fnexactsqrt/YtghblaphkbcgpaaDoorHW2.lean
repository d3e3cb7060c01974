/- The walks of Order, on both sides. -/
import Derived.Test.YtghblaphkbcgpaaDoorHS1
import Derived.WalkSpells
import Derived.WalkLawsBesides
import Derived.Deep.QuietTactic
import Derived.BigQuiet
import Derived.RegionTactic
import Derived.Deep.RegionWith
import Derived.Test.YtghblaphkbcgpaaDoorHS2
namespace Go.Proofs.YtghblaphkbcgpaaDoor
open Go.RowKit

/-- -1, 0, 1 as x is less than, the same as, greater than y. -/
def cmp3 (x y : Int) : Int := if x < y then -1 else if y < x then 1 else 0

theorem bcell {W w1 : World} (hb : Below W.heap.size W w1) : (∀ b o, b < W.heap.size → w1.cell? ⟨b, o, none⟩ = W.cell? ⟨b, o, none⟩) ∧ (∀ b o, b < W.heap.size → w1.frozen? ⟨b, o, none⟩ = W.frozen? ⟨b, o, none⟩) :=
  ⟨fun b o h => hb.cell (p := ⟨b, o, none⟩) h, fun b o h => hb.frozen (p := ⟨b, o, none⟩) h⟩

theorem below3 {w w1 w2 : World} (o : Obj) (hb1 : Below (w.alloc o).drew.heap.size (w.alloc o).drew w1) (hb2 : Below w1.heap.size w1 w2) : Below w.heap.size w w2 := by
  have h0 : Below w.heap.size w (w.alloc o).drew := ((Below.refl _ _).alloc (Nat.le_refl _) _).drew
  have h1 : w.heap.size ≤ (w.alloc o).drew.heap.size := h0.size
  have h2 : (w.alloc o).drew.heap.size ≤ w1.heap.size := hb1.size
  exact (h0.trans (hb1.mono h1)).trans (hb2.mono (Nat.le_trans h1 h2))

theorem div_ok {x D : Int} (h0 : 0 ≤ x) (h1 : x < D) : (x / D == 0) = true := by
  rw [beq_iff_eq]
  exact Int.ediv_eq_zero_of_lt h0 h1

end Go.Proofs.YtghblaphkbcgpaaDoor

/- The walk of the law of Order: it answers true, and old memory stays as it was. -/
namespace Go.Proofs.YtghblaphkbcgpaaDoor
open Go.RowKit

theorem ord_eq (S x y : Int) (hx0 : 0 ≤ x) (hy0 : 0 ≤ y) : cmp3 (rk S x 1) (rk S y 1) = ord S x y := by
  unfold cmp3 rk ord
  by_cases hx : x < S <;> by_cases hy : y < S
  · rw [if_pos hx, if_pos hy]
    repeat' split
    all_goals omega
  · rw [if_pos hx, if_neg hy]
    repeat' split
    all_goals omega
  · rw [if_neg hx, if_pos hy]
    repeat' split
    all_goals omega
  · rw [if_neg hx, if_neg hy]
    repeat' split
    all_goals omega

theorem div_no {x D : Int} (h0 : 0 < D) (h1 : D ≤ x) : (x / D == 0) = false := by
  rw [beq_eq_false_iff_ne]
  intro h
  have := (Int.le_ediv_iff_mul_le h0 (a := 1) (b := x)).2 (by omega)
  omega

end Go.Proofs.YtghblaphkbcgpaaDoor

/- The model's Unpack by its kind alone; the model's Compare and Next. -/
namespace Go.Proofs.YtghblaphkbcgpaaDoor
open Go.RowKit

/-- The size's bits: all but the sign. -/
def sz (S x : Int) : Int := if x < S then x else x - S
/-- The kind of bits whose size's bits are s, the infinity being i. -/
def kd (i s : Int) : Int := if s = 0 then 0 else if s < i then 1 else if s = i then 2 else 3

theorem sz_of {f wd p t S D h q : Int} (hF : Frm f wd p t S D h q) (x : Int) (h0 : 0 ≤ x) (h1 : x < D) :
    sz S x = (x / h % q) * h + x % h ∧ 0 ≤ x / h % q ∧ x / h % q ≤ 2 * t + 1 ∧ 0 ≤ x % h ∧ x % h < h := by
  unfold sz
  rcases hF with ⟨rfl, rfl, rfl, rfl, rfl, rfl, rfl, rfl⟩ | ⟨rfl, rfl, rfl, rfl, rfl, rfl, rfl, rfl⟩ | ⟨rfl, rfl, rfl, rfl, rfl, rfl, rfl, rfl⟩
  all_goals (split <;> omega)

/-- What the model's Unpack answers has the kind that the size's bits say. -/
theorem sunpack_kind {f wd p t S D h q : Int} (hF : Frm f wd p t S D h q) (x : Int) (w : World) (h0 : 0 ≤ x) (h1 : x < D) :
    Calls Tryd.prog 8 #[.int .i64 f, .int .u64 x] w fun e w' => ∃ (n : Bool) (a m : Int), e = .returned (.agg #[.int .i64 (kd ((2 * t + 1) * h) (sz S x)), .bool n, .int .i64 a, .int .u64 m]) ∧ Below w.heap.size w w' := by
  obtain ⟨hs, hx0, hx1, hf0, hf1⟩ := sz_of hF x h0 h1
  have hh : 0 < h := by omega
  by_cases hX : x / h % q = 2 * t + 1
  · by_cases hf : x % h = 0
    · have e : kd ((2 * t + 1) * h) (sz S x) = 2 := by
        rw [hs, hX, hf]
        unfold kd
        have : (2 * t + 1) * h + 0 ≠ 0 := by
          have : 0 < (2 * t + 1) * h := by
            rcases hF with ⟨rfl, rfl, rfl, rfl, rfl, rfl, rfl, rfl⟩ | ⟨rfl, rfl, rfl, rfl, rfl, rfl, rfl, rfl⟩ | ⟨rfl, rfl, rfl, rfl, rfl, rfl, rfl, rfl⟩ <;> decide
          omega
        rw [if_neg this, if_neg (by omega), if_pos (by omega)]
      rw [e]
      exact (sunpack_inf hF x w h0 h1 hX (by simpa using hf)).mono fun e w' h => ⟨_, _, _, h.1, h.2⟩
    · have e : kd ((2 * t + 1) * h) (sz S x) = 3 := by
        rw [hs, hX]
        unfold kd
        have : 0 < (2 * t + 1) * h := by
            rcases hF with ⟨rfl, rfl, rfl, rfl, rfl, rfl, rfl, rfl⟩ | ⟨rfl, rfl, rfl, rfl, rfl, rfl, rfl, rfl⟩ | ⟨rfl, rfl, rfl, rfl, rfl, rfl, rfl, rfl⟩ <;> decide
        rw [if_neg (by omega), if_neg (by omega), if_neg (by omega)]
      rw [e]
      exact (sunpack_nan hF x w h0 h1 hX (by simpa using hf)).mono fun e w' h => ⟨_, _, _, h.1, h.2⟩
  · by_cases hX0 : x / h % q = 0
    · by_cases hf : x % h = 0
      · have e : kd ((2 * t + 1) * h) (sz S x) = 0 := by rw [hs, hX0, hf]; simp [kd]
        rw [e]
        exact (sunpack_zero hF x w h0 h1 hX0 (by simpa using hf)).mono fun e w' h => ⟨_, _, _, h.1, h.2⟩
      · have e : kd ((2 * t + 1) * h) (sz S x) = 1 := by
          rw [hs, hX0]
          unfold kd
          rcases hF with ⟨rfl, rfl, rfl, rfl, rfl, rfl, rfl, rfl⟩ | ⟨rfl, rfl, rfl, rfl, rfl, rfl, rfl, rfl⟩ | ⟨rfl, rfl, rfl, rfl, rfl, rfl, rfl, rfl⟩
          all_goals rw [if_neg (by omega), if_pos (by omega)]
        rw [e]
        exact (sunpack_low hF x w h0 h1 hX0 (by simpa using hf)).mono fun e w' ⟨k, m, _, _, h, g⟩ => ⟨_, _, _, h, g⟩
    · have e : kd ((2 * t + 1) * h) (sz S x) = 1 := by
        rw [hs]
        unfold kd
        rcases hF with ⟨rfl, rfl, rfl, rfl, rfl, rfl, rfl, rfl⟩ | ⟨rfl, rfl, rfl, rfl, rfl, rfl, rfl, rfl⟩ | ⟨rfl, rfl, rfl, rfl, rfl, rfl, rfl, rfl⟩
        all_goals rw [if_neg (by omega), if_pos (by omega)]
      rw [e]
      exact (sunpack_norm hF x w h0 h1 hX0 hX).mono fun e w' ⟨k, m, _, _, h, g⟩ => ⟨_, _, _, h, g⟩

set_option maxHeartbeats 1000000 in
theorem sunpack_bad (f x : Int) (w : World) (hA : ∀ w, Calls Tryd.prog 18 #[.int .i64 f, .int .u64 x] w fun e w' => e = .returned (.bool false) ∧ w' = w) (hG : ∀ w, ∃ a b c d, Calls Tryd.prog 21 #[.int .i64 f] w fun e w' => e = .returned (.tuple #[.int .i64 a, .int .i64 b, .int .i64 c, .bool d]) ∧ w' = w) :
    Calls Tryd.prog 8 #[.int .i64 f, .int .u64 x] w fun e w' => e = .returned (.agg #[.int .i64 4, .bool false, .int .i64 0, .int .u64 0]) ∧ Below w.heap.size w w' := by
  obtain ⟨a, b, c, d, hG⟩ := hG (w.alloc (.cells #[.int .i64 0, .bool false, .int .i64 0, .int .u64 0] 31))
  go_enter Tryd.func8, Tryd.ntmps8
  go_wp2_with (first | (go_at_call 21; refine hG.mono ?_; rintro e w' ⟨rfl, rfl⟩) | (go_at_call 18; refine (hA _).mono ?_; rintro e w' ⟨rfl, rfl⟩))
  exact bodyPost_ret (v := .agg #[.int .i64 4, .bool false, .int .i64 0, .int .u64 0]) (by simp [results, Tryd.results8, go_sem]) rfl ⟨rfl, below_one _⟩

theorem below_22 {w w1 w2 : World} (o o' : Obj) (hb1 : Below w.heap.size w w1) (hb2 : Below w1.heap.size w1 w2) : Below w.heap.size w ((w2.alloc o).alloc o') := by
  have h1 := hb1.size
  have h2 := hb2.size
  exact ((hb1.trans (hb2.mono h1)).alloc (by omega) _).alloc (by simp; omega) _

theorem l1Plain_any {f wd p t S D h q : Int} (hF : Frm f wd p t S D h q) (w : World) :
    Calls Tryd.prog 9 #[.int .i64 f] w fun e w' => e = .returned (.int .u64 ((2 * t + 1) * h + h / 2)) ∧ w' = w := by
  have hG := fun w => l1Form_any hF.form w
  rcases hF with ⟨rfl, rfl, rfl, rfl, rfl, rfl, rfl, rfl⟩ | ⟨rfl, rfl, rfl, rfl, rfl, rfl, rfl, rfl⟩ | ⟨rfl, rfl, rfl, rfl, rfl, rfl, rfl, rfl⟩
  all_goals
    go_enter Tryd.func9, Tryd.ntmps9
    go_wp2_with (go_at_call 21; refine (hG _).mono ?_; rintro e w' ⟨rfl, rfl⟩)
    go_ret
    exact ⟨rfl, rfl⟩

theorem l1Inf_false {f wd p t S D h q : Int} (hF : Frm f wd p t S D h q) (w : World) :
    Calls Tryd.prog 32 #[.int .i64 f, .bool false] w fun e w' => e = .returned (.int .u64 ((2 * t + 1) * h)) ∧ w' = w := by
  have hG := fun w => l1Form_any hF.form w
  rcases hF with ⟨rfl, rfl, rfl, rfl, rfl, rfl, rfl, rfl⟩ | ⟨rfl, rfl, rfl, rfl, rfl, rfl, rfl, rfl⟩ | ⟨rfl, rfl, rfl, rfl, rfl, rfl, rfl, rfl⟩
  all_goals
    go_enter Tryd.func32, Tryd.ntmps32
    go_wp2_with (first | (go_at_call 21; refine (hG _).mono ?_; rintro e w' ⟨rfl, rfl⟩) | go_in)
    go_ret
    exact ⟨rfl, rfl⟩

theorem fld24 (k u m : Int) (b : Bool) (w : World) : (Instr.field 31 (.agg #[.int .i64 k, .bool b, .int .i64 u, .int .u64 m]) 0).run Tryd.prog w = .ok (.int .i64 k) w := by kernel_rfl

/-- The next bits, of a form whose sign bit is S and whose infinity is i (h half of the hidden bit more: the plain NaN). -/
def nxt (S i n x : Int) : Int := if i < sz S x then n else if x = S ∨ x = 0 then 1 else if x = i then x else if S ≤ x then x - 1 else x + 1

end Go.Proofs.YtghblaphkbcgpaaDoor

/- The model's small functions of rounding: which way, the sign, the infinities, the modes. -/
namespace Go.Proofs.YtghblaphkbcgpaaDoor
open Go.RowKit

set_option maxHeartbeats 1000000 in
theorem up_any (mode half : Int) (neg odd some : Bool) (w : World) :
    Calls Tryd.prog 29 #[.int .i64 mode, .bool neg, .bool odd, .int .i64 half, .bool some] w fun e w' => e = .returned (.bool (upOf mode neg odd half some)) ∧ w' = w := by
  unfold upOf
  by_cases m1 : mode = 1
  · subst m1
    rw [if_pos rfl]
    rcases Int.lt_trichotomy half 0 with h | rfl | h
    · have h0 : (half == 0) = false := by simp; omega
      have h1 : ¬ 0 < half := by omega
      go_enter Tryd.func29, Tryd.ntmps29
      go_wp2
      go_ret
      refine ⟨?_, rfl⟩
      simp
      omega
    · go_enter Tryd.func29, Tryd.ntmps29
      go_wp2
      go_ret
      exact ⟨by simp, rfl⟩
    · go_enter Tryd.func29, Tryd.ntmps29
      go_wp2
      go_ret
      refine ⟨?_, rfl⟩
      simp [h]
  rw [if_neg m1]
  have b1 : (mode == 1) = false := by simpa using m1
  by_cases m2 : mode = 2
  · subst m2
    rw [if_pos rfl]
    go_enter Tryd.func29, Tryd.ntmps29
    go_wp2
    go_ret
    exact ⟨rfl, rfl⟩
  rw [if_neg m2]
  have b2 : (mode == 2) = false := by simpa using m2
  by_cases m4 : mode = 4
  · subst m4
    rw [if_pos rfl]
    cases some
    all_goals
      go_enter Tryd.func29, Tryd.ntmps29
      go_wp2
      go_ret
      exact ⟨by simp, rfl⟩
  rw [if_neg m4]
  have b4 : (mode == 4) = false := by simpa using m4
  by_cases m5 : mode = 5
  · subst m5
    rw [if_pos rfl]
    cases some
    all_goals
      go_enter Tryd.func29, Tryd.ntmps29
      go_wp2
      go_ret
      exact ⟨by simp, rfl⟩
  rw [if_neg m5]
  have b5 : (mode == 5) = false := by simpa using m5
  clear m1 m2 m4 m5
  go_enter Tryd.func29, Tryd.ntmps29
  go_wp2
  go_ret
  exact ⟨rfl, rfl⟩

theorem l1Sign_any {f wd p t S D : Int} (hF : Form f wd p t S D) (n : Bool) (w : World) :
    Calls Tryd.prog 31 #[.int .i64 f, .bool n] w fun e w' => e = .returned (.int .u64 (if n then S else 0)) ∧ w' = w := by
  cases n
  · have hF' := hF
    clear hF
    go_enter Tryd.func31, Tryd.ntmps31
    go_wp2_with (go_at_call 21; refine (l1Form_any hF' _).mono ?_; rintro e w' ⟨rfl, rfl⟩)
    go_ret
    exact ⟨rfl, rfl⟩
  · exact l1Sign_true hF w

theorem l1Inf_any {f wd p t S D h q : Int} (hF : Frm f wd p t S D h q) (n : Bool) (w : World) :
    Calls Tryd.prog 32 #[.int .i64 f, .bool n] w fun e w' => e = .returned (.int .u64 ((2 * t + 1) * h + (if n then S else 0))) ∧ w' = w := by
  have hF' := hF
  rcases hF with ⟨rfl, rfl, rfl, rfl, rfl, rfl, rfl, rfl⟩ | ⟨rfl, rfl, rfl, rfl, rfl, rfl, rfl, rfl⟩ | ⟨rfl, rfl, rfl, rfl, rfl, rfl, rfl, rfl⟩
  all_goals
    cases n
    all_goals
      go_enter Tryd.func32, Tryd.ntmps32
      go_wp2_with (first | (go_at_call 21; refine (l1Form_any hF'.form _).mono ?_; rintro e w' ⟨rfl, rfl⟩) | (go_at_call 31; refine (l1Sign_any hF'.form _ _).mono ?_; rintro e w' ⟨rfl, rfl⟩))
      go_ret
      exact ⟨rfl, rfl⟩
end Go.Proofs.YtghblaphkbcgpaaDoor
