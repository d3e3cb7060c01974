/- The walks of the model's Unpack: a NaN, an infinity, a zero, a finite number. -/
import Derived.Test.YtcpnmcfpnhokgaaDoorW3
import Derived.Test.YtcpnmcfpnhokgaaDoorPlain2
import Derived.WalkSpells
import Derived.WalkLawsBesides
namespace Go.Proofs.YtcpnmcfpnhokgaaDoor
open Go.RowKit

/-- The three forms, with the hidden bit h and the number q of exponents besides. -/
def Frm (f wd p t S D h q : Int) : Prop := (f = 1 ∧ wd = 16 ∧ p = 11 ∧ t = 15 ∧ S = 32768 ∧ D = 65536 ∧ h = 1024 ∧ q = 32) ∨ (f = 2 ∧ wd = 32 ∧ p = 24 ∧ t = 127 ∧ S = 2147483648 ∧ D = 4294967296 ∧ h = 8388608 ∧ q = 256) ∨ (f = 3 ∧ wd = 64 ∧ p = 53 ∧ t = 1023 ∧ S = 9223372036854775808 ∧ D = 18446744073709551616 ∧ h = 4503599627370496 ∧ q = 2048)

theorem Frm.form {f wd p t S D h q : Int} (hF : Frm f wd p t S D h q) : Form f wd p t S D := by
  rcases hF with ⟨rfl, rfl, rfl, rfl, rfl, rfl, _, _⟩ | ⟨rfl, rfl, rfl, rfl, rfl, rfl, _, _⟩ | ⟨rfl, rfl, rfl, rfl, rfl, rfl, _, _⟩
  · exact Or.inl ⟨rfl, rfl, rfl, rfl, rfl, rfl⟩
  · exact Or.inr (Or.inl ⟨rfl, rfl, rfl, rfl, rfl, rfl⟩)
  · exact Or.inr (Or.inr ⟨rfl, rfl, rfl, rfl, rfl, rfl⟩)

theorem are_yes {f wd p t S D : Int} (hF : Form f wd p t S D) (x : Int) (h0 : 0 ≤ x) (h1 : x < D) (w : World) :
    Calls Tryd.prog 39 #[.int .i64 f, .int .u64 x] w fun e w' => e = .returned (.bool true) ∧ w' = w := by
  have hD : D ≤ 18446744073709551616 := by rcases hF with ⟨_, _, _, _, _, rfl⟩ | ⟨_, _, _, _, _, rfl⟩ | ⟨_, _, _, _, _, rfl⟩ <;> decide
  have h := l1Are_any hF x h0 (by omega) w
  rw [Int.ediv_eq_zero_of_lt h0 h1] at h
  exact h

theorem below_one {w : World} (o : Obj) : Below w.heap.size w (w.alloc o) := (Below.refl _ _).alloc (Nat.le_refl _) _
theorem below_two {w : World} (o o' : Obj) : Below w.heap.size w ((w.alloc o).alloc o') := (below_one o).alloc (by simp) _

set_option maxHeartbeats 1000000 in
theorem sunpack_inf {f wd p t S D h q : Int} (hF : Frm f wd p t S D h q) (x : Int) (w : World) (h0 : 0 ≤ x) (h1 : x < D) (hX : x / h % q = 2 * t + 1) (hf : (x % h == 0) = true) :
    Calls Tryd.prog 12 #[.int .i64 f, .int .u64 x] w fun e w' => e = .returned (.agg #[.int .i64 2, .bool (x / S == 1), .int .i64 0, .int .u64 0]) ∧ Below w.heap.size w w' := by
  have hA := fun w => are_yes hF.form x h0 h1 w
  have hG := fun w => l1Form_any hF.form w
  rcases hF with ⟨rfl, rfl, rfl, rfl, rfl, rfl, rfl, rfl⟩ | ⟨rfl, rfl, rfl, rfl, rfl, rfl, rfl, rfl⟩ | ⟨rfl, rfl, rfl, rfl, rfl, rfl, rfl, rfl⟩
  all_goals
    clear h1
    go_enter Tryd.func12, Tryd.ntmps12
    go_wp2_with (first | (go_at_call 38; refine (hG _).mono ?_; rintro e w' ⟨rfl, rfl⟩) | (go_at_call 39; refine (hA _).mono ?_; rintro e w' ⟨rfl, rfl⟩))
    exact bodyPost_ret (v := .agg #[.int .i64 2, .bool _, .int .i64 0, .int .u64 0]) (by simp [results, Tryd.results12, go_sem]) rfl ⟨rfl, below_two _ _⟩

set_option maxHeartbeats 1000000 in
theorem sunpack_nan {f wd p t S D h q : Int} (hF : Frm f wd p t S D h q) (x : Int) (w : World) (h0 : 0 ≤ x) (h1 : x < D) (hX : x / h % q = 2 * t + 1) (hf : (x % h == 0) = false) :
    Calls Tryd.prog 12 #[.int .i64 f, .int .u64 x] w fun e w' => e = .returned (.agg #[.int .i64 3, .bool false, .int .i64 0, .int .u64 0]) ∧ Below w.heap.size w w' := by
  have hA := fun w => are_yes hF.form x h0 h1 w
  have hG := fun w => l1Form_any hF.form w
  rcases hF with ⟨rfl, rfl, rfl, rfl, rfl, rfl, rfl, rfl⟩ | ⟨rfl, rfl, rfl, rfl, rfl, rfl, rfl, rfl⟩ | ⟨rfl, rfl, rfl, rfl, rfl, rfl, rfl, rfl⟩
  all_goals
    clear h1
    go_enter Tryd.func12, Tryd.ntmps12
    go_wp2_with (first | (go_at_call 38; refine (hG _).mono ?_; rintro e w' ⟨rfl, rfl⟩) | (go_at_call 39; refine (hA _).mono ?_; rintro e w' ⟨rfl, rfl⟩))
    exact bodyPost_ret (v := .agg #[.int .i64 3, .bool false, .int .i64 0, .int .u64 0]) (by simp [results, Tryd.results12, go_sem]) rfl ⟨rfl, below_two _ _⟩

set_option maxHeartbeats 1000000 in
theorem sunpack_zero {f wd p t S D h q : Int} (hF : Frm f wd p t S D h q) (x : Int) (w : World) (h0 : 0 ≤ x) (h1 : x < D) (hX : x / h % q = 0) (hf : (x % h == 0) = true) :
    Calls Tryd.prog 12 #[.int .i64 f, .int .u64 x] w fun e w' => e = .returned (.agg #[.int .i64 0, .bool (x / S == 1), .int .i64 0, .int .u64 0]) ∧ Below w.heap.size w w' := by
  have hA := fun w => are_yes hF.form x h0 h1 w
  have hG := fun w => l1Form_any hF.form w
  rcases hF with ⟨rfl, rfl, rfl, rfl, rfl, rfl, rfl, rfl⟩ | ⟨rfl, rfl, rfl, rfl, rfl, rfl, rfl, rfl⟩ | ⟨rfl, rfl, rfl, rfl, rfl, rfl, rfl, rfl⟩
  all_goals
    clear h1
    go_enter Tryd.func12, Tryd.ntmps12
    go_wp2_with (first | (go_at_call 38; refine (hG _).mono ?_; rintro e w' ⟨rfl, rfl⟩) | (go_at_call 39; refine (hA _).mono ?_; rintro e w' ⟨rfl, rfl⟩))
    exact bodyPost_ret (v := .agg #[.int .i64 0, .bool _, .int .i64 0, .int .u64 0]) (by simp [results, Tryd.results12, go_sem]) rfl ⟨rfl, below_two _ _⟩
end Go.Proofs.YtcpnmcfpnhokgaaDoor
