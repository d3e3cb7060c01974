/- The model's Unpack by its kind alone; the model's Compare and Next. -/
import Derived.Test.YtmoeojmnfcbdaaaDoorU2
import Derived.Test.YtmoeojmnfcbdaaaDoorW4
namespace Go.Proofs.YtmoeojmnfcbdaaaDoor
open Go.RowKit

/-- The size's bits: all but the sign. -/
def sz (S x : Int) : Int := if x < S then x else x - S
/-- The kind of bits whose size's bits are s, the infinity being i. -/
def kd (i s : Int) : Int := if s = 0 then 0 else if s < i then 1 else if s = i then 2 else 3

theorem sz_of {f wd p t S D h q : Int} (hF : Frm f wd p t S D h q) (x : Int) (h0 : 0 ≤ x) (h1 : x < D) :
    sz S x = (x / h % q) * h + x % h ∧ 0 ≤ x / h % q ∧ x / h % q ≤ 2 * t + 1 ∧ 0 ≤ x % h ∧ x % h < h := by
  unfold sz
  rcases hF with ⟨rfl, rfl, rfl, rfl, rfl, rfl, rfl, rfl⟩ | ⟨rfl, rfl, rfl, rfl, rfl, rfl, rfl, rfl⟩ | ⟨rfl, rfl, rfl, rfl, rfl, rfl, rfl, rfl⟩
  all_goals (split <;> omega)

theorem below_22 {w w1 w2 : World} (o o' : Obj) (hb1 : Below w.heap.size w w1) (hb2 : Below w1.heap.size w1 w2) : Below w.heap.size w ((w2.alloc o).alloc o') := by
  have h1 := hb1.size
  have h2 := hb2.size
  exact ((hb1.trans (hb2.mono h1)).alloc (by omega) _).alloc (by simp; omega) _

theorem l1Plain_any {f wd p t S D h q : Int} (hF : Frm f wd p t S D h q) (w : World) :
    Calls Tryd.prog 36 #[.int .i64 f] w fun e w' => e = .returned (.int .u64 ((2 * t + 1) * h + h / 2)) ∧ w' = w := by
  have hG := fun w => l1Form_any hF.form w
  rcases hF with ⟨rfl, rfl, rfl, rfl, rfl, rfl, rfl, rfl⟩ | ⟨rfl, rfl, rfl, rfl, rfl, rfl, rfl, rfl⟩ | ⟨rfl, rfl, rfl, rfl, rfl, rfl, rfl, rfl⟩
  all_goals
    go_enter Tryd.func36, Tryd.ntmps36
    go_wp2_with (go_at_call 23; refine (hG _).mono ?_; rintro e w' ⟨rfl, rfl⟩)
    go_ret
    exact ⟨rfl, rfl⟩

theorem l1Inf_false {f wd p t S D h q : Int} (hF : Frm f wd p t S D h q) (w : World) :
    Calls Tryd.prog 35 #[.int .i64 f, .bool false] w fun e w' => e = .returned (.int .u64 ((2 * t + 1) * h)) ∧ w' = w := by
  have hG := fun w => l1Form_any hF.form w
  rcases hF with ⟨rfl, rfl, rfl, rfl, rfl, rfl, rfl, rfl⟩ | ⟨rfl, rfl, rfl, rfl, rfl, rfl, rfl, rfl⟩ | ⟨rfl, rfl, rfl, rfl, rfl, rfl, rfl, rfl⟩
  all_goals
    go_enter Tryd.func35, Tryd.ntmps35
    go_wp2_with (first | (go_at_call 23; refine (hG _).mono ?_; rintro e w' ⟨rfl, rfl⟩) | go_in)
    go_ret
    exact ⟨rfl, rfl⟩

/-- The next bits, of a form whose sign bit is S and whose infinity is i (h half of the hidden bit more: the plain NaN). -/
def nxt (S i n x : Int) : Int := if i < sz S x then n else if x = S ∨ x = 0 then 1 else if x = i then x else if S ≤ x then x - 1 else x + 1

end Go.Proofs.YtmoeojmnfcbdaaaDoor
