/- Line of one wire. -/
import Derived.Test.YtlccicbgepfbbaaEA
import Derived.Test.YtlccicbgepfbbaaCI
import Derived.Test.YtlccicbgepfbbaaCJ
import Derived.Test.YtlccicbgepfbbaaCK
namespace Go.Proofs.Ytlccicbgepfbbaa
open Go.RowKit

def ss1 : Nat → Wr := fun _ => ⟨0, 1, 1, 2, 0⟩
def rr1 : Nat → Nat := fun b => if b = 0 then 2 else 1

theorem one_wok : Wok ((2 : Nat) : Int) 1 ss1 := by
  refine ⟨by omega, by omega, fun i _ => ?_⟩
  show Wgd 2 ⟨0, 1, 1, 2, 0⟩
  refine ⟨?_, ?_, ?_, ?_, ?_⟩ <;> simp

theorem one_lst : Lst (wsn ss1) 2 1 rr1 := by
  refine ⟨⟨fun b hb => ?_, fun i hi => ?_, ?_⟩, fun x hx b hb => ?_⟩
  · unfold rr1; split <;> omega
  · rfl
  · decide
  · have h0 := hx.1 0 (by omega)
    have h1 := hx.1 1 (by omega)
    have h2 : x 0 * 1 = x 1 * 2 := hx.2.1 0 (by omega)
    have hb2 : b = 0 ∨ b = 1 := by omega
    rcases hb2 with rfl | rfl
    · show 2 ≤ x 0; omega
    · show 1 ≤ x 1; omega

theorem one_end : Wend 2 1 ss1 rr1 1 3 := by
  refine ⟨?_, by decide⟩
  decide

theorem one_is : ∀ k, k < 3 → wvf 2 1 ss1 1 (wst 2 1 ss1 rr1 1 k) 0 = if k = 2 then 1 else 0 := by decide

theorem line_one {w : World} {v : Value} (hv : Ow w v 1 ss1) :
    Calls Try.prog 12 #[.int .i64 2, v] w fun e w' => Pst w w' e 3 (fun k => if k = 2 then 1 else 0) true := by
  have i1 := iLine_any hv one_wok one_lst
  refine i1.mono ?_
  rintro e w' (⟨K, h1, _, u, h2, h3, h4⟩ | ⟨⟨K, h1⟩, _⟩)
  · obtain rfl := wend_one h1 one_end
    refine ⟨u, h2, ?_, h4⟩
    have e : ils (fun k => if k = 2 then (1 : Int) else 0) 3 = ils (fun k => (wvf 2 1 ss1 1 (wst 2 1 ss1 rr1 1 k) 0 : Int)) 3 := by
      apply ils_congr
      intro k hk
      rw [one_is k hk]
      split <;> rfl
    rw [e]
    exact h3
  · exact (wend_stk one_end h1).elim

/-- Line of either side: the same answer. -/
theorem pln_yes {n m K : Nat} {ss : Nat → Wr} {r : Nat → Nat} {w w' : World} {e : Ending} (h : Pln n m ss r w w' e) (hK : Wend n m ss r 1 K) : Pst w w' e K (fun k => (wvf n m ss 1 (wst n m ss r 1 k) 0 : Int)) true := by
  rcases h with ⟨K', h1, _, h2⟩ | ⟨⟨K', h1⟩, _⟩
  · obtain rfl := wend_one hK h1
    exact h2
  · exact (wend_stk hK h1).elim

theorem pln_no {n m K : Nat} {ss : Nat → Wr} {r : Nat → Nat} {w w' : World} {e : Ending} (h : Pln n m ss r w w' e) (hK : Wstk n m ss r 1 K) (ys : Nat → Int) : Pst w w' e 0 ys false := by
  rcases h with ⟨K', h1, _⟩ | ⟨_, h2⟩
  · exact (wend_stk h1 hK).elim
  · exact h2 ys

end Go.Proofs.Ytlccicbgepfbbaa
