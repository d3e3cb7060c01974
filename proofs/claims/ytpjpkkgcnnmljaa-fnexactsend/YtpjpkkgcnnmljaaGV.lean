/- RsOk: both sides. -/
import Derived.Test.YtpjpkkgcnnmljaaGT
import Derived.Test.YtpjpkkgcnnmljaaGU
import Derived.Test.YtpjpkkgcnnmljaaGR
namespace Go.Proofs.Ytpjpkkgcnnmljaa
open Go.RowKit

theorem syz_clean {n t : Nat} {g : Nat → Nat} : (∀ k, k < 16 → syz n g (2 * t) k = 0) ↔ ∀ i, i < 2 * t → i < 16 → syn n g i = 0 := by
  unfold syz
  refine ⟨fun h i hi h16 => ?_, fun h k hk => ?_⟩
  · have := h i h16
    rw [if_pos hi] at this
    exact this
  · split
    · rename_i hi; exact h k hi hk
    · rfl

/-- Whether a word is taken and clean. -/
def rok (n : Nat) (xs : Nat → Int) (t : Int) : Bool := decide (Bk (n : Int) t) && cln n (nb n xs) (2 * t.toNat)

end Go.Proofs.Ytpjpkkgcnnmljaa
