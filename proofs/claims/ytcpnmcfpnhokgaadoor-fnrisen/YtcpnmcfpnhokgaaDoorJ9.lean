/- A number rounds alike however it is written. -/
import Derived.Test.YtcpnmcfpnhokgaaDoorJ0
namespace Go.Proofs.YtcpnmcfpnhokgaaDoor
open Go.RowKit

/-- The same value at two exponents is rounded the same. -/
theorem rnd_same {p t h S mode e e' : Int} (neg : Bool) {N N' s s' : Nat} (hN : 0 < N) (he : e - s = e' - s') (hv : N * 2 ^ s = N' * 2 ^ s') :
    rndV p t h S mode e neg N false = rndV p t h S mode e' neg N' false ∧ rndF p t h mode e neg N false = rndF p t h mode e' neg N' false := by
  have hN' : 0 < N' := by
    rcases Nat.eq_zero_or_pos N' with h0 | h0
    · subst h0
      have : 0 < N * 2 ^ s := Nat.mul_pos hN (Nat.pow_pos (by decide))
      omega
    · exact h0
  have a := rnd_scale (p := p) (t := t) (h := h) (S := S) (mode := mode) (e := e) neg (N := N) (s := s) hN
  have b := rnd_scale (p := p) (t := t) (h := h) (S := S) (mode := mode) (e := e') neg (N := N') (s := s') hN'
  rw [← he, ← hv] at b
  exact ⟨a.1.symm.trans b.1, a.2.symm.trans b.2⟩

end Go.Proofs.YtcpnmcfpnhokgaaDoor
