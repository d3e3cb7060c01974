/- Basis of the model, refused. -/
import Derived.Test.YtnfhnchomiejcaaBF
namespace Go.Proofs.Ytnfhnchomiejcaa
open Go.RowKit

set_option maxRecDepth 20000 in
set_option maxHeartbeats 1000000 in
theorem sBasis_bad {w : World} {v : Value} {M : Nat} {n : Int} {ms : Nat → Nat} {X : Nat → Nat → Int} (hv : Ipp w v M ms X) (hM : M ≤ 1048576) (hms : ∀ k, k < M → ms k ≤ 1048576) (hb : ¬ Cks M ms X n) (Z : Nat → Nat → Int) :
    Calls Try.prog 11 #[v, .int .i64 n] w fun e w' => Psr w w' e 0 0 Z false := by
  have bl := below_one w (.cells #[] 29)
  have i1 := sChecks_any (n := n) (hv.below bl) hM hms
  rw [yb_no hb] at i1
  have OW : Hid (RG (w.alloc (.cells #[] 29)) w.heap.size (.slice (some ⟨w.heap.size, 0, none⟩) 0 0) 0 0 Z) := ⟨fun _ => 0, fun _ => 0, Rgr.start w 0 _ _ _⟩
  have BL : Hid (Below w.heap.size w (w.alloc (.cells #[] 29))) := bl
  clear hb hms hv bl
  go_enter Try.func11, Try.ntmps11
  go_wp2_with (first | (go_at_call 16; refine i1.mono ?_; rintro e w2 ⟨rfl, hb2⟩; have OW : Hid (RG w2 w.heap.size (.slice (some ⟨w.heap.size, 0, none⟩) 0 0) 0 0 Z) := RG.below OW.out hb2; have BL : Hid (Below w.heap.size w w2) := bstep BL.out hb2; clear hb2))
  go_ret2
  exact ⟨_, rfl, OW.out, BL.out⟩
end Go.Proofs.Ytnfhnchomiejcaa
