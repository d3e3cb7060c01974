/- DrawLine. -/
import Derived.Test.YtlccicbgepfbbaaDX
namespace Go.Proofs.Ytlccicbgepfbbaa
open Go.RowKit

set_option maxRecDepth 20000 in
set_option maxHeartbeats 8000000 in
theorem line_x {w : World} {a : Option Addr} {len cap : Nat} (hr : Row w a len) (hl : len ≤ 1048576) :
    Calls Try.prog 10 #[.slice a len cap] w fun e w' => ∃ (n : Int) (m : Nat) (u : Value) (ss : Nat → Wr), e = .returned (.tuple #[.int .i64 n, u]) ∧ Below w.heap.size w w' ∧ w'.ownsRow w.heap.size 31 5 u m (ils (zs ss) (m * 5)) ∧ m ≤ 40 := by
  have HN := new_x (cap := cap) hr (by omega)
  obtain ⟨c, hc⟩ : ∃ c, c = w.heap.size := ⟨_, rfl⟩
  have HN : Hid (Calls Try.prog 40 #[.slice a len cap] w fun e w' => e = .returned (.pointer (some ⟨c, 0, none⟩)) ∧ Cu w' c a len cap ∧ Below w.heap.size w w') := by rw [hc]; exact HN
  have hcw : w.heap.size ≤ c := by omega
  clear hr hc
  go_enter Try.func10, Try.ntmps10
  go_wp2_with (first
    | (go_at_call 40; go_loud (refine HN.out.mono ?_); rintro e w1 ⟨rfl, h1, h2⟩; have HC : Hid (Cu w1 c a len cap) := h1; have HB : Hid (Below w.heap.size w w1) := h2; clear h1 h2)
    | (go_at_call 39; go_loud (refine (draw19_x HC.out hl).mono ?_); go_loud (rintro e w2 ⟨n, m, u, ss, rfl, h1, h2, h3, h4⟩; have HE : Hid (Below w.heap.size w w2) := Below.keep HB.out h2 hcw; have HO : Hid (w2.ownsRow w.heap.size 31 5 u m (ils (zs ss) (m * 5))) := own_base h3 HB.out.size; clear h1 h2 h3)))
  refine bodyPost_ret (v := .tuple #[.int .i64 n, u]) (by simp [results, Try.results10, go_sem]) rfl ?_
  exact ⟨n, m, u, ss, rfl, HE.out, HO.out, h4⟩

end Go.Proofs.Ytlccicbgepfbbaa
