/- The draw and the number 1 of the law of exchanged arguments. -/
import Derived.Test.YtcpnmcfpnhokgaaDoorXE1
import Derived.Test.YtcpnmcfpnhokgaaDoorXE3
namespace Go.Proofs.YtcpnmcfpnhokgaaDoor
open Go.RowKit

theorem one_at : Ans 15 #[.int .i64 2] (.int .u64 1065353216) := by
  obtain ⟨F, hp⟩ := pack_one frm2
  rw [show (127 : Int) * 8388608 = 1065353216 by decide] at hp
  intro w hs
  have HS : Hid (Tabs w) := hs
  clear hs
  go_enter Tryd.func15, Tryd.ntmps15
  go_wp2_with (go_at_call 13; refine (hp _ HS.out.shp).mono ?_; rintro e w' ⟨rfl, hb⟩)
  go_ret
  exact ⟨rfl, hb⟩

theorem walk_exchanged {w : World} {a : Option Addr} {len cap : Nat} (hs : Tabs w) (hr : Row w a len) :
    Calls Tryd.prog 3 #[.slice a len cap] w fun e w' => e = .returned (.bool true) ∧ Below w.heap.size w w' :=
  walk_exch facE_of one_two one_at hs hr
end Go.Proofs.YtcpnmcfpnhokgaaDoor
