/- The last line of the law of packing: Unpack of 15360 in Half, and 1 packed in Single; and the draw of a form with bits. -/
import Derived.Test.YtnneampkecnphaaDoorP4
import Derived.Test.YtnneampkecnphaaDoorD4
namespace Go.Proofs.YtnneampkecnphaaDoor
open Go.RowKit

theorem last_unpack (w : World) (hs : Shp w) (hb : Brj w) :
    Calls Tryd.prog 6 #[.int .i64 1, .int .u64 15360] w fun e w' => e = .returned (.agg #[.int .i64 1, .bool false, .int .i64 0, .int .u64 1]) ∧ Below w.heap.size w w' := by
  have hF : Frm 1 16 11 15 32768 65536 1024 32 := Or.inl ⟨rfl, rfl, rfl, rfl, rfl, rfl, rfl, rfl⟩
  obtain ⟨ha, hn⟩ := and_any hF.form 15360 (by decide) (by decide)
  have ht : Tz (15360 % 1024 + 1024) 1 10 := ⟨by decide, by decide⟩
  exact unpack_fin hF 15360 15360 0 false w hs (by decide) (by decide) ha rfl hn rfl rfl (by decide) 0 1 hb fun w hb => finite_norm hF false 15360 1 10 w (by decide) (by decide) ht (by decide) hb

theorem one_any (w : World) (hs : Shp w) :
    Calls Tryd.prog 9 #[.int .i64 2] w fun e w' => e = .returned (.int .u64 1065353216) ∧ Below w.heap.size w w' := by
  have hF : Frm 2 32 24 127 2147483648 4294967296 8388608 256 := Or.inr (Or.inl ⟨rfl, rfl, rfl, rfl, rfl, rfl, rfl, rfl⟩)
  have ht : Tz 8388608 1 23 := ⟨by decide, by decide⟩
  have hP := packs_fin hF 1065353216 (by decide) (by decide) 0 1 8388608 126 23 ht (by decide) (by decide) (by decide) (by decide) (Or.inr (by decide)) (by decide) (by decide) 1 w (by decide) (by decide) hs
  have e : ((1065353216 : Int) / 2147483648 == 1) = false := by decide
  rw [e] at hP
  go_enter Tryd.func9, Tryd.ntmps9
  go_wp2_with (go_at_call 8; with_reducible refine hP.mono ?_; rintro e w' ⟨rfl, hb⟩)
  go_ret
  exact ⟨rfl, hb⟩

set_option maxHeartbeats 1000000 in
theorem drawUnpack_any {w : World} {a : Option Addr} {len cap : Nat} (hr : Row w a len) (hl : (len : Int) ≤ 4611686018427387904) :
    Calls Tryd.prog 5 #[.slice a len cap] w fun e w' => ∃ f x : Int, 0 ≤ x ∧ x < 18446744073709551616 ∧ e = .returned (.tuple #[.int .i64 f, .int .u64 x]) ∧ Below w.heap.size w w' := by
  have HR : Hid (Row w a len) := hr
  clear hr
  go_enter Tryd.func5, Tryd.ntmps5
  go_wp2_with (first | (go_at_call 11; refine (new_any HR.out hl).mono ?_; rintro e w' ⟨rfl, hc⟩; have HC : Hid (Cur w w' w.heap.size a len cap) := hc; clear hc) | (go_at_call 10; refine (any_any HC.out).mono ?_; rintro e w' ⟨f, x, hx0, hx1, rfl, hc⟩; have HC : Hid (Cur w w' w.heap.size a len cap) := hc; clear hc))
  go_ret2
  exact ⟨f, x, hx0, hx1, rfl, HC.out.below⟩
end Go.Proofs.YtnneampkecnphaaDoor
