/- QN1 QNN QD4. -/
import Derived.Test.YtddbekacdfohpaaGreatDoorM16
import Derived.RegionTactic
import Derived.Deep.RegionWith
import Derived.Test.YtddbekacdfohpaaGreatDoorM17
namespace Go.Proofs.YtddbekacdfohpaaGreatDoor.Q
open Go.RowKit

theorem below_34 {w : World} (o o' o'' : Obj) : Below w.heap.size w (((w.alloc o).alloc o').alloc o'') := (below_two o o').alloc (by simp; omega) _

theorem below_34d {w : World} (o o' o'' : Obj) : Below w.heap.size w (((w.alloc o).alloc o').alloc o'').drew := (below_34 o o' o'').drew

end Go.Proofs.YtddbekacdfohpaaGreatDoor.Q

namespace Go.Proofs.YtddbekacdfohpaaGreatDoor.Q
open Go.RowKit

end Go.Proofs.YtddbekacdfohpaaGreatDoor.Q

namespace Go.Proofs.YtddbekacdfohpaaGreatDoor.Q
open Go.RowKit

theorem ubits_xor (x y : Int) : 0 ≤ bits .xor .u64 x y ∧ bits .xor .u64 x y < 18446744073709551616 := by
  unfold bits
  exact u64r _

theorem Cur.fresh {w : World} {a : Option Addr} {len cap : Nat} (hr : Row w a len) (hl : (len : Int) ≤ 4611686018427387904) (x : Int) :
    Cur w (w.alloc (.cells #[.slice a len cap, .int .i64 0, .int .i64 x] 62)) w.heap.size a len cap :=
  ⟨hr, hl, (Below.refl _ _).alloc (Nat.le_refl _) _, by simp, Nat.le_refl _, by simp, ⟨0, x, by decide, by omega, by simp, by simp⟩, fun o => by go_simp⟩

set_option maxHeartbeats 2000000 in
theorem new_any {w : World} {a : Option Addr} {len cap : Nat} (hr : Row w a len) (hl : (len : Int) ≤ 4611686018427387904) :
    Calls Tryz.prog 13 #[.slice a len cap] w fun e w' => e = .returned (.pointer (some ⟨w.heap.size, 0, none⟩)) ∧ Cur w w' w.heap.size a len cap := by
  have HR : Hid (Row w a len) := hr
  clear hr
  go_enter Tryz.func13, Tryz.ntmps13
  go_wp2
  go_loop [3, 4] (fun h i => ∃ (k : Nat) (x : Int), k ≤ len ∧ i = .int .i64 k ∧ h = .int .i64 x) (fun _ i => len - (intOf i).toNat)
  case atStart => exact ⟨0, _, Nat.zero_le _, rfl, rfl⟩
  case round =>
    obtain ⟨k, x, hk, rfl, rfl⟩ := hrel
    by_cases hlt : k < len
    · obtain ⟨b, off, z, rfl, hbW, hz, hz0, hz1⟩ := HR.out k hlt
      by_cases h4 : (k : Int) < 4000
      · go_wp2
        go_round
        case rel => exact ⟨k + 1, _, by omega, by go_num, rfl⟩
        case measure => simp [intOf]; omega
      · go_wp2
        go_ret
        exact ⟨rfl, Cur.fresh HR.out hl _⟩
    · go_wp2
      go_ret
      exact ⟨rfl, Cur.fresh HR.out hl _⟩

/-- What the draw of two leaves: any form, two words, old memory as it was. -/
def Two (w : World) (n : Nat) (e : Ending) (w' : World) : Prop :=
  ∃ f m x y : Int, 0 ≤ x ∧ x < 18446744073709551616 ∧ 0 ≤ y ∧ y < 18446744073709551616 ∧ e = .returned (.tuple (if n = 4 then #[.int .i64 f, .int .i64 m, .int .u64 x, .int .u64 y] else #[.int .i64 f, .int .u64 x, .int .u64 y])) ∧ Below w.heap.size w w'

end Go.Proofs.YtddbekacdfohpaaGreatDoor.Q
