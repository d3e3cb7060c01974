/- The walks of the small functions of chapter 1: what each call answers, and that it leaves old memory as it was. -/
import Derived.Test.YtcpnmcfpnhokgaaDoorRows
import Derived.Test.YtcpnmcfpnhokgaaDoorPlain
import Derived.WalkKit
import Derived.WalkSpells
import Derived.WalkLawsBesides
import Derived.Deep.QuietTactic
import Derived.BigQuiet
namespace Go.Proofs.YtcpnmcfpnhokgaaDoor
open Go.RowKit

/-- The table of the three forms lies in memory as the program's text lays it. -/
structure Shp (w : World) : Prop where
  c0 : w.cell? ⟨0, 0, none⟩ = some (.int .i64 0)
  c1 : w.cell? ⟨0, 1, none⟩ = some (.int .i64 0)
  c2 : w.cell? ⟨0, 2, none⟩ = some (.int .i64 0)
  c3 : w.cell? ⟨0, 3, none⟩ = some (.int .i64 16)
  c4 : w.cell? ⟨0, 4, none⟩ = some (.int .i64 11)
  c5 : w.cell? ⟨0, 5, none⟩ = some (.int .i64 15)
  c6 : w.cell? ⟨0, 6, none⟩ = some (.int .i64 32)
  c7 : w.cell? ⟨0, 7, none⟩ = some (.int .i64 24)
  c8 : w.cell? ⟨0, 8, none⟩ = some (.int .i64 127)
  c9 : w.cell? ⟨0, 9, none⟩ = some (.int .i64 64)
  c10 : w.cell? ⟨0, 10, none⟩ = some (.int .i64 53)
  c11 : w.cell? ⟨0, 11, none⟩ = some (.int .i64 1023)

theorem isBits_no (form x : Int) (w : World) (h : form < 1 ∨ 3 < form) :
    Calls Tryd.prog 34 #[.int .i64 form, .int .u64 x] w fun e w' => e = .returned (.bool false) ∧ w' = w := by
  rcases h with h | h
  · go_enter Tryd.func34, Tryd.ntmps34
    go_wp2
    go_ret
    exact ⟨rfl, rfl⟩
  · have h1 : ¬ form < 1 := by omega
    go_enter Tryd.func34, Tryd.ntmps34
    go_wp2
    go_ret
    exact ⟨rfl, rfl⟩


/-- The three forms: number, width, precision, greatest exponent, sign bit, twice that. -/
def Form (f wd p t S D : Int) : Prop := (f = 1 ∧ wd = 16 ∧ p = 11 ∧ t = 15 ∧ S = 32768 ∧ D = 65536) ∨ (f = 2 ∧ wd = 32 ∧ p = 24 ∧ t = 127 ∧ S = 2147483648 ∧ D = 4294967296) ∨ (f = 3 ∧ wd = 64 ∧ p = 53 ∧ t = 1023 ∧ S = 9223372036854775808 ∧ D = 18446744073709551616)

theorem isBits_any {f wd p t S D : Int} (hF : Form f wd p t S D) (x : Int) (w : World) (hs : Shp w) :
    Calls Tryd.prog 34 #[.int .i64 f, .int .u64 x] w fun e w' => e = .returned (.bool (x / D == 0)) ∧ w' = w := by
  obtain ⟨c0, c1, c2, c3, c4, c5, c6, c7, c8, c9, c10, c11⟩ := hs
  rcases hF with ⟨rfl, rfl, rfl, rfl, rfl, rfl⟩ | ⟨rfl, rfl, rfl, rfl, rfl, rfl⟩ | ⟨rfl, rfl, rfl, rfl, rfl, rfl⟩
  all_goals
    go_enter Tryd.func34, Tryd.ntmps34
    go_wp2
    go_ret
    exact ⟨rfl, rfl⟩

end Go.Proofs.YtcpnmcfpnhokgaaDoor
