/- The walks of the small functions of chapter 1: what each call answers, and that it leaves old memory as it was. -/
import Derived.WalkKit
import Derived.WalkSpells
import Derived.WalkLawsBesides
import Derived.Deep.QuietTactic
import Derived.BigQuiet
import Derived.Test.YtcpnmcfpnhokgaaDoorW1
import Derived.Test.YtcpnmcfpnhokgaaDoorW2
namespace Go.Proofs.YtcpnmcfpnhokgaaDoor
open Go.RowKit

theorem rank_low {f wd p t S D : Int} (hF : Form f wd p t S D) (x l : Int) (w : World) (h0 : 0 ≤ x) (h1 : x < S) :
    Calls Tryd.prog 49 #[.agg #[.int .i64 wd, .int .i64 p, .int .i64 t], .int .u64 x, .int .i64 l] w fun e w' => e = .returned (.int .i64 x) ∧ Below w.heap.size w w' := by
  rcases hF with ⟨rfl, rfl, rfl, rfl, rfl, rfl⟩ | ⟨rfl, rfl, rfl, rfl, rfl, rfl⟩ | ⟨rfl, rfl, rfl, rfl, rfl, rfl⟩
  · have ha := (and16 x h0 (by omega)).1
    rw [if_pos h1] at ha
    go_enter Tryd.func49, Tryd.ntmps49
    go_wp2
    go_ret
    exact ⟨rfl, ((Below.refl _ _).alloc (Nat.le_refl _) _).alloc (by simp) _⟩
  · have ha := (and32 x h0 (by omega)).1
    rw [if_pos h1] at ha
    go_enter Tryd.func49, Tryd.ntmps49
    go_wp2
    go_ret
    exact ⟨rfl, ((Below.refl _ _).alloc (Nat.le_refl _) _).alloc (by simp) _⟩
  · have ha := (and64 x h0 (by omega)).1
    rw [if_pos h1] at ha
    go_enter Tryd.func49, Tryd.ntmps49
    go_wp2
    go_ret
    exact ⟨rfl, ((Below.refl _ _).alloc (Nat.le_refl _) _).alloc (by simp) _⟩

theorem rank_high {f wd p t S D : Int} (hF : Form f wd p t S D) (x l : Int) (w : World) (h1 : S ≤ x) (h2 : x < D) (hl0 : 0 ≤ l) (hl1 : l ≤ 1) :
    Calls Tryd.prog 49 #[.agg #[.int .i64 wd, .int .i64 p, .int .i64 t], .int .u64 x, .int .i64 l] w fun e w' => e = .returned (.int .i64 (-(x - S) - l)) ∧ Below w.heap.size w w' := by
  rcases hF with ⟨rfl, rfl, rfl, rfl, rfl, rfl⟩ | ⟨rfl, rfl, rfl, rfl, rfl, rfl⟩ | ⟨rfl, rfl, rfl, rfl, rfl, rfl⟩
  · obtain ⟨ha, hb⟩ := and16 x (by omega) (by omega)
    rw [if_neg (by omega)] at ha hb
    go_enter Tryd.func49, Tryd.ntmps49
    go_wp2
    go_ret
    exact ⟨rfl, (((Below.refl _ _).alloc (Nat.le_refl _) _).alloc (by simp) _).alloc (by simp; omega) _⟩
  · obtain ⟨ha, hb⟩ := and32 x (by omega) (by omega)
    rw [if_neg (by omega)] at ha hb
    go_enter Tryd.func49, Tryd.ntmps49
    go_wp2
    go_ret
    exact ⟨rfl, (((Below.refl _ _).alloc (Nat.le_refl _) _).alloc (by simp) _).alloc (by simp; omega) _⟩
  · obtain ⟨ha, hb⟩ := and64 x (by omega) (by omega)
    rw [if_neg (by omega)] at ha hb
    go_enter Tryd.func49, Tryd.ntmps49
    go_wp2
    go_ret
    exact ⟨rfl, (((Below.refl _ _).alloc (Nat.le_refl _) _).alloc (by simp) _).alloc (by simp; omega) _⟩
end Go.Proofs.YtcpnmcfpnhokgaaDoor
