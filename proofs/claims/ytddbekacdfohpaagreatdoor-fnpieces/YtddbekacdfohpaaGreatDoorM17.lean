/- QD2 QD3. -/
import Derived.Test.YtddbekacdfohpaaGreatDoorQD1
import Derived.Test.YtddbekacdfohpaaGreatDoorM16
namespace Go.Proofs.YtddbekacdfohpaaGreatDoor.Q
open Go.RowKit

theorem Cur.alloc {W w : World} {c : Nat} {a : Option Addr} {len cap : Nat} (h : Cur W w c a len cap) (o : Obj) : Cur W (w.alloc o) c a len cap := by
  obtain ⟨hr, hsh, hbl, hlt, hge, hb, ⟨i, hh, hi0, hi1, hci, hch⟩, hfz⟩ := h
  have p : ∀ j, (w.alloc o).cell? ⟨c, j, none⟩ = w.cell? ⟨c, j, none⟩ := fun j => World.cell?_alloc_lt _ _ _ hlt
  refine ⟨hr, hsh, hbl.alloc hbl.size _, by simp; omega, hge, by rw [p]; exact hb, ⟨i, hh, hi0, hi1, by rw [p]; exact hci, by rw [p]; exact hch⟩, fun j => ?_⟩
  have := Below.frozen (B := w.heap.size) (w := w) (w' := w.alloc o) ((Below.refl _ _).alloc (Nat.le_refl _) _) (p := ⟨c, j, none⟩) hlt
  rw [this]
  exact hfz j

theorem two_cells {w : World} {B : Nat} {v0 v1 : Int} (x : Int) (h0 : 0 ≤ x) (h1 : x < 2) (k0 : w.cell? ⟨B, 0, none⟩ = some (.int .i64 v0)) (k1 : w.cell? ⟨B, 1, none⟩ = some (.int .i64 v1)) :
    ∃ v, w.cell? ⟨B, x.toNat, none⟩ = some (.int .i64 v) := by
  have : x = 0 ∨ x = 1 := by omega
  rcases this with rfl | rfl
  · exact ⟨v0, k0⟩
  · exact ⟨v1, k1⟩

end Go.Proofs.YtddbekacdfohpaaGreatDoor.Q

namespace Go.Proofs.YtddbekacdfohpaaGreatDoor.Q
open Go.RowKit

theorem l1SignD_any {f wd p t S D : Int} (hF : Form f wd p t S D) (b : Bool) (w : World) :
    Calls Tryz.prog 50 #[.int .i64 f, .bool b] w fun e w' => ∃ s : Int, 0 ≤ s ∧ s ≤ 9223372036854775808 ∧ e = .returned (.int .u64 s) ∧ w' = w := by
  cases b
  · have hF' := hF
    rcases hF with ⟨rfl, rfl, rfl, rfl, rfl, rfl⟩ | ⟨rfl, rfl, rfl, rfl, rfl, rfl⟩ | ⟨rfl, rfl, rfl, rfl, rfl, rfl⟩
    all_goals
      go_enter Tryz.func50, Tryz.ntmps50
      go_wp2_with (go_at_call 64; refine (l1Form_any hF' _).mono ?_; rintro e w' ⟨rfl, rfl⟩)
      go_ret
      exact ⟨0, by decide, by decide, rfl, rfl⟩
  · refine (l1Sign_true hF w).mono fun e w' h => ⟨S, ?_, ?_, h.1, h.2⟩
    · rcases hF with ⟨_, _, _, _, rfl, _⟩ | ⟨_, _, _, _, rfl, _⟩ | ⟨_, _, _, _, rfl, _⟩ <;> decide
    · rcases hF with ⟨_, _, _, _, rfl, _⟩ | ⟨_, _, _, _, rfl, _⟩ | ⟨_, _, _, _, rfl, _⟩ <;> decide

set_option maxHeartbeats 4000000 in
theorem dbits_any {W w : World} {c : Nat} {a : Option Addr} {len cap : Nat} (h : Cur W w c a len cap) {f wd p t S D hh q : Int} (hF : Frm f wd p t S D hh q) :
    Calls Tryz.prog 69 #[.pointer (some ⟨c, 0, none⟩), .int .i64 f] w fun e w' => ∃ x : Int, 0 ≤ x ∧ x < 18446744073709551616 ∧ e = .returned (.int .u64 x) ∧ Cur W w' c a len cap := by
  have HC : Hid (Cur W w c a len cap) := h
  have hG := fun w => l1Form_any hF.form w
  have hS := fun b w => l1SignD_any hF.form b w
  have hI := fun w => l1Inf_false hF w
  have hP := fun w => l1Plain_any hF w
  clear h
  rcases hF with ⟨rfl, rfl, rfl, rfl, rfl, rfl, rfl, rfl⟩ | ⟨rfl, rfl, rfl, rfl, rfl, rfl, rfl, rfl⟩ | ⟨rfl, rfl, rfl, rfl, rfl, rfl, rfl, rfl⟩
  all_goals
    go_enter Tryz.func69, Tryz.ntmps69
    go_wp2_with (first | (go_at_call 64; refine (hG _).mono ?_; rintro e w' ⟨rfl, hw⟩; replace hw := hw.symm; subst hw) | (go_at_call 50; refine (hS _ _).mono ?_; rintro e w' ⟨s, hs0, hs1, rfl, hw⟩; replace hw := hw.symm; subst hw) | (go_at_call 51; refine (hI _).mono ?_; rintro e w' ⟨rfl, hw⟩; replace hw := hw.symm; subst hw) | (go_at_call 49; refine (hP _).mono ?_; rintro e w' ⟨rfl, hw⟩; replace hw := hw.symm; subst hw) | (go_at_call 32; refine (once_any HC.out 2 (by decide) (by decide)).mono ?_; rintro e w' ⟨x, rfl, _, hc⟩; have HC : Hid (Cur W w' c a len cap) := hc; clear hc) | (go_at_call 30; refine (below_any HC.out _ (by decide) (by decide)).mono ?_; rintro e w' ⟨x, hx0, hx1, rfl, _, hc⟩; have HC : Hid (Cur W w' c a len cap) := hc; clear hc) | (go_at_call 91; refine (word_any HC.out).mono ?_; rintro e w' ⟨x, hx0, hx1, rfl, hc⟩; have HC : Hid (Cur W w' c a len cap) := hc; clear hc))
    all_goals
      go_ret
      refine ⟨_, ?_, ?_, rfl, HC.out⟩ <;> first | omega | exact (u64r _).1 | exact (u64r _).2
end Go.Proofs.YtddbekacdfohpaaGreatDoor.Q
