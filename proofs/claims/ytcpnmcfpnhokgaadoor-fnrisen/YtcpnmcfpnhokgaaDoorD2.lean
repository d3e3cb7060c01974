/- The model's draws of a form, a rounding, bits of a form. -/
import Derived.Test.YtcpnmcfpnhokgaaDoorD1
import Derived.Test.YtcpnmcfpnhokgaaDoorU3
namespace Go.Proofs.YtcpnmcfpnhokgaaDoor
open Go.RowKit

theorem Cur.alloc {W w : World} {c : Nat} {a : Option Addr} {len cap : Nat} (h : Cur W w c a len cap) (o : Obj) : Cur W (w.alloc o) c a len cap := by
  obtain ⟨hr, hsh, hbl, hlt, hge, hb, ⟨i, hh, hi0, hi1, hci, hch⟩, hfz⟩ := h
  have p : ∀ j, (w.alloc o).cell? ⟨c, j, none⟩ = w.cell? ⟨c, j, none⟩ := fun j => World.cell?_alloc_lt _ _ _ hlt
  refine ⟨hr, hsh, hbl.alloc hbl.size _, by simp; omega, hge, by rw [p]; exact hb, ⟨i, hh, hi0, hi1, by rw [p]; exact hci, by rw [p]; exact hch⟩, fun j => ?_⟩
  have := Below.frozen (B := w.heap.size) (w := w) (w' := w.alloc o) ((Below.refl _ _).alloc (Nat.le_refl _) _) (p := ⟨c, j, none⟩) hlt
  rw [this]
  exact hfz j

theorem form_any {W w : World} {c : Nat} {a : Option Addr} {len cap : Nat} (h : Cur W w c a len cap) :
    Calls Tryd.prog 86 #[.pointer (some ⟨c, 0, none⟩)] w fun e w' => ∃ x : Int, 1 ≤ x ∧ x ≤ 3 ∧ e = .returned (.int .i64 x) ∧ Cur W w' c a len cap := by
  have HC : Hid (Cur W w c a len cap) := h
  clear h
  go_enter Tryd.func86, Tryd.ntmps86
  go_wp2_with (go_at_call 57; refine (below_any HC.out 3 (by decide) (by decide)).mono ?_; rintro e w' ⟨x, hx0, hx1, rfl, _, hc⟩; have HC2 : Hid (Cur W w' c a len cap) := hc; clear hc)
  go_ret
  exact ⟨_, by omega, by omega, rfl, HC2.out⟩

theorem two_cells {w : World} {B : Nat} {v0 v1 : Int} (x : Int) (h0 : 0 ≤ x) (h1 : x < 2) (k0 : w.cell? ⟨B, 0, none⟩ = some (.int .i64 v0)) (k1 : w.cell? ⟨B, 1, none⟩ = some (.int .i64 v1)) :
    ∃ v, w.cell? ⟨B, x.toNat, none⟩ = some (.int .i64 v) := by
  have : x = 0 ∨ x = 1 := by omega
  rcases this with rfl | rfl
  · exact ⟨v0, k0⟩
  · exact ⟨v1, k1⟩

set_option maxHeartbeats 1000000 in
theorem pick_any {W w : World} {c : Nat} {a : Option Addr} {len cap : Nat} (h : Cur W w c a len cap) (B : Nat) (v0 v1 : Int) (hB : B ≠ c) (h0 : w.cell? ⟨B, 0, none⟩ = some (.int .i64 v0)) (h1 : w.cell? ⟨B, 1, none⟩ = some (.int .i64 v1)) :
    Calls Tryd.prog 87 #[.pointer (some ⟨c, 0, none⟩), .slice (some ⟨B, 0, none⟩) 2 2] w fun e w' => ∃ x : Int, e = .returned (.int .i64 x) ∧ Cur W w' c a len cap := by
  have HC : Hid (Cur W w c a len cap) := h
  clear h
  go_enter Tryd.func87, Tryd.ntmps87
  go_wp2_with (go_at_call 57; refine (below_any HC.out 2 (by decide) (by decide)).mono ?_; rintro e w' ⟨x, hx0, hx1, rfl, hfr, hc⟩; have HC2 : Hid (Cur W w' c a len cap) := hc; clear hc; obtain ⟨v, kx⟩ := two_cells x hx0 hx1 ((hfr B 0 hB).trans h0) ((hfr B 1 hB).trans h1); clear hfr h0 h1)
  go_ret
  exact ⟨_, rfl, HC2.out⟩

set_option maxHeartbeats 1000000 in
theorem mode_any {W w : World} {c : Nat} {a : Option Addr} {len cap : Nat} (h : Cur W w c a len cap) :
    Calls Tryd.prog 58 #[.pointer (some ⟨c, 0, none⟩)] w fun e w' => ∃ x : Int, e = .returned (.int .i64 x) ∧ Cur W w' c a len cap := by
  have HC : Hid (Cur W w c a len cap) := h
  clear h
  go_enter Tryd.func58, Tryd.ntmps58
  go_wp2_with (first | (go_at_call 56; refine (once_any HC.out 25 (by decide) (by decide)).mono ?_; rintro e w' ⟨x, rfl, _, hc⟩; have HC : Hid (Cur W w' c a len cap) := hc; clear hc) | (go_at_call 57; refine (below_any HC.out 5 (by decide) (by decide)).mono ?_; rintro e w' ⟨x, hx0, hx1, rfl, _, hc⟩; have HC : Hid (Cur W w' c a len cap) := hc; clear hc) | (go_at_call 87; refine (pick_any (HC.out.alloc _) _ 0 6 ?_ ?_ ?_).mono ?_; exact Nat.ne_of_gt HC.out.lt; go_simp; go_simp; rintro e w' ⟨x, rfl, hc⟩; have HC : Hid (Cur W w' c a len cap) := hc; clear hc))
  all_goals (go_ret; exact ⟨_, rfl, HC.out⟩)
end Go.Proofs.YtcpnmcfpnhokgaaDoor
