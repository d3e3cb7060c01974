/- The model's draws of a form with two words of bits. -/
import Derived.Test.YtnneampkecnphaaDoorD3
import Derived.Test.YtnneampkecnphaaDoorN2
namespace Go.Proofs.YtnneampkecnphaaDoor
open Go.RowKit

theorem ubits_xor (x y : Int) : 0 ≤ bits .xor .u64 x y ∧ bits .xor .u64 x y < 18446744073709551616 := by
  unfold bits
  exact u64r _

set_option maxHeartbeats 2000000 in
theorem any_any {W w : World} {c : Nat} {a : Option Addr} {len cap : Nat} (h : Cur W w c a len cap) :
    Calls Tryd.prog 10 #[.pointer (some ⟨c, 0, none⟩)] w fun e w' => ∃ f x : Int, 0 ≤ x ∧ x < 18446744073709551616 ∧ e = .returned (.tuple #[.int .i64 f, .int .u64 x]) ∧ Cur W w' c a len cap := by
  have HC : Hid (Cur W w c a len cap) := h
  clear h
  go_enter Tryd.func10, Tryd.ntmps10
  go_wp2_with (first | (go_at_call 21; refine (form_any HC.out).mono ?_; rintro e w' ⟨x, hx0, hx1, rfl, hc⟩; have HC : Hid (Cur W w' c a len cap) := hc; clear hc; obtain ⟨wd, p, t, S, D, hh, q, hF⟩ := frm_of x (by omega)) | (go_at_call 22; refine (bits_any HC.out hF).mono ?_; rintro e w' ⟨y, hy0, hy1, rfl, hc⟩; have HC : Hid (Cur W w' c a len cap) := hc; clear hc) | (go_at_call 23; refine (once_any HC.out 25 (by decide) (by decide)).mono ?_; rintro e w' ⟨o, rfl, _, hc⟩; have HC : Hid (Cur W w' c a len cap) := hc; clear hc) | (go_at_call 24; refine (word_any HC.out).mono ?_; rintro e w' ⟨y, hy0, hy1, rfl, hc⟩; have HC : Hid (Cur W w' c a len cap) := hc; clear hc) | (go_at_call 25; refine (pick_any (HC.out.alloc _) _ 0 4 ?_ ?_ ?_).mono ?_; exact Nat.ne_of_gt HC.out.lt; go_simp; go_simp; rintro e w' ⟨z, rfl, hc⟩; have HC : Hid (Cur W w' c a len cap) := hc; clear hc))
  all_goals
    go_ret2
    exact ⟨_, _, by omega, by omega, rfl, HC.out⟩

theorem Cur.fresh {w : World} {a : Option Addr} {len cap : Nat} (hr : Row w a len) (hl : (len : Int) ≤ 4611686018427387904) (x : Int) :
    Cur w (w.alloc (.cells #[.slice a len cap, .int .i64 0, .int .i64 x] 53)) w.heap.size a len cap :=
  ⟨hr, hl, (Below.refl _ _).alloc (Nat.le_refl _) _, by simp, Nat.le_refl _, by simp, ⟨0, x, by decide, by omega, by simp, by simp⟩, fun o => by go_simp⟩

set_option maxHeartbeats 2000000 in
theorem new_any {w : World} {a : Option Addr} {len cap : Nat} (hr : Row w a len) (hl : (len : Int) ≤ 4611686018427387904) :
    Calls Tryd.prog 11 #[.slice a len cap] w fun e w' => e = .returned (.pointer (some ⟨w.heap.size, 0, none⟩)) ∧ Cur w w' w.heap.size a len cap := by
  have HR : Hid (Row w a len) := hr
  clear hr
  go_enter Tryd.func11, Tryd.ntmps11
  go_wp2
  go_loop [3, 4] (fun h i => ∃ (k : Nat) (x : Int), k ≤ len ∧ i = .int .i64 k ∧ h = .int .i64 x) (fun _ i => len - (intOf i).toNat)
  case atStart => exact ⟨0, _, Nat.zero_le _, rfl, rfl⟩
  case round =>
    obtain ⟨k, x, hk, rfl, rfl⟩ := hrel
    by_cases hlt : k < len
    · obtain ⟨b, off, z, rfl, hbW, hz, hz0, hz1⟩ := HR.out k hlt
      by_cases h4 : (k : Int) < 4000
      · go_wp2
        go_round
        case rel => exact ⟨k + 1, _, by omega, by go_num, rfl⟩
        case measure => simp [intOf]; omega
      · go_wp2
        go_ret
        exact ⟨rfl, Cur.fresh HR.out hl _⟩
    · go_wp2
      go_ret
      exact ⟨rfl, Cur.fresh HR.out hl _⟩

/-- What the draw of two leaves: any form, two words, old memory as it was. -/
def Two (w : World) (n : Nat) (e : Ending) (w' : World) : Prop :=
  ∃ f m x y : Int, 0 ≤ x ∧ x < 18446744073709551616 ∧ 0 ≤ y ∧ y < 18446744073709551616 ∧ e = .returned (.tuple (if n = 4 then #[.int .i64 f, .int .i64 m, .int .u64 x, .int .u64 y] else #[.int .i64 f, .int .u64 x, .int .u64 y])) ∧ Below w.heap.size w w'

end Go.Proofs.YtnneampkecnphaaDoor
