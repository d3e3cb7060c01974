/- The model's draws of a form with two words of bits. -/
import Derived.Test.YtcpnmcfpnhokgaaDoorHD1
import Derived.Test.YtcpnmcfpnhokgaaDoorN2
namespace Go.Proofs.YtcpnmcfpnhokgaaDoor
open Go.RowKit

theorem ubits_xor (x y : Int) : 0 ≤ bits .xor .u64 x y ∧ bits .xor .u64 x y < 18446744073709551616 := by
  unfold bits
  exact u64r _

set_option maxHeartbeats 2000000 in
theorem any_any {W w : World} {c : Nat} {a : Option Addr} {len cap : Nat} (h : Cur W w c a len cap) :
    Calls Tryd.prog 53 #[.pointer (some ⟨c, 0, none⟩)] w fun e w' => ∃ f x : Int, 0 ≤ x ∧ x < 18446744073709551616 ∧ e = .returned (.tuple #[.int .i64 f, .int .u64 x]) ∧ Cur W w' c a len cap := by
  have HC : Hid (Cur W w c a len cap) := h
  clear h
  go_enter Tryd.func53, Tryd.ntmps53
  go_wp2_with (first | (go_at_call 86; refine (form_any HC.out).mono ?_; rintro e w' ⟨x, hx0, hx1, rfl, hc⟩; have HC : Hid (Cur W w' c a len cap) := hc; clear hc; obtain ⟨wd, p, t, S, D, hh, q, hF⟩ := frm_of x (by omega)) | (go_at_call 55; refine (dbits_any HC.out hF).mono ?_; rintro e w' ⟨y, hy0, hy1, rfl, hc⟩; have HC : Hid (Cur W w' c a len cap) := hc; clear hc) | (go_at_call 56; refine (once_any HC.out 25 (by decide) (by decide)).mono ?_; rintro e w' ⟨o, rfl, _, hc⟩; have HC : Hid (Cur W w' c a len cap) := hc; clear hc) | (go_at_call 54; refine (word_any HC.out).mono ?_; rintro e w' ⟨y, hy0, hy1, rfl, hc⟩; have HC : Hid (Cur W w' c a len cap) := hc; clear hc) | (go_at_call 87; refine (pick_any (HC.out.alloc _) _ 0 4 ?_ ?_ ?_).mono ?_; exact Nat.ne_of_gt HC.out.lt; go_simp; go_simp; rintro e w' ⟨z, rfl, hc⟩; have HC : Hid (Cur W w' c a len cap) := hc; clear hc))
  all_goals
    go_ret2
    exact ⟨_, _, by omega, by omega, rfl, HC.out⟩

theorem Cur.fresh {w : World} {a : Option Addr} {len cap : Nat} (hr : Row w a len) (hl : (len : Int) ≤ 4611686018427387904) (x : Int) :
    Cur w (w.alloc (.cells #[.slice a len cap, .int .i64 0, .int .i64 x] 96)) w.heap.size a len cap :=
  ⟨hr, hl, (Below.refl _ _).alloc (Nat.le_refl _) _, by simp, Nat.le_refl _, by simp, ⟨0, x, by decide, by omega, by simp, by simp⟩, fun o => by go_simp⟩

set_option maxHeartbeats 2000000 in
theorem new_any {w : World} {a : Option Addr} {len cap : Nat} (hr : Row w a len) (hl : (len : Int) ≤ 4611686018427387904) :
    Calls Tryd.prog 52 #[.slice a len cap] w fun e w' => e = .returned (.pointer (some ⟨w.heap.size, 0, none⟩)) ∧ Cur w w' w.heap.size a len cap := by
  have HR : Hid (Row w a len) := hr
  clear hr
  go_enter Tryd.func52, Tryd.ntmps52
  go_wp2
  go_loop [3, 4] (fun h i => ∃ (k : Nat) (x : Int), k ≤ len ∧ i = .int .i64 k ∧ h = .int .i64 x) (fun _ i => len - (intOf i).toNat)
  case atStart => exact ⟨0, _, Nat.zero_le _, rfl, rfl⟩
  case round =>
    obtain ⟨k, x, hk, rfl, rfl⟩ := hrel
    by_cases hlt : k < len
    · obtain ⟨b, off, z, rfl, hbW, hz, hz0, hz1⟩ := HR.out k hlt
      by_cases h4 : (k : Int) < 4000
      · go_wp2
        go_round
        case rel => exact ⟨k + 1, _, by omega, by go_num, rfl⟩
        case measure => simp [intOf]; omega
      · go_wp2
        go_ret
        exact ⟨rfl, Cur.fresh HR.out hl _⟩
    · go_wp2
      go_ret
      exact ⟨rfl, Cur.fresh HR.out hl _⟩

/-- What the draw of two leaves: any form, two words, old memory as it was. -/
def Two (w : World) (n : Nat) (e : Ending) (w' : World) : Prop :=
  ∃ f m x y : Int, 0 ≤ x ∧ x < 18446744073709551616 ∧ 0 ≤ y ∧ y < 18446744073709551616 ∧ e = .returned (.tuple (if n = 4 then #[.int .i64 f, .int .i64 m, .int .u64 x, .int .u64 y] else #[.int .i64 f, .int .u64 x, .int .u64 y])) ∧ Below w.heap.size w w'

set_option maxHeartbeats 2000000 in
theorem two_any {w : World} {a : Option Addr} {len cap : Nat} (hr : Row w a len) (hl : (len : Int) ≤ 4611686018427387904) :
    Calls Tryd.prog 23 #[.slice a len cap] w (Two w 4) := by
  have HR : Hid (Row w a len) := hr
  clear hr
  unfold Two
  simp only [if_true]
  go_enter Tryd.func23, Tryd.ntmps23
  go_wp2_with (first | (go_at_call 52; refine (new_any HR.out hl).mono ?_; rintro e w' ⟨rfl, hc⟩; have HC : Hid (Cur w w' w.heap.size a len cap) := hc; clear hc) | (go_at_call 53; refine (any_any HC.out).mono ?_; rintro e w' ⟨f, x, hx0, hx1, rfl, hc⟩; have HC : Hid (Cur w w' w.heap.size a len cap) := hc; clear hc))
  by_cases hf : f < 1 ∨ 3 < f
  · go_wp2_with (first | (go_at_call 38; refine (l1Form_no f _ hf).mono ?_; rintro e w' ⟨rfl, hw⟩; replace hw := hw.symm; subst hw) | (go_at_call 54; refine (word_any HC.out).mono ?_; rintro e w' ⟨y, hy0, hy1, rfl, hc⟩; have HC : Hid (Cur w w' w.heap.size a len cap) := hc; clear hc) | (go_at_call 58; refine (mode_any HC.out).mono ?_; rintro e w' ⟨m, rfl, hc⟩; have HC : Hid (Cur w w' w.heap.size a len cap) := hc; clear hc))
    exact bodyPost_ret (v := .tuple #[.int .i64 f, .int .i64 m, .int .u64 x, .int .u64 y]) (by simp [results, Tryd.results23, go_sem]) rfl ⟨f, m, x, y, hx0, hx1, hy0, hy1, rfl, HC.out.below⟩
  · obtain ⟨wd, p, t, S, D, hh, q, hF⟩ := frm_of f hf
    go_wp2_with (first | (go_at_call 38; refine (l1Form_any hF.form _).mono ?_; rintro e w' ⟨rfl, hw⟩; replace hw := hw.symm; subst hw) | (go_at_call 54; refine (word_any HC.out).mono ?_; rintro e w' ⟨y, hy0, hy1, rfl, hc⟩; have HC : Hid (Cur w w' w.heap.size a len cap) := hc; clear hc) | (go_at_call 55; refine (dbits_any HC.out hF).mono ?_; rintro e w' ⟨y, hy0, hy1, rfl, hc⟩; have HC : Hid (Cur w w' w.heap.size a len cap) := hc; clear hc) | (go_at_call 56; refine (once_any HC.out 6 (by decide) (by decide)).mono ?_; rintro e w' ⟨o, rfl, _, hc⟩; have HC : Hid (Cur w w' w.heap.size a len cap) := hc; clear hc) | (go_at_call 44; refine (l1Sign_true hF.form _).mono ?_; rintro e w' ⟨rfl, hw⟩; replace hw := hw.symm; subst hw) | (go_at_call 57; refine (below_any HC.out 3 (by decide) (by decide)).mono ?_; rintro e w' ⟨z, hz0, hz1, rfl, _, hc⟩; have HC : Hid (Cur w w' w.heap.size a len cap) := hc; clear hc) | (go_at_call 58; refine (mode_any HC.out).mono ?_; rintro e w' ⟨m, rfl, hc⟩; have HC : Hid (Cur w w' w.heap.size a len cap) := hc; clear hc))
    · exact bodyPost_ret (v := .tuple #[.int .i64 f, .int .i64 m, .int .u64 x, .int .u64 (bits .xor .u64 (bits .xor .u64 x S) z)]) (by simp [results, Tryd.results23, go_sem]) rfl ⟨f, m, x, _, hx0, hx1, (ubits_xor _ _).1, (ubits_xor _ _).2, rfl, HC.out.below⟩
    · exact bodyPost_ret (v := .tuple #[.int .i64 f, .int .i64 m, .int .u64 x, .int .u64 y]) (by simp [results, Tryd.results23, go_sem]) rfl ⟨f, m, x, y, hx0, hx1, hy0, hy1, rfl, HC.out.below⟩

set_option maxHeartbeats 1000000 in
theorem drawCompare_any {w : World} {a : Option Addr} {len cap : Nat} (hr : Row w a len) (hl : (len : Int) ≤ 4611686018427387904) :
    Calls Tryd.prog 20 #[.slice a len cap] w (Two w 3) := by
  have HT : Hid (Calls Tryd.prog 23 #[.slice a len cap] w (Two w 4)) := two_any hr hl
  clear hr
  unfold Two
  simp only [if_neg (show ¬ (3 = 4) by decide)]
  go_enter Tryd.func20, Tryd.ntmps20
  go_wp2_with (go_at_call 23; refine HT.out.mono ?_; rintro e w' ⟨f, m, x, y, hx0, hx1, hy0, hy1, rfl, hb⟩; simp only [if_true])
  go_ret3
  exact ⟨f, m, x, y, hx0, hx1, hy0, hy1, rfl, hb⟩

end Go.Proofs.YtcpnmcfpnhokgaaDoor
