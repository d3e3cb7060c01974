/- RsOk: both sides. -/
import Derived.Test.YtamcpmclnjngcaaGT
import Derived.Test.YtamcpmclnjngcaaGU
import Derived.Test.YtamcpmclnjngcaaGR
namespace Go.Proofs.Ytamcpmclnjngcaa
open Go.RowKit

theorem syz_clean {n t : Nat} {g : Nat → Nat} : (∀ k, k < 16 → syz n g (2 * t) k = 0) ↔ ∀ i, i < 2 * t → i < 16 → syn n g i = 0 := by
  unfold syz
  refine ⟨fun h i hi h16 => ?_, fun h k hk => ?_⟩
  · have := h i h16
    rw [if_pos hi] at this
    exact this
  · split
    · rename_i hi; exact h k hi hk
    · rfl

/-- Whether a word is taken and clean. -/
def rok (n : Nat) (xs : Nat → Int) (t : Int) : Bool := decide (Bk (n : Int) t) && cln n (nb n xs) (2 * t.toNat)

set_option maxRecDepth 20000 in
set_option maxHeartbeats 2000000 in
theorem iOk_any {w : World} {v : Value} {n : Nat} {xs : Nat → Int} {t : Int} (hv : Bl w v n xs) (hb : Byt n xs) (hn : n ≤ 1048576) : Calls Try.prog 12 #[v, .int .i64 t] w fun e w' => e = .returned (.bool (rok n xs t)) ∧ Below w.heap.size w w' := by
  have i1 := iBlock_any (n : Int) t
  by_cases h : Bk (n : Int) t
  · rw [decide_eq_true h] at i1
    obtain ⟨T, rfl⟩ : ∃ T : Nat, t = (T : Int) := ⟨t.toNat, by have := h.1; omega⟩
    have i2 := syn_any hv hb hn (t := T) (by have := h.1; omega)
    obtain ⟨r, hr⟩ : ∃ r, r = rok n xs T := ⟨_, rfl⟩
    have hr2 : r = true ↔ ∀ k, k < 16 → syz n (nb n xs) (2 * T) k = 0 := by
      rw [hr, rok, decide_eq_true h, Bool.true_and, Int.toNat_natCast]
      have hT := h.1
      rw [syz_clean, cln_iff]
      exact ⟨fun h i hi _ => h i hi, fun h i hi => h i hi (by omega)⟩
    have i3 : ∀ W, (Op.equalIn 10000 45 (agv (syz n (nb n xs) (2 * T))) (.agg #[.int .u8 0, .int .u8 0, .int .u8 0, .int .u8 0, .int .u8 0, .int .u8 0, .int .u8 0, .int .u8 0, .int .u8 0, .int .u8 0, .int .u8 0, .int .u8 0, .int .u8 0, .int .u8 0, .int .u8 0, .int .u8 0])).run Try.prog W = .ok r W := fun W => eql16 _ W hr2
    rw [← hr]
    clear hr hr2 h
    obtain ⟨ao, cap, rfl, hcap, hc⟩ := hv
    clear hc hb
    generalize syz n (nb n xs) (2 * T) = f at *
    go_enter Try.func12, Try.ntmps12
    go_wp2_with (first | (go_at_call 30; (with_reducible refine (i1 _).mono ?_); rintro e w' ⟨rfl, hw⟩; obtain rfl := hw.symm) | (go_at_call 32; (with_reducible refine i2.mono ?_); rintro e w3 ⟨rfl, hb3⟩; have i4 := i3 w3; have HB : Hid (Below w.heap.size w w3) := hb3; clear hb3))
    go_ret
    exact ⟨rfl, HB.out⟩
  · rw [decide_eq_false h] at i1
    rw [show rok n xs t = false by rw [rok, decide_eq_false h, Bool.false_and]]
    clear h
    obtain ⟨ao, cap, rfl, hcap, hc⟩ := hv
    clear hc hb
    go_enter Try.func12, Try.ntmps12
    go_wp2_with (first | (go_at_call 30; (with_reducible refine (i1 _).mono ?_); rintro e w' ⟨rfl, hw⟩; obtain rfl := hw.symm))
    go_ret
    exact ⟨rfl, Below.refl _ _⟩

set_option maxRecDepth 20000 in
set_option maxHeartbeats 2000000 in
theorem sOk_any {w : World} {v : Value} {n : Nat} {xs : Nat → Int} {t : Int} (hv : Bl w v n xs) (hb : Byt n xs) (hn : n ≤ 1048576) : Calls Try.prog 26 #[v, .int .i64 t] w fun e w' => e = .returned (.bool (rok n xs t)) ∧ Below w.heap.size w w' := by
  have i1 := sWord_any (t := t) hv
  by_cases h : Bk (n : Int) t
  · rw [decide_eq_true h] at i1
    obtain ⟨T, rfl⟩ : ∃ T : Nat, t = (T : Int) := ⟨t.toNat, by have := h.1; omega⟩
    have i2 := signs_any hv hb hn (t := T) (by have := h.1; omega)
    obtain ⟨r, hr⟩ : ∃ r, r = cln n (nb n xs) (2 * T) := ⟨_, rfl⟩
    rw [show rok n xs T = r by rw [rok, decide_eq_true h, Bool.true_and, Int.toNat_natCast, hr]]
    rw [← hr] at i2
    clear hr h
    obtain ⟨ao, cap, rfl, hcap, hc⟩ := hv
    clear hc hb
    go_enter Try.func26, Try.ntmps26
    go_wp2_with (first | (go_at_call 37; (with_reducible refine (i1).mono ?_); rintro e w' ⟨rfl, hw⟩; obtain rfl := hw.symm) | (go_at_call 38; (with_reducible refine i2.mono ?_); rintro e w3 ⟨u, rfl, hu, hb3⟩; have HB : Hid (Below w.heap.size w w3) := hb3; clear hb3 hu))
    go_ret
    exact ⟨rfl, HB.out⟩
  · rw [decide_eq_false h] at i1
    rw [show rok n xs t = false by rw [rok, decide_eq_false h, Bool.false_and]]
    clear h
    obtain ⟨ao, cap, rfl, hcap, hc⟩ := hv
    clear hc hb
    go_enter Try.func26, Try.ntmps26
    go_wp2_with (first | (go_at_call 37; (with_reducible refine (i1).mono ?_); rintro e w' ⟨rfl, hw⟩; obtain rfl := hw.symm))
    go_ret
    exact ⟨rfl, Below.refl _ _⟩
end Go.Proofs.Ytamcpmclnjngcaa
