/- Spread in plain numbers; which coders there are. -/
import Derived.Test.YtgkcofjhajjjgaaTV
import Derived.Test.YtgkcofjhajjjgaaCB
import Derived.Test.YtgkcofjhajjjgaaAZ
namespace Go.Proofs.Ytgkcofjhajjjgaa
open Go.RowKit

/-- The next state, the bits that go in (noughts behind them), the register, what is told. -/
def nx (M s b : Nat) : Nat := (2 * s + b) % 2 ^ M
def ub (n : Nat) (xs : Nat → Int) (i : Nat) : Nat := if i < n then (xs i).toNat else 0
def stt (M : Nat) (u : Nat → Nat) (i : Nat) : Nat := Tr.ru (nx M) u i
def rgg (M : Nat) (u : Nat → Nat) (i : Nat) : Nat := 2 * stt M u i + u i
def spd (M a b : Nat) (u : Nat → Nat) (k : Nat) : Int := ((par (rgg M u (k / 2) &&& (if k % 2 = 0 then a else b)) : Nat) : Int)

theorem six_nat {M : Nat} (h : 1 ≤ M ∧ M ≤ 6) : M = 1 ∨ M = 2 ∨ M = 3 ∨ M = 4 ∨ M = 5 ∨ M = 6 := by omega

theorem ub_le {n : Nat} {xs : Nat → Int} (h : ∀ k, k < n → Bit (xs k)) (i : Nat) : ub n xs i ≤ 1 := by
  unfold ub
  split
  · rename_i hi
    rcases h i hi with e | e <;> rw [e] <;> decide
  · omega

theorem stt_lt {M : Nat} (_ : 1 ≤ M ∧ M ≤ 6) {u : Nat → Nat} (i : Nat) : stt M u i < 2 ^ M := by
  cases i with
  | zero => exact Nat.two_pow_pos M
  | succ i => exact Nat.mod_lt _ (Nat.two_pow_pos M)

theorem pow_le64 {M : Nat} (hM : 1 ≤ M ∧ M ≤ 6) : 2 ^ M ≤ 64 := by
  rcases six_nat hM with rfl | rfl | rfl | rfl | rfl | rfl <;> decide

theorem stt_le {M : Nat} (hM : 1 ≤ M ∧ M ≤ 6) {u : Nat → Nat} (i : Nat) : stt M u i ≤ 63 := by
  have h1 := stt_lt hM (u := u) i
  have h2 := pow_le64 hM
  omega

theorem rgg_lt {M : Nat} (hM : 1 ≤ M ∧ M ≤ 6) {u : Nat → Nat} {i : Nat} (hu : u i ≤ 1) : rgg M u i < 128 := by
  have := stt_le hM (u := u) i
  unfold rgg
  omega

theorem stt_next (M : Nat) (u : Nat → Nat) (i : Nat) : rgg M u i % 2 ^ M = stt M u (i + 1) := rfl

/-- The long register of the document, and the short one. -/
theorem reg_mod {M r x : Nat} (hM : 1 ≤ M ∧ M ≤ 6) (hx : x ≤ 1) : (2 * r + x) % 2 ^ (M + 1) = 2 * (r % 2 ^ M) + x := by
  rcases six_nat hM with rfl | rfl | rfl | rfl | rfl | rfl
  all_goals simp only [Nat.reduceAdd, Nat.reducePow]; omega

theorem ils_spd (M a b : Nat) (u : Nat → Nat) (i : Nat) : ils (spd M a b u) (2 * i) ++ [.int .i64 ((par (rgg M u i &&& a) : Nat) : Int), .int .i64 ((par (rgg M u i &&& b) : Nat) : Int)] = ils (spd M a b u) (2 * i + 2) := by
  rw [show 2 * i + 2 = 2 * i + 1 + 1 by omega, ils_snoc, ils_snoc, List.append_assoc]
  have e1 : spd M a b u (2 * i) = ((par (rgg M u i &&& a) : Nat) : Int) := by
    unfold spd
    rw [show 2 * i / 2 = i by omega, if_pos (by omega)]
  have e2 : spd M a b u (2 * i + 1) = ((par (rgg M u i &&& b) : Nat) : Int) := by
    unfold spd
    rw [show (2 * i + 1) / 2 = i by omega, if_neg (by omega)]
  rw [e1, e2]
  rfl

theorem two_new (w : World) (x y : Value) (t : TypeId) : ∀ j u, [x, y][j]? = some u → (w.alloc (.cells #[x, y] t)).cell? ((⟨w.heap.size, 0, none⟩ : Addr).add j) = some u := by
  intro j u h
  match j, h with
  | 0, h => simp at h; subst h; simp [Addr.add]
  | 1, h => simp at h; subst h; simp [Addr.add]
  | n + 2, h => simp at h

theorem mk_lt {m : Int} (hm : 1 ≤ m ∧ m ≤ 6) {a : Int} (h : Mk m a) : 0 ≤ a ∧ a < 128 := by
  have := pw_bounds hm
  unfold Mk at h
  omega

set_option maxHeartbeats 2000000 in
theorem sCoder_any (m a b : Int) (w : World) : Calls Try.prog 44 #[.int .i64 m, .int .i64 a, .int .i64 b] w fun e w' => e = .returned (.bool (decide (Cd m a b))) ∧ w' = w := by
  have i1 := in_any m 1 6
  by_cases hm : 1 ≤ m ∧ m ≤ 6
  · rw [decide_eq_true hm] at i1
    rcases six hm with rfl | rfl | rfl | rfl | rfl | rfl
    · have e0 : 2 * pw 1 = 4 := by decide
      have i2 := in_any a 1 3
      have i3 := in_any b 1 3
      obtain ⟨d, hd⟩ : ∃ d, d = decide (Cd 1 a b) := ⟨_, rfl⟩
      rw [← hd]
      have HD : Hid (d = decide (Cd 1 a b)) := hd
      have E0 : Hid (2 * pw 1 = 4) := e0
      clear hd hm e0
      by_cases h2 : 1 ≤ a ∧ a ≤ 3
      · rw [decide_eq_true h2] at i2
        have H2 : Hid (1 ≤ a ∧ a ≤ 3) := h2
        obtain ⟨x, hx⟩ : ∃ x, x = decide (1 ≤ b ∧ b ≤ 3) := ⟨_, rfl⟩
        rw [← hx] at i3
        have HX : Hid (x = decide (1 ≤ b ∧ b ≤ 3)) := hx
        clear hx h2
        go_enter Try.func44, Try.ntmps44
        go_wp2_with (first | (go_at_call 45; (with_reducible refine (i1 _).mono ?_); rintro e w' ⟨rfl, hw⟩; obtain rfl := hw.symm) | (go_at_call 45; (with_reducible refine (i2 _).mono ?_); rintro e w' ⟨rfl, hw⟩; obtain rfl := hw.symm) | (go_at_call 45; (with_reducible refine (i3 _).mono ?_); rintro e w' ⟨rfl, hw⟩; obtain rfl := hw.symm))
        go_ret
        refine ⟨congrArg (fun z => Ending.returned (.bool z)) ?_, rfl⟩
        rw [HD.out, HX.out]
        refine decide_eq_decide.2 ⟨fun h => ⟨by omega, ⟨H2.out.1, ?_⟩, ⟨h.1, ?_⟩⟩, fun h => ⟨h.2.2.1, ?_⟩⟩
        · rw [E0.out]; have := H2.out.2; omega
        · rw [E0.out]; have := h.2; omega
        · have h9 := h.2.2.2; rw [E0.out] at h9; omega
      · rw [decide_eq_false h2] at i2
        have H2 : Hid (¬ (1 ≤ a ∧ a ≤ 3)) := h2
        clear h2 i3
        go_enter Try.func44, Try.ntmps44
        go_wp2_with (first | (go_at_call 45; (with_reducible refine (i1 _).mono ?_); rintro e w' ⟨rfl, hw⟩; obtain rfl := hw.symm) | (go_at_call 45; (with_reducible refine (i2 _).mono ?_); rintro e w' ⟨rfl, hw⟩; obtain rfl := hw.symm))
        go_ret
        refine ⟨congrArg (fun z => Ending.returned (.bool z)) ?_, rfl⟩
        rw [HD.out]
        refine (decide_eq_false (fun h => H2.out ⟨h.2.1.1, ?_⟩)).symm
        have h9 := h.2.1.2; rw [E0.out] at h9; omega
    · have e0 : 2 * pw 2 = 8 := by decide
      have i2 := in_any a 1 7
      have i3 := in_any b 1 7
      obtain ⟨d, hd⟩ : ∃ d, d = decide (Cd 2 a b) := ⟨_, rfl⟩
      rw [← hd]
      have HD : Hid (d = decide (Cd 2 a b)) := hd
      have E0 : Hid (2 * pw 2 = 8) := e0
      clear hd hm e0
      by_cases h2 : 1 ≤ a ∧ a ≤ 7
      · rw [decide_eq_true h2] at i2
        have H2 : Hid (1 ≤ a ∧ a ≤ 7) := h2
        obtain ⟨x, hx⟩ : ∃ x, x = decide (1 ≤ b ∧ b ≤ 7) := ⟨_, rfl⟩
        rw [← hx] at i3
        have HX : Hid (x = decide (1 ≤ b ∧ b ≤ 7)) := hx
        clear hx h2
        go_enter Try.func44, Try.ntmps44
        go_wp2_with (first | (go_at_call 45; (with_reducible refine (i1 _).mono ?_); rintro e w' ⟨rfl, hw⟩; obtain rfl := hw.symm) | (go_at_call 45; (with_reducible refine (i2 _).mono ?_); rintro e w' ⟨rfl, hw⟩; obtain rfl := hw.symm) | (go_at_call 45; (with_reducible refine (i3 _).mono ?_); rintro e w' ⟨rfl, hw⟩; obtain rfl := hw.symm))
        go_ret
        refine ⟨congrArg (fun z => Ending.returned (.bool z)) ?_, rfl⟩
        rw [HD.out, HX.out]
        refine decide_eq_decide.2 ⟨fun h => ⟨by omega, ⟨H2.out.1, ?_⟩, ⟨h.1, ?_⟩⟩, fun h => ⟨h.2.2.1, ?_⟩⟩
        · rw [E0.out]; have := H2.out.2; omega
        · rw [E0.out]; have := h.2; omega
        · have h9 := h.2.2.2; rw [E0.out] at h9; omega
      · rw [decide_eq_false h2] at i2
        have H2 : Hid (¬ (1 ≤ a ∧ a ≤ 7)) := h2
        clear h2 i3
        go_enter Try.func44, Try.ntmps44
        go_wp2_with (first | (go_at_call 45; (with_reducible refine (i1 _).mono ?_); rintro e w' ⟨rfl, hw⟩; obtain rfl := hw.symm) | (go_at_call 45; (with_reducible refine (i2 _).mono ?_); rintro e w' ⟨rfl, hw⟩; obtain rfl := hw.symm))
        go_ret
        refine ⟨congrArg (fun z => Ending.returned (.bool z)) ?_, rfl⟩
        rw [HD.out]
        refine (decide_eq_false (fun h => H2.out ⟨h.2.1.1, ?_⟩)).symm
        have h9 := h.2.1.2; rw [E0.out] at h9; omega
    · have e0 : 2 * pw 3 = 16 := by decide
      have i2 := in_any a 1 15
      have i3 := in_any b 1 15
      obtain ⟨d, hd⟩ : ∃ d, d = decide (Cd 3 a b) := ⟨_, rfl⟩
      rw [← hd]
      have HD : Hid (d = decide (Cd 3 a b)) := hd
      have E0 : Hid (2 * pw 3 = 16) := e0
      clear hd hm e0
      by_cases h2 : 1 ≤ a ∧ a ≤ 15
      · rw [decide_eq_true h2] at i2
        have H2 : Hid (1 ≤ a ∧ a ≤ 15) := h2
        obtain ⟨x, hx⟩ : ∃ x, x = decide (1 ≤ b ∧ b ≤ 15) := ⟨_, rfl⟩
        rw [← hx] at i3
        have HX : Hid (x = decide (1 ≤ b ∧ b ≤ 15)) := hx
        clear hx h2
        go_enter Try.func44, Try.ntmps44
        go_wp2_with (first | (go_at_call 45; (with_reducible refine (i1 _).mono ?_); rintro e w' ⟨rfl, hw⟩; obtain rfl := hw.symm) | (go_at_call 45; (with_reducible refine (i2 _).mono ?_); rintro e w' ⟨rfl, hw⟩; obtain rfl := hw.symm) | (go_at_call 45; (with_reducible refine (i3 _).mono ?_); rintro e w' ⟨rfl, hw⟩; obtain rfl := hw.symm))
        go_ret
        refine ⟨congrArg (fun z => Ending.returned (.bool z)) ?_, rfl⟩
        rw [HD.out, HX.out]
        refine decide_eq_decide.2 ⟨fun h => ⟨by omega, ⟨H2.out.1, ?_⟩, ⟨h.1, ?_⟩⟩, fun h => ⟨h.2.2.1, ?_⟩⟩
        · rw [E0.out]; have := H2.out.2; omega
        · rw [E0.out]; have := h.2; omega
        · have h9 := h.2.2.2; rw [E0.out] at h9; omega
      · rw [decide_eq_false h2] at i2
        have H2 : Hid (¬ (1 ≤ a ∧ a ≤ 15)) := h2
        clear h2 i3
        go_enter Try.func44, Try.ntmps44
        go_wp2_with (first | (go_at_call 45; (with_reducible refine (i1 _).mono ?_); rintro e w' ⟨rfl, hw⟩; obtain rfl := hw.symm) | (go_at_call 45; (with_reducible refine (i2 _).mono ?_); rintro e w' ⟨rfl, hw⟩; obtain rfl := hw.symm))
        go_ret
        refine ⟨congrArg (fun z => Ending.returned (.bool z)) ?_, rfl⟩
        rw [HD.out]
        refine (decide_eq_false (fun h => H2.out ⟨h.2.1.1, ?_⟩)).symm
        have h9 := h.2.1.2; rw [E0.out] at h9; omega
    · have e0 : 2 * pw 4 = 32 := by decide
      have i2 := in_any a 1 31
      have i3 := in_any b 1 31
      obtain ⟨d, hd⟩ : ∃ d, d = decide (Cd 4 a b) := ⟨_, rfl⟩
      rw [← hd]
      have HD : Hid (d = decide (Cd 4 a b)) := hd
      have E0 : Hid (2 * pw 4 = 32) := e0
      clear hd hm e0
      by_cases h2 : 1 ≤ a ∧ a ≤ 31
      · rw [decide_eq_true h2] at i2
        have H2 : Hid (1 ≤ a ∧ a ≤ 31) := h2
        obtain ⟨x, hx⟩ : ∃ x, x = decide (1 ≤ b ∧ b ≤ 31) := ⟨_, rfl⟩
        rw [← hx] at i3
        have HX : Hid (x = decide (1 ≤ b ∧ b ≤ 31)) := hx
        clear hx h2
        go_enter Try.func44, Try.ntmps44
        go_wp2_with (first | (go_at_call 45; (with_reducible refine (i1 _).mono ?_); rintro e w' ⟨rfl, hw⟩; obtain rfl := hw.symm) | (go_at_call 45; (with_reducible refine (i2 _).mono ?_); rintro e w' ⟨rfl, hw⟩; obtain rfl := hw.symm) | (go_at_call 45; (with_reducible refine (i3 _).mono ?_); rintro e w' ⟨rfl, hw⟩; obtain rfl := hw.symm))
        go_ret
        refine ⟨congrArg (fun z => Ending.returned (.bool z)) ?_, rfl⟩
        rw [HD.out, HX.out]
        refine decide_eq_decide.2 ⟨fun h => ⟨by omega, ⟨H2.out.1, ?_⟩, ⟨h.1, ?_⟩⟩, fun h => ⟨h.2.2.1, ?_⟩⟩
        · rw [E0.out]; have := H2.out.2; omega
        · rw [E0.out]; have := h.2; omega
        · have h9 := h.2.2.2; rw [E0.out] at h9; omega
      · rw [decide_eq_false h2] at i2
        have H2 : Hid (¬ (1 ≤ a ∧ a ≤ 31)) := h2
        clear h2 i3
        go_enter Try.func44, Try.ntmps44
        go_wp2_with (first | (go_at_call 45; (with_reducible refine (i1 _).mono ?_); rintro e w' ⟨rfl, hw⟩; obtain rfl := hw.symm) | (go_at_call 45; (with_reducible refine (i2 _).mono ?_); rintro e w' ⟨rfl, hw⟩; obtain rfl := hw.symm))
        go_ret
        refine ⟨congrArg (fun z => Ending.returned (.bool z)) ?_, rfl⟩
        rw [HD.out]
        refine (decide_eq_false (fun h => H2.out ⟨h.2.1.1, ?_⟩)).symm
        have h9 := h.2.1.2; rw [E0.out] at h9; omega
    · have e0 : 2 * pw 5 = 64 := by decide
      have i2 := in_any a 1 63
      have i3 := in_any b 1 63
      obtain ⟨d, hd⟩ : ∃ d, d = decide (Cd 5 a b) := ⟨_, rfl⟩
      rw [← hd]
      have HD : Hid (d = decide (Cd 5 a b)) := hd
      have E0 : Hid (2 * pw 5 = 64) := e0
      clear hd hm e0
      by_cases h2 : 1 ≤ a ∧ a ≤ 63
      · rw [decide_eq_true h2] at i2
        have H2 : Hid (1 ≤ a ∧ a ≤ 63) := h2
        obtain ⟨x, hx⟩ : ∃ x, x = decide (1 ≤ b ∧ b ≤ 63) := ⟨_, rfl⟩
        rw [← hx] at i3
        have HX : Hid (x = decide (1 ≤ b ∧ b ≤ 63)) := hx
        clear hx h2
        go_enter Try.func44, Try.ntmps44
        go_wp2_with (first | (go_at_call 45; (with_reducible refine (i1 _).mono ?_); rintro e w' ⟨rfl, hw⟩; obtain rfl := hw.symm) | (go_at_call 45; (with_reducible refine (i2 _).mono ?_); rintro e w' ⟨rfl, hw⟩; obtain rfl := hw.symm) | (go_at_call 45; (with_reducible refine (i3 _).mono ?_); rintro e w' ⟨rfl, hw⟩; obtain rfl := hw.symm))
        go_ret
        refine ⟨congrArg (fun z => Ending.returned (.bool z)) ?_, rfl⟩
        rw [HD.out, HX.out]
        refine decide_eq_decide.2 ⟨fun h => ⟨by omega, ⟨H2.out.1, ?_⟩, ⟨h.1, ?_⟩⟩, fun h => ⟨h.2.2.1, ?_⟩⟩
        · rw [E0.out]; have := H2.out.2; omega
        · rw [E0.out]; have := h.2; omega
        · have h9 := h.2.2.2; rw [E0.out] at h9; omega
      · rw [decide_eq_false h2] at i2
        have H2 : Hid (¬ (1 ≤ a ∧ a ≤ 63)) := h2
        clear h2 i3
        go_enter Try.func44, Try.ntmps44
        go_wp2_with (first | (go_at_call 45; (with_reducible refine (i1 _).mono ?_); rintro e w' ⟨rfl, hw⟩; obtain rfl := hw.symm) | (go_at_call 45; (with_reducible refine (i2 _).mono ?_); rintro e w' ⟨rfl, hw⟩; obtain rfl := hw.symm))
        go_ret
        refine ⟨congrArg (fun z => Ending.returned (.bool z)) ?_, rfl⟩
        rw [HD.out]
        refine (decide_eq_false (fun h => H2.out ⟨h.2.1.1, ?_⟩)).symm
        have h9 := h.2.1.2; rw [E0.out] at h9; omega
    · have e0 : 2 * pw 6 = 128 := by decide
      have i2 := in_any a 1 127
      have i3 := in_any b 1 127
      obtain ⟨d, hd⟩ : ∃ d, d = decide (Cd 6 a b) := ⟨_, rfl⟩
      rw [← hd]
      have HD : Hid (d = decide (Cd 6 a b)) := hd
      have E0 : Hid (2 * pw 6 = 128) := e0
      clear hd hm e0
      by_cases h2 : 1 ≤ a ∧ a ≤ 127
      · rw [decide_eq_true h2] at i2
        have H2 : Hid (1 ≤ a ∧ a ≤ 127) := h2
        obtain ⟨x, hx⟩ : ∃ x, x = decide (1 ≤ b ∧ b ≤ 127) := ⟨_, rfl⟩
        rw [← hx] at i3
        have HX : Hid (x = decide (1 ≤ b ∧ b ≤ 127)) := hx
        clear hx h2
        go_enter Try.func44, Try.ntmps44
        go_wp2_with (first | (go_at_call 45; (with_reducible refine (i1 _).mono ?_); rintro e w' ⟨rfl, hw⟩; obtain rfl := hw.symm) | (go_at_call 45; (with_reducible refine (i2 _).mono ?_); rintro e w' ⟨rfl, hw⟩; obtain rfl := hw.symm) | (go_at_call 45; (with_reducible refine (i3 _).mono ?_); rintro e w' ⟨rfl, hw⟩; obtain rfl := hw.symm))
        go_ret
        refine ⟨congrArg (fun z => Ending.returned (.bool z)) ?_, rfl⟩
        rw [HD.out, HX.out]
        refine decide_eq_decide.2 ⟨fun h => ⟨by omega, ⟨H2.out.1, ?_⟩, ⟨h.1, ?_⟩⟩, fun h => ⟨h.2.2.1, ?_⟩⟩
        · rw [E0.out]; have := H2.out.2; omega
        · rw [E0.out]; have := h.2; omega
        · have h9 := h.2.2.2; rw [E0.out] at h9; omega
      · rw [decide_eq_false h2] at i2
        have H2 : Hid (¬ (1 ≤ a ∧ a ≤ 127)) := h2
        clear h2 i3
        go_enter Try.func44, Try.ntmps44
        go_wp2_with (first | (go_at_call 45; (with_reducible refine (i1 _).mono ?_); rintro e w' ⟨rfl, hw⟩; obtain rfl := hw.symm) | (go_at_call 45; (with_reducible refine (i2 _).mono ?_); rintro e w' ⟨rfl, hw⟩; obtain rfl := hw.symm))
        go_ret
        refine ⟨congrArg (fun z => Ending.returned (.bool z)) ?_, rfl⟩
        rw [HD.out]
        refine (decide_eq_false (fun h => H2.out ⟨h.2.1.1, ?_⟩)).symm
        have h9 := h.2.1.2; rw [E0.out] at h9; omega
  · rw [decide_eq_false hm] at i1
    obtain ⟨d, hd⟩ : ∃ d, d = decide (Cd m a b) := ⟨_, rfl⟩
    rw [← hd]
    have HD : Hid (d = decide (Cd m a b)) := hd
    have HM : Hid (¬ (1 ≤ m ∧ m ≤ 6)) := hm
    clear hd hm
    go_enter Try.func44, Try.ntmps44
    go_wp2_with (first | (go_at_call 45; (with_reducible refine (i1 _).mono ?_); rintro e w' ⟨rfl, hw⟩; obtain rfl := hw.symm))
    go_ret
    refine ⟨congrArg (fun z => Ending.returned (.bool z)) ?_, rfl⟩
    rw [HD.out]
    exact (decide_eq_false (fun h => HM.out h.1)).symm
end Go.Proofs.Ytgkcofjhajjjgaa
