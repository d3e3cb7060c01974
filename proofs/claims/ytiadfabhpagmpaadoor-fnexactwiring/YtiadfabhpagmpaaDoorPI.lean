/- Plans that are right: pieces of the model. -/
import Derived.Test.YtiadfabhpagmpaaDoorPH
import Derived.WalkKit
import Derived.WalkSpells
import Derived.WalkLawsBesides
import Derived.Deep.QuietTactic
import Derived.BigQuiet
import Derived.BigRegion
import Derived.Deep.Cut
namespace Go.Proofs.YtiadfabhpagmpaaDoor
open Go.RowKit

theorem sDoors_any (q : Nat) (h : 1 ≤ q ∧ q ≤ 8) (w : World) : Calls Tryd.prog 21 #[.int .i64 (q : Int)] w fun e w' => e = .returned (.int .i64 (dors q)) ∧ w' = w := by
  have hq : q = 1 ∨ q = 2 ∨ q = 3 ∨ q = 4 ∨ q = 5 ∨ q = 6 ∨ q = 7 ∨ q = 8 := by omega
  rcases hq with rfl | rfl | rfl | rfl | rfl | rfl | rfl | rfl
  all_goals
    go_enter Tryd.func21, Tryd.ntmps21
    go_wp2
    go_ret
    exact ⟨rfl, rfl⟩

theorem sBare_any (q : Nat) (h : 1 ≤ q ∧ q ≤ 8) (w : World) : Calls Tryd.prog 35 #[.int .i64 (q : Int)] w fun e w' => e = .returned (.bool (decide (q = 1 ∨ q = 2 ∨ q = 4))) ∧ w' = w := by
  have hq : q = 1 ∨ q = 2 ∨ q = 3 ∨ q = 4 ∨ q = 5 ∨ q = 6 ∨ q = 7 ∨ q = 8 := by omega
  rcases hq with rfl | rfl | rfl | rfl | rfl | rfl | rfl | rfl
  all_goals
    go_enter Tryd.func35, Tryd.ntmps35
    go_wp2
    go_ret
    exact ⟨rfl, rfl⟩

set_option maxHeartbeats 4000000 in
theorem sFind_any {w : World} {v u : Value} {n : Nat} {ns : Nat → Nd} (hv : Nl w v n ns) (hn : n ≤ 1048576) (s : ByteArray) :
    Calls Tryd.prog 20 #[.agg #[v, u], .string s] w fun e w' => ∃ j, e = .returned (.int .i64 j) ∧ FirstNm n ns s j ∧ Below w.heap.size w w' := by
  obtain ⟨ao, cap, rfl, hcap⟩ := hv.open
  have HC : Hid (0 < n → ∃ b off, ao = some ⟨b, off, none⟩ ∧ b < w.heap.size ∧ ∀ k, k < n → w.cell? ⟨b, off + k * 3, none⟩ = some (.string (ns k).nm) ∧ w.cell? ⟨b, off + k * 3 + 1, none⟩ = some (.int .i64 (ns k).kd) ∧ w.cell? ⟨b, off + k * 3 + 2, none⟩ = some (.int .i64 (ns k).nn)) := hv.cells
  have HB : Hid (Below w.heap.size w (w.alloc (.cells #[.slice ao n cap, u] 31))) := below_one _ _
  have p0 : (w.alloc (.cells #[.slice ao n cap, u] 31)).cell? ⟨w.heap.size, 0, none⟩ = some (.slice ao n cap) := by simp
  clear hv
  go_enter Tryd.func20, Tryd.ntmps20
  go_upto_region 2 with fail
  generalize w.alloc (.cells #[.slice ao n cap, u] 31) = w1 at HB p0 ⊢
  have pl := World.block_lt_of_cell? _ _ p0
  go_loopw [5] (fun i wr => wr = w1 ∧ ∃ k : Nat, i = .int .i64 k ∧ k ≤ n ∧ Hid (∀ j, j < k → (ns j).nm ≠ s)) (fun i _ => n - (intOf i).toNat)
  case atStart => exact ⟨rfl, 0, rfl, by omega, fun j hj => absurd hj (by omega)⟩
  case round =>
    obtain ⟨rfl, k, rfl, hk, hall⟩ := hrel
    by_cases h1 : k < n
    · obtain ⟨b, off, rfl, hlt, hcell⟩ := HC.out (by omega)
      obtain ⟨c0, c1, c2⟩ := hcell k h1
      have c0 := keepc HB.out c0
      have hb : b < wr.heap.size := Nat.lt_of_lt_of_le hlt HB.out.size
      clear hcell hlt c1 c2
      by_cases h2 : (ns k).nm = s
      · have H2 : Hid ((ns k).nm = s) := h2
        have h3 : ((ns k).nm.toList == s.toList) = true := by rw [str_eq]; exact decide_eq_true h2
        clear h2
        generalize (ns k).nm = x at c0 h3
        go_wp2
        go_ret
        exact ⟨_, rfl, .inr ⟨k, rfl, h1, H2.out, hall.out⟩, HB.out⟩
      · have H2 : Hid ((ns k).nm ≠ s) := h2
        have h3 : ((ns k).nm.toList == s.toList) = false := by rw [str_eq]; exact decide_eq_false h2
        clear h2
        generalize (ns k).nm = x at c0 h3
        go_wp2
        go_roundw
        case rel => exact ⟨trivial, k + 1, by go_num, by omega, nm_more hall.out H2.out⟩
        case measure => simp [intOf]; omega
    · obtain rfl : k = n := by omega
      go_wp2
      go_ret
      exact ⟨_, rfl, .inl ⟨hall.out, rfl⟩, HB.out⟩

set_option maxHeartbeats 4000000 in
theorem sNode_any (x : Nd) (hs : x.nm.size ≤ 1048576) (w : World) : Calls Tryd.prog 19 #[x.v] w fun e w' => e = .returned (.bool (decide (Ndok x))) ∧ Below w.heap.size w w' := by
  obtain ⟨d, hd⟩ : ∃ d, d = decide (Ndok x) := ⟨_, rfl⟩
  rw [← hd]
  have HD : Hid (d = decide (Ndok x)) := hd
  clear hd
  have BX : Hid (Below w.heap.size w (w.alloc (.cells #[.string x.nm, .int .i64 x.kd, .int .i64 x.nn] 47))) := below_one w _
  have i1 := fun W => sName_any x.nm hs W
  have i2 := fun W => in_one x.kd 1 8 W
  have i3 := fun W => in_one x.nn (-1000) 1000 W
  have i4 := fun W => in_one x.nn 1 64 W
  by_cases h1 : nmr x.nm x.nm.size 0 0 = true
  rotate_left
  · have h1' : nmr x.nm x.nm.size 0 0 = false := by cases h : nmr x.nm x.nm.size 0 0 <;> simp_all
    rw [h1'] at i1
    have HF : Hid (d = false) := by show d = false; rw [HD.out]; exact decide_eq_false (fun h => h1 h.1)
    clear h1 h1' i2 i3 i4
    go_enter Tryd.func19, Tryd.ntmps19
    go_wp2_with (go_at_call 34; (with_reducible refine (i1 _).mono ?_); rintro e w' ⟨rfl, hw⟩; obtain rfl := hw.symm)
    go_ret
    exact ⟨by rw [HF.out]; rfl, BX.out⟩
  rw [h1] at i1
  have H1 : Hid (nmr x.nm x.nm.size 0 0 = true) := h1
  clear h1
  by_cases h2 : 1 ≤ x.kd ∧ x.kd ≤ 8
  rotate_left
  · rw [decide_eq_false h2] at i2
    have HF : Hid (d = false) := by show d = false; rw [HD.out]; exact decide_eq_false (fun h => h2 h.2.1)
    clear h2 i3 i4
    go_enter Tryd.func19, Tryd.ntmps19
    go_wp2_with (first
      | (go_at_call 34; (with_reducible refine (i1 _).mono ?_); rintro e w' ⟨rfl, hw⟩; obtain rfl := hw.symm)
      | (go_at_call 18; (with_reducible refine (i2 _).mono ?_); rintro e w' ⟨rfl, hw⟩; obtain rfl := hw.symm))
    go_ret
    exact ⟨by rw [HF.out]; rfl, BX.out⟩
  clear i2
  obtain ⟨xn, xk, xx⟩ := x
  have i1 : ∀ W, Calls Tryd.prog 34 #[.string xn] W fun e w' => e = .returned (.bool true) ∧ w' = W := i1
  have i3 : ∀ W, Calls Tryd.prog 18 #[.int .i64 xx, .int .i64 (-1000), .int .i64 1000] W fun e w' => e = .returned (.bool (decide (-1000 ≤ xx ∧ xx ≤ 1000))) ∧ w' = W := i3
  have i4 : ∀ W, Calls Tryd.prog 18 #[.int .i64 xx, .int .i64 1, .int .i64 64] W fun e w' => e = .returned (.bool (decide (1 ≤ xx ∧ xx ≤ 64))) ∧ w' = W := i4
  have hk8 : xk = 1 ∨ xk = 2 ∨ xk = 4 ∨ xk = 3 ∨ xk = 5 ∨ xk = 6 ∨ xk = 7 ∨ xk = 8 := by have : 1 ≤ xk ∧ xk ≤ 8 := h2; omega
  have H2 : Hid (1 ≤ xk ∧ xk ≤ 8) := h2
  clear h2
  rcases hk8 with rfl | rfl | rfl | rfl | rfl | rfl | rfl | rfl
  · have HQ : Hid (d = decide (((0) : Int) ≤ xx ∧ xx ≤ (0))) := by
      show d = _
      rw [HD.out]
      by_cases h3 : ((0) : Int) ≤ xx ∧ xx ≤ (0)
      · rw [decide_eq_true h3]; exact decide_eq_true ⟨H1.out, H2.out, h3⟩
      · rw [decide_eq_false h3]; exact decide_eq_false (fun h => h3 h.2.2)
    have i2 : ∀ W, Calls Tryd.prog 18 #[.int .i64 1, .int .i64 1, .int .i64 8] W fun e w' => e = .returned (.bool true) ∧ w' = W := fun W => in_one 1 1 8 W
    have i5 : ∀ W, Calls Tryd.prog 35 #[.int .i64 1] W fun e w' => e = .returned (.bool true) ∧ w' = W := fun W => sBare_any 1 (by omega) W
    clear HD H1 H2
    have HZ : Hid (d = (xx == 0)) := by
      show d = _
      rw [HQ.out]
      by_cases h : xx = 0
      · subst h; rfl
      · rw [beq_false_of_ne h]; exact decide_eq_false (fun h3 => h (by omega))
    go_enter Tryd.func19, Tryd.ntmps19
    go_wp2_with (first
      | (go_at_call 34; (with_reducible refine (i1 _).mono ?_); rintro e w' ⟨rfl, hw⟩; obtain rfl := hw.symm)
      | (go_at_call 18; (with_reducible refine (i2 _).mono ?_); rintro e w' ⟨rfl, hw⟩; obtain rfl := hw.symm)
      | (go_at_call 18; (with_reducible refine (i3 _).mono ?_); rintro e w' ⟨rfl, hw⟩; obtain rfl := hw.symm)
      | (go_at_call 18; (with_reducible refine (i4 _).mono ?_); rintro e w' ⟨rfl, hw⟩; obtain rfl := hw.symm)
      | (go_at_call 35; (with_reducible refine (i5 _).mono ?_); rintro e w' ⟨rfl, hw⟩; obtain rfl := hw.symm))
    go_ret
    exact ⟨by rw [HZ.out]; rfl, BX.out⟩
  · have HQ : Hid (d = decide (((0) : Int) ≤ xx ∧ xx ≤ (0))) := by
      show d = _
      rw [HD.out]
      by_cases h3 : ((0) : Int) ≤ xx ∧ xx ≤ (0)
      · rw [decide_eq_true h3]; exact decide_eq_true ⟨H1.out, H2.out, h3⟩
      · rw [decide_eq_false h3]; exact decide_eq_false (fun h => h3 h.2.2)
    have i2 : ∀ W, Calls Tryd.prog 18 #[.int .i64 2, .int .i64 1, .int .i64 8] W fun e w' => e = .returned (.bool true) ∧ w' = W := fun W => in_one 2 1 8 W
    have i5 : ∀ W, Calls Tryd.prog 35 #[.int .i64 2] W fun e w' => e = .returned (.bool true) ∧ w' = W := fun W => sBare_any 2 (by omega) W
    clear HD H1 H2
    have HZ : Hid (d = (xx == 0)) := by
      show d = _
      rw [HQ.out]
      by_cases h : xx = 0
      · subst h; rfl
      · rw [beq_false_of_ne h]; exact decide_eq_false (fun h3 => h (by omega))
    go_enter Tryd.func19, Tryd.ntmps19
    go_wp2_with (first
      | (go_at_call 34; (with_reducible refine (i1 _).mono ?_); rintro e w' ⟨rfl, hw⟩; obtain rfl := hw.symm)
      | (go_at_call 18; (with_reducible refine (i2 _).mono ?_); rintro e w' ⟨rfl, hw⟩; obtain rfl := hw.symm)
      | (go_at_call 18; (with_reducible refine (i3 _).mono ?_); rintro e w' ⟨rfl, hw⟩; obtain rfl := hw.symm)
      | (go_at_call 18; (with_reducible refine (i4 _).mono ?_); rintro e w' ⟨rfl, hw⟩; obtain rfl := hw.symm)
      | (go_at_call 35; (with_reducible refine (i5 _).mono ?_); rintro e w' ⟨rfl, hw⟩; obtain rfl := hw.symm))
    go_ret
    exact ⟨by rw [HZ.out]; rfl, BX.out⟩
  · have HQ : Hid (d = decide (((0) : Int) ≤ xx ∧ xx ≤ (0))) := by
      show d = _
      rw [HD.out]
      by_cases h3 : ((0) : Int) ≤ xx ∧ xx ≤ (0)
      · rw [decide_eq_true h3]; exact decide_eq_true ⟨H1.out, H2.out, h3⟩
      · rw [decide_eq_false h3]; exact decide_eq_false (fun h => h3 h.2.2)
    have i2 : ∀ W, Calls Tryd.prog 18 #[.int .i64 4, .int .i64 1, .int .i64 8] W fun e w' => e = .returned (.bool true) ∧ w' = W := fun W => in_one 4 1 8 W
    have i5 : ∀ W, Calls Tryd.prog 35 #[.int .i64 4] W fun e w' => e = .returned (.bool true) ∧ w' = W := fun W => sBare_any 4 (by omega) W
    clear HD H1 H2
    have HZ : Hid (d = (xx == 0)) := by
      show d = _
      rw [HQ.out]
      by_cases h : xx = 0
      · subst h; rfl
      · rw [beq_false_of_ne h]; exact decide_eq_false (fun h3 => h (by omega))
    go_enter Tryd.func19, Tryd.ntmps19
    go_wp2_with (first
      | (go_at_call 34; (with_reducible refine (i1 _).mono ?_); rintro e w' ⟨rfl, hw⟩; obtain rfl := hw.symm)
      | (go_at_call 18; (with_reducible refine (i2 _).mono ?_); rintro e w' ⟨rfl, hw⟩; obtain rfl := hw.symm)
      | (go_at_call 18; (with_reducible refine (i3 _).mono ?_); rintro e w' ⟨rfl, hw⟩; obtain rfl := hw.symm)
      | (go_at_call 18; (with_reducible refine (i4 _).mono ?_); rintro e w' ⟨rfl, hw⟩; obtain rfl := hw.symm)
      | (go_at_call 35; (with_reducible refine (i5 _).mono ?_); rintro e w' ⟨rfl, hw⟩; obtain rfl := hw.symm))
    go_ret
    exact ⟨by rw [HZ.out]; rfl, BX.out⟩
  · have HQ : Hid (d = decide (((-1000) : Int) ≤ xx ∧ xx ≤ (1000))) := by
      show d = _
      rw [HD.out]
      by_cases h3 : ((-1000) : Int) ≤ xx ∧ xx ≤ (1000)
      · rw [decide_eq_true h3]; exact decide_eq_true ⟨H1.out, H2.out, h3⟩
      · rw [decide_eq_false h3]; exact decide_eq_false (fun h => h3 h.2.2)
    have i2 : ∀ W, Calls Tryd.prog 18 #[.int .i64 3, .int .i64 1, .int .i64 8] W fun e w' => e = .returned (.bool true) ∧ w' = W := fun W => in_one 3 1 8 W
    have i5 : ∀ W, Calls Tryd.prog 35 #[.int .i64 3] W fun e w' => e = .returned (.bool false) ∧ w' = W := fun W => sBare_any 3 (by omega) W
    clear HD H1 H2
    go_enter Tryd.func19, Tryd.ntmps19
    go_wp2_with (first
      | (go_at_call 34; (with_reducible refine (i1 _).mono ?_); rintro e w' ⟨rfl, hw⟩; obtain rfl := hw.symm)
      | (go_at_call 18; (with_reducible refine (i2 _).mono ?_); rintro e w' ⟨rfl, hw⟩; obtain rfl := hw.symm)
      | (go_at_call 18; (with_reducible refine (i3 _).mono ?_); rintro e w' ⟨rfl, hw⟩; obtain rfl := hw.symm)
      | (go_at_call 18; (with_reducible refine (i4 _).mono ?_); rintro e w' ⟨rfl, hw⟩; obtain rfl := hw.symm)
      | (go_at_call 35; (with_reducible refine (i5 _).mono ?_); rintro e w' ⟨rfl, hw⟩; obtain rfl := hw.symm))
    go_ret
    exact ⟨by rw [HQ.out, Bool.decide_and]; rfl, BX.out⟩
  · have HQ : Hid (d = decide (((1) : Int) ≤ xx ∧ xx ≤ (64))) := by
      show d = _
      rw [HD.out]
      by_cases h3 : ((1) : Int) ≤ xx ∧ xx ≤ (64)
      · rw [decide_eq_true h3]; exact decide_eq_true ⟨H1.out, H2.out, h3⟩
      · rw [decide_eq_false h3]; exact decide_eq_false (fun h => h3 h.2.2)
    have i2 : ∀ W, Calls Tryd.prog 18 #[.int .i64 5, .int .i64 1, .int .i64 8] W fun e w' => e = .returned (.bool true) ∧ w' = W := fun W => in_one 5 1 8 W
    have i5 : ∀ W, Calls Tryd.prog 35 #[.int .i64 5] W fun e w' => e = .returned (.bool false) ∧ w' = W := fun W => sBare_any 5 (by omega) W
    clear HD H1 H2
    go_enter Tryd.func19, Tryd.ntmps19
    go_wp2_with (first
      | (go_at_call 34; (with_reducible refine (i1 _).mono ?_); rintro e w' ⟨rfl, hw⟩; obtain rfl := hw.symm)
      | (go_at_call 18; (with_reducible refine (i2 _).mono ?_); rintro e w' ⟨rfl, hw⟩; obtain rfl := hw.symm)
      | (go_at_call 18; (with_reducible refine (i3 _).mono ?_); rintro e w' ⟨rfl, hw⟩; obtain rfl := hw.symm)
      | (go_at_call 18; (with_reducible refine (i4 _).mono ?_); rintro e w' ⟨rfl, hw⟩; obtain rfl := hw.symm)
      | (go_at_call 35; (with_reducible refine (i5 _).mono ?_); rintro e w' ⟨rfl, hw⟩; obtain rfl := hw.symm))
    go_ret
    exact ⟨by rw [HQ.out, Bool.decide_and]; rfl, BX.out⟩
  · have HQ : Hid (d = decide (((1) : Int) ≤ xx ∧ xx ≤ (64))) := by
      show d = _
      rw [HD.out]
      by_cases h3 : ((1) : Int) ≤ xx ∧ xx ≤ (64)
      · rw [decide_eq_true h3]; exact decide_eq_true ⟨H1.out, H2.out, h3⟩
      · rw [decide_eq_false h3]; exact decide_eq_false (fun h => h3 h.2.2)
    have i2 : ∀ W, Calls Tryd.prog 18 #[.int .i64 6, .int .i64 1, .int .i64 8] W fun e w' => e = .returned (.bool true) ∧ w' = W := fun W => in_one 6 1 8 W
    have i5 : ∀ W, Calls Tryd.prog 35 #[.int .i64 6] W fun e w' => e = .returned (.bool false) ∧ w' = W := fun W => sBare_any 6 (by omega) W
    clear HD H1 H2
    go_enter Tryd.func19, Tryd.ntmps19
    go_wp2_with (first
      | (go_at_call 34; (with_reducible refine (i1 _).mono ?_); rintro e w' ⟨rfl, hw⟩; obtain rfl := hw.symm)
      | (go_at_call 18; (with_reducible refine (i2 _).mono ?_); rintro e w' ⟨rfl, hw⟩; obtain rfl := hw.symm)
      | (go_at_call 18; (with_reducible refine (i3 _).mono ?_); rintro e w' ⟨rfl, hw⟩; obtain rfl := hw.symm)
      | (go_at_call 18; (with_reducible refine (i4 _).mono ?_); rintro e w' ⟨rfl, hw⟩; obtain rfl := hw.symm)
      | (go_at_call 35; (with_reducible refine (i5 _).mono ?_); rintro e w' ⟨rfl, hw⟩; obtain rfl := hw.symm))
    go_ret
    exact ⟨by rw [HQ.out, Bool.decide_and]; rfl, BX.out⟩
  · have HQ : Hid (d = decide (((1) : Int) ≤ xx ∧ xx ≤ (64))) := by
      show d = _
      rw [HD.out]
      by_cases h3 : ((1) : Int) ≤ xx ∧ xx ≤ (64)
      · rw [decide_eq_true h3]; exact decide_eq_true ⟨H1.out, H2.out, h3⟩
      · rw [decide_eq_false h3]; exact decide_eq_false (fun h => h3 h.2.2)
    have i2 : ∀ W, Calls Tryd.prog 18 #[.int .i64 7, .int .i64 1, .int .i64 8] W fun e w' => e = .returned (.bool true) ∧ w' = W := fun W => in_one 7 1 8 W
    have i5 : ∀ W, Calls Tryd.prog 35 #[.int .i64 7] W fun e w' => e = .returned (.bool false) ∧ w' = W := fun W => sBare_any 7 (by omega) W
    clear HD H1 H2
    go_enter Tryd.func19, Tryd.ntmps19
    go_wp2_with (first
      | (go_at_call 34; (with_reducible refine (i1 _).mono ?_); rintro e w' ⟨rfl, hw⟩; obtain rfl := hw.symm)
      | (go_at_call 18; (with_reducible refine (i2 _).mono ?_); rintro e w' ⟨rfl, hw⟩; obtain rfl := hw.symm)
      | (go_at_call 18; (with_reducible refine (i3 _).mono ?_); rintro e w' ⟨rfl, hw⟩; obtain rfl := hw.symm)
      | (go_at_call 18; (with_reducible refine (i4 _).mono ?_); rintro e w' ⟨rfl, hw⟩; obtain rfl := hw.symm)
      | (go_at_call 35; (with_reducible refine (i5 _).mono ?_); rintro e w' ⟨rfl, hw⟩; obtain rfl := hw.symm))
    go_ret
    exact ⟨by rw [HQ.out, Bool.decide_and]; rfl, BX.out⟩
  · have HQ : Hid (d = decide (((1) : Int) ≤ xx ∧ xx ≤ (64))) := by
      show d = _
      rw [HD.out]
      by_cases h3 : ((1) : Int) ≤ xx ∧ xx ≤ (64)
      · rw [decide_eq_true h3]; exact decide_eq_true ⟨H1.out, H2.out, h3⟩
      · rw [decide_eq_false h3]; exact decide_eq_false (fun h => h3 h.2.2)
    have i2 : ∀ W, Calls Tryd.prog 18 #[.int .i64 8, .int .i64 1, .int .i64 8] W fun e w' => e = .returned (.bool true) ∧ w' = W := fun W => in_one 8 1 8 W
    have i5 : ∀ W, Calls Tryd.prog 35 #[.int .i64 8] W fun e w' => e = .returned (.bool false) ∧ w' = W := fun W => sBare_any 8 (by omega) W
    clear HD H1 H2
    go_enter Tryd.func19, Tryd.ntmps19
    go_wp2_with (first
      | (go_at_call 34; (with_reducible refine (i1 _).mono ?_); rintro e w' ⟨rfl, hw⟩; obtain rfl := hw.symm)
      | (go_at_call 18; (with_reducible refine (i2 _).mono ?_); rintro e w' ⟨rfl, hw⟩; obtain rfl := hw.symm)
      | (go_at_call 18; (with_reducible refine (i3 _).mono ?_); rintro e w' ⟨rfl, hw⟩; obtain rfl := hw.symm)
      | (go_at_call 18; (with_reducible refine (i4 _).mono ?_); rintro e w' ⟨rfl, hw⟩; obtain rfl := hw.symm)
      | (go_at_call 35; (with_reducible refine (i5 _).mono ?_); rintro e w' ⟨rfl, hw⟩; obtain rfl := hw.symm))
    go_ret
    exact ⟨by rw [HQ.out, Bool.decide_and]; rfl, BX.out⟩

end Go.Proofs.YtiadfabhpagmpaaDoor
