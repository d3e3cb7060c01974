/- Lengths, and one step of a sum. -/
import Derived.Test.YtlcnciibjhcbiaaDoorOF
namespace Go.Proofs.YtlcnciibjhcbiaaDoor
open Go.RowKit

/-- A whole length. -/
abbrev Wle (n : Int) : Prop := n = 1 ∨ n = 2 ∨ n = 4 ∨ n = 8 ∨ n = 16 ∨ n = 32 ∨ n = 64 ∨ n = 128 ∨ n = 256

set_option maxHeartbeats 2000000 in
theorem sWle_any (n : Int) (w : World) : Calls Tryd.prog 39 #[.int .i64 n] w fun e w' => e = .returned (.bool (decide (Wle n))) ∧ w' = w := by
  obtain ⟨d, hd⟩ : ∃ d, d = decide (Wle n) := ⟨_, rfl⟩
  rw [← hd]
  have HD : Hid _ := hd
  clear hd
  go_enter Tryd.func39, Tryd.ntmps39
  go_wp2
  go_loopw [3] (fun v wr => ∃ k : Int, v = .int .i64 k ∧ wr = w ∧ Hid ((Wle k ∨ k = 512) ∧ ∀ j, Wle j → j < k → n ≠ j)) (fun v _ => 512 - (intOf v).toNat)
  case atStart => exact ⟨1, rfl, rfl, .inl (.inl rfl), fun j hj hl => by rcases hj with h | h | h | h | h | h | h | h | h <;> omega⟩
  case round =>
    obtain ⟨k, rfl, hw, hrel⟩ := hrel
    obtain rfl := hw.symm
    obtain ⟨hk, hall⟩ := hrel.out
    clear hrel
    by_cases h5 : k = 512
    · subst h5
      have E : Hid (false = d) := by
        rw [HD.out]
        refine (decide_eq_false (fun h => hall n h ?_ rfl)).symm
        rcases h with h | h | h | h | h | h | h | h | h <;> omega
      clear hk hall
      go_wp2
      go_ret
      exact ⟨congrArg (fun z => Ending.returned (.bool z)) E.out, rfl⟩
    · have hk' : Wle k := by rcases hk with h | h; exact h; exact absurd h h5
      have hkb : 1 ≤ k ∧ k ≤ 256 := by rcases hk' with h | h | h | h | h | h | h | h | h <;> omega
      by_cases he : n = k
      · have E : Hid (true = d) := by rw [HD.out, he]; exact (decide_eq_true hk').symm
        clear hk hall hk'
        subst he
        go_wp2
        go_ret
        exact ⟨congrArg (fun z => Ending.returned (.bool z)) E.out, rfl⟩
      · have HA : Hid ((Wle (2 * k) ∨ 2 * k = 512) ∧ ∀ j, Wle j → j < 2 * k → n ≠ j) := by
          refine ⟨?_, fun j hj hl => ?_⟩
          · rcases hk' with h | h | h | h | h | h | h | h | h <;> subst h <;> decide
          · by_cases hjk : j < k
            · exact hall j hj hjk
            · have : j = k := by rcases hk' with h | h | h | h | h | h | h | h | h <;> rcases hj with h' | h' | h' | h' | h' | h' | h' | h' | h' <;> omega
              rw [this]
              exact he
        clear hk hall hk'
        go_wp2
        go_roundw
        case rel => exact ⟨2 * k, rfl, by trivial, HA.out⟩
        case measure => simp [intOf]; omega

theorem Wle.bounds {n : Int} (h : Wle n) : 1 ≤ n ∧ n ≤ 256 := by rcases h with h | h | h | h | h | h | h | h | h <;> omega

theorem and_fin : ∀ k : Fin 256, (bits BinOp.and .i64 ((k.val : Int) + 1) ((k.val : Int) + 1 - 1) == 0) = decide (Wle ((k.val : Int) + 1)) := by decide +kernel

theorem and_whl {n : Int} (h1 : 1 ≤ n) (h2 : n ≤ 256) : (bits BinOp.and .i64 n (n - 1) == 0) = decide (Wle n) := by
  have h := and_fin ⟨(n - 1).toNat, by omega⟩
  have e : (((n - 1).toNat : Nat) : Int) + 1 = n := by omega
  simp only [e] at h
  exact h

set_option maxHeartbeats 1000000 in
theorem iWle_any (n : Int) (w : World) : Calls Tryd.prog 42 #[.int .i64 n] w fun e w' => e = .returned (.bool (decide (Wle n))) ∧ w' = w := by
  by_cases h1 : 1 ≤ n
  · by_cases h2 : n ≤ 256
    · have e := and_whl h1 h2
      generalize decide (Wle n) = d at e ⊢
      go_enter Tryd.func42, Tryd.ntmps42
      go_wp2
      go_ret
      exact ⟨rfl, rfl⟩
    · have e : false = decide (Wle n) := (decide_eq_false (fun h => by have := h.bounds; omega)).symm
      generalize decide (Wle n) = d at e ⊢
      have E : Hid _ := e
      clear e
      go_enter Tryd.func42, Tryd.ntmps42
      go_wp2
      go_ret
      exact ⟨congrArg (fun z => Ending.returned (.bool z)) E.out, rfl⟩
  · have e : false = decide (Wle n) := (decide_eq_false (fun h => by have := h.bounds; omega)).symm
    generalize decide (Wle n) = d at e ⊢
    have E : Hid _ := e
    clear e
    go_enter Tryd.func42, Tryd.ntmps42
    go_wp2
    go_ret
    exact ⟨congrArg (fun z => Ending.returned (.bool z)) E.out, rfl⟩

/-- A length that is halved. -/
abbrev H8 (n : Int) : Prop := n = 1 ∨ n = 2 ∨ n = 4 ∨ n = 8 ∨ n = 16 ∨ n = 32 ∨ n = 64 ∨ n = 128

theorem h8_iff (n : Int) : decide (H8 n) = (decide (n ≤ 128) && decide (Wle n)) := by
  rw [← Bool.decide_and]
  refine decide_eq_decide.2 ⟨fun h => ⟨?_, ?_⟩, fun h => ?_⟩
  · rcases h with h | h | h | h | h | h | h | h <;> omega
  · rcases h with h | h | h | h | h | h | h | h <;> subst h <;> decide
  · obtain ⟨h1, h⟩ := h
    rcases h with h | h | h | h | h | h | h | h | h <;> subst h <;> first | decide | omega

theorem sH8_any (n : Int) (w : World) : Calls Tryd.prog 20 #[.int .i64 n] w fun e w' => e = .returned (.bool (decide (H8 n))) ∧ w' = w := by
  have i1 := sWle_any n w
  rw [h8_iff]
  generalize decide (Wle n) = d at i1 ⊢
  by_cases h : n ≤ 128
  · go_enter Tryd.func20, Tryd.ntmps20
    go_wp2_with (go_at_call 39; refine i1.mono ?_; rintro e w' ⟨rfl, hw⟩; obtain rfl := hw.symm)
    go_ret
    exact ⟨by simp [h], rfl⟩
  · go_enter Tryd.func20, Tryd.ntmps20
    go_wp2_with (go_at_call 39; refine i1.mono ?_; rintro e w' ⟨rfl, hw⟩; obtain rfl := hw.symm)
    go_ret
    exact ⟨by rw [decide_eq_false (by omega : ¬ n ≤ 128)]; rfl, rfl⟩

theorem iH8_any (n : Int) (w : World) : Calls Tryd.prog 27 #[.int .i64 n] w fun e w' => e = .returned (.bool (decide (H8 n))) ∧ w' = w := by
  have i1 := iWle_any n w
  rw [h8_iff]
  cases hd : decide (Wle n)
  · rw [hd] at i1
    clear hd
    rw [Bool.and_false]
    go_enter Tryd.func27, Tryd.ntmps27
    go_wp2_with (go_at_call 42; refine i1.mono ?_; rintro e w' ⟨rfl, hw⟩; obtain rfl := hw.symm)
    go_ret
    exact ⟨rfl, rfl⟩
  · rw [hd] at i1
    clear hd
    rw [Bool.and_true]
    by_cases h : n ≤ 128
    · go_enter Tryd.func27, Tryd.ntmps27
      go_wp2_with (go_at_call 42; refine i1.mono ?_; rintro e w' ⟨rfl, hw⟩; obtain rfl := hw.symm)
      go_ret
      exact ⟨by simp [h], rfl⟩
    · go_enter Tryd.func27, Tryd.ntmps27
      go_wp2_with (go_at_call 42; refine i1.mono ?_; rintro e w' ⟨rfl, hw⟩; obtain rfl := hw.symm)
      go_ret
      exact ⟨by simp, rfl⟩

set_option maxRecDepth 20000 in
set_option maxHeartbeats 1000000 in
theorem fStep {w : World} {g1 g2 g3 g4 gn gt n k i x y a b c d : Nat} (hi : i < n) (hk : k < n) (hn : n ≤ 128)
    (h1 : w.cell? ⟨g1, 0, none⟩ = some (zv gn n)) (h2 : w.cell? ⟨g2, 0, none⟩ = some (zv gt n)) (h3 : w.cell? ⟨g3, 0, none⟩ = some (.int .i64 k)) (h4 : w.cell? ⟨g4, 0, none⟩ = some (.int .i64 n))
    (h5 : w.cell? ⟨gn, i, none⟩ = some (.complex .f64 a b)) (h6 : w.cell? ⟨gt, i * k % n, none⟩ = some (.complex .f64 c d)) :
    Calls Tryd.prog 31 #[.complex .f64 x y, .int .i64 i, .pointer (some ⟨g1, 0, none⟩), .pointer (some ⟨g2, 0, none⟩), .pointer (some ⟨g3, 0, none⟩), .pointer (some ⟨g4, 0, none⟩)] w fun e w' => ∃ z z2, e = .returned (.complex .f64 z z2) ∧ cn z = cop .add (cn x) (cre (cn a) (cn b) (cn c) (cn d)) ∧ cn z2 = cop .add (cn y) (cim (cn a) (cn b) (cn c) (cn d)) ∧ Below w.heap.size w w' := by
  have ra : ∀ X, Below w.heap.size w X → X.cell? ⟨g1, 0, none⟩ = some (zv gn n) ∧ X.cell? ⟨g2, 0, none⟩ = some (zv gt n) ∧ X.cell? ⟨g3, 0, none⟩ = some (.int .i64 k) ∧ X.cell? ⟨g4, 0, none⟩ = some (.int .i64 n) ∧ X.cell? ⟨gn, i, none⟩ = some (.complex .f64 a b) ∧ X.cell? ⟨gt, i * k % n, none⟩ = some (.complex .f64 c d) :=
    fun X hX => ⟨keepc hX h1, keepc hX h2, keepc hX h3, keepc hX h4, keepc hX h5, keepc hX h6⟩
  have m1 : i * k ≤ 16384 := Nat.mul_le_mul (by omega : i ≤ 128) (by omega : k ≤ 128)
  have m2 : i * k % n < n := Nat.mod_lt _ (by omega)
  have m3 : (i : Int) * (k : Int) = ((i * k : Nat) : Int) := by push_cast; rfl
  have m4 : (((i * k : Nat) : Int)).tmod (n : Int) = ((i * k % n : Nat) : Int) := by rw [Int.tmod_eq_emod_of_nonneg (by omega)]; push_cast; rfl
  generalize i * k % n = r at *
  generalize i * k = ik at *
  clear h1 h2 h3 h4 h5 h6
  have hA := rcAdd
  have l0 : Below w.heap.size w w.drew := (Below.refl _ _).drew
  go_enter Tryd.func31, Tryd.ntmps31
  go_upto_region 1 with fail
  refine wp_region_any (by kernel_rfl) ?_
  change wpAny _ _ _ _ _ _ _ (World.drew _)
  refine wpI_any (I := fun X => Below w.heap.size w X) _ _ _ _ ?_
  refine wpI_take (i := 0) (v := ?_) rfl (by kernel_rfl) (by kernel_rfl) (by kernel_rfl) (fun _ _ _ h => h) ⟨by rfl, ?_⟩ ?_
  rotate_left
  · intro X hI; go_simp; try go_bits
    try rw [if_pos (by omega)]
    try with_reducible rfl
  refine wpI_take (i := 1) (v := ?_) rfl (by kernel_rfl) (by kernel_rfl) (by kernel_rfl) (fun _ _ _ h => h) ⟨by rfl, ?_⟩ ?_
  rotate_left
  · intro X hI; obtain ⟨q1, q2, q3, q4, q5, q6⟩ := ra X hI; go_simp; try go_bits
    try rw [if_pos (by omega)]
    try with_reducible rfl
  refine wpI_take (i := 2) (v := ?_) rfl (by kernel_rfl) (by kernel_rfl) (by kernel_rfl) (fun _ _ _ h => h) ⟨by rfl, ?_⟩ ?_
  rotate_left
  · intro X hI; go_simp; try go_bits
    try rw [if_pos (by omega)]
    try with_reducible rfl
  refine wpI_take (i := 3) (v := .pointer (some ⟨gn, i, none⟩)) rfl (by kernel_rfl) (by kernel_rfl) (by kernel_rfl) (fun _ _ _ h => h) ⟨by rfl, ?_⟩ ?_
  · intro X hI; go_simp; try go_bits
    try rw [if_pos (by omega)]
  refine wpI_take (i := 4) (v := ?_) rfl (by kernel_rfl) (by kernel_rfl) (by kernel_rfl) (fun _ _ _ h => h) ⟨by rfl, ?_⟩ ?_
  rotate_left
  · intro X hI; obtain ⟨q1, q2, q3, q4, q5, q6⟩ := ra X hI; go_simp; try go_bits
    try rw [if_pos (by omega)]
    try with_reducible rfl
  refine wpI_take (i := 5) (v := ?_) rfl (by kernel_rfl) (by kernel_rfl) (by kernel_rfl) (fun _ _ _ h => h) ⟨by rfl, ?_⟩ ?_
  rotate_left
  · intro X hI; obtain ⟨q1, q2, q3, q4, q5, q6⟩ := ra X hI; go_simp; try go_bits
    try rw [if_pos (by omega)]
    try with_reducible rfl
  refine wpI_take (i := 6) (v := ?_) rfl (by kernel_rfl) (by kernel_rfl) (by kernel_rfl) (fun _ _ _ h => h) ⟨by rfl, ?_⟩ ?_
  rotate_left
  · intro X hI; go_simp; try go_bits
    try rw [if_pos (by omega)]
    try with_reducible rfl
  refine wpI_take (i := 7) (v := ?_) rfl (by kernel_rfl) (by kernel_rfl) (by kernel_rfl) (fun _ _ _ h => h) ⟨by rfl, ?_⟩ ?_
  rotate_left
  · intro X hI; obtain ⟨q1, q2, q3, q4, q5, q6⟩ := ra X hI; go_simp; try go_bits
    try rw [if_pos (by omega)]
    try with_reducible rfl
  refine wpI_take (i := 8) (v := .int .i64 (ik : Int)) rfl (by kernel_rfl) (by kernel_rfl) (by kernel_rfl) (fun _ _ _ h => h) ⟨by rfl, ?_⟩ ?_
  · intro X hI; go_simp; try go_bits
    try rw [if_pos (by omega)]
    try trivial
  refine wpI_take (i := 9) (v := ?_) rfl (by kernel_rfl) (by kernel_rfl) (by kernel_rfl) (fun _ _ _ h => h) ⟨by rfl, ?_⟩ ?_
  rotate_left
  · intro X hI; obtain ⟨q1, q2, q3, q4, q5, q6⟩ := ra X hI; go_simp; try go_bits
    try rw [if_pos (by omega)]
    try with_reducible rfl
  refine wpI_take (i := 10) (v := .int .i64 (r : Int)) rfl (by kernel_rfl) (by kernel_rfl) (by kernel_rfl) (fun _ _ _ h => h) ⟨by rfl, ?_⟩ ?_
  · intro X hI; go_simp; try go_bits
    try rw [if_pos (by omega)]
    try omega
  refine wpI_take (i := 11) (v := .pointer (some ⟨gt, r, none⟩)) rfl (by kernel_rfl) (by kernel_rfl) (by kernel_rfl) (fun _ _ _ h => h) ⟨by rfl, ?_⟩ ?_
  · intro X hI; go_simp; try go_bits
    try rw [if_pos (by omega)]
  refine wpI_take (i := 12) (v := ?_) rfl (by kernel_rfl) (by kernel_rfl) (by kernel_rfl) (fun _ _ _ h => h) ⟨by rfl, ?_⟩ ?_
  rotate_left
  · intro X hI; obtain ⟨q1, q2, q3, q4, q5, q6⟩ := ra X hI; go_simp; try go_bits
    try rw [if_pos (by omega)]
    try with_reducible rfl
  refine wpI_only (i := 13) rfl (by kernel_rfl) l0 (by rfl) ?_
  intro K hK
  go_simp
  go_wp2_with (go_at_call 32; (with_reducible refine (times_any _ _ _ _ _).mono ?_); rintro e x1 ⟨z, z2, rfl, ez, ez2, hb1⟩; have l1 := bstep l0 hb1)
  have l2 : Below w.heap.size w (fwor .add (fwor .add x1 x z) y z2) := below_fwor (below_fwor l1 _ _ _) _ _ _
  refine wpI_only (i := 14) rfl (by kernel_rfl) l1 (by rfl) ?_
  intro K hK
  go_simp
  refine hK _ _ ?_
  refine wpI_only (i := 15) rfl (by kernel_rfl) l2 (by rfl) ?_
  intro K hK
  go_simp
  try go_bits
  refine hK _ _ ?_
  refine wpI_done l2 (by kernel_rfl) ?_ _
  go_wp2
  go_ret
  exact ⟨_, _, rfl, by rw [cn_fres, ez], by rw [cn_fres, ez2], l2⟩

set_option maxHeartbeats 1000000 in
theorem overC_any {w : World} {n : Nat} (hn : n ≤ 128) (c0 c1 c2 c3 : Value) (G : Nat → Option Nat × Option Nat) (hx0 : G 0 = (cn 0, cn 0))
    (hst : ∀ i, i < n → ∀ x y, (cn x, cn y) = G i → ∀ W, Below w.heap.size w W → Calls Tryd.prog 31 #[.complex .f64 x y, .int .i64 i, c0, c1, c2, c3] W fun e w' => ∃ z z2, e = .returned (.complex .f64 z z2) ∧ (cn z, cn z2) = G (i + 1) ∧ Below W.heap.size W w') :
    Calls Tryd.prog 30 #[.int .i64 n, .complex .f64 0 0, .func (.func 31) #[] #[c0, c1, c2, c3]] w fun e w' => ∃ z z2, e = .returned (.complex .f64 z z2) ∧ (cn z, cn z2) = G n ∧ Below w.heap.size w w' := by
  have HST : Hid (∀ i, i < n → ∀ x y, (cn x, cn y) = G i → ∀ W, Below w.heap.size w W → Calls Tryd.prog 31 #[.complex .f64 x y, .int .i64 i, c0, c1, c2, c3] W fun e w' => ∃ z z2, e = .returned (.complex .f64 z z2) ∧ (cn z, cn z2) = G (i + 1) ∧ Below W.heap.size W w') := hst
  have HX : Hid ((cn 0, cn 0) = G 0) := hx0.symm
  clear hst hx0
  go_enter Tryd.func30, Tryd.ntmps30
  go_wp2
  go_loopw [1, 7, 9] (fun s _ i wr => ∃ (k x y : Nat), i = .int .i64 k ∧ s = .complex .f64 x y ∧ k ≤ n ∧ Hid ((cn x, cn y) = G k ∧ Below w.heap.size w wr)) (fun _ _ i _ => n - (intOf i).toNat)
  case atStart => exact ⟨0, 0, 0, rfl, rfl, by omega, HX.out, Below.refl _ _⟩
  case round =>
    obtain ⟨k, x, y, rfl, rfl, hk, hrel⟩ := hrel
    by_cases h1 : k < n
    · have hc := HST.out k h1 x y hrel.out.1 wr hrel.out.2
      go_wp2_with (go_at_call 31; refine hc.mono ?_; rintro e w1 ⟨z, z2, rfl, hz, hb1⟩; have HZ : Hid ((cn z, cn z2) = G (k + 1)) := hz; have B1 : Hid (Below w.heap.size w w1) := bstep hrel.out.2 hb1; clear hz hb1)
      go_roundw
      case rel => exact ⟨k + 1, _, _, by go_num, rfl, by omega, HZ.out, B1.out⟩
      case measure => simp [intOf]; omega
    · obtain rfl : n = k := by omega
      have HZ : Hid ((cn x, cn y) = G n) := hrel.out.1
      go_wp2
      go_ret
      exact ⟨_, _, rfl, HZ.out, hrel.out.2⟩
end Go.Proofs.YtlcnciibjhcbiaaDoor
