/- WR2 WR3. -/
import Derived.Test.YtddbekacdfohpaaGreatDoorM23
namespace Go.Proofs.YtddbekacdfohpaaGreatDoor.W
open Go.RowKit

/-- The sums of powers at a place. -/
def avs (X Y : Nat → Nat → Nat) (p : Nat) : Nat → Option Nat
  | 0 => cn 0
  | k + 1 => cop .add (avs X Y p k) (cpw (cn (X k p)) (cn (Y k p)))

/-- A mean. -/
def avv (X Y : Nat → Nat → Nat) (n p : Nat) : Option Nat := cop .quo (avs X Y p n) (cn (fk (n : Int)))

/-- Good for Average. -/
abbrev GA (n : Nat) (ms : Nat → Nat) : Prop := (1 ≤ n ∧ n ≤ 128) ∧ ms 0 ≤ 128 ∧ ∀ k, k < n → ms k = ms 0

/-- What is told: means in memory of the call's own, and a bool. -/
def Pa (w w' : World) (e : Ending) (N : Nat) (C : Nat → Option Nat) (ok : Bool) : Prop := ∃ u zs, e = .returned (.tuple #[u, .bool ok]) ∧ w'.ownsRow w.heap.size 37 1 u N (fls zs N) ∧ (∀ k, k < N → cn (zs k) = C k) ∧ Below w.heap.size w w'

theorem in_any (x lo hi : Int) (w : World) : Calls Tryz.prog 22 #[.int .i64 x, .int .i64 lo, .int .i64 hi] w fun e w' => e = .returned (.bool (decide (lo ≤ x ∧ x ≤ hi))) ∧ w' = w := by
  go_enter Tryz.func22, Tryz.ntmps22
  by_cases h : lo ≤ x
  · by_cases h1 : x ≤ hi
    · go_wp2
      go_ret
      exact ⟨by simp [h, h1], rfl⟩
    · go_wp2
      go_ret
      exact ⟨by simp [h1], rfl⟩
  · go_wp2
    go_ret
    exact ⟨by simp; omega, rfl⟩

/-- The rows one by one. -/
theorem rows_at {w : World} {n b off : Nat} {R : Nat → Value} {ms : Nat → Nat} {X Y : Nat → Nat → Nat} (h : ∀ k, k < n → w.cell? ⟨b, off + k, none⟩ = some (R k) ∧ Fp w (R k) (ms k) (X k) (Y k)) :
    ∀ k, k < n → ∃ qa qc, w.cell? ⟨b, off + k, none⟩ = some (.slice qa (ms k) qc) ∧ Fp w (.slice qa (ms k) qc) (ms k) (X k) (Y k) := fun k hk => by
  obtain ⟨h1, h2⟩ := h k hk
  have h3 := h2
  obtain ⟨qa, qc, hq, _, _⟩ := h3
  rw [hq] at h1 h2
  exact ⟨qa, qc, h1, h2⟩

end Go.Proofs.YtddbekacdfohpaaGreatDoor.W

namespace Go.Proofs.YtddbekacdfohpaaGreatDoor.W
open Go.RowKit

set_option maxRecDepth 20000 in
set_option maxHeartbeats 2000000 in
theorem alike_any {w : World} {v : Value} {n : Nat} {ms : Nat → Nat} {X Y : Nat → Nat → Nat} (hv : Fpp w v n ms X Y) (hn : n ≤ 1048576) (hms : ∀ k, k < n → ms k ≤ 1048576) (ok : Bool)
    (hg : GA n ms → ok = true) (hb : ¬ GA n ms → ok = false) : Calls Tryz.prog 26 #[v] w fun e w' => e = .returned (.bool ok) ∧ w' = w := by
  have HG : Hid (GA n ms → ok = true) := hg
  have HB : Hid (¬ GA n ms → ok = false) := hb
  have HMS : Hid (∀ k, k < n → ms k ≤ 1048576) := hms
  clear hg hb hms
  obtain ⟨ao, cap, rfl, hcap, hc⟩ := hv
  by_cases h0 : n = 0
  · subst h0
    obtain rfl := HB.out (fun h => by have := h.1; omega)
    clear hc
    go_enter Tryz.func26, Tryz.ntmps26
    go_wp2
    go_ret
    exact ⟨rfl, rfl⟩
  have h0' : ((n : Int) == 0) = false := by rw [beq_eq_false_iff_ne]; omega
  by_cases h1 : n ≤ 128
  · obtain ⟨b, off, R, rfl, hlt, hcell⟩ := hc (by omega)
    have hrows := rows_at hcell
    have ROWS : Hid (∀ k, k < n → ∃ qa qc, w.cell? ⟨b, off + k, none⟩ = some (.slice qa (ms k) qc) ∧ Fp w (.slice qa (ms k) qc) (ms k) (X k) (Y k)) := hrows
    obtain ⟨qa0, qc0, c0, _⟩ := hrows 0 (by omega)
    have c0' : w.cell? ⟨b, off, none⟩ = some (.slice qa0 (ms 0) qc0) := c0
    have hm0 := HMS.out 0 (by omega)
    clear hcell hrows hc c0 hlt
    obtain ⟨m, hm⟩ : ∃ m, m = ms 0 := ⟨_, rfl⟩
    rw [← hm] at c0' hm0
    have HM : Hid (m = ms 0) := hm
    clear hm
    by_cases h2 : m ≤ 128
    · go_enter Tryz.func26, Tryz.ntmps26
      go_wp2
      go_loopw [4, 22] (fun _ i wr => ∃ k : Nat, i = .int .i64 k ∧ k ≤ n ∧ wr = w ∧ Hid (∀ j, j < k → ms j = m)) (fun _ i _ => n - (intOf i).toNat)
      case atStart => exact ⟨0, rfl, by omega, rfl, fun j hj => by omega⟩
      case round =>
        obtain ⟨k, rfl, hk, hwr, hal⟩ := hrel
        obtain rfl := hwr.symm
        by_cases h3 : k < n
        · obtain ⟨qa, qc, c, _⟩ := ROWS.out k h3
          have hmk := HMS.out k h3
          by_cases h4 : ms k = m
          · have HA : Hid (ms k = m) := h4
            rw [h4] at c
            clear h4
            go_wp2
            go_roundw
            case rel =>
              refine ⟨k + 1, by go_num, by omega, by trivial, fun j hj => ?_⟩
              by_cases hjk : j = k
              · subst hjk; exact HA.out
              · exact hal.out j (by omega)
            case measure => simp [intOf]; omega
          · obtain rfl := HB.out (fun h => h4 (by rw [HM.out]; exact h.2.2 k h3))
            have h4' : ((ms k : Int) == (m : Int)) = false := by rw [beq_eq_false_iff_ne]; omega
            generalize ms k = mk at *
            go_wp2
            go_ret
            exact ⟨rfl, rfl⟩
        · obtain rfl : n = k := by omega
          obtain rfl := HG.out ⟨by omega, by rw [← HM.out]; exact h2, fun k hk => by rw [← HM.out]; exact hal.out k hk⟩
          go_wp2
          go_ret
          exact ⟨rfl, rfl⟩
    · obtain rfl := HB.out (fun h => h2 (by rw [HM.out]; exact h.2.1))
      go_enter Tryz.func26, Tryz.ntmps26
      go_wp2
      go_ret
      exact ⟨rfl, rfl⟩
  · obtain rfl := HB.out (fun h => h1 h.1.2)
    clear hc
    go_enter Tryz.func26, Tryz.ntmps26
    go_wp2
    go_ret
    exact ⟨rfl, rfl⟩

set_option maxRecDepth 20000 in
set_option maxHeartbeats 2000000 in
theorem avStep {w : World} {g1 g5 b off n cap k p m qc b5 off5 x a c : Nat} (hk : k < n) (hp : p < m)
    (h1 : w.cell? ⟨g1, 0, none⟩ = some (.slice (some ⟨b, off, none⟩) n cap)) (h2 : w.cell? ⟨g5, 0, none⟩ = some (.int .i64 p)) (h3 : w.cell? ⟨b, off + k, none⟩ = some (.slice (some ⟨b5, off5, none⟩) m qc))
    (h4 : w.cell? ⟨b5, off5 + p * 2, none⟩ = some (.float .f64 a)) (h5 : w.cell? ⟨b5, off5 + p * 2 + 1, none⟩ = some (.float .f64 c)) :
    Calls Tryz.prog 28 #[.float .f64 x, .int .i64 k, .pointer (some ⟨g1, 0, none⟩), .pointer (some ⟨g5, 0, none⟩)] w fun e w' => ∃ z, e = .returned (.float .f64 z) ∧ cn z = cop .add (cn x) (cpw (cn a) (cn c)) ∧ Below w.heap.size w w' := by
  have ra : ∀ X, Below w.heap.size w X → X.cell? ⟨g1, 0, none⟩ = some (.slice (some ⟨b, off, none⟩) n cap) ∧ X.cell? ⟨g5, 0, none⟩ = some (.int .i64 p) ∧ X.cell? ⟨b, off + k, none⟩ = some (.slice (some ⟨b5, off5, none⟩) m qc) ∧ X.cell? ⟨b5, off5 + p * 2, none⟩ = some (.float .f64 a) ∧ X.cell? ⟨b5, off5 + p * 2 + 1, none⟩ = some (.float .f64 c) :=
    fun X hX => ⟨keepc hX h1, keepc hX h2, keepc hX h3, keepc hX h4, keepc hX h5⟩
  clear h1 h2 h3 h4 h5
  have hA := rAdd
  have l0 : Below w.heap.size w w.drew := (Below.refl _ _).drew
  go_enter Tryz.func28, Tryz.ntmps28
  go_upto_region 1 with fail
  refine wp_region_any (by kernel_rfl) ?_
  change wpAny _ _ _ _ _ _ _ (World.drew _)
  refine wpI_any (I := fun X => Below w.heap.size w X) _ _ _ _ ?_
  refine wpI_take (i := 0) (v := ?_) rfl (by kernel_rfl) (by kernel_rfl) (by kernel_rfl) (fun _ _ _ h => h) ⟨by rfl, ?_⟩ ?_
  rotate_left
  · intro X hI; go_simp; try go_bits
    try rw [if_pos (by omega)]
    try with_reducible rfl
  refine wpI_take (i := 1) (v := ?_) rfl (by kernel_rfl) (by kernel_rfl) (by kernel_rfl) (fun _ _ _ h => h) ⟨by rfl, ?_⟩ ?_
  rotate_left
  · intro X hI; obtain ⟨q1, q2, q3, q4, q5⟩ := ra X hI; go_simp; try go_bits
    try rw [if_pos (by omega)]
    try with_reducible rfl
  refine wpI_take (i := 2) (v := ?_) rfl (by kernel_rfl) (by kernel_rfl) (by kernel_rfl) (fun _ _ _ h => h) ⟨by rfl, ?_⟩ ?_
  rotate_left
  · intro X hI; go_simp; try go_bits
    try rw [if_pos (by omega)]
    try with_reducible rfl
  refine wpI_take (i := 3) (v := ?_) rfl (by kernel_rfl) (by kernel_rfl) (by kernel_rfl) (fun _ _ _ h => h) ⟨by rfl, ?_⟩ ?_
  rotate_left
  · intro X hI; go_simp; try go_bits
    try rw [if_pos (by omega)]
    try with_reducible rfl
  refine wpI_take (i := 4) (v := ?_) rfl (by kernel_rfl) (by kernel_rfl) (by kernel_rfl) (fun _ _ _ h => h) ⟨by rfl, ?_⟩ ?_
  rotate_left
  · intro X hI; obtain ⟨q1, q2, q3, q4, q5⟩ := ra X hI; go_simp; try go_bits
    try rw [if_pos (by omega)]
    try with_reducible rfl
  refine wpI_take (i := 5) (v := ?_) rfl (by kernel_rfl) (by kernel_rfl) (by kernel_rfl) (fun _ _ _ h => h) ⟨by rfl, ?_⟩ ?_
  rotate_left
  · intro X hI; obtain ⟨q1, q2, q3, q4, q5⟩ := ra X hI; go_simp; try go_bits
    try rw [if_pos (by omega)]
    try with_reducible rfl
  refine wpI_take (i := 6) (v := ?_) rfl (by kernel_rfl) (by kernel_rfl) (by kernel_rfl) (fun _ _ _ h => h) ⟨by rfl, ?_⟩ ?_
  rotate_left
  · intro X hI; go_simp; try go_bits
    try rw [if_pos (by omega)]
    try with_reducible rfl
  refine wpI_take (i := 7) (v := ?_) rfl (by kernel_rfl) (by kernel_rfl) (by kernel_rfl) (fun _ _ _ h => h) ⟨by rfl, ?_⟩ ?_
  rotate_left
  · intro X hI; obtain ⟨q1, q2, q3, q4, q5⟩ := ra X hI; go_simp; try go_bits
    try rw [if_pos (by omega)]
    try with_reducible rfl
  refine wpI_only (i := 8) rfl (by kernel_rfl) l0 (by rfl) ?_
  intro K hK
  go_simp
  go_wp2_with (go_at_call 25; refine (iPow_any _ _ _).mono ?_; rintro e x1 ⟨z, rfl, ez, hb1⟩; have l1 := bstep l0 hb1)
  have l2 : Below w.heap.size w (fwor .add x1 x z) := below_fwor l1 _ _ _
  refine wpI_only (i := 9) rfl (by kernel_rfl) l1 (by rfl) ?_
  intro K hK
  go_simp
  refine hK _ _ ?_
  refine wpI_only (i := 10) rfl (by kernel_rfl) l2 (by rfl) ?_
  intro K hK
  go_simp
  try go_bits
  refine hK _ _ ?_
  refine wpI_done l2 (by kernel_rfl) ?_ _
  go_wp2
  go_ret
  exact ⟨_, rfl, by rw [cn_fres, ez], l2⟩

set_option maxHeartbeats 1000000 in
theorem overF_any {w : World} {n : Nat} (hn : n ≤ 128) (c0 c1 : Value) (G : Nat → Option Nat) (x0 : Nat) (hx0 : cn x0 = G 0)
    (hst : ∀ k, k < n → ∀ x, cn x = G k → ∀ W, Below w.heap.size w W → Calls Tryz.prog 28 #[.float .f64 x, .int .i64 k, c0, c1] W fun e w' => ∃ z, e = .returned (.float .f64 z) ∧ cn z = G (k + 1) ∧ Below W.heap.size W w') :
    Calls Tryz.prog 27 #[.int .i64 n, .float .f64 x0, .func (.func 28) #[] #[c0, c1]] w fun e w' => ∃ z, e = .returned (.float .f64 z) ∧ cn z = G n ∧ Below w.heap.size w w' := by
  have HST : Hid (∀ k, k < n → ∀ x, cn x = G k → ∀ W, Below w.heap.size w W → Calls Tryz.prog 28 #[.float .f64 x, .int .i64 k, c0, c1] W fun e w' => ∃ z, e = .returned (.float .f64 z) ∧ cn z = G (k + 1) ∧ Below W.heap.size W w') := hst
  have HX : Hid (cn x0 = G 0) := hx0
  clear hst hx0
  go_enter Tryz.func27, Tryz.ntmps27
  go_wp2
  go_loopw [1, 7, 9] (fun s _ i wr => ∃ (k x : Nat), i = .int .i64 k ∧ s = .float .f64 x ∧ k ≤ n ∧ Hid (cn x = G k ∧ Below w.heap.size w wr)) (fun _ _ i _ => n - (intOf i).toNat)
  case atStart => exact ⟨0, x0, rfl, rfl, by omega, HX.out, Below.refl _ _⟩
  case round =>
    obtain ⟨k, x, rfl, rfl, hk, hrel⟩ := hrel
    by_cases h1 : k < n
    · have hc := HST.out k h1 x hrel.out.1 wr hrel.out.2
      go_wp2_with (go_at_call 28; refine hc.mono ?_; rintro e w1 ⟨z, rfl, hz, hb1⟩; have HZ : Hid (cn z = G (k + 1)) := hz; have B1 : Hid (Below w.heap.size w w1) := bstep hrel.out.2 hb1; clear hz hb1)
      go_roundw
      case rel => exact ⟨k + 1, _, by go_num, rfl, by omega, HZ.out, B1.out⟩
      case measure => simp [intOf]; omega
    · obtain rfl : n = k := by omega
      have HZ : Hid (cn x = G n) := hrel.out.1
      go_wp2
      go_ret
      exact ⟨_, rfl, HZ.out, hrel.out.2⟩

set_option maxRecDepth 20000 in
set_option maxHeartbeats 4000000 in
theorem iAvg_good {w : World} {v : Value} {n : Nat} {ms : Nat → Nat} {X Y : Nat → Nat → Nat} (hv : Fpp w v n ms X Y) (hg : GA n ms) : Calls Tryz.prog 10 #[v] w fun e w' => Pa w w' e (ms 0) (avv X Y n) true := by
  obtain ⟨i0, hi, hz0, hz1, hz2⟩ := info_parts Tryz.info37
  have hbx := below_one w (.cells #[v] 27)
  have i1 := alike_any (hv.below hbx) (by omega) (fun k hk => by rw [hg.2.2 k hk]; omega) true (fun _ => rfl) (fun h => absurd hg h)
  have hmsall : ∀ k, k < n → ms k = ms 0 := hg.2.2
  have HALL : Hid (∀ k, k < n → ms k = ms 0) := hmsall
  obtain ⟨⟨hn1, hn2⟩, hm, _⟩ := hg
  obtain ⟨ao, cap, rfl, hcap, hc⟩ := hv
  obtain ⟨b, off, R, rfl, hlt, hcell⟩ := hc (by omega)
  have hrows := rows_at hcell
  have ROWS : Hid (∀ k, k < n → ∃ qa qc, w.cell? ⟨b, off + k, none⟩ = some (.slice qa (ms k) qc) ∧ Fp w (.slice qa (ms k) qc) (ms k) (X k) (Y k)) := hrows
  obtain ⟨qa0, qc0, c0, _⟩ := hrows 0 (by omega)
  have c0' : (w.alloc (.cells #[.slice (some ⟨b, off, none⟩) n cap] 27)).cell? ⟨b, off, none⟩ = some (.slice qa0 (ms 0) qc0) := (hbx.cell (p := ⟨b, off, none⟩) hlt).trans c0
  have bx : (w.alloc (.cells #[.slice (some ⟨b, off, none⟩) n cap] 27)).cell? ⟨w.heap.size, 0, none⟩ = some (.slice (some ⟨b, off, none⟩) n cap) := by simp
  have HLT : Hid (b < w.heap.size) := hlt
  have HBX : Hid (Below w.heap.size w (w.alloc (.cells #[.slice (some ⟨b, off, none⟩) n cap] 27))) := hbx
  clear hcell hrows hc c0 hmsall hlt hbx
  generalize ms 0 = m at *
  obtain ⟨w1, hmk, hrow, hgr⟩ := run_makeSlice_full (P := Tryz.prog) (w.alloc (.cells #[.slice (some ⟨b, off, none⟩) n cap] 27)) (w.alloc (.cells #[.slice (some ⟨b, off, none⟩) n cap] 27)).heap.size 32 37 i0 (.float .f64 0) 1 Tryz.underlying32 hi hz0 hz1 .i64 .i64 m (by omega) (by rw [hz2]; omega) (by unfold maxLen; omega) (Nat.le_refl _)
  have hbl : Below (w.alloc (.cells #[.slice (some ⟨b, off, none⟩) n cap] 27)).heap.size (w.alloc (.cells #[.slice (some ⟨b, off, none⟩) n cap] 27)) w1 := (Below.refl _ _).grown hgr (Nat.le_refl _) (fun _ h => by cases h)
  rw [made_fls] at hrow
  have hg1 : w.heap.size < (w.alloc (.cells #[.slice (some ⟨b, off, none⟩) n cap] 27)).heap.size := by simp
  have hgz : (w.alloc (.cells #[.slice (some ⟨b, off, none⟩) n cap] 27)).heap.size = w.heap.size + 1 := by simp
  have B1 : Hid (Below w.heap.size w w1) := bstep HBX.out hbl
  have bx1 : w1.cell? ⟨w.heap.size, 0, none⟩ = some (.slice (some ⟨b, off, none⟩) n cap) := keepc hbl bx
  have BX1 : Hid (w1.cell? ⟨w.heap.size, 0, none⟩ = some (.slice (some ⟨b, off, none⟩) n cap)) := bx1
  rw [hgz] at hrow
  have HR : Hid (w1.ownsRow (w.heap.size + 1) 37 1 (.slice (some ⟨w.heap.size + 1, 0, none⟩) m m) m (fls (fun _ => 0) m)) := hrow
  clear hrow hbl hgr hi hz0 hz1 hz2 hg1 hgz bx1
  have hST := rStore
  have hQ := rQuo
  have hfc := fwor_cell
  have hff := fwor_frozen
  go_enter Tryz.func10, Tryz.ntmps10
  go_wp2_with (first | (go_at_call 26; (with_reducible refine (i1).mono ?_); rintro e w' ⟨rfl, hw⟩; obtain rfl := hw.symm))
  clear bx c0' i1
  go_loopw [5, 6, 18] (fun _ _ i wr => ∃ k : Nat, i = .int .i64 k ∧ k ≤ m ∧ Hid (∃ zs, wr.ownsRow (w.heap.size + 1) 37 1 (.slice (some ⟨w.heap.size + 1, 0, none⟩) m m) m (fls zs m) ∧ (∀ j, j < k → cn (zs j) = avv X Y n j) ∧ Below w.heap.size w wr ∧ wr.cell? ⟨w.heap.size, 0, none⟩ = some (.slice (some ⟨b, off, none⟩) n cap))) (fun _ _ i _ => m - (intOf i).toNat)
  case atStart => exact ⟨0, rfl, by omega, fun _ => 0, HR.out, fun j hj => by omega, B1.out, BX1.out⟩
  case round =>
    obtain ⟨k, rfl, hk, hrel⟩ := hrel
    obtain ⟨zs, hown, hzs, hbl, hbx⟩ := hrel.out
    by_cases h1 : k < m
    · have HO : Hid (wr.ownsRow (w.heap.size + 1) 37 1 (.slice (some ⟨w.heap.size + 1, 0, none⟩) m m) m (fls zs m)) := hown
      have HZ : Hid (∀ j, j < k → cn (zs j) = avv X Y n j) := hzs
      have HBL : Hid (Below w.heap.size w wr) := hbl
      have hb5 := below_one wr (.cells #[.int .i64 (k : Int)] 3)
      have e1 : (wr.alloc (.cells #[.int .i64 (k : Int)] 3)).cell? ⟨w.heap.size, 0, none⟩ = some (.slice (some ⟨b, off, none⟩) n cap) := keepc hb5 hbx
      have e5 : (wr.alloc (.cells #[.int .i64 (k : Int)] 3)).cell? ⟨wr.heap.size, 0, none⟩ = some (.int .i64 k) := by simp
      have hw5 := bstep hbl hb5
      have i2 := overF_any (w := wr.alloc (.cells #[.int .i64 (k : Int)] 3)) hn2 (.pointer (some ⟨w.heap.size, 0, none⟩)) (.pointer (some ⟨wr.heap.size, 0, none⟩)) (avs X Y k) 0 rfl (fun q hq x hx W hW => by
        obtain ⟨qa, qc, c, hfp⟩ := ROWS.out q hq
        rw [HALL.out q hq] at c hfp
        have hall := bstep hw5 hW
        obtain ⟨qa', qc', he, hqc, hqq⟩ := hfp.below hall
        obtain ⟨rfl, -, rfl⟩ := Value.slice.inj he
        obtain ⟨b5, off5, rfl, hlt5, hcell5⟩ := hqq (by omega)
        obtain ⟨d0, d1⟩ := hcell5 k h1
        refine (avStep hq h1 (keepc hW e1) (keepc hW e5) (keepc hall c) d0 d1).mono ?_
        rintro e w' ⟨z, he, hz, hb⟩
        exact ⟨z, he, by rw [hz, hx]; rfl, hb⟩)
      have HB5 : Hid (Below wr.heap.size wr (wr.alloc (.cells #[.int .i64 (k : Int)] 3))) := hb5
      have E5 : Hid ((wr.alloc (.cells #[.int .i64 (k : Int)] 3)).cell? ⟨wr.heap.size, 0, none⟩ = some (.int .i64 k)) := e5
      have E1 : Hid ((wr.alloc (.cells #[.int .i64 (k : Int)] 3)).cell? ⟨w.heap.size, 0, none⟩ = some (.slice (some ⟨b, off, none⟩) n cap)) := e1
      clear hrel hown hzs hbl hb5 hw5 e5
      go_wp2_with (first | (go_at_call 27; refine i2.mono ?_; rintro e w3 ⟨z, rfl, hz, hb3⟩; have EZ : Hid (cn z = avs X Y k n) := hz; have hbt := bstep HB5.out hb3; have q5 := keepc hb3 E5.out; have q1 := keepc hb3 E1.out; have Q1 : Hid (w3.cell? ⟨w.heap.size, 0, none⟩ = some (.slice (some ⟨b, off, none⟩) n cap)) := q1; have O4 := own_below HO.out (below_fwor hbt .quo z (fk (n : Int))); have B4 : Hid (Below w.heap.size w (fwor .quo w3 z (fk (n : Int)))) := bstep HBL.out (below_fwor hbt .quo z (fk (n : Int))); have hfz := O4.frozenAt k; have hst := (O4.stored k (.float .f64 (fres .quo w3 z (fk (n : Int))))).1; have hce := O4.cellAt k (by omega); rw [fls_get h1, fwor_cell] at hce; rw [fwor_frozen] at hfz; rw [fls_put] at hst; have HS : Hid _ := hst; clear hst O4 hbt hb3 hz))
      go_roundw
      case rel =>
        refine ⟨k + 1, by go_num, by omega, _, HS.out, fun j hj => ?_, B4.out.setCell (Nat.le_succ _) _, ?_⟩
        · by_cases hjk : j = k
          · subst hjk
            rw [if_pos rfl, cn_fres, EZ.out]
            rfl
          · rw [if_neg hjk]
            exact HZ.out j (by omega)
        · rw [World.cell?_setCell_other]
          · rw [fwor_cell]; exact Q1.out
          · intro h; simp at h
      case measure => simp [intOf]; omega
    · obtain rfl : m = k := by omega
      have HO : Hid (wr.ownsRow (w.heap.size + 1) 37 1 (.slice (some ⟨w.heap.size + 1, 0, none⟩) m m) m (fls zs m)) := hown
      have HZ : Hid (∀ j, j < m → cn (zs j) = avv X Y n j) := hzs
      have HBL : Hid (Below w.heap.size w wr) := hbl
      clear hrel hown hzs hbl
      go_wp2
      go_ret2
      exact ⟨_, zs, rfl, own_base HO.out (by omega), HZ.out, HBL.out⟩

set_option maxHeartbeats 1000000 in
theorem iAvg_bad {w : World} {v : Value} {n : Nat} {ms : Nat → Nat} {X Y : Nat → Nat → Nat} (hv : Fpp w v n ms X Y) (hn : n ≤ 1048576) (hms : ∀ k, k < n → ms k ≤ 1048576) (hg : ¬ GA n ms) (C : Nat → Option Nat) : Calls Tryz.prog 10 #[v] w fun e w' => Pa w w' e 0 C false := by
  have hbx := below_one w (.cells #[v] 27)
  have i1 := alike_any (hv.below hbx) hn hms false (fun h => absurd h hg) (fun _ => rfl)
  have ho := own_base (own_empty (w.alloc (.cells #[v] 27)) 37 1) hbx.size
  have hb := bstep hbx (below_one _ (.cells #[] 37))
  obtain ⟨ao, cap, rfl, hcap, hc⟩ := hv
  have hz : (w.alloc (.cells #[.slice ao n cap] 27)).heap.size = w.heap.size + 1 := by simp
  rw [hz] at ho
  have HO : Hid (((w.alloc (.cells #[.slice ao n cap] 27)).alloc (.cells #[] 37)).ownsRow w.heap.size 37 1 (.slice (some ⟨w.heap.size + 1, 0, none⟩) 0 0) 0 []) := ho
  have HB : Hid (Below w.heap.size w ((w.alloc (.cells #[.slice ao n cap] 27)).alloc (.cells #[] 37))) := hb
  clear hc hbx hg hz ho hb
  go_enter Tryz.func10, Tryz.ntmps10
  go_wp2_with (first | (go_at_call 26; (with_reducible refine (i1).mono ?_); rintro e w' ⟨rfl, hw⟩; obtain rfl := hw.symm))
  go_ret2
  exact ⟨_, fun _ => 0, rfl, HO.out, fun k hk => by omega, HB.out⟩
end Go.Proofs.YtddbekacdfohpaaGreatDoor.W
