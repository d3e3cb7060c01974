/- Bin. -/
import Derived.Test.YtkfmmabamiommaaW4
import Derived.Test.YtkfmmabamiommaaA4
namespace Go.Proofs.Ytkfmmabamiommaa
open Go.RowKit

/-- Within MaxTap. -/
abbrev Tp (x : Int) : Prop := -1000000 ≤ x ∧ x ≤ 1000000

/-- What the first k samples have of a wave. -/
def shr (xs : Nat → Int) (st late : Int) : Nat → Int
  | 0 => 0
  | k + 1 => shr xs st late k + xs k * cosv (k * st - late)

theorem shr_bounds {xs : Nat → Int} {st late : Int} {n : Nat} (h : ∀ k, k < n → Tp (xs k)) : ∀ k, k ≤ n → -1073741824000000 * (k : Int) ≤ shr xs st late k ∧ shr xs st late k ≤ 1073741824000000 * (k : Int)
  | 0, _ => by simp [shr]
  | k + 1, hk => by
    have h1 := shr_bounds (st := st) (late := late) h k (by omega)
    have h2 := mul_bounds (x := xs k) (c := cosv (k * st - late)) (A := 1000000) (B := 1073741824) (by decide) (h k (by omega)) (cosv_bounds _)
    unfold shr
    omega

/-- Good for Bin. -/
abbrev GB (n : Nat) (xs : Nat → Int) (st : Int) : Prop := (Sig n xs ∧ ∀ k, k < n → Tp (xs k)) ∧ Smp st

/-- What Bin answers. -/
def bnv (n : Nat) (xs : Nat → Int) (st late : Int) : Int := shV (shr xs st late n) 30 3

set_option maxHeartbeats 1000000 in
theorem within_any {w : World} {v : Value} {n : Nat} {xs : Nat → Int} (hv : Il w v n xs) (hn : n ≤ 1048576) : Calls Try.prog 45 #[v] w fun e w' => e = .returned (.bool (decide (∀ k, k < n → Tp (xs k)))) ∧ w' = w := by
  obtain ⟨ao, cap, rfl, hcap, hc⟩ := hv
  have HC : Hid (0 < n → ∃ b off, ao = some ⟨b, off, none⟩ ∧ b < w.heap.size ∧ ∀ k, k < n → w.cell? ⟨b, off + k, none⟩ = some (.int .i64 (xs k))) := hc
  clear hc
  obtain ⟨d, hd⟩ : ∃ d, d = decide (∀ k, k < n → Tp (xs k)) := ⟨_, rfl⟩
  rw [← hd]
  have HD : Hid _ := hd
  clear hd
  go_enter Try.func45, Try.ntmps45
  go_wp2
  go_loopw [4, 7] (fun _ i wr => ∃ k : Nat, i = .int .i64 k ∧ k ≤ n ∧ wr = w ∧ Hid (∀ j, j < k → Tp (xs j))) (fun _ i _ => n - (intOf i).toNat)
  case atStart => exact ⟨0, rfl, by omega, rfl, fun j hj => by omega⟩
  case round =>
    obtain ⟨k, rfl, hk, rfl, hal⟩ := hrel
    by_cases h1 : k < n
    · obtain ⟨b, off, rfl, hlt, hcell⟩ := HC.out (by omega)
      have c := hcell k h1
      clear hcell
      by_cases hs0 : xs k < -1000000
      · go_wp2
        go_ret
        exact ⟨congrArg (fun z => Ending.returned (.bool z)) (by rw [HD.out]; exact (decide_eq_false (fun h => by have := (h k h1).1; omega)).symm), rfl⟩
      · by_cases hs1 : 1000000 < xs k
        · go_wp2
          go_ret
          exact ⟨congrArg (fun z => Ending.returned (.bool z)) (by rw [HD.out]; exact (decide_eq_false (fun h => by have := (h k h1).2; omega)).symm), rfl⟩
        · have HS : Hid (Tp (xs k)) := ⟨by omega, by omega⟩
          go_wp2
          go_roundw
          case rel =>
            refine ⟨k + 1, by go_num, by omega, by trivial, fun j hj => ?_⟩
            by_cases hjk : j = k
            · subst hjk; exact HS.out
            · exact hal.out j (by omega)
          case measure => simp [intOf]; omega
    · obtain rfl : k = n := by omega
      go_wp2
      go_ret
      exact ⟨congrArg (fun z => Ending.returned (.bool z)) (by rw [HD.out]; exact (decide_eq_true hal.out).symm), rfl⟩

theorem has_any {w : World} {v : Value} {n : Nat} {xs : Nat → Int} (hv : Il w v n xs) (hn : n ≤ 1048576) : Calls Try.prog 37 #[v] w fun e w' => e = .returned (.bool (decide (Sig n xs ∧ ∀ k, k < n → Tp (xs k)))) ∧ w' = w := by
  have i1 := iSig_any hv hn
  have i2 := within_any hv hn
  obtain ⟨ao, cap, rfl, hcap, hc⟩ := hv
  clear hc
  by_cases h1 : Sig n xs
  · rw [decide_eq_true h1] at i1
    have e : decide (Sig n xs ∧ ∀ k, k < n → Tp (xs k)) = decide (∀ k, k < n → Tp (xs k)) := decide_eq_decide.2 ⟨fun h => h.2, fun h => ⟨h1, h⟩⟩
    rw [e]
    generalize decide (∀ k, k < n → Tp (xs k)) = d at i2 ⊢
    clear h1 e
    go_enter Try.func37, Try.ntmps37
    go_wp2_with (first | (go_at_call 44; (with_reducible refine (i1).mono ?_); rintro e w' ⟨rfl, hw⟩; obtain rfl := hw.symm) | (go_at_call 45; (with_reducible refine (i2).mono ?_); rintro e w' ⟨rfl, hw⟩; obtain rfl := hw.symm))
    go_ret
    exact ⟨rfl, rfl⟩
  · rw [decide_eq_false h1] at i1
    rw [decide_eq_false (fun h => h1 h.1)]
    clear h1
    go_enter Try.func37, Try.ntmps37
    go_wp2_with (first | (go_at_call 44; (with_reducible refine (i1).mono ?_); rintro e w' ⟨rfl, hw⟩; obtain rfl := hw.symm) | (go_at_call 45; (with_reducible refine (i2).mono ?_); rintro e w' ⟨rfl, hw⟩; obtain rfl := hw.symm))
    go_ret
    exact ⟨rfl, rfl⟩

theorem keepc {W w1 : World} (hb : Below W.heap.size W w1) {a : Addr} {v : Value} (h : W.cell? a = some v) : w1.cell? a = some v := (hb.cell (World.block_lt_of_cell? W _ h)).trans h

set_option maxHeartbeats 2000000 in
theorem shStep {w : World} {g1 g2 g3 g4 b off n cap k : Nat} {S x st late : Int} (hk : k < n)
    (h1 : w.cell? ⟨g1, 0, none⟩ = some (.slice (some ⟨b, off, none⟩) n cap)) (h2 : w.cell? ⟨g2, 0, none⟩ = some (.int .i64 st)) (h3 : w.cell? ⟨g3, 0, none⟩ = some (.int .i64 late)) (h4 : w.cell? ⟨g4, 0, none⟩ = some (.func (.func 28) #[] #[]))
    (h5 : w.cell? ⟨b, off + k, none⟩ = some (.int .i64 x)) (hkk : (k : Int) ≤ 512) (hx : Tp x) (hst : Smp st) (hl : 0 ≤ late ∧ late ≤ 64) (hS : -600000000000000000 ≤ S ∧ S ≤ 600000000000000000) :
    Calls Try.prog 48 #[.int .i64 S, .int .i64 k, .pointer (some ⟨g1, 0, none⟩), .pointer (some ⟨g2, 0, none⟩), .pointer (some ⟨g3, 0, none⟩), .pointer (some ⟨g4, 0, none⟩)] w fun e w' => e = .returned (.int .i64 (S + x * cosv (k * st - late))) ∧ Below w.heap.size w w' := by
  have ra : ∀ X, Below w.heap.size w X → X.cell? ⟨g1, 0, none⟩ = some (.slice (some ⟨b, off, none⟩) n cap) ∧ X.cell? ⟨g2, 0, none⟩ = some (.int .i64 st) ∧ X.cell? ⟨g3, 0, none⟩ = some (.int .i64 late) ∧ X.cell? ⟨g4, 0, none⟩ = some (.func (.func 28) #[] #[]) ∧ X.cell? ⟨b, off + k, none⟩ = some (.int .i64 x) :=
    fun X hX => ⟨keepc hX h1, keepc hX h2, keepc hX h3, keepc hX h4, keepc hX h5⟩
  clear h1 h2 h3 h4 h5
  have m1 := mul_bounds (x := (k : Int)) (c := st) (A := 512) (B := 1000000000) (by decide) ⟨by omega, by omega⟩ hst
  have i1 := mirrored_any (k * st - late)
  have m2 := mul_bounds (x := x) (c := cosv (k * st - late)) (A := 1000000) (B := 1073741824) (by decide) hx (cosv_bounds _)
  generalize cosv (k * st - late) = c at i1 m2 ⊢
  have l0 : Below w.heap.size w w.drew := (Below.refl _ _).drew
  go_enter Try.func48, Try.ntmps48
  go_upto_region 1 with fail
  refine wp_region_any (by kernel_rfl) ?_
  change wpAny _ _ _ _ _ _ _ (World.drew _)
  refine wpI_any (I := fun X => Below w.heap.size w X) _ _ _ _ ?_
  refine wpI_take (i := 0) (v := ?_) rfl (by kernel_rfl) (by kernel_rfl) (by kernel_rfl) (fun _ _ _ h => h) ⟨by rfl, ?_⟩ ?_
  rotate_left
  · intro X hI; go_simp; try go_bits
    try rw [if_pos (by omega)]
    try with_reducible rfl
  refine wpI_take (i := 1) (v := ?_) rfl (by kernel_rfl) (by kernel_rfl) (by kernel_rfl) (fun _ _ _ h => h) ⟨by rfl, ?_⟩ ?_
  rotate_left
  · intro X hI; obtain ⟨q1, q2, q3, q4, q5⟩ := ra X hI; go_simp; try go_bits
    try rw [if_pos (by omega)]
    try with_reducible rfl
  refine wpI_take (i := 2) (v := ?_) rfl (by kernel_rfl) (by kernel_rfl) (by kernel_rfl) (fun _ _ _ h => h) ⟨by rfl, ?_⟩ ?_
  rotate_left
  · intro X hI; go_simp; try go_bits
    try rw [if_pos (by omega)]
    try with_reducible rfl
  refine wpI_take (i := 3) (v := ?_) rfl (by kernel_rfl) (by kernel_rfl) (by kernel_rfl) (fun _ _ _ h => h) ⟨by rfl, ?_⟩ ?_
  rotate_left
  · intro X hI; go_simp; try go_bits
    try rw [if_pos (by omega)]
    try with_reducible rfl
  refine wpI_take (i := 4) (v := ?_) rfl (by kernel_rfl) (by kernel_rfl) (by kernel_rfl) (fun _ _ _ h => h) ⟨by rfl, ?_⟩ ?_
  rotate_left
  · intro X hI; obtain ⟨q1, q2, q3, q4, q5⟩ := ra X hI; go_simp; try go_bits
    try rw [if_pos (by omega)]
    try with_reducible rfl
  refine wpI_take (i := 5) (v := ?_) rfl (by kernel_rfl) (by kernel_rfl) (by kernel_rfl) (fun _ _ _ h => h) ⟨by rfl, ?_⟩ ?_
  rotate_left
  · intro X hI; go_simp; try go_bits
    try rw [if_pos (by omega)]
    try with_reducible rfl
  refine wpI_take (i := 6) (v := ?_) rfl (by kernel_rfl) (by kernel_rfl) (by kernel_rfl) (fun _ _ _ h => h) ⟨by rfl, ?_⟩ ?_
  rotate_left
  · intro X hI; obtain ⟨q1, q2, q3, q4, q5⟩ := ra X hI; go_simp; try go_bits
    try rw [if_pos (by omega)]
    try with_reducible rfl
  refine wpI_take (i := 7) (v := ?_) rfl (by kernel_rfl) (by kernel_rfl) (by kernel_rfl) (fun _ _ _ h => h) ⟨by rfl, ?_⟩ ?_
  rotate_left
  · intro X hI; go_simp; try go_bits
    try rw [if_pos (by omega)]
    try with_reducible rfl
  refine wpI_take (i := 8) (v := ?_) rfl (by kernel_rfl) (by kernel_rfl) (by kernel_rfl) (fun _ _ _ h => h) ⟨by rfl, ?_⟩ ?_
  rotate_left
  · intro X hI; obtain ⟨q1, q2, q3, q4, q5⟩ := ra X hI; go_simp; try go_bits
    try rw [if_pos (by omega)]
    try with_reducible rfl
  refine wpI_take (i := 9) (v := ?_) rfl (by kernel_rfl) (by kernel_rfl) (by kernel_rfl) (fun _ _ _ h => h) ⟨by rfl, ?_⟩ ?_
  rotate_left
  · intro X hI; go_simp; try go_bits
    try rw [if_pos (by omega)]
    try with_reducible rfl
  refine wpI_take (i := 10) (v := ?_) rfl (by kernel_rfl) (by kernel_rfl) (by kernel_rfl) (fun _ _ _ h => h) ⟨by rfl, ?_⟩ ?_
  rotate_left
  · intro X hI; obtain ⟨q1, q2, q3, q4, q5⟩ := ra X hI; go_simp; try go_bits
    try rw [if_pos (by omega)]
    try with_reducible rfl
  refine wpI_only (i := 11) rfl (by kernel_rfl) l0 (by rfl) ?_
  intro K hK
  go_simp
  go_wp2_with (go_at_call 27; (with_reducible refine (i1 _).mono ?_); rintro e x1 ⟨rfl, hb1⟩; have l1 := bstep l0 hb1)
  refine wpI_only (i := 12) rfl (by kernel_rfl) l1 (by rfl) ?_
  intro K hK
  go_simp
  try go_bits
  refine hK _ _ ?_
  refine wpI_only (i := 13) rfl (by kernel_rfl) l1 (by rfl) ?_
  intro K hK
  go_simp
  try go_bits
  refine hK _ _ ?_
  refine wpI_only (i := 14) rfl (by kernel_rfl) l1 (by rfl) ?_
  intro K hK
  go_simp
  try go_bits
  refine hK _ _ ?_
  refine wpI_done l1 (by kernel_rfl) ?_ _
  go_wp2
  go_ret
  exact ⟨rfl, l1⟩

set_option maxHeartbeats 1000000 in
theorem over_any {w : World} {n : Nat} (hn : n ≤ 512) (c0 c1 c2 c3 : Value) (G : Nat → Int)
    (hst : ∀ k, k < n → ∀ W, Below w.heap.size w W → Calls Try.prog 48 #[.int .i64 (G k), .int .i64 k, c0, c1, c2, c3] W fun e w' => e = .returned (.int .i64 (G (k + 1))) ∧ Below W.heap.size W w') :
    Calls Try.prog 47 #[.int .i64 n, .int .i64 (G 0), .func (.func 48) #[] #[c0, c1, c2, c3]] w fun e w' => e = .returned (.int .i64 (G n)) ∧ Below w.heap.size w w' := by
  have HST : Hid _ := hst
  clear hst
  go_enter Try.func47, Try.ntmps47
  go_wp2
  go_loopw [1, 7, 9] (fun s _ i wr => ∃ k : Nat, i = .int .i64 k ∧ s = .int .i64 (G k) ∧ k ≤ n ∧ Hid (Below w.heap.size w wr)) (fun _ _ i _ => n - (intOf i).toNat)
  case atStart => exact ⟨0, rfl, rfl, by omega, Below.refl _ _⟩
  case round =>
    obtain ⟨k, rfl, rfl, hk, hrel⟩ := hrel
    by_cases h1 : k < n
    · have hc := HST.out k h1 wr hrel.out
      go_wp2_with (go_at_call 48; refine hc.mono ?_; rintro e w1 ⟨rfl, hb1⟩)
      go_roundw
      case rel => exact ⟨k + 1, by go_num, rfl, by omega, bstep hrel.out hb1⟩
      case measure => simp [intOf]; omega
    · obtain rfl : k = n := by omega
      go_wp2
      go_ret
      exact ⟨rfl, hrel.out⟩

/-- Four boxes. -/
theorem box4 (w : World) (p q r s : Value) (t1 t2 t3 t4 : TypeId) : Below w.heap.size w ((((w.alloc (.cells #[p] t1)).alloc (.cells #[q] t2)).alloc (.cells #[r] t3)).alloc (.cells #[s] t4)) ∧ ((((w.alloc (.cells #[p] t1)).alloc (.cells #[q] t2)).alloc (.cells #[r] t3)).alloc (.cells #[s] t4)).cell? ⟨w.heap.size, 0, none⟩ = some p ∧ ((((w.alloc (.cells #[p] t1)).alloc (.cells #[q] t2)).alloc (.cells #[r] t3)).alloc (.cells #[s] t4)).cell? ⟨w.heap.size + 1, 0, none⟩ = some q ∧ ((((w.alloc (.cells #[p] t1)).alloc (.cells #[q] t2)).alloc (.cells #[r] t3)).alloc (.cells #[s] t4)).cell? ⟨w.heap.size + 1 + 1, 0, none⟩ = some r ∧ ((((w.alloc (.cells #[p] t1)).alloc (.cells #[q] t2)).alloc (.cells #[r] t3)).alloc (.cells #[s] t4)).cell? ⟨w.heap.size + 1 + 1 + 1, 0, none⟩ = some s := by
  have b1 := below_one w (.cells #[p] t1)
  have b2 := below_one (w.alloc (.cells #[p] t1)) (.cells #[q] t2)
  have b3 := below_one ((w.alloc (.cells #[p] t1)).alloc (.cells #[q] t2)) (.cells #[r] t3)
  have b4 := below_one (((w.alloc (.cells #[p] t1)).alloc (.cells #[q] t2)).alloc (.cells #[r] t3)) (.cells #[s] t4)
  have n : ∀ (X : World) (v : Value) (t : TypeId), (X.alloc (.cells #[v] t)).cell? ⟨X.heap.size, 0, none⟩ = some v := fun X v t => by simp
  refine ⟨bstep (bstep (bstep b1 b2) b3) b4, keepc b4 (keepc b3 (keepc b2 (n w p t1))), keepc b4 (keepc b3 ?_), keepc b4 ?_, ?_⟩
  · simp
  · have := n ((w.alloc (.cells #[p] t1)).alloc (.cells #[q] t2)) r t3
    simpa using this
  · have := n (((w.alloc (.cells #[p] t1)).alloc (.cells #[q] t2)).alloc (.cells #[r] t3)) s t4
    simpa using this

set_option maxRecDepth 20000 in
set_option maxHeartbeats 2000000 in
theorem share_any {w : World} {v : Value} {n : Nat} {xs : Nat → Int} {st : Int} (hv : Il w v n xs) (hn : n ≤ 512) (hx : ∀ k, k < n → Tp (xs k)) (hst : Smp st) (late : Int) (hl : 0 ≤ late ∧ late ≤ 64) :
    Calls Try.prog 46 #[v, .int .i64 st, .int .i64 late, .func (.func 28) #[] #[]] w fun e w' => e = .returned (.int .i64 (bnv n xs st late)) ∧ Below w.heap.size w w' := by
  obtain ⟨ao, cap, rfl, hcap, hc⟩ := hv
  have HC : Hid (0 < n → ∃ b off, ao = some ⟨b, off, none⟩ ∧ b < w.heap.size ∧ ∀ k, k < n → w.cell? ⟨b, off + k, none⟩ = some (.int .i64 (xs k))) := hc
  clear hc
  obtain ⟨hB, q0, q1, q2, q3⟩ := box4 w (.slice ao n cap) (.int .i64 st) (.int .i64 late) (.func (.func 28) #[] #[]) 24 3 3 22
  have HBW : Hid (Below w.heap.size w _) := hB
  clear hB
  have i3 := iShift_any (shr xs st late n) 30 3
  have e3 : shV (shr xs st late n) 30 3 = bnv n xs st late := rfl
  rw [e3] at i3
  clear e3
  generalize bnv n xs st late = Y at i3 ⊢
  go_enter Try.func46, Try.ntmps46
  go_upto_region 1 with fail
  generalize (((w.alloc (.cells #[.slice ao n cap] 24)).alloc (.cells #[.int .i64 st] 3)).alloc (.cells #[.int .i64 late] 3)).alloc (.cells #[.func (.func 28) #[] #[]] 22) = W at *
  generalize w.heap.size + 1 + 1 + 1 = g4 at *
  generalize w.heap.size + 1 + 1 = g3 at *
  generalize w.heap.size + 1 = g2 at *
  obtain ⟨g1, hg1⟩ : ∃ g1, w.heap.size = g1 := ⟨_, rfl⟩
  rw [hg1] at q0
  rw [hg1]
  have HG1 : Hid (w.heap.size = g1) := hg1
  clear hg1
  have i2 := over_any (w := W) hn (.pointer (some ⟨g1, 0, none⟩)) (.pointer (some ⟨g2, 0, none⟩)) (.pointer (some ⟨g3, 0, none⟩)) (.pointer (some ⟨g4, 0, none⟩)) (shr xs st late) (fun k hk X hX => by
    obtain ⟨b, off, rfl, hlt, hcell⟩ := HC.out (by omega)
    have hb := shr_bounds (st := st) (late := late) hx k (by omega)
    exact shStep hk (keepc hX q0) (keepc hX q1) (keepc hX q2) (keepc hX q3) (keepc hX (keepc HBW.out (hcell k hk))) (by omega) (hx k hk) hst hl (by omega))
  have e0 : shr xs st late 0 = 0 := rfl
  rw [e0] at i2
  generalize shr xs st late n = Z at i2 i3
  clear HC hx
  go_wp2_with (first | (go_at_call 47; (with_reducible refine (i2).mono ?_); rintro e w1 ⟨rfl, hb1⟩; have B1 : Hid (Below w.heap.size w w1) := bstep HBW.out hb1; clear hb1) | (go_at_call 49; (with_reducible refine (i3 _).mono ?_); rintro e w' ⟨rfl, hw⟩; obtain rfl := hw.symm))
  go_ret
  exact ⟨rfl, B1.out⟩

theorem shares_any {w : World} {v : Value} {n : Nat} {xs : Nat → Int} {st : Int} (hv : Il w v n xs) (hn : n ≤ 512) (hx : ∀ k, k < n → Tp (xs k)) (hst : Smp st) :
    Calls Try.prog 38 #[v, .int .i64 st, .func (.func 28) #[] #[]] w fun e w' => e = .returned (.tuple #[.int .i64 (bnv n xs st 0), .int .i64 (bnv n xs st 64)]) ∧ Below w.heap.size w w' := by
  have i1 : ∀ W, Below w.heap.size w W → Calls Try.prog 46 #[v, .int .i64 st, .int .i64 0, .func (.func 28) #[] #[]] W fun e w' => e = .returned (.int .i64 (bnv n xs st 0)) ∧ Below W.heap.size W w' := fun W hW => share_any (hv.below hW) hn hx hst 0 (by omega)
  have i2 : ∀ W, Below w.heap.size w W → Calls Try.prog 46 #[v, .int .i64 st, .int .i64 64, .func (.func 28) #[] #[]] W fun e w' => e = .returned (.int .i64 (bnv n xs st 64)) ∧ Below W.heap.size W w' := fun W hW => share_any (hv.below hW) hn hx hst 64 (by omega)
  have b0 := Below.refl w.heap.size w
  generalize bnv n xs st 0 = X at i1 ⊢
  generalize bnv n xs st 64 = Y at i2 ⊢
  obtain ⟨ao, cap, rfl, hcap, hc⟩ := hv
  clear hc hx
  go_enter Try.func38, Try.ntmps38
  go_wp2_with (first | (go_at_call 46; (with_reducible refine (i1 _ b0).mono ?_); rintro e w1 ⟨rfl, hb1⟩) | (go_at_call 46; (with_reducible refine (i2 _ hb1).mono ?_); rintro e w2 ⟨rfl, hb2⟩))
  go_ret2
  exact ⟨rfl, bstep hb1 hb2⟩

set_option maxHeartbeats 1000000 in
theorem iBin_any {w : World} {v : Value} {n : Nat} {xs : Nat → Int} {st : Int} (hv : Il w v n xs) (hn : n ≤ 1048576) (X Y : Int) (ok : Bool)
    (hg : GB n xs st → bnv n xs st 0 = X ∧ bnv n xs st 64 = Y ∧ ok = true) (hb : ¬ GB n xs st → X = 0 ∧ Y = 0 ∧ ok = false) :
    Calls Try.prog 20 #[v, .int .i64 st] w fun e w' => e = .returned (.tuple #[.int .i64 X, .int .i64 Y, .bool ok]) ∧ Below w.heap.size w w' := by
  have i1 := has_any hv hn
  have i2 := iSmp_any st
  by_cases h1 : Sig n xs ∧ ∀ k, k < n → Tp (xs k)
  · rw [decide_eq_true h1] at i1
    by_cases h2 : Smp st
    · rw [decide_eq_true h2] at i2
      obtain ⟨rfl, rfl, rfl⟩ := hg ⟨h1, h2⟩
      have i3 := shares_any hv h1.1.1 h1.2 h2
      generalize bnv n xs st 0 = X at *
      generalize bnv n xs st 64 = Y at *
      obtain ⟨ao, cap, rfl, hcap, hc⟩ := hv
      clear hc h1 h2 hg hb
      go_enter Try.func20, Try.ntmps20
      go_wp2_with (first | (go_at_call 37; (with_reducible refine (i1).mono ?_); rintro e w' ⟨rfl, hw⟩; obtain rfl := hw.symm) | (go_at_call 33; (with_reducible refine (i2 _).mono ?_); rintro e w' ⟨rfl, hw⟩; obtain rfl := hw.symm) | (go_at_call 38; (with_reducible refine (i3).mono ?_); rintro e w1 ⟨rfl, hb1⟩))
      go_ret3
      exact ⟨rfl, hb1⟩
    · rw [decide_eq_false h2] at i2
      obtain ⟨rfl, rfl, rfl⟩ := hb (fun h => h2 h.2)
      obtain ⟨ao, cap, rfl, hcap, hc⟩ := hv
      clear hc h1 h2 hg hb
      go_enter Try.func20, Try.ntmps20
      go_wp2_with (first | (go_at_call 37; (with_reducible refine (i1).mono ?_); rintro e w' ⟨rfl, hw⟩; obtain rfl := hw.symm) | (go_at_call 33; (with_reducible refine (i2 _).mono ?_); rintro e w' ⟨rfl, hw⟩; obtain rfl := hw.symm))
      go_ret3
      exact ⟨rfl, Below.refl _ _⟩
  · rw [decide_eq_false h1] at i1
    obtain ⟨rfl, rfl, rfl⟩ := hb (fun h => h1 h.1)
    obtain ⟨ao, cap, rfl, hcap, hc⟩ := hv
    clear hc h1 hg hb i2
    go_enter Try.func20, Try.ntmps20
    go_wp2_with (first | (go_at_call 37; (with_reducible refine (i1).mono ?_); rintro e w' ⟨rfl, hw⟩; obtain rfl := hw.symm))
    go_ret3
    exact ⟨rfl, Below.refl _ _⟩
end Go.Proofs.Ytkfmmabamiommaa
