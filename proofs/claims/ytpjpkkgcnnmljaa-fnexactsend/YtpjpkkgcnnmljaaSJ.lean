/- SI PB SJ. -/
import Derived.Test.YtpjpkkgcnnmljaaSH
namespace Go.Proofs.Ytpjpkkgcnnmljaa
open Go.RowKit

set_option maxHeartbeats 4000000 in
theorem iSend_bad {w : World} {wi me ro se ra si : Int} {n : Nat} {v : Value} {y : Nat → Int} (hv : Bl w v n y) (h : ¬ (Mok wi me ro se ra si ∧ 1 ≤ (n : Int) ∧ (n : Int) ≤ 40)) (ys : Nat → Int) :
    Calls Try.prog 7 #[.agg #[.int .i64 wi, .int .i64 me, .int .i64 ro, .int .i64 se, .int .i64 ra, .int .i64 si], v] w fun e w' => Ppk w w' e 0 ys false := by
  have BW : Hid (Below w.heap.size w (w.alloc (.cells #[.int .i64 wi, .int .i64 me, .int .i64 ro, .int .i64 se, .int .i64 ra, .int .i64 si] 28))) := by show Below _ _ _; exact below_one _ _
  have i1 := iMok_any wi me ro se ra si (w.alloc (.cells #[.int .i64 wi, .int .i64 me, .int .i64 ro, .int .i64 se, .int .i64 ra, .int .i64 si] 28))
  have i2 := fun W => count_any (n : Int) 40 W
  have sz9 : w.heap.size < (w.alloc (.cells #[.int .i64 wi, .int .i64 me, .int .i64 ro, .int .i64 se, .int .i64 ra, .int .i64 si] 28)).heap.size := by simp
  have q0 : (w.alloc (.cells #[.int .i64 wi, .int .i64 me, .int .i64 ro, .int .i64 se, .int .i64 ra, .int .i64 si] 28)).cell? ⟨w.heap.size, 0, none⟩ = some (.int .i64 wi) := by simp [go_sem]
  have q1 : (w.alloc (.cells #[.int .i64 wi, .int .i64 me, .int .i64 ro, .int .i64 se, .int .i64 ra, .int .i64 si] 28)).cell? ⟨w.heap.size, 1, none⟩ = some (.int .i64 me) := by simp [go_sem]
  have q2 : (w.alloc (.cells #[.int .i64 wi, .int .i64 me, .int .i64 ro, .int .i64 se, .int .i64 ra, .int .i64 si] 28)).cell? ⟨w.heap.size, 2, none⟩ = some (.int .i64 ro) := by simp [go_sem]
  have q3 : (w.alloc (.cells #[.int .i64 wi, .int .i64 me, .int .i64 ro, .int .i64 se, .int .i64 ra, .int .i64 si] 28)).cell? ⟨w.heap.size, 3, none⟩ = some (.int .i64 se) := by simp [go_sem]
  have q4 : (w.alloc (.cells #[.int .i64 wi, .int .i64 me, .int .i64 ro, .int .i64 se, .int .i64 ra, .int .i64 si] 28)).cell? ⟨w.heap.size, 4, none⟩ = some (.int .i64 ra) := by simp [go_sem]
  have q5 : (w.alloc (.cells #[.int .i64 wi, .int .i64 me, .int .i64 ro, .int .i64 se, .int .i64 ra, .int .i64 si] 28)).cell? ⟨w.heap.size, 5, none⟩ = some (.int .i64 si) := by simp [go_sem]
  obtain ⟨ao, cap, rfl, _, _⟩ := hv
  by_cases c1 : Mok wi me ro se ra si
  · rw [decide_eq_true c1] at i1
    rw [decide_eq_false (fun c2 => h ⟨c1, c2⟩)] at i2
    clear h c1
    go_enter Try.func7, Try.ntmps7
    go_wp2_with (first | (go_at_call 20; refine i1.mono ?_; rintro e w2 ⟨rfl, hb⟩; have BX1 : Hid (Below (w.alloc (.cells #[.int .i64 wi, .int .i64 me, .int .i64 ro, .int .i64 se, .int .i64 ra, .int .i64 si] 28)).heap.size (w.alloc (.cells #[.int .i64 wi, .int .i64 me, .int .i64 ro, .int .i64 se, .int .i64 ra, .int .i64 si] 28)) w2) := hb; have B1 : Hid (Below w.heap.size w w2) := bstep BW.out hb; have q0 := (hb.cell (p := ⟨w.heap.size, 0, none⟩) sz9).trans q0; have q1 := (hb.cell (p := ⟨w.heap.size, 1, none⟩) sz9).trans q1; have q2 := (hb.cell (p := ⟨w.heap.size, 2, none⟩) sz9).trans q2; have q3 := (hb.cell (p := ⟨w.heap.size, 3, none⟩) sz9).trans q3; have q4 := (hb.cell (p := ⟨w.heap.size, 4, none⟩) sz9).trans q4; have q5 := (hb.cell (p := ⟨w.heap.size, 5, none⟩) sz9).trans q5; clear hb) | (go_at_call 21; (with_reducible refine (i2 _).mono ?_); rintro e w' ⟨rfl, hw⟩; obtain rfl := hw.symm))
    go_ret2
    exact ⟨_, rfl, own_base (own_empty w2 47 2) B1.out.size, bstep B1.out (below_one _ _)⟩
  · rw [decide_eq_false c1] at i1
    clear h c1 i2
    go_enter Try.func7, Try.ntmps7
    go_wp2_with (first | (go_at_call 20; refine i1.mono ?_; rintro e w2 ⟨rfl, hb⟩; have BX1 : Hid (Below (w.alloc (.cells #[.int .i64 wi, .int .i64 me, .int .i64 ro, .int .i64 se, .int .i64 ra, .int .i64 si] 28)).heap.size (w.alloc (.cells #[.int .i64 wi, .int .i64 me, .int .i64 ro, .int .i64 se, .int .i64 ra, .int .i64 si] 28)) w2) := hb; have B1 : Hid (Below w.heap.size w w2) := bstep BW.out hb; have q0 := (hb.cell (p := ⟨w.heap.size, 0, none⟩) sz9).trans q0; have q1 := (hb.cell (p := ⟨w.heap.size, 1, none⟩) sz9).trans q1; have q2 := (hb.cell (p := ⟨w.heap.size, 2, none⟩) sz9).trans q2; have q3 := (hb.cell (p := ⟨w.heap.size, 3, none⟩) sz9).trans q3; have q4 := (hb.cell (p := ⟨w.heap.size, 4, none⟩) sz9).trans q4; have q5 := (hb.cell (p := ⟨w.heap.size, 5, none⟩) sz9).trans q5; clear hb))
    go_ret2
    exact ⟨_, rfl, own_base (own_empty w2 47 2) B1.out.size, bstep B1.out (below_one _ _)⟩

set_option maxHeartbeats 4000000 in
theorem sSend_bad {w : World} {wi me ro se ra si : Int} {n : Nat} {v : Value} {y : Nat → Int} (hv : Bl w v n y) (h : ¬ (Mok wi me ro se ra si ∧ 1 ≤ (n : Int) ∧ (n : Int) ≤ 40)) (ys : Nat → Int) :
    Calls Try.prog 4 #[.agg #[.int .i64 wi, .int .i64 me, .int .i64 ro, .int .i64 se, .int .i64 ra, .int .i64 si], v] w fun e w' => Ppk w w' e 0 ys false := by
  obtain ⟨W1, hW1⟩ : ∃ W1, W1 = ((w.alloc (.cells #[.int .i64 wi, .int .i64 me, .int .i64 ro, .int .i64 se, .int .i64 ra, .int .i64 si] 28)).alloc (.cells #[] 47)) := ⟨_, rfl⟩
  have BW : Hid (Below w.heap.size w W1) := by show Below _ _ _; rw [hW1]; exact bstep (below_one _ _) (below_one _ _)
  have i1 := sMok_any wi me ro se ra si W1
  have i2 := fun W => in_one (n : Int) 1 40 W
  have sz9 : w.heap.size < W1.heap.size := by rw [hW1]; simp; omega
  have HOU : Hid (W1.ownsRow w.heap.size 47 2 (.slice (some ⟨w.heap.size + 1, 0, none⟩) 0 0) 0 (ils ys (0 * 2))) := by
    have h9 := own_base (B' := w.heap.size) (own_empty (w.alloc (.cells #[.int .i64 wi, .int .i64 me, .int .i64 ro, .int .i64 se, .int .i64 ra, .int .i64 si] 28)) 47 2) (by simp)
    rw [show ((w.alloc (.cells #[.int .i64 wi, .int .i64 me, .int .i64 ro, .int .i64 se, .int .i64 ra, .int .i64 si] 28))).heap.size = w.heap.size + 1 from Array.size_push _] at h9
    rw [hW1]
    exact h9
  have q0 : W1.cell? ⟨w.heap.size, 0, none⟩ = some (.int .i64 wi) := by rw [hW1]; simp [go_sem]
  have q1 : W1.cell? ⟨w.heap.size, 1, none⟩ = some (.int .i64 me) := by rw [hW1]; simp [go_sem]
  have q2 : W1.cell? ⟨w.heap.size, 2, none⟩ = some (.int .i64 ro) := by rw [hW1]; simp [go_sem]
  have q3 : W1.cell? ⟨w.heap.size, 3, none⟩ = some (.int .i64 se) := by rw [hW1]; simp [go_sem]
  have q4 : W1.cell? ⟨w.heap.size, 4, none⟩ = some (.int .i64 ra) := by rw [hW1]; simp [go_sem]
  have q5 : W1.cell? ⟨w.heap.size, 5, none⟩ = some (.int .i64 si) := by rw [hW1]; simp [go_sem]
  obtain ⟨ao, cap, rfl, _, _⟩ := hv
  have W1e : Hid (W1 = ((w.alloc (.cells #[.int .i64 wi, .int .i64 me, .int .i64 ro, .int .i64 se, .int .i64 ra, .int .i64 si] 28)).alloc (.cells #[] 47))) := hW1
  clear hW1
  by_cases c1 : Mok wi me ro se ra si
  · rw [decide_eq_true c1] at i1
    rw [decide_eq_false (fun c2 => h ⟨c1, c2⟩)] at i2
    clear h c1
    go_enter Try.func4, Try.ntmps4
    go_upto_region 2 with fail
    try rw [← W1e.out]
    go_wp2_with (first | (go_at_call 13; refine i1.mono ?_; rintro e w2 ⟨rfl, hb⟩; have BX1 : Hid (Below W1.heap.size W1 w2) := hb; have B1 : Hid (Below w.heap.size w w2) := bstep BW.out hb; have q0 := (hb.cell (p := ⟨w.heap.size, 0, none⟩) sz9).trans q0; have q1 := (hb.cell (p := ⟨w.heap.size, 1, none⟩) sz9).trans q1; have q2 := (hb.cell (p := ⟨w.heap.size, 2, none⟩) sz9).trans q2; have q3 := (hb.cell (p := ⟨w.heap.size, 3, none⟩) sz9).trans q3; have q4 := (hb.cell (p := ⟨w.heap.size, 4, none⟩) sz9).trans q4; have q5 := (hb.cell (p := ⟨w.heap.size, 5, none⟩) sz9).trans q5; clear hb) | (go_at_call 14; (with_reducible refine (i2 _).mono ?_); rintro e w' ⟨rfl, hw⟩; obtain rfl := hw.symm))
    go_ret2
    exact ⟨_, rfl, own_below HOU.out BX1.out, B1.out⟩
  · rw [decide_eq_false c1] at i1
    clear h c1 i2
    go_enter Try.func4, Try.ntmps4
    go_upto_region 2 with fail
    try rw [← W1e.out]
    go_wp2_with (first | (go_at_call 13; refine i1.mono ?_; rintro e w2 ⟨rfl, hb⟩; have BX1 : Hid (Below W1.heap.size W1 w2) := hb; have B1 : Hid (Below w.heap.size w w2) := bstep BW.out hb; have q0 := (hb.cell (p := ⟨w.heap.size, 0, none⟩) sz9).trans q0; have q1 := (hb.cell (p := ⟨w.heap.size, 1, none⟩) sz9).trans q1; have q2 := (hb.cell (p := ⟨w.heap.size, 2, none⟩) sz9).trans q2; have q3 := (hb.cell (p := ⟨w.heap.size, 3, none⟩) sz9).trans q3; have q4 := (hb.cell (p := ⟨w.heap.size, 4, none⟩) sz9).trans q4; have q5 := (hb.cell (p := ⟨w.heap.size, 5, none⟩) sz9).trans q5; clear hb))
    go_ret2
    exact ⟨_, rfl, own_below HOU.out BX1.out, B1.out⟩
end Go.Proofs.Ytpjpkkgcnnmljaa

namespace Go.Proofs.Ytpjpkkgcnnmljaa
open Go.RowKit

theorem eqPeak_yes (a s : Int) (w : World) : Calls Try.prog 29 #[.agg #[.int .i64 a, .int .i64 s], .agg #[.int .i64 a, .int .i64 s]] w fun e w' => e = .returned (.bool true) ∧ Below w.heap.size w w' := by
  have BL : Hid (Below w.heap.size w ((w.alloc (.cells #[.int .i64 a, .int .i64 s] 47)).alloc (.cells #[.int .i64 a, .int .i64 s] 47))) := bstep (below_one _ _) (below_one _ _)
  go_enter Try.func29, Try.ntmps29
  go_wp2
  go_ret
  exact ⟨rfl, BL.out⟩

set_option maxHeartbeats 2000000 in
theorem eq2_yes {w : World} {v u : Value} {n : Nat} {z : Nat → Int} (hv : Il2 w v n z) (hu : Il2 w u n z) (hn : n ≤ 1048576) :
    Calls Try.prog 8 #[v, u] w fun e w' => e = .returned (.bool true) ∧ Below w.heap.size w w' := by
  obtain ⟨ao, cap, rfl, hcap, hc⟩ := hv
  obtain ⟨bo, cap2, rfl, hcap2, hc2⟩ := hu
  have HC : Hid (0 < n → ∃ b off, ao = some ⟨b, off, none⟩ ∧ b < w.heap.size ∧ ∀ k, k < n → w.cell? ⟨b, off + k * 2, none⟩ = some (.int .i64 (z (k * 2))) ∧ w.cell? ⟨b, off + k * 2 + 1, none⟩ = some (.int .i64 (z (k * 2 + 1)))) := hc
  have HC2 : Hid (0 < n → ∃ b off, bo = some ⟨b, off, none⟩ ∧ b < w.heap.size ∧ ∀ k, k < n → w.cell? ⟨b, off + k * 2, none⟩ = some (.int .i64 (z (k * 2))) ∧ w.cell? ⟨b, off + k * 2 + 1, none⟩ = some (.int .i64 (z (k * 2 + 1)))) := hc2
  clear hc hc2
  go_enter Try.func8, Try.ntmps8
  go_wp2
  go_loopw [5] (fun i wr => ∃ k : Nat, i = .int .i64 k ∧ k ≤ n ∧ Hid (Below w.heap.size w wr)) (fun i _ => n - (intOf i).toNat)
  case atStart => exact ⟨0, rfl, by omega, Below.refl _ _⟩
  case round =>
    obtain ⟨k, rfl, hk, hbl⟩ := hrel
    by_cases h1 : k < n
    · obtain ⟨b, off, rfl, hlt, hcell⟩ := HC.out (by omega)
      obtain ⟨b2, off2, rfl, hlt2, hcell2⟩ := HC2.out (by omega)
      obtain ⟨x, hx⟩ : ∃ x, x = z (k * 2) := ⟨_, rfl⟩
      obtain ⟨y, hy⟩ : ∃ y, y = z (k * 2 + 1) := ⟨_, rfl⟩
      have ra : ∀ X, Below w.heap.size w X → X.cell? ⟨b, off + k * 2, none⟩ = some (.int .i64 x) ∧ X.cell? ⟨b, off + k * 2 + 1, none⟩ = some (.int .i64 y) := fun X hX => by rw [hx, hy]; exact ⟨(hX.cell (p := ⟨b, off + k * 2, none⟩) hlt).trans (hcell k h1).1, (hX.cell (p := ⟨b, off + k * 2 + 1, none⟩) hlt).trans (hcell k h1).2⟩
      have rb : ∀ X, Below w.heap.size w X → X.cell? ⟨b2, off2 + k * 2, none⟩ = some (.int .i64 x) ∧ X.cell? ⟨b2, off2 + k * 2 + 1, none⟩ = some (.int .i64 y) := fun X hX => by rw [hx, hy]; exact ⟨(hX.cell (p := ⟨b2, off2 + k * 2, none⟩) hlt2).trans (hcell2 k h1).1, (hX.cell (p := ⟨b2, off2 + k * 2 + 1, none⟩) hlt2).trans (hcell2 k h1).2⟩
      have hs := eqPeak_yes x y
      have l0 : Below w.heap.size w wr.drew := hbl.out.drew
      clear hcell hcell2 hlt hlt2 hx hy
      go_upto_region 6 with fail
      refine wp_region_any (by kernel_rfl) ?_
      change wpAny _ _ _ _ _ _ _ (World.drew _)
      refine wpI_any (I := fun X => Below w.heap.size w X) _ _ _ _ ?_
      refine wpI_take (i := 0) (v := ?_) rfl (by kernel_rfl) (by kernel_rfl) (by kernel_rfl) (fun _ _ _ h => h) ⟨by rfl, ?_⟩ ?_
      rotate_left
      · intro X hI; go_simp; try go_bits
        try rw [if_pos (by omega)]
        try with_reducible rfl
      refine wpI_take (i := 1) (v := ?_) rfl (by kernel_rfl) (by kernel_rfl) (by kernel_rfl) (fun _ _ _ h => h) ⟨by rfl, ?_⟩ ?_
      rotate_left
      · intro X hI; go_simp; try go_bits
        try rw [if_pos (by omega)]
        try with_reducible rfl
      refine wpI_take (i := 2) (v := ?_) rfl (by kernel_rfl) (by kernel_rfl) (by kernel_rfl) (fun _ _ _ h => h) ⟨by rfl, ?_⟩ ?_
      rotate_left
      · intro X hI; go_simp; try go_bits
        try rw [if_pos (by omega)]
        try with_reducible rfl
      refine wpI_take (i := 3) (v := ?_) rfl (by kernel_rfl) (by kernel_rfl) (by kernel_rfl) (fun _ _ _ h => h) ⟨by rfl, ?_⟩ ?_
      rotate_left
      · intro X hI; obtain ⟨c0, c1⟩ := ra X hI; go_simp; try go_bits
        try rw [if_pos (by omega)]
        try with_reducible rfl
      refine wpI_take (i := 4) (v := ?_) rfl (by kernel_rfl) (by kernel_rfl) (by kernel_rfl) (fun _ _ _ h => h) ⟨by rfl, ?_⟩ ?_
      rotate_left
      · intro X hI; go_simp; try go_bits
        try rw [if_pos (by omega)]
        try with_reducible rfl
      refine wpI_take (i := 5) (v := ?_) rfl (by kernel_rfl) (by kernel_rfl) (by kernel_rfl) (fun _ _ _ h => h) ⟨by rfl, ?_⟩ ?_
      rotate_left
      · intro X hI; go_simp; try go_bits
        try rw [if_pos (by omega)]
        try with_reducible rfl
      refine wpI_take (i := 6) (v := ?_) rfl (by kernel_rfl) (by kernel_rfl) (by kernel_rfl) (fun _ _ _ h => h) ⟨by rfl, ?_⟩ ?_
      rotate_left
      · intro X hI; go_simp; try go_bits
        try rw [if_pos (by omega)]
        try with_reducible rfl
      refine wpI_take (i := 7) (v := ?_) rfl (by kernel_rfl) (by kernel_rfl) (by kernel_rfl) (fun _ _ _ h => h) ⟨by rfl, ?_⟩ ?_
      rotate_left
      · intro X hI; obtain ⟨c0, c1⟩ := rb X hI; go_simp; try go_bits
        try rw [if_pos (by omega)]
        try with_reducible rfl
      refine wpI_only (i := 8) rfl (by kernel_rfl) l0 (by rfl) ?_
      intro K hK
      go_simp
      go_wp2_with (go_at_call 29; refine (hs _).mono ?_; rintro e x8 ⟨rfl, hb8⟩; have l1 := l0.trans (hb8.mono l0.size))
      refine wpI_only (i := 9) rfl (by kernel_rfl) l1 (by rfl) ?_
      intro K hK
      go_simp
      try go_bits
      refine hK _ _ ?_
      refine wpI_done l1 (by kernel_rfl) ?_ _
      go_wp2
      go_roundw
      case rel => exact ⟨k + 1, by go_num, by omega, l1⟩
      case measure => simp [intOf]; omega
    · obtain rfl : k = n := by omega
      go_wp2
      go_ret
      exact ⟨rfl, hbl.out⟩

set_option maxHeartbeats 4000000 in
theorem mark_2 {w : World} {B g n cap : Nat} {f : Nat → Int} {K : Int} (ho : w.ownsRow B 47 2 (.slice (some ⟨g, 0, none⟩) n cap) n (ils f (n * 2))) (hn : n ≤ 1048576) (hK : 0 ≤ K ∧ K ≤ 1099511627776) :
    Calls Try.prog 11 #[.slice (some ⟨g, 0, none⟩) n cap, .int .i64 K] w fun e w' => e = .returned (.int .i64 (K + 2 * (n : Int))) ∧ w'.ownsRow B 47 2 (.slice (some ⟨g, 0, none⟩) n cap) n (ils (mkF K) (n * 2)) ∧ Only g w w' := by
  have HO : Hid (w.ownsRow B 47 2 (.slice (some ⟨g, 0, none⟩) n cap) n (ils f (n * 2))) := ho
  clear ho
  go_enter Try.func11, Try.ntmps11
  go_wp2
  go_loopw [1, 5] (fun kk i wr => ∃ q : Nat, i = .int .i64 q ∧ kk = .int .i64 (K + 2 * (q : Int)) ∧ q ≤ n ∧ Hid ((∃ f', wr.ownsRow B 47 2 (.slice (some ⟨g, 0, none⟩) n cap) n (ils f' (n * 2)) ∧ ∀ j, j < q * 2 → f' j = mkF K j) ∧ Only g w wr)) (fun _ i _ => n - (intOf i).toNat)
  case atStart => exact ⟨0, rfl, by simp, by omega, ⟨f, HO.out, fun i hi => by omega⟩, Only.refl _ _⟩
  case round =>
    obtain ⟨q, rfl, rfl, hq, hrel⟩ := hrel
    obtain ⟨⟨f', hf, hmk⟩, hon⟩ := hrel.out
    by_cases h1 : q < n
    · have d0 := own2_cell hf (j := q * 2) (by omega)
      have d1 := own2_cell hf (j := q * 2 + 1) (by omega)
      have z0 := World.ownsRow.frozenAt hf (q * 2)
      have z1 := World.ownsRow.frozenAt hf (q * 2 + 1)
      have st := (World.ownsRow.stored (World.ownsRow.stored hf (q * 2) (.int .i64 (K + 2 * (q : Int)))).1 (q * 2 + 1) (.int .i64 (K + 2 * (q : Int) + 1))).1
      rw [ils_put, ils_put] at st
      have OP : Hid _ := st
      have ON : Hid _ := (hon.put (q * 2) (.int .i64 (K + 2 * (q : Int)))).put (q * 2 + 1) (.int .i64 (K + 2 * (q : Int) + 1))
      have HM : Hid _ := hmk
      clear hf hmk hon hrel st
      go_wp2
      go_roundw
      case rel =>
        refine ⟨q + 1, by go_num, by first | go_num | (congr 1; omega), by omega, ⟨_, OP.out, fun i hi => ?_⟩, ON.out⟩
        by_cases h0 : i = q * 2 + 1
        · subst h0; simp [mkF]; omega
        · by_cases h2 : i = q * 2
          · subst h2; simp [mkF]; omega
          · simp only [if_neg h0, if_neg h2]
            exact HM.out i (by omega)
      case measure => simp [intOf]; omega
    · obtain rfl : q = n := by omega
      rw [ils_congr hmk] at hf
      have HM : Hid _ := hf
      have ON : Hid _ := hon
      clear hf hmk hon hrel
      go_wp2
      go_ret
      exact ⟨rfl, HM.out, ON.out⟩

set_option maxHeartbeats 2000000 in
theorem held_2 {w : World} {B g n cap : Nat} {K : Int} (ho : w.ownsRow B 47 2 (.slice (some ⟨g, 0, none⟩) n cap) n (ils (mkF K) (n * 2))) (hn : n ≤ 1048576) (hK : 0 ≤ K ∧ K ≤ 1099511627776) :
    Calls Try.prog 12 #[.slice (some ⟨g, 0, none⟩) n cap, .int .i64 K] w fun e w' => e = .returned (.int .i64 (K + 2 * (n : Int))) ∧ w' = w := by
  have HO : Hid (w.ownsRow B 47 2 (.slice (some ⟨g, 0, none⟩) n cap) n (ils (mkF K) (n * 2))) := ho
  clear ho
  go_enter Try.func12, Try.ntmps12
  go_wp2
  go_loopw [1, 5] (fun kk i wr => ∃ q : Nat, i = .int .i64 q ∧ kk = .int .i64 (K + 2 * (q : Int)) ∧ q ≤ n ∧ wr = w) (fun _ i _ => n - (intOf i).toNat)
  case atStart => exact ⟨0, rfl, by simp, by omega, rfl⟩
  case round =>
    obtain ⟨q, rfl, rfl, hq, rfl⟩ := hrel
    by_cases h1 : q < n
    · have d0 := own2_cell HO.out (j := q * 2) (by omega)
      have d1 := own2_cell HO.out (j := q * 2 + 1) (by omega)
      have e0 : mkF K (q * 2) = K + 2 * (q : Int) := by unfold mkF; omega
      have e1 : mkF K (q * 2 + 1) = K + 2 * (q : Int) + 1 := by unfold mkF; omega
      rw [e0] at d0
      rw [e1] at d1
      clear e0 e1
      go_wp2
      go_roundw
      case rel => exact ⟨q + 1, by go_num, by first | go_num | (congr 1; omega), by omega, by trivial⟩
      case measure => simp [intOf]; omega
    · obtain rfl : q = n := by omega
      go_wp2
      go_ret
      exact ⟨rfl, rfl⟩

set_option maxHeartbeats 1000000 in
theorem mark_nil2 (w : World) (K : Int) : Calls Try.prog 11 #[.slice none 0 0, .int .i64 K] w fun e w' => e = .returned (.int .i64 K) ∧ w' = w := by
  go_enter Try.func11, Try.ntmps11
  go_wp2
  go_loopw [1, 5] (fun kk i wr => i = .int .i64 0 ∧ kk = .int .i64 K ∧ wr = w) (fun _ _ _ => 0)
  case atStart => exact ⟨rfl, rfl, rfl⟩
  case round =>
    obtain ⟨rfl, rfl, rfl⟩ := hrel
    go_wp2
    go_ret
    exact ⟨rfl, rfl⟩

set_option maxHeartbeats 1000000 in
theorem held_nil2 (w : World) (K : Int) : Calls Try.prog 12 #[.slice none 0 0, .int .i64 K] w fun e w' => e = .returned (.int .i64 K) ∧ w' = w := by
  go_enter Try.func12, Try.ntmps12
  go_wp2
  go_loopw [1, 5] (fun kk i wr => i = .int .i64 0 ∧ kk = .int .i64 K ∧ wr = w) (fun _ _ _ => 0)
  case atStart => exact ⟨rfl, rfl, rfl⟩
  case round =>
    obtain ⟨rfl, rfl, rfl⟩ := hrel
    go_wp2
    go_ret
    exact ⟨rfl, rfl⟩

theorem marked2 {w : World} {B n : Nat} {v : Value} {f : Nat → Int} {K : Int} (h : w.ownsRow B 47 2 v n (ils f (n * 2))) (hB : B ≤ w.heap.size) (hn : n ≤ 1048576) (hK : 0 ≤ K ∧ K ≤ 1099511627776) :
    Calls Try.prog 11 #[v, .int .i64 K] w fun e w' => e = .returned (.int .i64 (K + 2 * (n : Int))) ∧ w'.ownsRow B 47 2 v n (ils (mkF K) (n * 2)) ∧ ∃ g, B ≤ g ∧ (v.ownBlock = some g ∨ w' = w) ∧ Only g w w' := by
  rcases h.2 with ⟨rfl, rfl⟩ | ⟨g, cap, cur, rfl, hb, hg, _⟩
  · refine (mark_nil2 w K).mono ?_
    rintro e w' ⟨rfl, rfl⟩
    exact ⟨by simp, ⟨rfl, .inl ⟨rfl, rfl⟩⟩, w'.heap.size, hB, .inr rfl, Only.refl _ _⟩
  · refine (mark_2 h hn hK).mono ?_
    rintro e w' ⟨rfl, h1, hon⟩
    exact ⟨rfl, h1, g, hb, .inl rfl, hon⟩

theorem held2 {w : World} {B n : Nat} {v : Value} {K : Int} (h : w.ownsRow B 47 2 v n (ils (mkF K) (n * 2))) (hn : n ≤ 1048576) (hK : 0 ≤ K ∧ K ≤ 1099511627776) : Calls Try.prog 12 #[v, .int .i64 K] w fun e w' => e = .returned (.int .i64 (K + 2 * (n : Int))) ∧ w' = w := by
  rcases h.2 with ⟨rfl, rfl⟩ | ⟨g, cap, cur, rfl, hb, hg, _⟩
  · refine (held_nil2 w K).mono ?_
    rintro e w' ⟨rfl, rfl⟩
    exact ⟨by simp, rfl⟩
  · exact held_2 h hn hK
end Go.Proofs.Ytpjpkkgcnnmljaa

namespace Go.Proofs.Ytpjpkkgcnnmljaa
open Go.RowKit

theorem toM_any (wi me ro se ra si : Int) (w : World) : Calls Try.prog 5 #[.agg #[.int .i64 wi, .int .i64 me, .int .i64 ro, .int .i64 se, .int .i64 ra, .int .i64 si]] w fun e w' => e = .returned (.agg #[.int .i64 wi, .int .i64 me, .int .i64 ro, .int .i64 se, .int .i64 ra, .int .i64 si]) ∧ Below w.heap.size w w' := by
  go_enter Try.func5, Try.ntmps5
  go_wp2
  refine bodyPost_ret (v := .agg #[.int .i64 wi, .int .i64 me, .int .i64 ro, .int .i64 se, .int .i64 ra, .int .i64 si]) (by simp [results, Try.results5, go_sem]) rfl ?_
  refine ⟨rfl, ?_⟩
  repeat first
    | exact (below_one _ _)
    | (refine Below.setCell ?_ (by simp <;> omega) _)
    | (refine Below.alloc ?_ (by simp <;> omega) _)

set_option maxHeartbeats 8000000 in
theorem wsn_of {w : World} {v1 : Value} {n1 : Nat} {xs1 : Nat → Int} {wi me ro se ra si : Int} (hv1 : Bl w v1 n1 xs1) (hn1 : n1 ≤ 9223372036854775807) (N0 : Nat) (hN0 : N0 ≤ 1048576) (z0 : Nat → Int) (ok : Bool)
    (hs : n1 ≤ 1048576 → ∀ W u1, Bl W u1 n1 xs1 → Calls Try.prog 4 #[.agg #[.int .i64 wi, .int .i64 me, .int .i64 ro, .int .i64 se, .int .i64 ra, .int .i64 si], u1] W fun e w' => Ppk W w' e N0 z0 ok)
    (hi : n1 ≤ 1048576 → ∀ W u1, Bl W u1 n1 xs1 → Calls Try.prog 7 #[.agg #[.int .i64 wi, .int .i64 me, .int .i64 ro, .int .i64 se, .int .i64 ra, .int .i64 si], u1] W fun e w' => Ppk W w' e N0 z0 ok) :
    Calls Try.prog 3 #[.agg #[.int .i64 wi, .int .i64 me, .int .i64 ro, .int .i64 se, .int .i64 ra, .int .i64 si], v1] w fun e w' => e = .returned (.bool true) ∧ Below w.heap.size w w' := by
  rcases Nat.lt_or_ge 1048576 n1 with h1 | h1
  · obtain ⟨ao1, cap1, rfl, hcap1, hc1⟩ := hv1
    clear hc1 hs hi
    go_enter Try.func3, Try.ntmps3
    go_wp2
    go_ret
    exact ⟨rfl, below_one _ _⟩
  have FV1 : Hid (Bl w v1 n1 xs1) := hv1
  have HS : Hid (∀ W u1, Bl W u1 n1 xs1 → Calls Try.prog 4 #[.agg #[.int .i64 wi, .int .i64 me, .int .i64 ro, .int .i64 se, .int .i64 ra, .int .i64 si], u1] W fun e w' => Ppk W w' e N0 z0 ok) := hs h1
  have HI : Hid (∀ W u1, Bl W u1 n1 xs1 → Calls Try.prog 7 #[.agg #[.int .i64 wi, .int .i64 me, .int .i64 ro, .int .i64 se, .int .i64 ra, .int .i64 si], u1] W fun e w' => Ppk W w' e N0 z0 ok) := hi h1
  obtain ⟨ao1, cap1, rfl, hcap1, hc1⟩ := hv1
  clear hc1 hs hi
  obtain ⟨w0, hw0⟩ : ∃ w0, w0 = (w.alloc (.cells #[.int .i64 wi, .int .i64 me, .int .i64 ro, .int .i64 se, .int .i64 ra, .int .i64 si] 23)) := ⟨_, rfl⟩
  have B00 : Hid (Below w.heap.size w w0) := by show Below _ _ _; rw [hw0]; exact below_one _ _
  have FV1 : Hid (Bl w0 (.slice ao1 n1 cap1) n1 xs1) := Bl.below FV1.out B00.out
  have HR : Hid (∀ W, Below w0.heap.size w0 W → W.cell? ⟨w.heap.size, 0, none⟩ = some (.int .i64 wi) ∧ W.cell? ⟨w.heap.size, 1, none⟩ = some (.int .i64 me) ∧ W.cell? ⟨w.heap.size, 2, none⟩ = some (.int .i64 ro) ∧ W.cell? ⟨w.heap.size, 3, none⟩ = some (.int .i64 se) ∧ W.cell? ⟨w.heap.size, 4, none⟩ = some (.int .i64 ra) ∧ W.cell? ⟨w.heap.size, 5, none⟩ = some (.int .i64 si)) := fun W hW => by
    have hl : w.heap.size < w0.heap.size := by rw [hw0]; simp
    refine ⟨(hW.cell hl).trans ?_, (hW.cell hl).trans ?_, (hW.cell hl).trans ?_, (hW.cell hl).trans ?_, (hW.cell hl).trans ?_, (hW.cell hl).trans ?_⟩ <;> (rw [hw0]; simp [go_sem])
  have W0e : Hid (w0 = (w.alloc (.cells #[.int .i64 wi, .int .i64 me, .int .i64 ro, .int .i64 se, .int .i64 ra, .int .i64 si] 23))) := hw0
  clear hw0
  have hq0 := HR.out _ (Below.refl _ _)
  rw [W0e.out] at hq0
  obtain ⟨q0, q1, q2, q3, q4, q5⟩ := hq0
  go_enter Try.func3, Try.ntmps3
  go_wp2_with (first
    | (go_at_call 5; (fail_if_success have := M1); refine (toM_any wi me ro se ra si _).mono ?_; rintro e W1 ⟨rfl, hb1⟩; have M1 : Hid True := trivial; have B_1 : Hid (Below w0.heap.size w0 W1) := (by show Below _ _ _; rw [W0e.out]; exact hb1); clear hb1; obtain ⟨q0, q1, q2, q3, q4, q5⟩ := HR.out _ B_1.out)
    | (go_at_call 6; have Z := M1; (fail_if_success have := M2); refine (bcopy_own (Bl.below FV1.out B_1.out) h1).mono ?_; rintro e W2 ⟨hb2, a1, rfl, hf2, ho2⟩; have M2 : Hid True := trivial; have B_2 : Hid (Below w0.heap.size w0 W2) := bstep B_1.out hb2; have Oa1_2 : Hid (W2.ownsRow W1.heap.size 5 1 a1 n1 (bls xs1 n1)) := ho2; clear hb2 ho2 hf2; obtain ⟨q0, q1, q2, q3, q4, q5⟩ := HR.out _ B_2.out)
    | (go_at_call 4; have Z := M2; (fail_if_success have := M3); refine (HS.out _ _ (bl_of_own Oa1_2.out)).mono ?_; rintro e W3 ⟨u0, rfl, hoa3, hb3⟩; have M3 : Hid True := trivial; have B_3 : Hid (Below w0.heap.size w0 W3) := bstep B_2.out hb3; have Oa1_3 : Hid (W3.ownsRow W1.heap.size 5 1 a1 n1 (bls xs1 n1)) := own_below Oa1_2.out hb3; have FW0_3 : Hid (Il2 W3 u0 N0 z0) := il2_of_own hoa3; clear hb3 hoa3; obtain ⟨q0, q1, q2, q3, q4, q5⟩ := HR.out _ B_3.out)
    | (go_at_call 6; have Z := M3; (fail_if_success have := M4); refine (bcopy_own (Bl.below FV1.out B_3.out) h1).mono ?_; rintro e W4 ⟨hb4, x1, rfl, hf4, ho4⟩; have M4 : Hid True := trivial; have B_4 : Hid (Below w0.heap.size w0 W4) := bstep B_3.out hb4; have D_4 : Hid (Below W3.heap.size W3 W4) := hb4; have Ox1_4 : Hid (W4.ownsRow W3.heap.size 5 1 x1 n1 (bls xs1 n1)) := ho4; clear hb4 ho4 hf4; obtain ⟨q0, q1, q2, q3, q4, q5⟩ := HR.out _ B_4.out)
    | (go_at_call 5; have Z := M4; (fail_if_success have := M5); refine (toM_any wi me ro se ra si _).mono ?_; rintro e W5 ⟨rfl, hb5⟩; have M5 : Hid True := trivial; have B_5 : Hid (Below w0.heap.size w0 W5) := bstep B_4.out hb5; have D_5 : Hid (Below W3.heap.size W3 W5) := bstep D_4.out hb5; have Ox1_5 : Hid (W5.ownsRow W3.heap.size 5 1 x1 n1 (bls xs1 n1)) := own_below Ox1_4.out hb5; clear hb5; obtain ⟨q0, q1, q2, q3, q4, q5⟩ := HR.out _ B_5.out)
    | (go_at_call 7; have Z := M5; (fail_if_success have := M6); refine (HI.out _ _ (bl_of_own Ox1_5.out)).mono ?_; rintro e W6 ⟨g0, rfl, hoa6, hb6⟩; have M6 : Hid True := trivial; have B_6 : Hid (Below w0.heap.size w0 W6) := bstep B_5.out hb6; have D_6 : Hid (Below W3.heap.size W3 W6) := bstep D_5.out hb6; have Ox1_6 : Hid (W6.ownsRow W3.heap.size 5 1 x1 n1 (bls xs1 n1)) := own_below Ox1_5.out hb6; have SG_6 : Hid (W5.heap.size ≤ W6.heap.size) := hb6.size; have OG0_6 : Hid (W6.ownsRow W5.heap.size 47 2 g0 N0 (ils z0 (N0 * 2))) := hoa6; clear hb6 hoa6; obtain ⟨q0, q1, q2, q3, q4, q5⟩ := HR.out _ B_6.out)
    | (go_at_call 8; have Z := M6; (fail_if_success have := M7); refine (eq2_yes (il2_of_own OG0_6.out) (Il2.below FW0_3.out D_6.out) hN0).mono ?_; rintro e W7 ⟨rfl, hb7⟩; have M7 : Hid True := trivial; have B_7 : Hid (Below w0.heap.size w0 W7) := bstep B_6.out hb7; have D_7 : Hid (Below W3.heap.size W3 W7) := bstep D_6.out hb7; have Ox1_7 : Hid (W7.ownsRow W3.heap.size 5 1 x1 n1 (bls xs1 n1)) := own_below Ox1_6.out hb7; have SG_7 : Hid (W5.heap.size ≤ W7.heap.size) := Nat.le_trans SG_6.out hb7.size; have OG0_7 : Hid (W7.ownsRow W5.heap.size 47 2 g0 N0 (ils z0 (N0 * 2))) := own_below OG0_6.out hb7; clear hb7; obtain ⟨q0, q1, q2, q3, q4, q5⟩ := HR.out _ B_7.out)
    | (go_at_call 6; have Z := M7; (fail_if_success have := M8); refine (bcopy_own (Bl.below FV1.out B_7.out) h1).mono ?_; rintro e W8 ⟨hb8, y1, rfl, hf8, ho8⟩; have M8 : Hid True := trivial; have B_8 : Hid (Below w0.heap.size w0 W8) := bstep B_7.out hb8; have D_8 : Hid (Below W3.heap.size W3 W8) := bstep D_7.out hb8; have Ox1_8 : Hid (W8.ownsRow W3.heap.size 5 1 x1 n1 (bls xs1 n1)) := own_below Ox1_7.out hb8; have SG_8 : Hid (W5.heap.size ≤ W8.heap.size) := Nat.le_trans SG_7.out hb8.size; have OG0_8 : Hid (W8.ownsRow W5.heap.size 47 2 g0 N0 (ils z0 (N0 * 2))) := own_below OG0_7.out hb8; have Oy1_8 : Hid (W8.ownsRow W7.heap.size 5 1 y1 n1 (bls xs1 n1)) := ho8; clear hb8 ho8 hf8; obtain ⟨q0, q1, q2, q3, q4, q5⟩ := HR.out _ B_8.out)
    | (go_at_call 9; have Z := M8; (fail_if_success have := M9); refine (beq_yes (bl_of_own Ox1_8.out) (bl_of_own Oy1_8.out) h1).mono ?_; rintro e W9 ⟨rfl, hb9⟩; have M9 : Hid True := trivial; have B_9 : Hid (Below w0.heap.size w0 W9) := bstep B_8.out hb9; have D_9 : Hid (Below W3.heap.size W3 W9) := bstep D_8.out hb9; have Ox1_9 : Hid (W9.ownsRow W3.heap.size 5 1 x1 n1 (bls xs1 n1)) := own_below Ox1_8.out hb9; have SG_9 : Hid (W5.heap.size ≤ W9.heap.size) := Nat.le_trans SG_8.out hb9.size; have OG0_9 : Hid (W9.ownsRow W5.heap.size 47 2 g0 N0 (ils z0 (N0 * 2))) := own_below OG0_8.out hb9; have Oy1_9 : Hid (W9.ownsRow W7.heap.size 5 1 y1 n1 (bls xs1 n1)) := own_below Oy1_8.out hb9; clear hb9; obtain ⟨q0, q1, q2, q3, q4, q5⟩ := HR.out _ B_9.out)
    | (go_at_call 10; have Z := M9; (fail_if_success have := M10); refine (markedB (K := 1) (B := W3.heap.size) (n := n1) (v := x1) (f := xs1) Ox1_9.out D_9.out.size h1 (by omega)).mono ?_; rintro e W10 ⟨rfl, _, gx10, hg10, hor10, hon10⟩; have M10 : Hid True := trivial; have B_10 : Hid (Below w0.heap.size w0 W10) := Below.only B_9.out hon10 (Nat.le_trans B_3.out.size hg10); have D_10 : Hid (Below W3.heap.size W3 W10) := Below.only D_9.out hon10 (hg10); have SG_10 : Hid (W5.heap.size ≤ W10.heap.size) := Nat.le_trans SG_9.out hon10.size; have OG0_10 : Hid (W10.ownsRow W5.heap.size 47 2 g0 N0 (ils z0 (N0 * 2))) := own_only2 OG0_9.out hon10 hor10 Ox1_5.out; clear hon10 hor10 hg10; obtain ⟨q0, q1, q2, q3, q4, q5⟩ := HR.out _ B_10.out)
    | (go_at_call 8; have Z := M10; (fail_if_success have := M11); refine (eq2_yes (il2_of_own OG0_10.out) (Il2.below FW0_3.out D_10.out) hN0).mono ?_; rintro e W11 ⟨rfl, hb11⟩; have M11 : Hid True := trivial; have B_11 : Hid (Below w0.heap.size w0 W11) := bstep B_10.out hb11; have D_11 : Hid (Below W3.heap.size W3 W11) := bstep D_10.out hb11; have SG_11 : Hid (W5.heap.size ≤ W11.heap.size) := Nat.le_trans SG_10.out hb11.size; have OG0_11 : Hid (W11.ownsRow W5.heap.size 47 2 g0 N0 (ils z0 (N0 * 2))) := own_below OG0_10.out hb11; clear hb11; obtain ⟨q0, q1, q2, q3, q4, q5⟩ := HR.out _ B_11.out)
    | (go_at_call 11; have Z := M11; (fail_if_success have := M12); refine (marked2 (K := 1) (B := W5.heap.size) (n := N0) (v := g0) (f := z0) OG0_11.out SG_11.out hN0 (by omega)).mono ?_; rintro e W12 ⟨rfl, hmk12, gx12, hg12, hor12, hon12⟩; have M12 : Hid True := trivial; have B_12 : Hid (Below w0.heap.size w0 W12) := Below.only B_11.out hon12 (Nat.le_trans B_5.out.size hg12); have D_12 : Hid (Below W3.heap.size W3 W12) := Below.only D_11.out hon12 (Nat.le_trans D_5.out.size hg12); have SG_12 : Hid (W5.heap.size ≤ W12.heap.size) := Nat.le_trans SG_11.out hon12.size; have MG0_12 : Hid (W12.ownsRow W5.heap.size 47 2 g0 N0 (ils (mkF (1)) (N0 * 2))) := hmk12; clear hon12 hor12 hg12; obtain ⟨q0, q1, q2, q3, q4, q5⟩ := HR.out _ B_12.out)
    | (go_at_call 12; have Z := M12; (fail_if_success have := M13); refine (held2 (K := 1) MG0_12.out hN0 (by omega)).mono ?_; rintro e w' ⟨rfl, hw⟩; obtain rfl := hw.symm; have M13 : Hid True := trivial)
    | (go_at_call 5; have Z := M13; (fail_if_success have := M14); refine (toM_any wi me ro se ra si _).mono ?_; rintro e W14 ⟨rfl, hb14⟩; have M14 : Hid True := trivial; have B_14 : Hid (Below w0.heap.size w0 W14) := bstep B_12.out hb14; have D_14 : Hid (Below W3.heap.size W3 W14) := bstep D_12.out hb14; have SG_14 : Hid (W5.heap.size ≤ W14.heap.size) := Nat.le_trans SG_12.out hb14.size; have MG0_14 : Hid (W14.ownsRow W5.heap.size 47 2 g0 N0 (ils (mkF (1)) (N0 * 2))) := own_below MG0_12.out hb14; clear hb14; obtain ⟨q0, q1, q2, q3, q4, q5⟩ := HR.out _ B_14.out)
    | (go_at_call 6; have Z := M14; (fail_if_success have := M15); refine (bcopy_own (Bl.below FV1.out B_14.out) h1).mono ?_; rintro e W15 ⟨hb15, z1_, rfl, hf15, ho15⟩; have M15 : Hid True := trivial; have B_15 : Hid (Below w0.heap.size w0 W15) := bstep B_14.out hb15; have D_15 : Hid (Below W3.heap.size W3 W15) := bstep D_14.out hb15; have SG_15 : Hid (W5.heap.size ≤ W15.heap.size) := Nat.le_trans SG_14.out hb15.size; have MG0_15 : Hid (W15.ownsRow W5.heap.size 47 2 g0 N0 (ils (mkF (1)) (N0 * 2))) := own_below MG0_14.out hb15; have Oz1__15 : Hid (W15.ownsRow W14.heap.size 5 1 z1_ n1 (bls xs1 n1)) := ho15; clear hb15 ho15 hf15; obtain ⟨q0, q1, q2, q3, q4, q5⟩ := HR.out _ B_15.out)
    | (go_at_call 7; have Z := M15; (fail_if_success have := M16); refine (HI.out _ _ (bl_of_own Oz1__15.out)).mono ?_; rintro e W16 ⟨h0, rfl, hoa16, hb16⟩; have M16 : Hid True := trivial; have B_16 : Hid (Below w0.heap.size w0 W16) := bstep B_15.out hb16; have D_16 : Hid (Below W3.heap.size W3 W16) := bstep D_15.out hb16; have SG_16 : Hid (W5.heap.size ≤ W16.heap.size) := Nat.le_trans SG_15.out hb16.size; have MG0_16 : Hid (W16.ownsRow W5.heap.size 47 2 g0 N0 (ils (mkF (1)) (N0 * 2))) := own_below MG0_15.out hb16; have Oz1__16 : Hid (W16.ownsRow W14.heap.size 5 1 z1_ n1 (bls xs1 n1)) := own_below Oz1__15.out hb16; have OH0_16 : Hid (W16.ownsRow W15.heap.size 47 2 h0 N0 (ils z0 (N0 * 2))) := hoa16; clear hb16 hoa16; obtain ⟨q0, q1, q2, q3, q4, q5⟩ := HR.out _ B_16.out)
    | (go_at_call 8; have Z := M16; (fail_if_success have := M17); refine (eq2_yes (il2_of_own OH0_16.out) (Il2.below FW0_3.out D_16.out) hN0).mono ?_; rintro e W17 ⟨rfl, hb17⟩; have M17 : Hid True := trivial; have B_17 : Hid (Below w0.heap.size w0 W17) := bstep B_16.out hb17; have D_17 : Hid (Below W3.heap.size W3 W17) := bstep D_16.out hb17; have SG_17 : Hid (W5.heap.size ≤ W17.heap.size) := Nat.le_trans SG_16.out hb17.size; have MG0_17 : Hid (W17.ownsRow W5.heap.size 47 2 g0 N0 (ils (mkF (1)) (N0 * 2))) := own_below MG0_16.out hb17; have Oz1__17 : Hid (W17.ownsRow W14.heap.size 5 1 z1_ n1 (bls xs1 n1)) := own_below Oz1__16.out hb17; have OH0_17 : Hid (W17.ownsRow W15.heap.size 47 2 h0 N0 (ils z0 (N0 * 2))) := own_below OH0_16.out hb17; clear hb17; obtain ⟨q0, q1, q2, q3, q4, q5⟩ := HR.out _ B_17.out)
    | (go_at_call 12; have Z := M17; (fail_if_success have := M18); refine (held2 (K := 1) MG0_17.out hN0 (by omega)).mono ?_; rintro e w' ⟨rfl, hw⟩; obtain rfl := hw.symm; have M18 : Hid True := trivial))
  go_ret
  exact ⟨rfl, bstep B00.out B_17.out⟩

theorem walk_sn {w : World} {v : Value} {n : Nat} {xs : Nat → Int} (hv : Bl w v n xs) (hy : Byt n xs) (hn : n ≤ 9223372036854775807) (wi me ro se ra si : Int) : Calls Try.prog 3 #[.agg #[.int .i64 wi, .int .i64 me, .int .i64 ro, .int .i64 se, .int .i64 ra, .int .i64 si], v] w fun e w' => e = .returned (.bool true) ∧ Below w.heap.size w w' := by
  by_cases h : Mok wi me ro se ra si ∧ 1 ≤ (n : Int) ∧ (n : Int) ≤ 40
  · obtain ⟨⟨h0, h1, h2, h3, h4, h5⟩, h6⟩ := h
    obtain ⟨hf, hh, rfl⟩ : ∃ hf : Nat, Hlf hf ∧ wi = ((2 * hf : Nat) : Int) := by
      rcases h0 with rfl | rfl | rfl | rfl
      · exact ⟨1, .inl rfl, rfl⟩
      · exact ⟨2, .inr (.inl rfl), rfl⟩
      · exact ⟨3, .inr (.inr (.inl rfl)), rfl⟩
      · exact ⟨4, .inr (.inr (.inr rfl)), rfl⟩
    obtain ⟨t, rfl⟩ : ∃ t : Nat, me = (t : Int) := ⟨me.toNat, by omega⟩
    obtain ⟨r, rfl⟩ : ∃ r : Nat, ro = (r : Int) := ⟨ro.toNat, by omega⟩
    obtain ⟨d, rfl⟩ : ∃ d : Nat, se = (d : Int) := ⟨se.toNat, by omega⟩
    obtain ⟨k, rfl⟩ : ∃ k : Nat, ra = (k : Int) := ⟨ra.toNat, by omega⟩
    have hq := sQ_b (n := n) (t := t) (hf := hf) ⟨by omega, by omega⟩ ⟨by omega, by omega⟩ hh
    have hm : sM n t hf k ≤ 1048576 := by
      unfold sM
      have : (1 + sQ n t hf) * k ≤ 231 * 8 := Nat.mul_le_mul (by omega) (by omega)
      omega
    exact wsn_of hv hn (sM n t hf k) hm (sL n t r d hf k si xs) true (fun _ W u hu => sSend_good hu hy ⟨by omega, by omega⟩ ⟨by omega, by omega⟩ ⟨by omega, by omega⟩ ⟨by omega, by omega⟩ ⟨by omega, by omega⟩ h5 hh) (fun _ W u hu => iSend_good hu hy ⟨by omega, by omega⟩ ⟨by omega, by omega⟩ ⟨by omega, by omega⟩ ⟨by omega, by omega⟩ ⟨by omega, by omega⟩ h5 hh)
  · exact wsn_of hv hn 0 (by omega) (fun _ => 0) false (fun _ W u hu => sSend_bad hu h _) (fun _ W u hu => iSend_bad hu h _)
end Go.Proofs.Ytpjpkkgcnnmljaa
