/- Rows of lists of pairs: held against others, marked, held. -/
import Derived.Test.YtlcnciibjhcbiaaDoorQA
namespace Go.Proofs.YtlcnciibjhcbiaaDoor
open Go.RowKit

set_option maxHeartbeats 2000000 in
/-- Rows that hold the same: eqPairSS says so. -/
theorem eqSS_yes {w : World} {v u : Value} {n c : Nat} {X Y X' Y' : Nat → Nat → Nat} (hv : Fpp w v n c X Y) (hu : Fpp w u n c X' Y') (hn : n ≤ 1048576) (hc1 : c ≤ 1048576) (hxy : ∀ k, k < n → ∀ i, i < c → cn (X k i) = cn (X' k i) ∧ cn (Y k i) = cn (Y' k i)) :
    Calls Tryd.prog 17 #[v, u] w fun e w' => e = .returned (.bool true) ∧ Below w.heap.size w w' := by
  obtain ⟨ao, cap, rfl, hcap, hc⟩ := hv
  obtain ⟨bo, cap2, rfl, hcap2, hc2⟩ := hu
  have HC : Hid (0 < n → ∃ b off, ∃ R : Nat → Value, ao = some ⟨b, off, none⟩ ∧ b < w.heap.size ∧ ∀ k, k < n → w.cell? ⟨b, off + k, none⟩ = some (R k) ∧ Fp w (R k) c (X k) (Y k)) := hc
  have HC2 : Hid (0 < n → ∃ b off, ∃ R : Nat → Value, bo = some ⟨b, off, none⟩ ∧ b < w.heap.size ∧ ∀ k, k < n → w.cell? ⟨b, off + k, none⟩ = some (R k) ∧ Fp w (R k) c (X' k) (Y' k)) := hc2
  have HXY : Hid (∀ k, k < n → ∀ i, i < c → cn (X k i) = cn (X' k i) ∧ cn (Y k i) = cn (Y' k i)) := hxy
  clear hc hc2 hxy
  go_enter Tryd.func17, Tryd.ntmps17
  go_wp2
  go_loopw [5] (fun i wr => ∃ k : Nat, i = .int .i64 k ∧ k ≤ n ∧ Hid (Below w.heap.size w wr)) (fun i _ => n - (intOf i).toNat)
  case atStart => exact ⟨0, rfl, by omega, Below.refl _ _⟩
  case round =>
    obtain ⟨k, rfl, hk, hbl⟩ := hrel
    by_cases h1 : k < n
    · obtain ⟨b, off, R, rfl, hlt, hcell⟩ := HC.out (by omega)
      obtain ⟨b2, off2, R2, rfl, hlt2, hcell2⟩ := HC2.out (by omega)
      obtain ⟨hd1, hfp⟩ := hcell k h1
      obtain ⟨hc2, hfp2⟩ := hcell2 k h1
      have hE : ∀ W, Below w.heap.size w W → Calls Tryd.prog 10 #[R k, R2 k] W fun e w' => e = .returned (.bool true) ∧ Below W.heap.size W w' := fun W hW => eq_yes (hfp.below hW) (hfp2.below hW) hc1 (HXY.out k h1)
      have ra : ∀ X, Below w.heap.size w X → X.cell? ⟨b, off + k, none⟩ = some (R k) ∧ X.cell? ⟨b2, off2 + k, none⟩ = some (R2 k) := fun X hX => ⟨(hX.cell (p := ⟨b, off + k, none⟩) hlt).trans hd1, (hX.cell (p := ⟨b2, off2 + k, none⟩) hlt2).trans hc2⟩
      generalize R k = r1 at hE ra
      generalize R2 k = r2 at hE ra
      have l0 : Below w.heap.size w wr.drew := hbl.out.drew
      clear hcell hcell2 hd1 hc2 hfp hfp2 hlt hlt2
      go_upto_region 6 with fail
      refine wp_region_any (by kernel_rfl) ?_
      change wpAny _ _ _ _ _ _ _ (World.drew _)
      refine wpI_any (I := fun X => Below w.heap.size w X) _ _ _ _ ?_
      refine wpI_take (i := 0) (v := ?_) rfl (by kernel_rfl) (by kernel_rfl) (by kernel_rfl) (fun _ _ _ h => h) ⟨by rfl, ?_⟩ ?_
      rotate_left
      · intro X hI; go_simp; try go_bits
        try rw [if_pos (by omega)]
        try with_reducible rfl
      refine wpI_take (i := 1) (v := ?_) rfl (by kernel_rfl) (by kernel_rfl) (by kernel_rfl) (fun _ _ _ h => h) ⟨by rfl, ?_⟩ ?_
      rotate_left
      · intro X hI; go_simp; try go_bits
        try rw [if_pos (by omega)]
        try with_reducible rfl
      refine wpI_take (i := 2) (v := ?_) rfl (by kernel_rfl) (by kernel_rfl) (by kernel_rfl) (fun _ _ _ h => h) ⟨by rfl, ?_⟩ ?_
      rotate_left
      · intro X hI; go_simp; try go_bits
        try rw [if_pos (by omega)]
        try with_reducible rfl
      refine wpI_take (i := 3) (v := ?_) rfl (by kernel_rfl) (by kernel_rfl) (by kernel_rfl) (fun _ _ _ h => h) ⟨by rfl, ?_⟩ ?_
      rotate_left
      · intro X hI; obtain ⟨q1, q2⟩ := ra X hI; go_simp; try go_bits
        try rw [if_pos (by omega)]
        try with_reducible rfl
      refine wpI_take (i := 4) (v := ?_) rfl (by kernel_rfl) (by kernel_rfl) (by kernel_rfl) (fun _ _ _ h => h) ⟨by rfl, ?_⟩ ?_
      rotate_left
      · intro X hI; go_simp; try go_bits
        try rw [if_pos (by omega)]
        try with_reducible rfl
      refine wpI_take (i := 5) (v := ?_) rfl (by kernel_rfl) (by kernel_rfl) (by kernel_rfl) (fun _ _ _ h => h) ⟨by rfl, ?_⟩ ?_
      rotate_left
      · intro X hI; go_simp; try go_bits
        try rw [if_pos (by omega)]
        try with_reducible rfl
      refine wpI_take (i := 6) (v := ?_) rfl (by kernel_rfl) (by kernel_rfl) (by kernel_rfl) (fun _ _ _ h => h) ⟨by rfl, ?_⟩ ?_
      rotate_left
      · intro X hI; go_simp; try go_bits
        try rw [if_pos (by omega)]
        try with_reducible rfl
      refine wpI_take (i := 7) (v := ?_) rfl (by kernel_rfl) (by kernel_rfl) (by kernel_rfl) (fun _ _ _ h => h) ⟨by rfl, ?_⟩ ?_
      rotate_left
      · intro X hI; obtain ⟨q1, q2⟩ := ra X hI; go_simp; try go_bits
        try rw [if_pos (by omega)]
        try with_reducible rfl
      refine wpI_only (i := 8) rfl (by kernel_rfl) l0 (by rfl) ?_
      intro K hK
      go_simp
      go_wp2_with (go_at_call 10; refine (hE _ l0).mono ?_; rintro e x1 ⟨rfl, hb1⟩; have l1 := bstep l0 hb1)
      refine wpI_only (i := 9) rfl (by kernel_rfl) l1 (by rfl) ?_
      intro K hK
      go_simp
      try go_bits
      refine hK _ _ ?_
      refine wpI_done l1 (by kernel_rfl) ?_ _
      go_wp2
      go_roundw
      case rel => exact ⟨k + 1, by go_num, by omega, l1⟩
      case measure => simp [intOf]; omega
    · obtain rfl : k = n := by omega
      go_wp2
      go_ret
      exact ⟨rfl, hbl.out⟩

/-- How many marks stand ahead of row k. -/
def mkq (c : Nat) (_ q : Nat) (F : Nat → Nat → Value) : Prop := ∀ k, k < q → MkK (1 + 2 * (((k * c : Nat)) : Int)) (F k) c

set_option maxRecDepth 20000 in
set_option maxHeartbeats 4000000 in
theorem markP {w : World} {B n c : Nat} {o : Value} {gs cs : Nat → Nat} {F : Nat → Nat → Value} (h : Pgr w B o n c gs cs F) (hn : n ≤ 128) (hc : c ≤ 128) :
    Calls Tryd.prog 18 #[o, .int .i64 1] w fun e w' => e = .returned (.int .i64 (1 + 2 * ((n * c : Nat) : Int))) ∧ (∃ F', Pgr w' B o n c gs cs F' ∧ mkq c n n F') ∧ Below B w w' := by
  obtain ⟨ao, cap, rfl, hcap, ha⟩ := h.open
  have HT : Hid (∀ k, k ≤ n → k * c ≤ 16384) := fun k hk => Nat.le_trans (Nat.mul_le_mul (Nat.le_trans hk hn) hc) (by decide)
  have HR : Hid (Pgr w B (.slice ao n cap) n c gs cs F) := h
  clear h
  go_enter Tryd.func18, Tryd.ntmps18
  go_wp2
  go_loopw [1, 5] (fun kk i wr => ∃ q t : Nat, i = .int .i64 q ∧ kk = .int .i64 (1 + 2 * (t : Int)) ∧ q ≤ n ∧ t ≤ 16384 ∧ Hid (t = q * c ∧ (∃ F', Pgr wr B (.slice ao n cap) n c gs cs F' ∧ mkq c n q F') ∧ Below B w wr)) (fun _ i _ => n - (intOf i).toNat)
  case atStart => exact ⟨0, 0, rfl, rfl, by omega, by omega, (Nat.zero_mul c).symm, ⟨F, HR.out, fun k hk => by omega⟩, Below.refl _ _⟩
  case round =>
    obtain ⟨q, t, rfl, rfl, hq, ht, hrel⟩ := hrel
    by_cases h1 : q < n
    · obtain ⟨g, rfl⟩ := ha (by omega)
      obtain ⟨htq, ⟨F', hR, hM⟩, hB⟩ := hrel.out
      have c1 := hR.at h1
      have key := markK_any (K := 1 + 2 * (t : Int)) (hR.rows q h1) (by omega) (by omega)
      have KEEP : Hid (∀ (w' : World) (f' : Nat → Value), Ow w' B (gs q) c (cs q) f' → MkK (1 + 2 * (t : Int)) f' c → Only (gs q) wr w' → (∃ F', Pgr w' B (.slice (some ⟨g, 0, none⟩) n cap) n c gs cs F' ∧ mkq c n (q + 1) F') ∧ Below B w w') := fun w' f' hq1 hmk hon => by
        refine ⟨⟨fun i => if i = q then f' else F' i, ⟨own_at hR.row (fun b hb => hon.block b (fun e => ?_)), fun k hk => ?_, hR.inj⟩, fun k hk => ?_⟩, Below.only hB hon (World.ownsRow.lt (hR.rows q h1) (gs q) rfl).1⟩
        · injection hb with hb
          exact ty_ne hR.row (hR.rows q h1) (by rw [← e, ← hb]; rfl)
        · by_cases hkq : k = q
          · subst hkq
            simp only [if_true]
            exact hq1
          · simp only [if_neg hkq]
            exact own_block (hR.rows k hk) (hon.block _ (fun e2 => hkq (hR.inj k q hk h1 e2)))
        · by_cases hkq : k = q
          · subst hkq
            simp only [if_true]
            rw [htq] at hmk
            exact hmk
          · simp only [if_neg hkq]
            exact hM k (by omega)
      obtain ⟨t2, ht2⟩ : ∃ t2, t2 = t + c := ⟨_, rfl⟩
      have ET : Hid (t2 = (q + 1) * c) := by show t2 = (q + 1) * c; rw [Nat.add_mul, Nat.one_mul, ← htq]; exact ht2
      have ht3 : t2 ≤ 16384 := by rw [ET.out]; exact HT.out (q + 1) (by omega)
      have e1 : 1 + 2 * (t : Int) + 2 * (c : Int) = 1 + 2 * (t2 : Int) := by omega
      have HE : Hid (1 + 2 * (t : Int) + 2 * (c : Int) = 1 + 2 * (t2 : Int)) := e1
      clear hR hB hM hrel htq ht2 e1
      unfold rv at c1
      go_wp2_with (go_at_call 11; refine key.mono ?_; rintro e w2 ⟨rfl, ⟨f2, hq1, hm1⟩, he⟩; have K2 : Hid _ := KEEP.out w2 f2 hq1 hm1 he; clear he hq1 hm1)
      go_roundw
      case rel => exact ⟨q + 1, t2, by go_num, congrArg (Value.int .i64) HE.out, by omega, ht3, ET.out, K2.out⟩
      case measure => simp [intOf]; omega
    · obtain rfl : n = q := by omega
      obtain ⟨htq, hF, hB⟩ := hrel.out
      have HF : Hid _ := hF
      have HBB : Hid _ := hB
      have HQ : Hid (t = n * c) := htq
      clear hrel hF hB htq
      go_wp2
      go_ret
      exact ⟨by rw [← HQ.out]; rfl, HF.out, HBB.out⟩

set_option maxRecDepth 20000 in
set_option maxHeartbeats 4000000 in
theorem heldP {w : World} {B n c : Nat} {o : Value} {gs cs : Nat → Nat} {F : Nat → Nat → Value} (h : Pgr w B o n c gs cs F) (hm : mkq c n n F) (hn : n ≤ 128) (hc : c ≤ 128) :
    Calls Tryd.prog 19 #[o, .int .i64 1] w fun e w' => e = .returned (.int .i64 (1 + 2 * ((n * c : Nat) : Int))) ∧ w' = w := by
  obtain ⟨ao, cap, rfl, hcap, ha⟩ := h.open
  have HT : Hid (∀ k, k ≤ n → k * c ≤ 16384) := fun k hk => Nat.le_trans (Nat.mul_le_mul (Nat.le_trans hk hn) hc) (by decide)
  have HR : Hid _ := h
  have HM : Hid _ := hm
  clear h hm
  go_enter Tryd.func19, Tryd.ntmps19
  go_wp2
  go_loopw [1, 5] (fun kk i wr => ∃ q t : Nat, i = .int .i64 q ∧ kk = .int .i64 (1 + 2 * (t : Int)) ∧ q ≤ n ∧ t ≤ 16384 ∧ Hid (t = q * c) ∧ wr = w) (fun _ i _ => n - (intOf i).toNat)
  case atStart => exact ⟨0, 0, rfl, rfl, by omega, by omega, (Nat.zero_mul c).symm, rfl⟩
  case round =>
    obtain ⟨q, t, rfl, rfl, hq, ht, htq, hw⟩ := hrel
    obtain rfl := hw.symm
    by_cases h1 : q < n
    · obtain ⟨g, rfl⟩ := ha (by omega)
      have c1 := HR.out.at h1
      have hmk := HM.out q h1
      rw [← htq.out] at hmk
      have key := heldK_any (K := 1 + 2 * (t : Int)) (HR.out.rows q h1) hmk (by omega) (by omega)
      obtain ⟨t2, ht2⟩ : ∃ t2, t2 = t + c := ⟨_, rfl⟩
      have ET : Hid (t2 = (q + 1) * c) := by show t2 = (q + 1) * c; rw [Nat.add_mul, Nat.one_mul, ← htq.out]; exact ht2
      have ht3 : t2 ≤ 16384 := by rw [ET.out]; exact HT.out (q + 1) (by omega)
      have HE : Hid (1 + 2 * (t : Int) + 2 * (c : Int) = 1 + 2 * (t2 : Int)) := by show 1 + 2 * (t : Int) + 2 * (c : Int) = 1 + 2 * (t2 : Int); omega
      clear hmk ht2
      unfold rv at c1
      go_wp2_with (go_at_call 12; refine key.mono ?_; rintro e w' ⟨rfl, hw⟩; obtain rfl := hw.symm)
      go_roundw
      case rel => exact ⟨q + 1, t2, by go_num, congrArg (Value.int .i64) HE.out, by omega, ht3, ET.out, by trivial⟩
      case measure => simp [intOf]; omega
    · obtain rfl : n = q := by omega
      go_wp2
      go_ret
      exact ⟨congrArg (fun z => Ending.returned (.int .i64 (1 + 2 * z))) (by rw [htq.out, Int.natCast_mul]), rfl⟩
end Go.Proofs.YtlcnciibjhcbiaaDoor
