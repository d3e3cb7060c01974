/- Lists of lists: held against each other, marked, looked at. -/
import Derived.Test.YtlccicbgepfbbabCL
import Derived.BigRegion
namespace Go.Proofs.Ytlccicbgepfbbab
open Go.RowKit

theorem own_only2 {w w' w3 : World} {B3 s s2 n m g : Nat} {e e2 : TypeId} {v x : Value} {xs L : List Value} (h : w.ownsRow w3.heap.size e s v n xs) (ho : Only g w w') (hor : x.ownBlock = some g ∨ w' = w) (hx : w3.ownsRow B3 e2 s2 x m L) : w'.ownsRow w3.heap.size e s v n xs := by
  rcases hor with hg | rfl
  · exact own_only h ho (World.ownsRow.lt hx g hg).2
  · exact h

/-- How many numbers the first k rows have. -/
def tot (ms : Nat → Nat) : Nat → Nat
  | 0 => 0
  | k + 1 => tot ms k + ms k

theorem tot_le {ms : Nat → Nat} {n : Nat} (h : ∀ k, k < n → ms k ≤ 1048576) : ∀ k, k ≤ n → tot ms k ≤ k * 1048576
  | 0, _ => Nat.le_refl _
  | k + 1, hk => by
    have h1 := tot_le h k (by omega)
    have h2 := h k (by omega)
    unfold tot
    omega

theorem own_ap {w w' : World} {B s n g : Nat} {e : TypeId} {v : Value} {xs : List Value} (h : w.ownsRow B e s v n xs) (ho : Only g w w') (ha : ∀ b, v.ownBlock = some b → b ≠ g) : w'.ownsRow B e s v n xs := by
  refine ⟨h.1, ?_⟩
  rcases h.2 with h' | ⟨g', cap', cur, rfl, hb', hg', rest⟩
  · exact .inl h'
  · exact .inr ⟨g', cap', cur, rfl, hb', (ho.block g' (ha g' rfl)).trans hg', rest⟩

/-- Marked up to row q. -/
def mkq (ms : Nat → Nat) (X : Nat → Nat → Int) (K : Int) (q k : Nat) : Nat → Int := if k < q then mkF (K + (tot ms k : Int)) else X k

set_option maxHeartbeats 2000000 in
/-- Rows that hold the same: eqIntSS says so. -/
theorem eqS_yes {w : World} {v u : Value} {n : Nat} {ms : Nat → Nat} {X : Nat → Nat → Int} (hv : Ipp w v n ms X) (hu : Ipp w u n ms X) (hn : n ≤ 1048576) (hms : ∀ k, k < n → ms k ≤ 1048576) :
    Calls Try.prog 21 #[v, u] w fun e w' => e = .returned (.bool true) ∧ Below w.heap.size w w' := by
  obtain ⟨ao, cap, rfl, hcap, hc⟩ := hv
  obtain ⟨bo, cap2, rfl, hcap2, hc2⟩ := hu
  have HC : Hid (0 < n → ∃ b off, ∃ R : Nat → Value, ao = some ⟨b, off, none⟩ ∧ b < w.heap.size ∧ ∀ k, k < n → w.cell? ⟨b, off + k, none⟩ = some (R k) ∧ Il w (R k) (ms k) (X k)) := hc
  have HC2 : Hid (0 < n → ∃ b off, ∃ R : Nat → Value, bo = some ⟨b, off, none⟩ ∧ b < w.heap.size ∧ ∀ k, k < n → w.cell? ⟨b, off + k, none⟩ = some (R k) ∧ Il w (R k) (ms k) (X k)) := hc2
  have HMS : Hid (∀ k, k < n → ms k ≤ 1048576) := hms
  clear hc hc2 hms
  go_enter Try.func21, Try.ntmps21
  go_wp2
  go_loopw [5] (fun i wr => ∃ k : Nat, i = .int .i64 k ∧ k ≤ n ∧ Hid (Below w.heap.size w wr)) (fun i _ => n - (intOf i).toNat)
  case atStart => exact ⟨0, rfl, by omega, Below.refl _ _⟩
  case round =>
    obtain ⟨k, rfl, hk, hbl⟩ := hrel
    by_cases h1 : k < n
    · obtain ⟨b, off, R, rfl, hlt, hcell⟩ := HC.out (by omega)
      obtain ⟨b2, off2, R2, rfl, hlt2, hcell2⟩ := HC2.out (by omega)
      obtain ⟨hc1, hfp⟩ := hcell k h1
      obtain ⟨hc2, hfp2⟩ := hcell2 k h1
      have hE : ∀ W, Below w.heap.size w W → Calls Try.prog 11 #[R k, R2 k] W fun e w' => e = .returned (.bool true) ∧ Below W.heap.size W w' := fun W hW => eq_yes (hfp.below hW) (hfp2.below hW) (HMS.out k h1)
      have ra : ∀ X, Below w.heap.size w X → X.cell? ⟨b, off + k, none⟩ = some (R k) ∧ X.cell? ⟨b2, off2 + k, none⟩ = some (R2 k) := fun X hX => ⟨(hX.cell (p := ⟨b, off + k, none⟩) hlt).trans hc1, (hX.cell (p := ⟨b2, off2 + k, none⟩) hlt2).trans hc2⟩
      generalize R k = r1 at hE ra
      generalize R2 k = r2 at hE ra
      have l0 : Below w.heap.size w wr.drew := hbl.out.drew
      clear hcell hcell2 hc1 hc2 hfp hfp2 hlt hlt2
      go_upto_region 6 with fail
      refine wp_region_any (by kernel_rfl) ?_
      change wpAny _ _ _ _ _ _ _ (World.drew _)
      refine wpI_any (I := fun X => Below w.heap.size w X) _ _ _ _ ?_
      refine wpI_take (i := 0) (v := ?_) rfl (by kernel_rfl) (by kernel_rfl) (by kernel_rfl) (fun _ _ _ h => h) ⟨by rfl, ?_⟩ ?_
      rotate_left
      · intro X hI; go_simp; try go_bits
        try rw [if_pos (by omega)]
        try with_reducible rfl
      refine wpI_take (i := 1) (v := ?_) rfl (by kernel_rfl) (by kernel_rfl) (by kernel_rfl) (fun _ _ _ h => h) ⟨by rfl, ?_⟩ ?_
      rotate_left
      · intro X hI; go_simp; try go_bits
        try rw [if_pos (by omega)]
        try with_reducible rfl
      refine wpI_take (i := 2) (v := ?_) rfl (by kernel_rfl) (by kernel_rfl) (by kernel_rfl) (fun _ _ _ h => h) ⟨by rfl, ?_⟩ ?_
      rotate_left
      · intro X hI; go_simp; try go_bits
        try rw [if_pos (by omega)]
        try with_reducible rfl
      refine wpI_take (i := 3) (v := ?_) rfl (by kernel_rfl) (by kernel_rfl) (by kernel_rfl) (fun _ _ _ h => h) ⟨by rfl, ?_⟩ ?_
      rotate_left
      · intro X hI; obtain ⟨q1, q2⟩ := ra X hI; go_simp; try go_bits
        try rw [if_pos (by omega)]
        try with_reducible rfl
      refine wpI_take (i := 4) (v := ?_) rfl (by kernel_rfl) (by kernel_rfl) (by kernel_rfl) (fun _ _ _ h => h) ⟨by rfl, ?_⟩ ?_
      rotate_left
      · intro X hI; go_simp; try go_bits
        try rw [if_pos (by omega)]
        try with_reducible rfl
      refine wpI_take (i := 5) (v := ?_) rfl (by kernel_rfl) (by kernel_rfl) (by kernel_rfl) (fun _ _ _ h => h) ⟨by rfl, ?_⟩ ?_
      rotate_left
      · intro X hI; go_simp; try go_bits
        try rw [if_pos (by omega)]
        try with_reducible rfl
      refine wpI_take (i := 6) (v := ?_) rfl (by kernel_rfl) (by kernel_rfl) (by kernel_rfl) (fun _ _ _ h => h) ⟨by rfl, ?_⟩ ?_
      rotate_left
      · intro X hI; go_simp; try go_bits
        try rw [if_pos (by omega)]
        try with_reducible rfl
      refine wpI_take (i := 7) (v := ?_) rfl (by kernel_rfl) (by kernel_rfl) (by kernel_rfl) (fun _ _ _ h => h) ⟨by rfl, ?_⟩ ?_
      rotate_left
      · intro X hI; obtain ⟨q1, q2⟩ := ra X hI; go_simp; try go_bits
        try rw [if_pos (by omega)]
        try with_reducible rfl
      refine wpI_only (i := 8) rfl (by kernel_rfl) l0 (by rfl) ?_
      intro K hK
      go_simp
      go_wp2_with (go_at_call 11; refine (hE _ l0).mono ?_; rintro e x1 ⟨rfl, hb1⟩; have l1 := bstep l0 hb1)
      refine wpI_only (i := 9) rfl (by kernel_rfl) l1 (by rfl) ?_
      intro K hK
      go_simp
      try go_bits
      refine hK _ _ ?_
      refine wpI_done l1 (by kernel_rfl) ?_ _
      go_wp2
      go_roundw
      case rel => exact ⟨k + 1, by go_num, by omega, l1⟩
      case measure => simp [intOf]; omega
    · obtain rfl : k = n := by omega
      go_wp2
      go_ret
      exact ⟨rfl, hbl.out⟩

/-- Such lists, however far they reach. -/
def Gs (B : Nat) (W : World) (o : Value) (j : Nat) (ms : Nat → Nat) (T : Nat → Nat → Int) : Prop := ∃ H, Gq B H W o j ms T

theorem Gs.below {B : Nat} {W W' : World} {o : Value} {j : Nat} {ms : Nat → Nat} {T : Nat → Nat → Int} (h : Gs B W o j ms T) (hb : Below W.heap.size W W') : Gs B W' o j ms T := by
  obtain ⟨H, h⟩ := h
  exact ⟨H, h.below hb⟩

theorem Gs.ipp {B : Nat} {W : World} {o : Value} {j : Nat} {ms : Nat → Nat} {T : Nat → Nat → Int} (h : Gs B W o j ms T) : Ipp W o j ms T := by
  obtain ⟨H, h⟩ := h
  exact h.gr.ipp

theorem Gs.only2 {w w' w3 : World} {B3 s2 n m g : Nat} {e2 : TypeId} {v x : Value} {ms : Nat → Nat} {T : Nat → Nat → Int} {L : List Value} (h : Gs w3.heap.size w v n ms T) (ho : Only g w w') (hor : x.ownBlock = some g ∨ w' = w) (hx : w3.ownsRow B3 e2 s2 x m L) : Gs w3.heap.size w' v n ms T := by
  obtain ⟨H, R, h1, h2, h3⟩ := h
  exact ⟨H, R, own_only2 h1 ho hor hx, fun k hk => ⟨own_only2 (h2 k hk).1 ho hor hx, (h2 k hk).2⟩, h3⟩

set_option maxRecDepth 20000 in
set_option maxHeartbeats 4000000 in
theorem markQ {w : World} {B : Nat} {v : Value} {n : Nat} {ms : Nat → Nat} {X : Nat → Nat → Int} (ho : Gs B w v n ms X) (hn : n ≤ 1048576) (hms : ∀ k, k < n → ms k ≤ 1048576) :
    Calls Try.prog 22 #[v, .int .i64 1] w fun e w' => e = .returned (.int .i64 (1 + (tot ms n : Int))) ∧ Gs B w' v n ms (fun k => mkF (1 + (tot ms k : Int))) ∧ Kd (fun g => B ≤ g) w w' := by
  obtain ⟨H, R, r1, r2, r3⟩ := ho
  obtain ⟨ao, cap, rfl, hl⟩ := own_open r1
  have HL : Hid (0 < n → ∃ g, ao = some ⟨g, 0, none⟩) := hl
  have HR1 : Hid (w.ownsRow B 24 1 (.slice ao n cap) n ((List.range n).map R)) := r1
  have HR2 : Hid (∀ k, k < n → w.ownsRow B 3 1 (R k) (ms k) (ils (X k) (ms k)) ∧ Apart (R k) (.slice ao n cap) ∧ ∀ g, (R k).ownBlock = some g → g < H) := r2
  have HR3 : Hid (∀ k l, k < l → l < n → Apart (R k) (R l)) := r3
  have HMS : Hid (∀ k, k < n → ms k ≤ 1048576) := hms
  have HT : Hid (∀ k, k ≤ n → tot ms k ≤ k * 1048576) := tot_le hms
  clear r1 r2 r3 hl hms
  go_enter Try.func22, Try.ntmps22
  go_wp2
  go_loopw [1, 5] (fun kk i wr => ∃ q : Nat, i = .int .i64 q ∧ kk = .int .i64 (1 + (tot ms q : Int)) ∧ q ≤ n ∧ Hid (wr.ownsRow B 24 1 (.slice ao n cap) n ((List.range n).map R) ∧ (∀ k, k < n → wr.ownsRow B 3 1 (R k) (ms k) (ils (mkq ms X 1 q k) (ms k))) ∧ Kd (fun g => B ≤ g) w wr)) (fun _ i _ => n - (intOf i).toNat)
  case atStart => exact ⟨0, rfl, rfl, by omega, HR1.out, fun k hk => (HR2.out k hk).1, Kd.refl _ _⟩
  case round =>
    obtain ⟨q, rfl, rfl, hq, hrel⟩ := hrel
    by_cases h1 : q < n
    · obtain ⟨g, rfl⟩ := HL.out (by omega)
      have hown := hrel.out.2.1 q h1
      have c := World.ownsRow.cellAt hrel.out.1 q (by omega)
      rw [show ((List.range n).map R)[q]? = some (R q) by simp [h1]] at c
      have hm := HMS.out q h1
      have ht := HT.out q (by omega)
      have key : Calls Try.prog 14 #[R q, .int .i64 (1 + (tot ms q : Int))] wr fun e w' => e = .returned (.int .i64 (1 + (tot ms q : Int) + (ms q : Int))) ∧ w'.ownsRow B 3 1 (R q) (ms q) (ils (mkF (1 + (tot ms q : Int))) (ms q)) ∧ ((∃ g', (R q).ownBlock = some g' ∧ B ≤ g' ∧ Only g' wr w') ∨ w' = wr) := by
        rcases hown.2 with ⟨hv, h0⟩ | ⟨g', cap', cur, hv, hb', hg', _⟩
        · rw [hv, h0]
          refine (mark_nilF wr _).mono ?_
          rintro e w' ⟨rfl, rfl⟩
          exact ⟨by simp, ⟨rfl, .inl ⟨rfl, rfl⟩⟩, .inr rfl⟩
        · rw [hv] at hown ⊢
          refine (mark_F hown hm (by omega)).mono ?_
          rintro e w' ⟨rfl, ho, hon⟩
          exact ⟨rfl, ho, .inl ⟨g', rfl, hb', hon⟩⟩
      have KEEP : Hid (∀ w' : World, w'.ownsRow B 3 1 (R q) (ms q) (ils (mkF (1 + (tot ms q : Int))) (ms q)) → ((∃ g', (R q).ownBlock = some g' ∧ B ≤ g' ∧ Only g' wr w') ∨ w' = wr) → w'.ownsRow B 24 1 (.slice (some ⟨g, 0, none⟩) n cap) n ((List.range n).map R) ∧ (∀ k, k < n → w'.ownsRow B 3 1 (R k) (ms k) (ils (mkq ms X 1 (q + 1) k) (ms k))) ∧ Kd (fun g => B ≤ g) w w') := fun w' hq1 h => by
        have hnew : ∀ k, k < n → k ≠ q → mkq ms X 1 (q + 1) k = mkq ms X 1 q k := fun k hk hkq => by
          unfold mkq
          by_cases h5 : k < q
          · rw [if_pos h5, if_pos (by omega)]
          · rw [if_neg h5, if_neg (by omega)]
        have hqq : mkq ms X 1 (q + 1) q = mkF (1 + (tot ms q : Int)) := by unfold mkq; rw [if_pos (by omega)]
        have far : ∀ {u : Value} {g' : Nat}, (R q).ownBlock = some g' → Apart (R q) u → ∀ b, u.ownBlock = some b → b ≠ g' := fun hg ha b hb e => by
          rcases ha with ha | ha
          · rw [hg] at ha; cases ha
          · exact ha (by rw [hg, hb, e])
        rcases h with ⟨g', hg', ha, hon⟩ | rfl
        · refine ⟨own_ap hrel.out.1 hon (far hg' (HR2.out q h1).2.1), fun k hk => ?_, hrel.out.2.2.trans ⟨hon.os, hon.tape, hon.output, hon.size, fun k hk hd => hon.block k (fun e => hd (by rw [e]; exact ha))⟩⟩
          by_cases hkq : k = q
          · subst hkq; rw [hqq]; exact hq1
          · rw [hnew k hk hkq]
            refine own_ap (hrel.out.2.1 k hk) hon (far hg' ?_)
            rcases Nat.lt_or_gt_of_ne hkq with h5 | h5
            · exact apart_symm (HR3.out k q h5 h1)
            · exact HR3.out q k h5 hk
        · refine ⟨hrel.out.1, fun k hk => ?_, hrel.out.2.2⟩
          by_cases hkq : k = q
          · subst hkq; rw [hqq]; exact hq1
          · rw [hnew k hk hkq]; exact hrel.out.2.1 k hk
      have et : Hid ((tot ms (q + 1) : Int) = (tot ms q : Int) + (ms q : Int)) := by show ((tot ms q + ms q : Nat) : Int) = _; omega
      generalize HRQ : R q = r at c key KEEP
      clear hown hrel HRQ
      go_wp2_with (go_at_call 14; refine key.mono ?_; rintro e w2 ⟨rfl, hq1, he⟩; have K2 : Hid _ := KEEP.out w2 hq1 he; clear he hq1)
      go_roundw
      case rel => exact ⟨q + 1, by go_num, congrArg (Value.int .i64) (by have := et.out; omega), by omega, K2.out⟩
      case measure => simp [intOf]; omega
    · obtain rfl : n = q := by omega
      go_wp2
      go_ret
      refine ⟨rfl, ⟨H, R, hrel.out.1, fun k hk => ⟨?_, (HR2.out k hk).2⟩, HR3.out⟩, hrel.out.2.2⟩
      have h := hrel.out.2.1 k hk
      have e : mkq ms X 1 n k = mkF (1 + (tot ms k : Int)) := by unfold mkq; rw [if_pos hk]
      rw [e] at h
      exact h

set_option maxRecDepth 20000 in
set_option maxHeartbeats 4000000 in
theorem heldQ {w : World} {B : Nat} {v : Value} {n : Nat} {ms : Nat → Nat} (ho : Gs B w v n ms (fun k => mkF (1 + (tot ms k : Int)))) (hn : n ≤ 1048576) (hms : ∀ k, k < n → ms k ≤ 1048576) :
    Calls Try.prog 23 #[v, .int .i64 1] w fun e w' => e = .returned (.int .i64 (1 + (tot ms n : Int))) ∧ w' = w := by
  obtain ⟨H, R, r1, r2, _⟩ := ho
  obtain ⟨ao, cap, rfl, hl⟩ := own_open r1
  have HL : Hid (0 < n → ∃ g, ao = some ⟨g, 0, none⟩) := hl
  have HR1 : Hid (w.ownsRow B 24 1 (.slice ao n cap) n ((List.range n).map R)) := r1
  have HR2 : Hid (∀ k, k < n → w.ownsRow B 3 1 (R k) (ms k) (ils (mkF (1 + (tot ms k : Int))) (ms k))) := fun k hk => (r2 k hk).1
  have HMS : Hid (∀ k, k < n → ms k ≤ 1048576) := hms
  have HT : Hid (∀ k, k ≤ n → tot ms k ≤ k * 1048576) := tot_le hms
  clear r1 r2 hl hms
  go_enter Try.func23, Try.ntmps23
  go_wp2
  go_loopw [1, 5] (fun kk i wr => ∃ q : Nat, i = .int .i64 q ∧ kk = .int .i64 (1 + (tot ms q : Int)) ∧ q ≤ n ∧ wr = w) (fun _ i _ => n - (intOf i).toNat)
  case atStart => exact ⟨0, rfl, rfl, by omega, rfl⟩
  case round =>
    obtain ⟨q, rfl, rfl, hq, rfl⟩ := hrel
    by_cases h1 : q < n
    · obtain ⟨g, rfl⟩ := HL.out (by omega)
      have hown := HR2.out q h1
      have c := World.ownsRow.cellAt HR1.out q (by omega)
      rw [show ((List.range n).map R)[q]? = some (R q) by simp [h1]] at c
      have hm := HMS.out q h1
      have ht := HT.out q (by omega)
      have key := heldF hown hm (by omega)
      have et : Hid ((tot ms (q + 1) : Int) = (tot ms q : Int) + (ms q : Int)) := by show ((tot ms q + ms q : Nat) : Int) = _; omega
      generalize R q = r at c key
      clear hown
      go_wp2_with (go_at_call 15; refine key.mono ?_; rintro e w' ⟨rfl, hw⟩; obtain rfl := hw.symm)
      go_roundw
      case rel => exact ⟨q + 1, by go_num, congrArg (Value.int .i64) (by have := et.out; omega), by omega, by trivial⟩
      case measure => simp [intOf]; omega
    · obtain rfl : n = q := by omega
      go_wp2
      go_ret
      exact ⟨rfl, rfl⟩
end Go.Proofs.Ytlccicbgepfbbab
