/- LiftedRows: rows that are the same; rows drawn. -/
import Derived.Test.YtjpkoladmeeidaaEA
import Derived.BigRegion
namespace Go.Proofs.Ytjpkoladmeeidaa
open Go.RowKit

set_option maxHeartbeats 2000000 in
/-- Rows that hold the same: sameRows says so. -/
theorem sameR_yes {w : World} {v u : Value} {n : Nat} {ms : Nat → Nat} {X Y : Nat → Nat → Int} (hv : Ipp w v n ms X) (hu : Ipp w u n ms Y) (he : ∀ k, k < n → ∀ j, j < ms k → X k j = Y k j) (hn : n ≤ 1048576) (hms : ∀ k, k < n → ms k ≤ 1048576) :
    Calls Try.prog 8 #[v, u] w fun e w' => e = .returned (.bool true) ∧ Below w.heap.size w w' := by
  obtain ⟨ao, cap, rfl, hcap, hc⟩ := hv
  obtain ⟨bo, cap2, rfl, hcap2, hc2⟩ := hu
  have HC : Hid (0 < n → ∃ b off, ∃ R : Nat → Value, ao = some ⟨b, off, none⟩ ∧ b < w.heap.size ∧ ∀ k, k < n → w.cell? ⟨b, off + k, none⟩ = some (R k) ∧ Il w (R k) (ms k) (X k)) := hc
  have HC2 : Hid (0 < n → ∃ b off, ∃ R : Nat → Value, bo = some ⟨b, off, none⟩ ∧ b < w.heap.size ∧ ∀ k, k < n → w.cell? ⟨b, off + k, none⟩ = some (R k) ∧ Il w (R k) (ms k) (Y k)) := hc2
  have HMS : Hid (∀ k, k < n → ms k ≤ 1048576) := hms
  have HE : Hid (∀ k, k < n → ∀ j, j < ms k → X k j = Y k j) := he
  clear hc hc2 hms he
  go_enter Try.func8, Try.ntmps8
  go_wp2
  go_loopw [5] (fun i wr => ∃ k : Nat, i = .int .i64 k ∧ k ≤ n ∧ Hid (Below w.heap.size w wr)) (fun i _ => n - (intOf i).toNat)
  case atStart => exact ⟨0, rfl, by omega, Below.refl _ _⟩
  case round =>
    obtain ⟨k, rfl, hk, hbl⟩ := hrel
    by_cases h1 : k < n
    · obtain ⟨b, off, R, rfl, hlt, hcell⟩ := HC.out (by omega)
      obtain ⟨b2, off2, R2, rfl, hlt2, hcell2⟩ := HC2.out (by omega)
      obtain ⟨hc1, hfp⟩ := hcell k h1
      obtain ⟨hc2, hfp2⟩ := hcell2 k h1
      have hE : ∀ W, Below w.heap.size w W → Calls Try.prog 24 #[R k, R2 k] W fun e w' => e = .returned (.bool true) ∧ Below W.heap.size W w' := fun W hW => same_yes (hfp.below hW) (hfp2.below hW) (HMS.out k h1) (HE.out k h1)
      have ra : ∀ X, Below w.heap.size w X → X.cell? ⟨b, off + k, none⟩ = some (R k) ∧ X.cell? ⟨b2, off2 + k, none⟩ = some (R2 k) := fun X hX => ⟨(hX.cell (p := ⟨b, off + k, none⟩) hlt).trans hc1, (hX.cell (p := ⟨b2, off2 + k, none⟩) hlt2).trans hc2⟩
      generalize R k = r1 at hE ra
      generalize R2 k = r2 at hE ra
      have l0 : Below w.heap.size w wr.drew := hbl.out.drew
      clear hcell hcell2 hc1 hc2 hfp hfp2 hlt hlt2
      go_upto_region 6 with fail
      refine wp_region_any (by kernel_rfl) ?_
      change wpAny _ _ _ _ _ _ _ (World.drew _)
      refine wpI_any (I := fun X => Below w.heap.size w X) _ _ _ _ ?_
      refine wpI_take (i := 0) (v := ?_) rfl (by kernel_rfl) (by kernel_rfl) (by kernel_rfl) (fun _ _ _ h => h) ⟨by rfl, ?_⟩ ?_
      rotate_left
      · intro X hI; go_simp; try go_bits
        try rw [if_pos (by omega)]
        try with_reducible rfl
      refine wpI_take (i := 1) (v := ?_) rfl (by kernel_rfl) (by kernel_rfl) (by kernel_rfl) (fun _ _ _ h => h) ⟨by rfl, ?_⟩ ?_
      rotate_left
      · intro X hI; go_simp; try go_bits
        try rw [if_pos (by omega)]
        try with_reducible rfl
      refine wpI_take (i := 2) (v := ?_) rfl (by kernel_rfl) (by kernel_rfl) (by kernel_rfl) (fun _ _ _ h => h) ⟨by rfl, ?_⟩ ?_
      rotate_left
      · intro X hI; go_simp; try go_bits
        try rw [if_pos (by omega)]
        try with_reducible rfl
      refine wpI_take (i := 3) (v := ?_) rfl (by kernel_rfl) (by kernel_rfl) (by kernel_rfl) (fun _ _ _ h => h) ⟨by rfl, ?_⟩ ?_
      rotate_left
      · intro X hI; obtain ⟨q1, q2⟩ := ra X hI; go_simp; try go_bits
        try rw [if_pos (by omega)]
        try with_reducible rfl
      refine wpI_take (i := 4) (v := ?_) rfl (by kernel_rfl) (by kernel_rfl) (by kernel_rfl) (fun _ _ _ h => h) ⟨by rfl, ?_⟩ ?_
      rotate_left
      · intro X hI; go_simp; try go_bits
        try rw [if_pos (by omega)]
        try with_reducible rfl
      refine wpI_take (i := 5) (v := ?_) rfl (by kernel_rfl) (by kernel_rfl) (by kernel_rfl) (fun _ _ _ h => h) ⟨by rfl, ?_⟩ ?_
      rotate_left
      · intro X hI; go_simp; try go_bits
        try rw [if_pos (by omega)]
        try with_reducible rfl
      refine wpI_take (i := 6) (v := ?_) rfl (by kernel_rfl) (by kernel_rfl) (by kernel_rfl) (fun _ _ _ h => h) ⟨by rfl, ?_⟩ ?_
      rotate_left
      · intro X hI; go_simp; try go_bits
        try rw [if_pos (by omega)]
        try with_reducible rfl
      refine wpI_take (i := 7) (v := ?_) rfl (by kernel_rfl) (by kernel_rfl) (by kernel_rfl) (fun _ _ _ h => h) ⟨by rfl, ?_⟩ ?_
      rotate_left
      · intro X hI; obtain ⟨q1, q2⟩ := ra X hI; go_simp; try go_bits
        try rw [if_pos (by omega)]
        try with_reducible rfl
      refine wpI_only (i := 8) rfl (by kernel_rfl) l0 (by rfl) ?_
      intro K hK
      go_simp
      go_wp2_with (go_at_call 24; refine (hE _ l0).mono ?_; rintro e x1 ⟨rfl, hb1⟩; have l1 := bstep l0 hb1)
      refine wpI_only (i := 9) rfl (by kernel_rfl) l1 (by rfl) ?_
      intro K hK
      go_simp
      try go_bits
      refine hK _ _ ?_
      refine wpI_done l1 (by kernel_rfl) ?_ _
      go_wp2
      go_roundw
      case rel => exact ⟨k + 1, by go_num, by omega, l1⟩
      case measure => simp [intOf]; omega
    · obtain rfl : k = n := by omega
      go_wp2
      go_ret
      exact ⟨rfl, hbl.out⟩


theorem Gr.keep {B c : Nat} {W W' : World} {o : Value} {j : Nat} {ms : Nat → Nat} {T : Nat → Nat → Int} (h : Gr B W o j ms T) (hk : Keep c W W') (hc : c < B) : Gr B W' o j ms T := by
  obtain ⟨R, h1, h2⟩ := h
  exact ⟨R, own_keep h1 hk hc, fun k hkj => ⟨own_keep (h2 k hkj).1 hk hc, (h2 k hkj).2⟩⟩

/-- Sizes and numbers with those of place j. -/
def msj (ms : Nat → Nat) (j L : Nat) (k : Nat) : Nat := if k = j then L else ms k
def Xj (X : Nat → Nat → Int) (j : Nat) (f : Nat → Int) (k : Nat) : Nat → Int := if k = j then f else X k

theorem msj_at (ms : Nat → Nat) (j L : Nat) : msj ms j L j = L := if_pos rfl
theorem Xj_at (X : Nat → Nat → Int) (j : Nat) (f : Nat → Int) : Xj X j f j = f := if_pos rfl

theorem Gr.re {B : Nat} {W : World} {o : Value} {j : Nat} {ms : Nat → Nat} {X : Nat → Nat → Int} (h : Gr B W o j ms X) (L : Nat) (f : Nat → Int) : Gr B W o j (msj ms j L) (Xj X j f) := by
  obtain ⟨R, h1, h2⟩ := h
  refine ⟨R, h1, fun k hk => ?_⟩
  unfold msj Xj
  rw [if_neg (by omega), if_neg (by omega)]
  exact h2 k hk

theorem msj_le {ms : Nat → Nat} {j L : Nat} (h : ∀ k, ms k ≤ 8) (hL : L ≤ 8) (k : Nat) : msj ms j L k ≤ 8 := by
  unfold msj
  split
  · exact hL
  · exact h k

end Go.Proofs.Ytjpkoladmeeidaa
