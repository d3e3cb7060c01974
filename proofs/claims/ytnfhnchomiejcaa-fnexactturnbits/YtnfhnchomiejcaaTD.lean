/- TurnBits of the program. -/
import Derived.Test.YtnfhnchomiejcaaTC
import Derived.Test.YtnfhnchomiejcaaI1
namespace Go.Proofs.Ytnfhnchomiejcaa
open Go.RowKit

set_option maxRecDepth 20000 in
set_option maxHeartbeats 4000000 in
theorem iTurn_good {w : World} {v u : Value} {M n R d : Nat} {ms : Nat → Nat} {X : Nat → Nat → Int} {xs : Nat → Int} (hv : Ipp w v M ms X) (hu : Il w u n xs) (hb : Bts n xs) (hk : Cks M ms X (n : Int)) (hR : R ≤ 50) (hd : Std (fun j => fls ms X (itr ms X M n xs j) M) R d) :
    Calls Try.prog 27 #[v, u, .int .i64 (R : Int)] w fun e w' => Pst3 w w' e n (itr ms X M n xs d) (d : Int) (decide ((fls ms X (itr ms X M n xs d) M).length = 0)) := by
  obtain ⟨i0, hi, hz0, hz1, hz2⟩ := info_parts Try.info3
  have hn := hk.1.1
  have hM := hk.1.2
  have bl := below_one w (.cells #[v] 24)
  have i1 := isChecked_any (hv.below bl) (by omega) (fun k hk' => by have := (hk.2 k hk').1.2; omega) (hu.below bl) (by omega)
  rw [yb_yes ⟨hb, hk⟩] at i1
  have i2 := areR_any (R : Int)
  rw [decide_eq_true (by omega)] at i2
  have HC0 : Hid ((w.alloc (.cells #[v] 24)).cell? ⟨w.heap.size, 0, none⟩ = some v) := by show _ = _; simp
  have HSZ : Hid ((w.alloc (.cells #[v] 24)).heap.size = w.heap.size + 1) := by show _ = _; simp
  have HBL : Hid (Below w.heap.size w (w.alloc (.cells #[v] 24))) := bl
  have HV : Hid (Ipp w v M ms X) := hv
  have HU : Hid (Il w u n xs) := hu
  have HK : Hid (Cks M ms X (n : Int)) := hk
  have HBT : Hid (∀ k, k < n → Bit (xs k)) := hb.2
  have HSD : Hid (Std (fun j => fls ms X (itr ms X M n xs j) M) R d) := hd
  obtain ⟨ok, hok⟩ : ∃ ok, ok = decide ((fls ms X (itr ms X M n xs d) M).length = 0) := ⟨_, rfl⟩
  rw [← hok]
  have HOK : Hid (ok = decide ((fls ms X (itr ms X M n xs d) M).length = 0)) := hok
  obtain ⟨bo, cap2, rfl, hcap2, hc2⟩ := hu
  obtain ⟨b, off, rfl, hlt, hcell⟩ := hc2 (by omega)
  have HCE : Hid (∀ k, k < n → w.cell? ⟨b, off + k, none⟩ = some (.int .i64 (xs k))) := hcell
  obtain ⟨va, vc, rfl, -, -⟩ := hv
  clear hb hk hd hok hc2 hcell bl
  go_enter Try.func27, Try.ntmps27
  go_upto_region 3 with (first | (go_at_call 35; refine i1.mono ?_; rintro e w' ⟨rfl, hw⟩; obtain rfl := hw.symm) | (go_at_call 41; refine (i2 _).mono ?_; rintro e w' ⟨rfl, hw⟩; obtain rfl := hw.symm))
  clear i1 i2
  generalize w.alloc (.cells #[.slice va M vc] 24) = W at *
  have l0 : (W.drew).cell? ⟨w.heap.size, 0, none⟩ = some (.slice va M vc) := HC0.out
  refine wp_region_any (by kernel_rfl) ?_
  change wpAny _ _ _ _ _ _ _ (World.drew _)
  refine wpI_any (I := fun X => X.cell? ⟨w.heap.size, 0, none⟩ = some (.slice va M vc)) _ _ _ _ ?_
  refine wpI_take (i := 0) (v := ?_) rfl (by kernel_rfl) (by kernel_rfl) (by kernel_rfl) (fun _ _ _ h => h) ⟨by rfl, ?_⟩ ?_
  rotate_left
  · intro X hI; go_simp; try with_reducible rfl
  refine wpI_take (i := 2) (v := ?_) rfl (by kernel_rfl) (by kernel_rfl) (by kernel_rfl) (fun _ _ _ h => h) ⟨by rfl, ?_⟩ ?_
  rotate_left
  · intro X hI; go_simp; try with_reducible rfl
  refine wpI_take (i := 4) (v := ?_) rfl (by kernel_rfl) (by kernel_rfl) (by kernel_rfl) (fun _ _ _ h => h) ⟨by rfl, ?_⟩ ?_
  rotate_left
  · intro X hI; go_simp; try with_reducible rfl
  refine wpI_take (i := 5) (v := ?_) rfl (by kernel_rfl) (by kernel_rfl) (by kernel_rfl) (fun _ _ _ h => h) ⟨by rfl, ?_⟩ ?_
  rotate_left
  · intro X hI; go_simp; try with_reducible rfl
  refine wpI_only (i := 1) rfl (by kernel_rfl) l0 (by rfl) ?_
  intro K hK
  go_simp
  refine hK _ _ ?_
  have hb1 : Below w.heap.size w W.drew := HBL.out.drew
  have ba : Below W.drew.heap.size W.drew (W.drew.alloc (.cells #[] 3)) := below_one _ _
  have OE : (W.drew.alloc (.cells #[] 3)).ownsRow W.drew.heap.size 3 1 (.slice (some ⟨W.drew.heap.size, 0, none⟩) 0 0) 0 [] := own_empty _ 3 1
  have lt0 : w.heap.size < W.drew.heap.size := by show w.heap.size < W.heap.size; have := HSZ.out; omega
  have l1 : (W.drew.alloc (.cells #[] 3)).cell? ⟨w.heap.size, 0, none⟩ = some (.slice va M vc) := (ba.cell (p := ⟨w.heap.size, 0, none⟩) lt0).trans l0
  have hnews := il_news (w := W.drew.alloc (.cells #[] 3)) (b := b) (off := off) (m := n) (ys := xs) (fun k hk => ((bstep hb1 ba).cell (p := ⟨b, off + k, none⟩) hlt).trans (HCE.out k hk))
  refine wpI_only (i := 3) rfl (by kernel_rfl) l1 (by rfl) ?_
  intro K hK
  refine wp_app _ _ _ 29 rfl W.drew.heap.size 3 i0 (.int .i64 0) 1 8 Try.underlying29 hi hz0 hz1 hz2 rfl (by decide) (.slice (some ⟨W.drew.heap.size, 0, none⟩) 0 0) 0 [] (by go_simp) OE ⟨b, off, none⟩ n cap2 (ils xs n) (by go_simp) (by rw [ils_length, Nat.mul_one]) hnews (ils_one _ _) (by unfold maxLen; omega) (by omega) ba.size (by omega) ?_
  intro v' w3 hown' hgrow _
  refine hK _ _ ?_
  have b3 : Below W.drew.heap.size W.drew w3 := grown_below ba (Nat.le_refl _) OE hgrow
  have l3 : w3.cell? ⟨w.heap.size, 0, none⟩ = some (.slice va M vc) := (b3.cell (p := ⟨w.heap.size, 0, none⟩) lt0).trans l0
  have bw3 : Below w.heap.size w w3 := bstep hb1 b3
  rw [Nat.zero_add, List.nil_append] at hown'
  have ow3 : w3.ownsRow w.heap.size 3 1 v' n (ils xs n) := own_base hown' (Nat.le_of_lt lt0)
  have i3 := inRounds_any (HV.out.below bw3) HK.out HBT.out ow3 bw3.size l3 (show (⟨w.heap.size, 0, none⟩ : Addr).block < w3.heap.size from Nat.lt_of_lt_of_le lt0 b3.size) hR HSD.out
  rw [← HOK.out] at i3
  have HB3 : Hid (Below w.heap.size w w3) := bw3
  clear hown' hgrow ow3 bw3 b3 OE ba hb1 hnews l1
  refine wpI_only (i := 6) rfl (by kernel_rfl) l3 (by rfl) ?_
  intro K hK
  go_simp
  go_wp2_with (go_at_call 42; refine i3.mono ?_; rintro e w4 ⟨u4, rfl, ho4, hb4⟩)
  have l4 : w4.cell? ⟨w.heap.size, 0, none⟩ = some (.slice va M vc) := (hb4.cell (p := ⟨w.heap.size, 0, none⟩) (World.block_lt_of_cell? _ _ l3)).trans l3
  refine wpI_take (i := 7) (v := ?_) rfl (by kernel_rfl) (by kernel_rfl) (by kernel_rfl) (fun _ _ _ h => h) ⟨by rfl, ?_⟩ ?_
  rotate_left
  · intro X hI; go_simp; try with_reducible rfl
  refine wpI_take (i := 8) (v := ?_) rfl (by kernel_rfl) (by kernel_rfl) (by kernel_rfl) (fun _ _ _ h => h) ⟨by rfl, ?_⟩ ?_
  rotate_left
  · intro X hI; go_simp; try with_reducible rfl
  refine wpI_take (i := 9) (v := ?_) rfl (by kernel_rfl) (by kernel_rfl) (by kernel_rfl) (fun _ _ _ h => h) ⟨by rfl, ?_⟩ ?_
  rotate_left
  · intro X hI; go_simp; try with_reducible rfl
  refine wpI_take (i := 10) (v := ?_) rfl (by kernel_rfl) (by kernel_rfl) (by kernel_rfl) (fun _ _ _ h => h) ⟨by rfl, ?_⟩ ?_
  rotate_left
  · intro X hI; go_simp; try with_reducible rfl
  refine wpI_take (i := 11) (v := ?_) rfl (by kernel_rfl) (by kernel_rfl) (by kernel_rfl) (fun _ _ _ h => h) ⟨by rfl, ?_⟩ ?_
  rotate_left
  · intro X hI; go_simp; try with_reducible rfl
  refine wpI_take (i := 12) (v := ?_) rfl (by kernel_rfl) (by kernel_rfl) (by kernel_rfl) (fun _ _ _ h => h) ⟨by rfl, ?_⟩ ?_
  rotate_left
  · intro X hI; go_simp; try with_reducible rfl
  refine wpI_done l4 (by kernel_rfl) ?_ _
  go_wp2
  go_ret3
  exact ⟨u4, rfl, ho4, bstep HB3.out hb4⟩

set_option maxHeartbeats 1000000 in
theorem iTurn_bad {w : World} {v u : Value} {M n : Nat} {R : Int} {ms : Nat → Nat} {X : Nat → Nat → Int} {xs : Nat → Int} (hv : Ipp w v M ms X) (hM : M ≤ 1048576) (hms : ∀ k, k < M → ms k ≤ 1048576) (hu : Il w u n xs) (hn : n ≤ 1048576) (hb : ¬ ((Bts n xs ∧ Cks M ms X (n : Int)) ∧ 0 ≤ R ∧ R ≤ 50)) (ys : Nat → Int) :
    Calls Try.prog 27 #[v, u, .int .i64 R] w fun e w' => Pst3 w w' e 0 ys 0 false := by
  have bl := below_one w (.cells #[v] 24)
  have i1 := isChecked_any (hv.below bl) hM hms (hu.below bl) hn
  have i2 := areR_any R
  have HC0 : Hid ((w.alloc (.cells #[v] 24)).cell? ⟨w.heap.size, 0, none⟩ = some v) := by show _ = _; simp
  have OW : Hid (((w.alloc (.cells #[v] 24)).alloc (.cells #[] 3)).ownsRow w.heap.size 3 1 (.slice (some ⟨(w.alloc (.cells #[v] 24)).heap.size, 0, none⟩) 0 0) 0 (ils ys 0)) := own_base (own_empty _ 3 1) bl.size
  have BL : Hid (Below w.heap.size w ((w.alloc (.cells #[v] 24)).alloc (.cells #[] 3))) := bstep bl (below_one _ _)
  obtain ⟨va, vc, rfl, _, _⟩ := hv
  obtain ⟨bo, cap2, rfl, hcap2, hc2⟩ := hu
  clear hc2 hms bl
  by_cases h1 : Bts n xs ∧ Cks M ms X (n : Int)
  · rw [yb_yes h1] at i1
    rw [decide_eq_false (fun q => hb ⟨h1, q⟩)] at i2
    clear hb h1
    go_enter Try.func27, Try.ntmps27
    go_wp2_with (first | (go_at_call 35; refine i1.mono ?_; rintro e w' ⟨rfl, hw⟩; obtain rfl := hw.symm) | (go_at_call 41; refine (i2 _).mono ?_; rintro e w' ⟨rfl, hw⟩; obtain rfl := hw.symm))
    go_ret3
    exact ⟨_, rfl, by simpa using OW.out, BL.out⟩
  · rw [yb_no h1] at i1
    clear hb h1 i2
    go_enter Try.func27, Try.ntmps27
    go_wp2_with (first | (go_at_call 35; refine i1.mono ?_; rintro e w' ⟨rfl, hw⟩; obtain rfl := hw.symm))
    go_ret3
    exact ⟨_, rfl, by simpa using OW.out, BL.out⟩
end Go.Proofs.Ytnfhnchomiejcaa
