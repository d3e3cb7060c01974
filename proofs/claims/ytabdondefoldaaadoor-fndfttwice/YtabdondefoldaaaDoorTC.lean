/- Rows turned around, and held against others. -/
import Derived.Test.YtabdondefoldaaaDoorTB
import Derived.Test.YtabdondefoldaaaDoorGN
namespace Go.Proofs.YtabdondefoldaaaDoor
open Go.RowKit

theorem Rgv.congr {X : World} {B j : Nat} {o : Value} {R : Nat → Value} {ms ms' : Nat → Nat} {M M' : Nat → Nat → Int} (h : Rgv X B o j R ms M) (e1 : ∀ i, i < j → ms i = ms' i) (e2 : ∀ i, i < j → M i = M' i) : Rgv X B o j R ms' M' :=
  ⟨h.row, fun i hi => by rw [← e1 i hi, ← e2 i hi]; exact h.rows i hi⟩

set_option maxRecDepth 20000 in
set_option maxHeartbeats 8000000 in
/-- Rows and columns turned around. -/
theorem turned_any {w : World} {v : Value} {n c : Nat} {T : Nat → Nat → Int} (hv : Ipp w v n (fun _ => c) T) (hn : 1 ≤ n) (hn2 : n ≤ 256) (hc2 : c ≤ 256) :
    Calls Tryd.prog 8 #[v] w fun e w' => ∃ u, e = .returned u ∧ Ipp w' u c (fun _ => n) (fun t i => T i t) ∧ Below w.heap.size w w' := by
  obtain ⟨i0, hi, hz0, hz1, hz2⟩ := info_parts Tryd.info3
  obtain ⟨ao, cap, rfl, hcap, hcc⟩ := hv
  obtain ⟨b, off, R0, rfl, hlt, hcell⟩ := hcc hn
  have HCELL : Hid (∀ k, k < n → w.cell? ⟨b, off + k, none⟩ = some (R0 k) ∧ Il w (R0 k) c (T k)) := hcell
  have HLT : Hid (b < w.heap.size) := hlt
  clear hcc hcell hlt
  have HS : Hid (Rgv (w.alloc (.cells #[] 29)) w.heap.size (.slice (some ⟨w.heap.size, 0, none⟩) 0 0) 0 (fun _ => .slice none 0 0) (fun _ => n) (fun t i => T i t)) := Rgv.start w _ _ _
  have BS : Hid (Below w.heap.size w (w.alloc (.cells #[] 29))) := below_one _ _
  obtain ⟨p0, il0⟩ := HCELL.out 0 (by omega)
  obtain ⟨a0, k0, er0, _, _⟩ := il0
  rw [er0, Nat.add_zero] at p0
  have HP0 : Hid (w.cell? ⟨b, off, none⟩ = some (.slice a0 c k0)) := p0
  clear p0 er0
  have hn0 : decide (0 < (n : Int)) = true := by simp; omega
  go_enter Tryd.func8, Tryd.ntmps8
  go_wp2
  go_loopw [3, 4, 5, 6] (fun o k _ _ wr => ∃ q : Nat, k = .int .i64 (q : Int) ∧ q ≤ c ∧ Hid ((∃ R, Rgv wr w.heap.size o q R (fun _ => n) (fun t i => T i t)) ∧ Below w.heap.size w wr)) (fun _ k _ _ _ => c - (intOf k).toNat)
  case atStart => exact ⟨0, rfl, by omega, ⟨_, HS.out⟩, BS.out⟩
  case round =>
    clear HS BS
    obtain ⟨q, rfl, hq, hrel⟩ := hrel
    have HL := hide hrel.out
    clear hrel
    have p0 : wr.cell? ⟨b, off, none⟩ = some (.slice a0 c k0) := (HL.out.2.cell (p := ⟨b, off, none⟩) HLT.out).trans HP0.out
    obtain ⟨R, hR⟩ := HL.out.1
    have HRR := hide hR
    obtain ⟨oo, oc, hoo, _⟩ := hR.open
    subst hoo
    clear hR
    by_cases h1 : q < c
    · have OE : Hid ((wr.alloc (.cells #[] 3)).ownsRow wr.heap.size 3 1 (.slice (some ⟨wr.heap.size, 0, none⟩) 0 0) 0 (ils (fun i => T i q) 0)) := own_empty wr 3 1
      have BE : Hid (Below wr.heap.size wr (wr.alloc (.cells #[] 3))) := below_one _ _
      go_wp2
      go_loopw [5, 6] (fun o i w3 => ∃ t : Nat, i = .int .i64 (t : Int) ∧ t ≤ n ∧ Hid (w3.ownsRow wr.heap.size 3 1 o t (ils (fun i => T i q) t) ∧ Below wr.heap.size wr w3)) (fun _ i _ => n - (intOf i).toNat)
      case atStart => exact ⟨0, rfl, by omega, OE.out, BE.out⟩
      case round =>
        rename World => w3
        clear OE BE p0
        obtain ⟨t, rfl, ht, hrel⟩ := hrel
        have HI := hide hrel.out
        clear hrel
        obtain ⟨al, cl, hv⟩ := own_slc HI.out.1
        subst hv
        by_cases h2 : t < n
        · obtain ⟨pt, at2, kt, ert, _, hct⟩ := HCELL.out t h2
          obtain ⟨b2, of2, rfl, hl2, hcl⟩ := hct (by omega)
          rw [ert] at pt
          have c1 : w3.cell? ⟨b, off + t, none⟩ = some (.slice (some ⟨b2, of2, none⟩) c kt) := (HI.out.2.cell (p := ⟨b, off + t, none⟩) (Nat.lt_of_lt_of_le HLT.out HL.out.2.size)).trans ((HL.out.2.cell (p := ⟨b, off + t, none⟩) HLT.out).trans pt)
          have c2 : w3.cell? ⟨b2, of2 + q, none⟩ = some (.int .i64 (T t q)) := (HI.out.2.cell (p := ⟨b2, of2 + q, none⟩) (Nat.lt_of_lt_of_le hl2 HL.out.2.size)).trans ((HL.out.2.cell (p := ⟨b2, of2 + q, none⟩) hl2).trans (hcl q h1))
          obtain ⟨x, hx⟩ : ∃ x, x = T t q := ⟨_, rfl⟩
          have HX : Hid (x = T t q) := hx
          rw [← hx] at c2
          clear pt ert hct hcl hl2 hx
          have hb5 := below_one w3 (.cells #[.int .i64 x] 3)
          have HO5 := own_below HI.out.1 hb5
          have hs5 := Nat.le_trans HI.out.2.size hb5.size
          have HBB : Hid (Below wr.heap.size wr (w3.alloc (.cells #[.int .i64 x] 3))) := HI.out.2.trans (hb5.mono HI.out.2.size)
          clear hb5
          go_wp2_with (first | (at_builtin; refine wpList_append_own _ rfl _ _ 29 rfl wr.heap.size 3 i0 (.int .i64 0) 1 8 Tryd.underlying29 hi hz0 hz1 hz2 rfl (by decide) _ _ _ rfl HO5 ⟨w3.heap.size, 0, none⟩ 1 1 [.int .i64 x] rfl rfl (one_new _ _ _) (by simp [Value.oneCell']) (by unfold maxLen; omega) (by omega) hs5 ?_))
          intro v6 w6 hown' hgrow _
          have HB6 : Hid (Below wr.heap.size wr w6) := HBB.out.trans (grown_below (Below.refl wr.heap.size _) hs5 HO5 hgrow)
          rw [HX.out, ← ils_snoc (fun i => T i q) t] at hown'
          have HO6 : Hid _ := hown'
          clear hown' hgrow HO5
          go_wp2
          go_roundw
          case rel => exact ⟨t + 1, by go_num, by omega, HO6.out, HB6.out⟩
          case measure => simp [intOf]; omega
        · obtain rfl : n = t := by omega
          obtain ⟨v7, w7, ha7, hp7, hb7⟩ := Rgv.app (HRR.out.call HI.out.2) (own_base HI.out.1 HL.out.2.size) rfl (by omega) (Nat.le_trans HL.out.2.size HI.out.2.size)
          have P7 : Hid (∃ R, Rgv w7 w.heap.size v7 (q + 1) R (fun _ => n) (fun t i => T i t)) := ⟨_, hp7.congr (fun i _ => by by_cases e : i = q <;> simp [e]) (fun i _ => by by_cases e : i = q <;> simp [e])⟩
          have B7 : Hid (Below w.heap.size w w7) := (bstep HL.out.2 HI.out.2).trans hb7
          have HA7 := hide ha7
          clear ha7 hp7 hb7
          go_wp2_with (first | (at_builtin; refine wpList_appr rfl _ _ rfl rfl rfl rfl HA7.out ?_))
          refine ⟨⟨q + 1, by go_num, by omega, P7.out, B7.out⟩, ?_⟩
          simp [intOf]
          omega
    · obtain rfl : c = q := by omega
      go_wp2
      go_ret
      exact ⟨_, rfl, HRR.out.ipp, HL.out.2⟩

set_option maxHeartbeats 2000000 in
/-- Rows that hold the same: eqIntSS says so. -/
theorem sameR_yes {w : World} {v u : Value} {n : Nat} {ms : Nat → Nat} {X : Nat → Nat → Int} (hv : Ipp w v n ms X) (hu : Ipp w u n ms X) (hn : n ≤ 1048576) (hms : ∀ k, k < n → ms k ≤ 1048576) :
    Calls Tryd.prog 9 #[v, u] w fun e w' => e = .returned (.bool true) ∧ Below w.heap.size w w' := by
  obtain ⟨ao, cap, rfl, hcap, hc⟩ := hv
  obtain ⟨bo, cap2, rfl, hcap2, hc2⟩ := hu
  have HC : Hid (0 < n → ∃ b off, ∃ R : Nat → Value, ao = some ⟨b, off, none⟩ ∧ b < w.heap.size ∧ ∀ k, k < n → w.cell? ⟨b, off + k, none⟩ = some (R k) ∧ Il w (R k) (ms k) (X k)) := hc
  have HC2 : Hid (0 < n → ∃ b off, ∃ R : Nat → Value, bo = some ⟨b, off, none⟩ ∧ b < w.heap.size ∧ ∀ k, k < n → w.cell? ⟨b, off + k, none⟩ = some (R k) ∧ Il w (R k) (ms k) (X k)) := hc2
  have HMS : Hid (∀ k, k < n → ms k ≤ 1048576) := hms
  clear hc hc2 hms
  go_enter Tryd.func9, Tryd.ntmps9
  go_wp2
  go_loopw [5] (fun i wr => ∃ k : Nat, i = .int .i64 k ∧ k ≤ n ∧ Hid (Below w.heap.size w wr)) (fun i _ => n - (intOf i).toNat)
  case atStart => exact ⟨0, rfl, by omega, Below.refl _ _⟩
  case round =>
    obtain ⟨k, rfl, hk, hbl⟩ := hrel
    by_cases h1 : k < n
    · obtain ⟨b, off, R, rfl, hlt, hcell⟩ := HC.out (by omega)
      obtain ⟨b2, off2, R2, rfl, hlt2, hcell2⟩ := HC2.out (by omega)
      obtain ⟨hc1, hfp⟩ := hcell k h1
      obtain ⟨hc2, hfp2⟩ := hcell2 k h1
      have hE : ∀ W, Below w.heap.size w W → Calls Tryd.prog 23 #[R k, R2 k] W fun e w' => e = .returned (.bool true) ∧ Below W.heap.size W w' := fun W hW => sameI_yes (hfp.below hW) (hfp2.below hW) (HMS.out k h1)
      have ra : ∀ X, Below w.heap.size w X → X.cell? ⟨b, off + k, none⟩ = some (R k) ∧ X.cell? ⟨b2, off2 + k, none⟩ = some (R2 k) := fun X hX => ⟨(hX.cell (p := ⟨b, off + k, none⟩) hlt).trans hc1, (hX.cell (p := ⟨b2, off2 + k, none⟩) hlt2).trans hc2⟩
      generalize R k = r1 at hE ra
      generalize R2 k = r2 at hE ra
      have l0 : Below w.heap.size w wr.drew := hbl.out.drew
      clear hcell hcell2 hc1 hc2 hfp hfp2 hlt hlt2
      go_upto_region 6 with fail
      refine wp_region_any (by kernel_rfl) ?_
      change wpAny _ _ _ _ _ _ _ (World.drew _)
      refine wpI_any (I := fun X => Below w.heap.size w X) _ _ _ _ ?_
      refine wpI_take (i := 0) (v := ?_) rfl (by kernel_rfl) (by kernel_rfl) (by kernel_rfl) (fun _ _ _ h => h) ⟨by rfl, ?_⟩ ?_
      rotate_left
      · intro X hI; go_simp; try go_bits
        try rw [if_pos (by omega)]
        try with_reducible rfl
      refine wpI_take (i := 1) (v := ?_) rfl (by kernel_rfl) (by kernel_rfl) (by kernel_rfl) (fun _ _ _ h => h) ⟨by rfl, ?_⟩ ?_
      rotate_left
      · intro X hI; go_simp; try go_bits
        try rw [if_pos (by omega)]
        try with_reducible rfl
      refine wpI_take (i := 2) (v := ?_) rfl (by kernel_rfl) (by kernel_rfl) (by kernel_rfl) (fun _ _ _ h => h) ⟨by rfl, ?_⟩ ?_
      rotate_left
      · intro X hI; go_simp; try go_bits
        try rw [if_pos (by omega)]
        try with_reducible rfl
      refine wpI_take (i := 3) (v := ?_) rfl (by kernel_rfl) (by kernel_rfl) (by kernel_rfl) (fun _ _ _ h => h) ⟨by rfl, ?_⟩ ?_
      rotate_left
      · intro X hI; obtain ⟨q1, q2⟩ := ra X hI; go_simp; try go_bits
        try rw [if_pos (by omega)]
        try with_reducible rfl
      refine wpI_take (i := 4) (v := ?_) rfl (by kernel_rfl) (by kernel_rfl) (by kernel_rfl) (fun _ _ _ h => h) ⟨by rfl, ?_⟩ ?_
      rotate_left
      · intro X hI; go_simp; try go_bits
        try rw [if_pos (by omega)]
        try with_reducible rfl
      refine wpI_take (i := 5) (v := ?_) rfl (by kernel_rfl) (by kernel_rfl) (by kernel_rfl) (fun _ _ _ h => h) ⟨by rfl, ?_⟩ ?_
      rotate_left
      · intro X hI; go_simp; try go_bits
        try rw [if_pos (by omega)]
        try with_reducible rfl
      refine wpI_take (i := 6) (v := ?_) rfl (by kernel_rfl) (by kernel_rfl) (by kernel_rfl) (fun _ _ _ h => h) ⟨by rfl, ?_⟩ ?_
      rotate_left
      · intro X hI; go_simp; try go_bits
        try rw [if_pos (by omega)]
        try with_reducible rfl
      refine wpI_take (i := 7) (v := ?_) rfl (by kernel_rfl) (by kernel_rfl) (by kernel_rfl) (fun _ _ _ h => h) ⟨by rfl, ?_⟩ ?_
      rotate_left
      · intro X hI; obtain ⟨q1, q2⟩ := ra X hI; go_simp; try go_bits
        try rw [if_pos (by omega)]
        try with_reducible rfl
      refine wpI_only (i := 8) rfl (by kernel_rfl) l0 (by rfl) ?_
      intro K hK
      go_simp
      go_wp2_with (go_at_call 23; refine (hE _ l0).mono ?_; rintro e x1 ⟨rfl, hb1⟩; have l1 := bstep l0 hb1)
      refine wpI_only (i := 9) rfl (by kernel_rfl) l1 (by rfl) ?_
      intro K hK
      go_simp
      try go_bits
      refine hK _ _ ?_
      refine wpI_done l1 (by kernel_rfl) ?_ _
      go_wp2
      go_roundw
      case rel => exact ⟨k + 1, by go_num, by omega, l1⟩
      case measure => simp [intOf]; omega
    · obtain rfl : k = n := by omega
      go_wp2
      go_ret
      exact ⟨rfl, hbl.out⟩
end Go.Proofs.YtabdondefoldaaaDoor
