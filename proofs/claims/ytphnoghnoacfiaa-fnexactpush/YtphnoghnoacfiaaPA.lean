/- Rings: what is one; their steps. -/
import Derived.Test.YtphnoghnoacfiaaRC
namespace Go.Proofs.Ytphnoghnoacfiaa
open Go.RowKit

/-- A ring. -/
abbrev Rgo (n : Nat) (xs : Nat → Int) (o : Int) : Prop := Sig n xs ∧ 0 ≤ o ∧ o < n

set_option maxHeartbeats 2000000 in
theorem iRing_any {w : World} {v : Value} {n : Nat} {xs : Nat → Int} (hv : Il w v n xs) (hn : n ≤ 1048576) (o : Int) : Calls Try.prog 21 #[.agg #[v, .int .i64 o]] w fun e w' => e = .returned (.bool (decide (Rgo n xs o))) ∧ Below w.heap.size w w' := by
  have b1 := below_one w (.cells #[v, .int .i64 o] 26)
  have R1 := Rg.new w v (.int .i64 o) 26
  have i1 := iSig_any (hv.below b1) hn
  have HB : Hid (Below w.heap.size w (w.alloc (.cells #[v, .int .i64 o] 26))) := b1
  obtain ⟨ao, cap, rfl, hcap, hc⟩ := hv
  clear hc b1
  obtain ⟨d, hd⟩ : ∃ d, d = decide (Rgo n xs o) := ⟨_, rfl⟩
  rw [← hd]
  have HD : Hid (d = decide (Rgo n xs o)) := hd
  clear hd
  by_cases h1 : Sig n xs
  · rw [decide_eq_true h1] at i1
    have H1 : Hid (Sig n xs) := h1
    clear h1
    by_cases h2 : 0 ≤ o
    · by_cases h3 : o < n
      · go_enter Try.func21, Try.ntmps21
        go_wp2_with (first | (go_at_call 22; (with_reducible refine (i1).mono ?_); rintro e w' ⟨rfl, hw⟩; obtain rfl := hw.symm))
        go_ret
        exact ⟨congrArg (fun z => Ending.returned (.bool z)) (by rw [HD.out]; exact (decide_eq_true ⟨H1.out, h2, h3⟩).symm), HB.out⟩
      · go_enter Try.func21, Try.ntmps21
        go_wp2_with (first | (go_at_call 22; (with_reducible refine (i1).mono ?_); rintro e w' ⟨rfl, hw⟩; obtain rfl := hw.symm))
        go_ret
        exact ⟨congrArg (fun z => Ending.returned (.bool z)) (by rw [HD.out]; first | exact (decide_eq_false (show ¬ Rgo n xs o from fun h => by have := h.2; omega)).symm | exact (decide_eq_false (show ¬ Rgo 0 xs o from fun h => by have := h.2; omega)).symm | exact decide_eq_decide.2 ⟨fun h => (by omega), fun h => (by have := h.2; omega)⟩), HB.out⟩
    · go_enter Try.func21, Try.ntmps21
      go_wp2_with (first | (go_at_call 22; (with_reducible refine (i1).mono ?_); rintro e w' ⟨rfl, hw⟩; obtain rfl := hw.symm))
      go_ret
      exact ⟨congrArg (fun z => Ending.returned (.bool z)) (by rw [HD.out]; first | exact (decide_eq_false (show ¬ Rgo n xs o from fun h => by have := h.2; omega)).symm | exact (decide_eq_false (show ¬ Rgo 0 xs o from fun h => by have := h.2; omega)).symm | exact decide_eq_decide.2 ⟨fun h => (by omega), fun h => (by have := h.2; omega)⟩), HB.out⟩
  · rw [decide_eq_false h1] at i1
    have H1 : Hid (¬ Sig n xs) := h1
    clear h1
    go_enter Try.func21, Try.ntmps21
    go_wp2_with (first | (go_at_call 22; (with_reducible refine (i1).mono ?_); rintro e w' ⟨rfl, hw⟩; obtain rfl := hw.symm))
    go_ret
    exact ⟨congrArg (fun z => Ending.returned (.bool z)) (by rw [HD.out]; exact (decide_eq_false (show ¬ Rgo n xs o from fun h => H1.out h.1)).symm), HB.out⟩

set_option maxHeartbeats 2000000 in
theorem sRing_any {w : World} {v : Value} {n : Nat} {xs : Nat → Int} (hv : Il w v n xs) (hn : n ≤ 1048576) (o : Int) : Calls Try.prog 19 #[.agg #[v, .int .i64 o]] w fun e w' => e = .returned (.bool (decide (Rgo n xs o))) ∧ Below w.heap.size w w' := by
  have b1 := below_one w (.cells #[v, .int .i64 o] 26)
  have R1 := Rg.new w v (.int .i64 o) 26
  have i1 := sSig_any (hv.below b1) hn
  have HB : Hid (Below w.heap.size w (w.alloc (.cells #[v, .int .i64 o] 26))) := b1
  obtain ⟨ao, cap, rfl, hcap, hc⟩ := hv
  clear hc b1
  obtain ⟨d, hd⟩ : ∃ d, d = decide (Rgo n xs o) := ⟨_, rfl⟩
  rw [← hd]
  have HD : Hid (d = decide (Rgo n xs o)) := hd
  clear hd
  by_cases h1 : Sig n xs
  · rw [decide_eq_true h1] at i1
    have H1 : Hid (Sig n xs) := h1
    clear h1
    by_cases h0 : 0 < n
    · have i2 := in_any o 0 ((n : Int) - 1)
      by_cases h3 : 0 ≤ o ∧ o < n
      · rw [decide_eq_true (show 0 ≤ o ∧ o ≤ (n : Int) - 1 by omega)] at i2
        go_enter Try.func19, Try.ntmps19
        go_wp2_with (first | (go_at_call 20; (with_reducible refine (i1).mono ?_); rintro e w' ⟨rfl, hw⟩; obtain rfl := hw.symm) | (go_at_call 25; (with_reducible refine (i2 _).mono ?_); rintro e w' ⟨rfl, hw⟩; obtain rfl := hw.symm))
        go_ret
        exact ⟨congrArg (fun z => Ending.returned (.bool z)) (by rw [HD.out]; exact (decide_eq_true ⟨H1.out, h3⟩).symm), HB.out⟩
      · rw [decide_eq_false (show ¬ (0 ≤ o ∧ o ≤ (n : Int) - 1) by omega)] at i2
        have H3 : Hid (¬ (0 ≤ o ∧ o < n)) := h3
        clear h3
        go_enter Try.func19, Try.ntmps19
        go_wp2_with (first | (go_at_call 20; (with_reducible refine (i1).mono ?_); rintro e w' ⟨rfl, hw⟩; obtain rfl := hw.symm) | (go_at_call 25; (with_reducible refine (i2 _).mono ?_); rintro e w' ⟨rfl, hw⟩; obtain rfl := hw.symm))
        go_ret
        exact ⟨congrArg (fun z => Ending.returned (.bool z)) (by rw [HD.out]; exact (decide_eq_false (show ¬ Rgo n xs o from fun h => H3.out h.2)).symm), HB.out⟩
    · obtain rfl : n = 0 := by omega
      go_enter Try.func19, Try.ntmps19
      go_wp2_with (first | (go_at_call 20; (with_reducible refine (i1).mono ?_); rintro e w' ⟨rfl, hw⟩; obtain rfl := hw.symm))
      go_ret
      exact ⟨congrArg (fun z => Ending.returned (.bool z)) (by rw [HD.out]; first | exact (decide_eq_false (show ¬ Rgo n xs o from fun h => by have := h.2; omega)).symm | exact (decide_eq_false (show ¬ Rgo 0 xs o from fun h => by have := h.2; omega)).symm | exact decide_eq_decide.2 ⟨fun h => (by omega), fun h => (by have := h.2; omega)⟩), HB.out⟩
  · rw [decide_eq_false h1] at i1
    have H1 : Hid (¬ Sig n xs) := h1
    clear h1
    go_enter Try.func19, Try.ntmps19
    go_wp2_with (first | (go_at_call 20; (with_reducible refine (i1).mono ?_); rintro e w' ⟨rfl, hw⟩; obtain rfl := hw.symm))
    go_ret
    exact ⟨congrArg (fun z => Ending.returned (.bool z)) (by rw [HD.out]; exact (decide_eq_false (show ¬ Rgo n xs o from fun h => H1.out h.1)).symm), HB.out⟩

theorem around_any {w : World} {ao : Option Addr} {n cap : Nat} (h0 : 0 < n) (hn : n ≤ 1048576) {a : Int} (ha : 0 ≤ a + n ∧ a ≤ 1048576) : Calls Try.prog 26 #[.slice ao n cap, .int .i64 a] w fun e w' => e = .returned (.int .i64 ((a + n) % n)) ∧ w' = w := by
  go_enter Try.func26, Try.ntmps26
  go_wp2
  go_ret
  exact ⟨by first | rfl | (congr 2; exact Int.tmod_eq_emod_of_nonneg (by omega)), rfl⟩

/-- What lies back places behind the place o. -/
def tapV (n : Nat) (xs : Nat → Int) (o b : Int) : Int := xs ((o - b + n) % n).toNat

/-- Good for Tap. -/
abbrev GTp (n : Nat) (xs : Nat → Int) (o b : Int) : Prop := Rgo n xs o ∧ 1 ≤ b ∧ b ≤ n

set_option maxHeartbeats 2000000 in
theorem iTap_good {w : World} {v : Value} {n : Nat} {xs : Nat → Int} (hv : Il w v n xs) {o b : Int} (h : GTp n xs o b) : Calls Try.prog 17 #[.agg #[v, .int .i64 o], .int .i64 b] w fun e w' => e = .returned (.tuple #[.int .i64 (tapV n xs o b), .bool true]) ∧ Below w.heap.size w w' := by
  have h5 := h.1.1.1
  have ho := h.1.2
  have b1 := below_one w (.cells #[v, .int .i64 o] 26)
  have R1 := Rg.new w v (.int .i64 o) 26
  have i1 := iRing_any (hv.below b1) (by omega) o
  rw [decide_eq_true h.1] at i1
  have hb := h.2
  obtain ⟨k, hk⟩ : ∃ k : Nat, (o - b + n) % n = (k : Int) := ⟨((o - b + n) % n).toNat, by have := Int.emod_nonneg (o - b + n) (show (n : Int) ≠ 0 by omega); omega⟩
  have hkn : k < n := by have := Int.emod_lt_of_pos (o - b + n) (show 0 < (n : Int) by omega); omega
  have ez : xs k = tapV n xs o b := by unfold tapV; rw [hk]; rfl
  have i2 := fun (w : World) (ao : Option Addr) (cap : Nat) => around_any (w := w) (ao := ao) (cap := cap) (show 0 < n by omega) (show n ≤ 1048576 by omega) (a := o - b) (by omega)
  rw [hk] at i2
  have HW : Hid (Il (w.alloc (.cells #[v, .int .i64 o] 26)) v n xs ∧ Below w.heap.size w (w.alloc (.cells #[v, .int .i64 o] 26))) := ⟨hv.below b1, b1⟩
  obtain ⟨ao, cap, rfl, hcap, hc⟩ := hv
  have hcx : 0 < n := by omega
  obtain ⟨bb, off, rfl, hlt, hcell⟩ := hc hcx
  have CK : Hid (∀ W, Below w.heap.size w W → W.cell? ⟨bb, off + k, none⟩ = some (.int .i64 (tapV n xs o b))) := fun W hW => ((hW.cell (p := ⟨bb, off + k, none⟩) hlt).trans (hcell k hkn)).trans (by rw [ez])
  generalize tapV n xs o b = z at CK ⊢
  clear hcell ez hc
  have RR : Hid (Rg (w.alloc (.cells #[.slice (some ⟨bb, off, none⟩) n cap, .int .i64 o] 26)) w.heap.size (.slice (some ⟨bb, off, none⟩) n cap) (.int .i64 o)) := R1
  clear b1 hk R1 h
  go_enter Try.func17, Try.ntmps17
  go_upto_region 3 with (first | (go_at_call 21; (with_reducible refine i1.mono ?_); rintro e w2 ⟨rfl, hb2⟩; have HB : Hid (Il w2 (.slice (some ⟨bb, off, none⟩) n cap) n xs ∧ Below w.heap.size w w2) := ⟨HW.out.1.below hb2, bstep HW.out.2 hb2⟩; have ck := CK.out w2 HB.out.2; have R2 : Hid (Rg w2 w.heap.size (.slice (some ⟨bb, off, none⟩) n cap) (.int .i64 o)) := RR.out.block (hb2.block _ (by simp)); have c0 := R2.out.c0; have c1 := R2.out.c1; clear hb2))
  go_quiet ((go_at_call 26; exact Calls.quiet_of_same (i2 _ _ _)))
  go_wp2
  go_ret2
  exact ⟨rfl, below_drewN HB.out.2 _⟩

set_option maxHeartbeats 2000000 in
theorem sTap_good {w : World} {v : Value} {n : Nat} {xs : Nat → Int} (hv : Il w v n xs) {o b : Int} (h : GTp n xs o b) : Calls Try.prog 16 #[.agg #[v, .int .i64 o], .int .i64 b] w fun e w' => e = .returned (.tuple #[.int .i64 (tapV n xs o b), .bool true]) ∧ Below w.heap.size w w' := by
  have h5 := h.1.1.1
  have ho := h.1.2
  have b1 := below_one w (.cells #[v, .int .i64 o] 26)
  have R1 := Rg.new w v (.int .i64 o) 26
  have i1 := sRing_any (hv.below b1) (by omega) o
  rw [decide_eq_true h.1] at i1
  have hb := h.2
  have i2 := in_any b 1 (n : Int)
  rw [decide_eq_true hb] at i2
  obtain ⟨k, hk⟩ : ∃ k : Nat, (o - b + n) % n = (k : Int) := ⟨((o - b + n) % n).toNat, by have := Int.emod_nonneg (o - b + n) (show (n : Int) ≠ 0 by omega); omega⟩
  have hkn : k < n := by have := Int.emod_lt_of_pos (o - b + n) (show 0 < (n : Int) by omega); omega
  have ez : xs k = tapV n xs o b := by unfold tapV; rw [hk]; rfl
  have hk2 : (o - b + n).tmod n = (k : Int) := (Int.tmod_eq_emod_of_nonneg (by omega)).trans hk
  have HW : Hid (Below w.heap.size w (w.alloc (.cells #[v, .int .i64 o] 26))) := b1
  obtain ⟨ao, cap, rfl, hcap, hc⟩ := hv
  have hcx : 0 < n := by omega
  obtain ⟨bb, off, rfl, hlt, hcell⟩ := hc hcx
  have CK : Hid (∀ W, Below w.heap.size w W → W.cell? ⟨bb, off + k, none⟩ = some (.int .i64 (tapV n xs o b))) := fun W hW => ((hW.cell (p := ⟨bb, off + k, none⟩) hlt).trans (hcell k hkn)).trans (by rw [ez])
  generalize tapV n xs o b = z at CK ⊢
  clear hcell ez hc
  have RR : Hid (Rg (w.alloc (.cells #[.slice (some ⟨bb, off, none⟩) n cap, .int .i64 o] 26)) w.heap.size (.slice (some ⟨bb, off, none⟩) n cap) (.int .i64 o)) := R1
  clear b1 R1 h
  go_enter Try.func16, Try.ntmps16
  go_upto_region 3 with (first
    | (go_at_call 19; (with_reducible refine i1.mono ?_); rintro e w2 ⟨rfl, hb2⟩; have HB : Hid (Below w.heap.size w w2) := bstep HW.out hb2; have ck := CK.out w2 HB.out; have R2 : Hid (Rg w2 w.heap.size (.slice (some ⟨bb, off, none⟩) n cap) (.int .i64 o)) := RR.out.block (hb2.block _ (by simp)); have c0 := R2.out.c0; have c1 := R2.out.c1; clear hb2)
    | (go_at_call 25; (with_reducible refine (i2 _).mono ?_); rintro e w' ⟨rfl, hw⟩; obtain rfl := hw.symm))
  go_quiet (fail)
  go_wp2
  go_ret2
  exact ⟨rfl, below_drewN HB.out _⟩

end Go.Proofs.Ytphnoghnoacfiaa
