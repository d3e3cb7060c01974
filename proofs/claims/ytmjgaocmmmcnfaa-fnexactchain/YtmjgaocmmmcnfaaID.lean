/- Iir: the model. -/
import Derived.Test.YtmjgaocmmmcnfaaIC
namespace Go.Proofs.Ytmjgaocmmmcnfaa
open Go.RowKit

set_option maxHeartbeats 1000000 in
theorem floor_any (a b : Int) (ha : -4000000000000000000 ≤ a ∧ a ≤ 4000000000000000000) (hb : 1 ≤ b ∧ b ≤ 4000000000000000000) (w : World) : Calls Try.prog 21 #[.int .i64 a, .int .i64 b] w fun e w' => e = .returned (.int .i64 (a / b)) ∧ w' = w := by
  have hd := tdiv_bounds hb.1 ha.1 ha.2 (by decide)
  by_cases h : a.tmod b < 0
  · have E : Hid _ := (tdiv_neg hb.1 h).1
    go_enter Try.func21, Try.ntmps21
    go_wp2
    go_ret
    exact ret1 E.out rfl
  · have E : Hid _ := (tdiv_pos hb.1 h).1
    go_enter Try.func21, Try.ntmps21
    go_wp2
    go_ret
    exact ret1 E.out rfl

theorem sEnd_any (x : Int) (w : World) : Calls Try.prog 22 #[.int .i64 x] w fun e w' => e = .returned (.int .i64 (tap x)) ∧ w' = w := by
  obtain ⟨y, hy⟩ : ∃ y, y = tap x := ⟨_, rfl⟩
  rw [← hy]
  have HY : Hid (y = tap x) := hy
  clear hy
  by_cases h1 : x < -1000000
  · go_enter Try.func22, Try.ntmps22
    go_wp2
    go_ret
    exact ⟨congrArg (fun z => Ending.returned (.int .i64 z)) (by rw [HY.out]; unfold tap; omega), rfl⟩
  · by_cases h2 : 1000000 < x
    · go_enter Try.func22, Try.ntmps22
      go_wp2
      go_ret
      exact ⟨congrArg (fun z => Ending.returned (.int .i64 z)) (by rw [HY.out]; unfold tap; omega), rfl⟩
    · go_enter Try.func22, Try.ntmps22
      go_wp2
      go_ret
      exact ⟨congrArg (fun z => Ending.returned (.int .i64 z)) (by rw [HY.out]; unfold tap; omega), rfl⟩

set_option maxHeartbeats 2000000 in
theorem sGI_any {w : World} {v : Value} {n : Nat} {xs : Nat → Int} {s : Se} {p : Pa} (hv : Il w v n xs) (hn : n ≤ 1048576) :
    Calls Try.prog 20 #[s.v, p.v, v] w fun e w' => e = .returned (.bool (decide (GI s p n xs))) ∧ Below w.heap.size w w' := by
  have HV : Hid (Il w v n xs) := hv
  obtain ⟨ao, cap, rfl, hcap, hc⟩ := hv
  clear hc
  have i1 := sWth_any (M := 65536) (il_five (p.w (s.w w)) s 3) (by omega) (by omega)
  rw [show (p.w (s.w w)).heap.size = w.heap.size + 1 + 1 by simp] at i1
  have i2 := sWth_any (M := 1000000) (il_four (s.l (p.w (s.w w))) p 3) (by omega) (by omega)
  rw [show (s.l (p.w (s.w w))).heap.size = w.heap.size + 1 + 1 + 1 by simp] at i2
  have i3 := in_any p.e 0 16383
  have b2 : Below w.heap.size w (s.l (p.w (s.w w))) := bstep (bstep (below_one _ _) (below_one _ _)) (below_one _ _)
  have b3 : Below w.heap.size w (p.l (s.l (p.w (s.w w)))) := bstep b2 (below_one _ _)
  have HB2 : Hid (Below w.heap.size w (s.l (p.w (s.w w)))) := b2
  have HB3 : Hid (Below w.heap.size w (p.l (s.l (p.w (s.w w))))) := b3
  have i4 := sWth_any (M := 1000000) (HV.out.below b3) hn (by omega)
  clear b2 b3
  obtain ⟨d, hd⟩ : ∃ d, d = decide (GI s p n xs) := ⟨_, rfl⟩
  rw [← hd]
  have HD : Hid (d = decide (GI s p n xs)) := hd
  clear hd
  by_cases h1 : s.ok
  · rw [decide_eq_true h1] at i1
    by_cases h2 : Wth 1000000 4 p.n
    · rw [decide_eq_true h2] at i2
      by_cases h3 : 0 ≤ p.e ∧ p.e ≤ 16383
      · rw [decide_eq_true h3] at i3
        by_cases h5 : n ≤ 512
        · obtain ⟨f, hf⟩ : ∃ f, f = decide (Wth 1000000 n xs) := ⟨_, rfl⟩
          rw [← hf] at i4
          have HF : Hid (f = decide (Wth 1000000 n xs)) := hf
          have HA : Hid (s.ok ∧ p.ok) := ⟨h1, h2, h3⟩
          clear hf h1 h2 h3
          go_enter Try.func20, Try.ntmps20
          go_wp2_with (first
            | (go_at_call 28; (with_reducible refine i1.mono ?_); rintro e w' ⟨rfl, hw⟩; obtain rfl := hw.symm)
            | (go_at_call 28; (with_reducible refine i2.mono ?_); rintro e w' ⟨rfl, hw⟩; obtain rfl := hw.symm)
            | (go_at_call 29; (with_reducible refine (i3 _).mono ?_); rintro e w' ⟨rfl, hw⟩; obtain rfl := hw.symm)
            | (go_at_call 28; (with_reducible refine i4.mono ?_); rintro e w' ⟨rfl, hw⟩; obtain rfl := hw.symm))
          go_ret
          exact ⟨congrArg (fun z => Ending.returned (.bool z)) (by rw [HD.out, HF.out]; exact decide_eq_decide.2 ⟨fun h => ⟨HA.out, h5, h⟩, fun h => h.2.2⟩), HB3.out⟩
        · clear h1 h2 h3 i4
          go_enter Try.func20, Try.ntmps20
          go_wp2_with (first
            | (go_at_call 28; (with_reducible refine i1.mono ?_); rintro e w' ⟨rfl, hw⟩; obtain rfl := hw.symm)
            | (go_at_call 28; (with_reducible refine i2.mono ?_); rintro e w' ⟨rfl, hw⟩; obtain rfl := hw.symm)
            | (go_at_call 29; (with_reducible refine (i3 _).mono ?_); rintro e w' ⟨rfl, hw⟩; obtain rfl := hw.symm))
          go_ret
          exact ⟨congrArg (fun z => Ending.returned (.bool z)) (by rw [HD.out]; exact (decide_eq_false (fun h => by have := h.2.1; omega)).symm), HB3.out⟩
      · have H3 : Hid (¬ (0 ≤ p.e ∧ p.e ≤ 16383)) := h3
        rw [decide_eq_false h3] at i3
        clear h1 h2 h3 i4
        go_enter Try.func20, Try.ntmps20
        go_wp2_with (first
          | (go_at_call 28; (with_reducible refine i1.mono ?_); rintro e w' ⟨rfl, hw⟩; obtain rfl := hw.symm)
          | (go_at_call 28; (with_reducible refine i2.mono ?_); rintro e w' ⟨rfl, hw⟩; obtain rfl := hw.symm)
          | (go_at_call 29; (with_reducible refine (i3 _).mono ?_); rintro e w' ⟨rfl, hw⟩; obtain rfl := hw.symm))
        go_ret
        exact ⟨congrArg (fun z => Ending.returned (.bool z)) (by rw [HD.out]; exact (decide_eq_false (fun h => H3.out h.1.2.2)).symm), HB3.out⟩
    · have H2 : Hid (¬ Wth 1000000 4 p.n) := h2
      rw [decide_eq_false h2] at i2
      clear h1 h2 i3 i4
      go_enter Try.func20, Try.ntmps20
      go_wp2_with (first
        | (go_at_call 28; (with_reducible refine i1.mono ?_); rintro e w' ⟨rfl, hw⟩; obtain rfl := hw.symm)
        | (go_at_call 28; (with_reducible refine i2.mono ?_); rintro e w' ⟨rfl, hw⟩; obtain rfl := hw.symm))
      go_ret
      exact ⟨congrArg (fun z => Ending.returned (.bool z)) (by rw [HD.out]; exact (decide_eq_false (fun h => H2.out h.1.2.1)).symm), HB3.out⟩
  · have H1 : Hid (¬ s.ok) := h1
    rw [decide_eq_false h1] at i1
    clear h1 i2 i3 i4
    go_enter Try.func20, Try.ntmps20
    go_wp2_with (first
      | (go_at_call 28; (with_reducible refine i1.mono ?_); rintro e w' ⟨rfl, hw⟩; obtain rfl := hw.symm))
    go_ret
    exact ⟨congrArg (fun z => Ending.returned (.bool z)) (by rw [HD.out]; exact (decide_eq_false (fun h => H1.out h.1.1)).symm), HB2.out⟩

end Go.Proofs.Ytmjgaocmmmcnfaa
