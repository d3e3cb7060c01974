/- Adapt: the model's refusals; the law. -/
import Derived.Test.YtbkkjbehmpmjeaaDD
namespace Go.Proofs.Ytbkkjbehmpmjeaa
open Go.RowKit

set_option maxHeartbeats 4000000 in
theorem sAdapt_bad {w : World} {v1 v2 : Value} {n m : Nat} {t b : Int} {xs wt : Nat → Int} (h1 : Il w v1 n xs) (h2 : Il w v2 m wt) (hn : n ≤ 1048576) (hm : m ≤ 1048576) (h : ¬ GA t b n m xs wt) (ys zs : Nat → Int) :
    Calls Try.prog 7 #[.int .i64 t, .int .i64 b, v1, v2] w fun e w' => P3 w w' e 0 0 ys zs false := by
  have i1 := in_any t 1 64
  have i2 := in_any b 0 40
  have i3 := sWth_any h1 hn (M := 32767) (by omega)
  have i4 := sWth_any h2 hm (M := 32767) (by omega)
  have T0 : Hid _ := two_none w ys zs
  obtain ⟨ao1, cap1, rfl, hcap1, hc1⟩ := h1
  obtain ⟨ao2, cap2, rfl, hcap2, hc2⟩ := h2
  clear hc1 hc2
  by_cases t1 : 1 ≤ t ∧ t ≤ 64
  · rw [decide_eq_true t1] at i1
    by_cases b1 : 0 ≤ b ∧ b ≤ 40
    · rw [decide_eq_true b1] at i2
      by_cases n5 : n ≤ 512
      · by_cases hne : n = m
        · subst hne
          by_cases hx : Wth 32767 n xs
          · rw [decide_eq_true hx] at i3
            rw [decide_eq_false (fun hw => h ⟨⟨t1, b1⟩, ⟨⟨n5, hx⟩, n5, hw⟩, rfl⟩)] at i4
            clear h hx t1 b1
            go_enter Try.func7, Try.ntmps7
            go_wp2_with (first
              | (go_at_call 17; (with_reducible refine (i1 _).mono ?_); rintro e w' ⟨rfl, hw⟩; obtain rfl := hw.symm)
              | (go_at_call 17; (with_reducible refine (i2 _).mono ?_); rintro e w' ⟨rfl, hw⟩; obtain rfl := hw.symm)
              | (go_at_call 18; (with_reducible refine i3.mono ?_); rintro e w' ⟨rfl, hw⟩; obtain rfl := hw.symm)
              | (go_at_call 18; (with_reducible refine i4.mono ?_); rintro e w' ⟨rfl, hw⟩; obtain rfl := hw.symm))
            go_ret3
            exact ⟨_, _, rfl, T0.out.1, T0.out.2.1, T0.out.2.2.1, T0.out.2.2.2⟩
          · rw [decide_eq_false hx] at i3
            clear h hx t1 b1 i4
            go_enter Try.func7, Try.ntmps7
            go_wp2_with (first
              | (go_at_call 17; (with_reducible refine (i1 _).mono ?_); rintro e w' ⟨rfl, hw⟩; obtain rfl := hw.symm)
              | (go_at_call 17; (with_reducible refine (i2 _).mono ?_); rintro e w' ⟨rfl, hw⟩; obtain rfl := hw.symm)
              | (go_at_call 18; (with_reducible refine i3.mono ?_); rintro e w' ⟨rfl, hw⟩; obtain rfl := hw.symm))
            go_ret3
            exact ⟨_, _, rfl, T0.out.1, T0.out.2.1, T0.out.2.2.1, T0.out.2.2.2⟩
        · have hne' : ¬ ((n : Int) = (m : Int)) := by omega
          have hneb : ((n : Int) != (m : Int)) = true := bne_iff_ne.2 hne'
          clear h t1 b1 i3 i4
          go_enter Try.func7, Try.ntmps7
          go_wp2_with (first
            | (go_at_call 17; (with_reducible refine (i1 _).mono ?_); rintro e w' ⟨rfl, hw⟩; obtain rfl := hw.symm)
            | (go_at_call 17; (with_reducible refine (i2 _).mono ?_); rintro e w' ⟨rfl, hw⟩; obtain rfl := hw.symm))
          go_ret3
          exact ⟨_, _, rfl, T0.out.1, T0.out.2.1, T0.out.2.2.1, T0.out.2.2.2⟩
      · clear h t1 b1 i3 i4
        go_enter Try.func7, Try.ntmps7
        go_wp2_with (first
          | (go_at_call 17; (with_reducible refine (i1 _).mono ?_); rintro e w' ⟨rfl, hw⟩; obtain rfl := hw.symm)
          | (go_at_call 17; (with_reducible refine (i2 _).mono ?_); rintro e w' ⟨rfl, hw⟩; obtain rfl := hw.symm))
        go_ret3
        exact ⟨_, _, rfl, T0.out.1, T0.out.2.1, T0.out.2.2.1, T0.out.2.2.2⟩
    · rw [decide_eq_false b1] at i2
      clear h t1 b1 i3 i4
      go_enter Try.func7, Try.ntmps7
      go_wp2_with (first
        | (go_at_call 17; (with_reducible refine (i1 _).mono ?_); rintro e w' ⟨rfl, hw⟩; obtain rfl := hw.symm)
        | (go_at_call 17; (with_reducible refine (i2 _).mono ?_); rintro e w' ⟨rfl, hw⟩; obtain rfl := hw.symm))
      go_ret3
      exact ⟨_, _, rfl, T0.out.1, T0.out.2.1, T0.out.2.2.1, T0.out.2.2.2⟩
  · rw [decide_eq_false t1] at i1
    clear h t1 i2 i3 i4
    go_enter Try.func7, Try.ntmps7
    go_wp2_with (first
      | (go_at_call 17; (with_reducible refine (i1 _).mono ?_); rintro e w' ⟨rfl, hw⟩; obtain rfl := hw.symm))
    go_ret3
    exact ⟨_, _, rfl, T0.out.1, T0.out.2.1, T0.out.2.2.1, T0.out.2.2.2⟩

end Go.Proofs.Ytbkkjbehmpmjeaa
