/- Rational: in plain numbers; taps and lists that are good. -/
import Derived.Test.YtgamambcbaobnaaUB
import Derived.Test.YtgamambcbaobnaaWA
import Derived.Test.YtgamambcbaobnaaFI
namespace Go.Proofs.Ytgamambcbaobnaa
open Go.RowKit

/-- Taps. -/
abbrev Tp (n : Nat) (f : Nat → Int) : Prop := (1 ≤ n ∧ n ≤ 64) ∧ Wth 1000000 n f

/-- A modest signal. -/
abbrev Md (n : Nat) (xs : Nat → Int) : Prop := Sig n xs ∧ Wth 1000000 n xs

theorem sTaps_any {w : World} {v : Value} {n : Nat} {f : Nat → Int} (hv : Il w v n f) (hn : n ≤ 1048576) : Calls Try.prog 25 #[v] w fun e w' => e = .returned (.bool (decide (Tp n f))) ∧ w' = w := by
  have i1 := in_any (n : Int) 1 64
  have i2 := sWth_any hv hn (M := 1000000) (by omega)
  obtain ⟨ao, cap, rfl, _, hc⟩ := hv
  clear hc
  obtain ⟨d, hd⟩ : ∃ d, d = decide (Wth 1000000 n f) := ⟨_, rfl⟩
  rw [← hd] at i2
  have HD : Hid (d = decide (Wth 1000000 n f)) := hd
  clear hd
  by_cases h1 : 1 ≤ n ∧ n ≤ 64
  · rw [decide_eq_true (show (1 : Int) ≤ (n : Int) ∧ (n : Int) ≤ 64 by omega)] at i1
    go_enter Try.func25, Try.ntmps25
    go_wp2_with (first
      | (go_at_call 36; (with_reducible refine (i1 _).mono ?_); rintro e w' ⟨rfl, hw⟩; obtain rfl := hw.symm)
      | (go_at_call 24; (with_reducible refine (i2).mono ?_); rintro e w' ⟨rfl, hw⟩; obtain rfl := hw.symm))
    go_ret
    exact ⟨congrArg (fun z => Ending.returned (.bool z)) (by rw [HD.out]; exact decide_eq_decide.2 ⟨fun h => ⟨h1, h⟩, fun h => h.2⟩), rfl⟩
  · rw [decide_eq_false (show ¬ ((1 : Int) ≤ (n : Int) ∧ (n : Int) ≤ 64) by omega)] at i1
    clear i2
    go_enter Try.func25, Try.ntmps25
    go_wp2_with (first
      | (go_at_call 36; (with_reducible refine (i1 _).mono ?_); rintro e w' ⟨rfl, hw⟩; obtain rfl := hw.symm))
    go_ret
    exact ⟨congrArg (fun z => Ending.returned (.bool z)) (decide_eq_false (fun h => h1 h.1)).symm, rfl⟩

theorem iTaps_any {w : World} {v : Value} {n : Nat} {f : Nat → Int} (hv : Il w v n f) (hn : n ≤ 1048576) : Calls Try.prog 18 #[v] w fun e w' => e = .returned (.bool (decide (Tp n f))) ∧ w' = w := by
  have i2 := iWth_any hv hn (M := 1000000) (by omega)
  obtain ⟨ao, cap, rfl, _, hc⟩ := hv
  clear hc
  obtain ⟨d, hd⟩ : ∃ d, d = decide (Wth 1000000 n f) := ⟨_, rfl⟩
  rw [← hd] at i2
  have HD : Hid (d = decide (Wth 1000000 n f)) := hd
  clear hd
  by_cases h1 : 1 ≤ n
  · by_cases h2 : n ≤ 64
    · go_enter Try.func18, Try.ntmps18
      go_wp2_with (first
        | (go_at_call 34; (with_reducible refine (i2).mono ?_); rintro e w' ⟨rfl, hw⟩; obtain rfl := hw.symm))
      go_ret
      exact ⟨congrArg (fun z => Ending.returned (.bool z)) (by rw [HD.out]; exact decide_eq_decide.2 ⟨fun h => ⟨⟨h1, h2⟩, h⟩, fun h => h.2⟩), rfl⟩
    · clear i2
      go_enter Try.func18, Try.ntmps18
      go_wp2
      go_ret
      exact ⟨rfl, rfl⟩
  · clear i2
    go_enter Try.func18, Try.ntmps18
    go_wp2
    go_ret
    exact ⟨rfl, rfl⟩

theorem iMd_any {w : World} {v : Value} {n : Nat} {xs : Nat → Int} (hv : Il w v n xs) (hn : n ≤ 1048576) : Calls Try.prog 17 #[v] w fun e w' => e = .returned (.bool (decide (Md n xs))) ∧ w' = w := by
  have i1 := iSig_any hv hn
  have i2 := iWth_any hv hn (M := 1000000) (by omega)
  obtain ⟨ao, cap, rfl, _, hc⟩ := hv
  clear hc
  obtain ⟨d, hd⟩ : ∃ d, d = decide (Wth 1000000 n xs) := ⟨_, rfl⟩
  rw [← hd] at i2
  have HD : Hid (d = decide (Wth 1000000 n xs)) := hd
  clear hd
  by_cases h1 : Sig n xs
  · rw [decide_eq_true h1] at i1
    have H1 : Hid (Sig n xs) := h1
    clear h1
    go_enter Try.func17, Try.ntmps17
    go_wp2_with (first
      | (go_at_call 28; (with_reducible refine (i1).mono ?_); rintro e w' ⟨rfl, hw⟩; obtain rfl := hw.symm)
      | (go_at_call 34; (with_reducible refine (i2).mono ?_); rintro e w' ⟨rfl, hw⟩; obtain rfl := hw.symm))
    go_ret
    exact ⟨congrArg (fun z => Ending.returned (.bool z)) (by rw [HD.out]; exact decide_eq_decide.2 ⟨fun h => ⟨H1.out, h⟩, fun h => h.2⟩), rfl⟩
  · rw [decide_eq_false h1] at i1
    have H1 : Hid (¬ Sig n xs) := h1
    clear h1 i2
    go_enter Try.func17, Try.ntmps17
    go_wp2_with (first
      | (go_at_call 28; (with_reducible refine (i1).mono ?_); rintro e w' ⟨rfl, hw⟩; obtain rfl := hw.symm))
    go_ret
    exact ⟨congrArg (fun z => Ending.returned (.bool z)) (decide_eq_false (fun h => H1.out h.1)).symm, rfl⟩

/-- Samples back from i, 0 ahead of the first. -/
def bk (xs : Nat → Int) (i k : Nat) : Int := if k ≤ i then xs (i - k) else 0

theorem bk_shf (xs : Nat → Int) (i : Nat) : shf (xs i) (pst (fun _ => 0) xs i) = bk xs i := by
  funext k
  unfold shf bk
  by_cases h : k = 0
  · subst h; rw [if_pos rfl, if_pos (by omega), Nat.sub_zero]
  · rw [if_neg h, pst_at]
    by_cases h2 : k ≤ i
    · rw [if_pos (by omega), if_pos h2]; congr 1; omega
    · rw [if_neg (by omega), if_neg h2]

theorem dts_cut (f xs : Nat → Int) (i : Nat) : ∀ n, dts f (bk xs i) (i + 1 + n) = dts f (bk xs i) (i + 1)
  | 0 => rfl
  | n + 1 => by
    show dts f (bk xs i) (i + 1 + n) + f (i + 1 + n) * bk xs i (i + 1 + n) = _
    rw [dts_cut f xs i n]
    unfold bk
    rw [if_neg (by omega), Int.mul_zero, Int.add_zero]

/-- What is told at step i: the sum over the taps that reach a sample. -/
theorem fir_cut {n i K : Nat} {f xs : Nat → Int} (hK : K = n ∨ (K = i + 1 ∧ K ≤ n)) : dts f (bk xs i) K = fir n f (fun _ => 0) xs i := by
  unfold fir
  rw [bk_shf]
  rcases hK with rfl | ⟨rfl, h⟩
  · rfl
  · obtain ⟨q, rfl⟩ := Nat.exists_eq_add_of_le h
    exact (dts_cut f xs i q).symm

/-- Good for Rational. -/
abbrev GRa (N n : Nat) (xs f : Nat → Int) (u d : Int) : Prop := Md N xs ∧ Tp n f ∧ Rte u ∧ Rte d

/-- What Rational tells. -/
def raF (n u d : Nat) (f xs : Nat → Int) : Nat → Int := thF d 0 (fir n f (fun _ => 0) (upF u xs))

theorem upF_wth {N u : Nat} {xs : Nat → Int} (h : Wth 1000000 N xs) (hu : 0 < u) : Wth 1000000 (N * u) (upF u xs) := by
  intro j hj
  unfold upF
  by_cases h0 : j % u = 0
  · rw [if_pos h0]; exact h _ ((Nat.div_lt_iff_lt_mul hu).2 hj)
  · rw [if_neg h0]; exact ⟨by omega, by omega⟩

theorem wth_more {n : Nat} {xs : Nat → Int} (h : Wth 1000000 n xs) : Wth 1000000000 n xs := fun k hk => by have := h k hk; omega

theorem bk_wth {M i : Nat} {xs : Nat → Int} (h : Wth 1000000000 M xs) (hi : i < M) (n : Nat) : Wth 1000000000 n (bk xs i) := by
  intro k _
  unfold bk
  by_cases h0 : k ≤ i
  · rw [if_pos h0]; exact h _ (by omega)
  · rw [if_neg h0]; exact ⟨by omega, by omega⟩

/-- The line made and run. -/
theorem ra_run {w : World} {n m M N tc lc u : Nat} {ao lo : Option Addr} {f xs : Nat → Int} (ht : Il w (.slice ao n tc) n f) (hl : Il w (.slice lo N lc) N xs) (hm : m + 1 = n) (h2 : n ≤ 64) (h3 : Wth 1000000 n f) (h4 : N ≤ 512) (h5 : Wth 1000000 N xs) (h6 : 1 ≤ u ∧ u ≤ 16) (hM : M = N * u) :
    Calls Try.prog 22 #[.slice lo N lc, .int .i64 (u : Int)] ((mkd w m).alloc (.cells #[.slice ao n tc, .slice (some ⟨w.heap.size, 0, none⟩) m m] 43)) fun e W => ∃ so sc, e = .returned (.slice so M sc) ∧
      Calls Try.prog 21 #[.iface 41 (.pointer (some ⟨w.heap.size + 1, 0, none⟩)), .slice so M sc] W fun e2 W2 => ∃ v, e2 = .returned v ∧ W2.ownsRow w.heap.size 3 1 v M (ils (fir n f (fun _ => 0) (upF u xs)) M) ∧ Below w.heap.size w W2 := by
  have hM2 : M ≤ 8192 := by rw [hM]; exact Nat.mul_le_mul h4 h6.2
  have b1 : Below w.heap.size w (mkd w m) := mkd_below _ _
  have s1 : (mkd w m).heap.size = w.heap.size + 1 := mkd_size _ _
  have o1 := mkd_own w (k := m) (by omega) (Nat.le_refl _)
  generalize hW1 : mkd w m = W1 at *
  have b2 := below_one W1 (.cells #[.slice ao n tc, .slice (some ⟨w.heap.size, 0, none⟩) m m] 43)
  have hLn : Ln (W1.alloc (.cells #[.slice ao n tc, .slice (some ⟨w.heap.size, 0, none⟩) m m] 43)) (w.heap.size + 1) (.slice ao n tc) (.slice (some ⟨w.heap.size, 0, none⟩) m m) := by rw [← s1]; exact ⟨by simp, by simp, by simp⟩
  have s2 : (W1.alloc (.cells #[.slice ao n tc, .slice (some ⟨w.heap.size, 0, none⟩) m m] 43)).heap.size = w.heap.size + 2 := by simp [s1]
  have bW := bstep b1 b2
  have o2 := own_below o1 b2
  generalize W1.alloc (.cells #[.slice ao n tc, .slice (some ⟨w.heap.size, 0, none⟩) m m] 43) = W at *
  refine (spread_any (hl.below bW) h4 h6.1 h6.2 hM).mono ?_
  rintro e W3 ⟨u3, rfl, o3, b3⟩
  obtain ⟨so, sc, rfl, _, _⟩ := il_of_own o3
  have l3 : ∀ g, Blk (.slice so M sc) g → w.heap.size + 2 ≤ g := fun g hg => by have := (World.ownsRow.lt o3 g hg).1; omega
  have g0 := World.ownsRow.lt o2 w.heap.size rfl
  have hLn3 : Ln W3 (w.heap.size + 1) (.slice ao n tc) (.slice (some ⟨w.heap.size, 0, none⟩) m m) := hLn.block (b3.block _ (by rw [s2]; omega))
  have sz3 := b3.size
  refine ⟨so, sc, rfl, (runL (Q := fun e2 W2 => ∃ v, e2 = .returned v ∧ W2.ownsRow w.heap.size 3 1 v M (ils (fir n f (fun _ => 0) (upF u xs)) M) ∧ Below w.heap.size w W2) so M sc rfl ((whole_any (B := w.heap.size) hLn3 ((ht.below bW).below b3) (own_below o2 b3) (il_of_own o3) hm h2 hM2 (fun e => ?_) (fun h0 b off n' c e hd => ?_) (fun h0 b off n' c e hd => ?_) h3 (fun k _ => ⟨by omega, by omega⟩) (wth_more (by rw [hM]; exact upF_wth h5 (by omega)))).mono ?_)).mono ?_⟩
  · have h9 : w.heap.size = w.heap.size + 1 := Option.some.inj e
    omega
  · have := ht.at h0 e
    have h9 : w.heap.size = b := Option.some.inj hd
    omega
  · have h7 := l3 b
    injection e with e1
    subst e1
    have h8 : off = 0 := by
      rcases o3.2 with ⟨x, _⟩ | ⟨g', c', cur, x, _⟩
      · cases x
      · injection x with x1; injection x1 with x2; injection x2 with x3 x4
    subst h8
    have := h7 rfl
    have h9 : w.heap.size = b := Option.some.inj hd
    omega
  · rintro e w' ⟨v, pv', rfl, q1, q2, q3, q4, q5⟩
    refine ⟨v, rfl, v, rfl, own_base q1 (by omega), Kd.below (bstep bW b3) q5 (by omega) (fun g hg => ?_)⟩
    rcases hg with hg | rfl
    · have h9 : w.heap.size = g := Option.some.inj hg
      omega
    · show w.heap.size ≤ w.heap.size + 1
      omega
  · rintro e w' ⟨v, _, h9⟩
    exact h9
end Go.Proofs.Ytgamambcbaobnaa
