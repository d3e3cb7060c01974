/- Adapt in plain numbers, and the program. -/
import Derived.Test.YtbkkjbehmpmjeaaDB
namespace Go.Proofs.Ytbkkjbehmpmjeaa
open Go.RowKit

/-- The taps and the samples behind k steps. -/
def stA (n : Nat) (b : Int) (xs wt : Nat → Int) : Nat → (Nat → Int) × (Nat → Int)
  | 0 => (fun _ => 0, fun _ => 0)
  | k + 1 => (ntp (mis n (stA n b xs wt k).1 (shf (xs k) (stA n b xs wt k).2) (wt k)) b (stA n b xs wt k).1 (shf (xs k) (stA n b xs wt k).2), shf (xs k) (stA n b xs wt k).2)

/-- What is missed at step k. -/
def msA (n : Nat) (b : Int) (xs wt : Nat → Int) (k : Nat) : Int := mis n (stA n b xs wt k).1 (shf (xs k) (stA n b xs wt k).2) (wt k)

/-- The taps in the end. -/
def tpA (n : Nat) (b : Int) (xs wt : Nat → Int) (k i : Nat) : Int := (stA n b xs wt k).1 i

theorem stA_ok {n N : Nat} {b : Int} {xs wt : Nat → Int} (hx : Wth 32767 N xs) : ∀ k, k ≤ N → Wth 1000000 n (stA n b xs wt k).1 ∧ Wth 32767 n (stA n b xs wt k).2
  | 0, _ => ⟨fun _ _ => by simp [stA], fun _ _ => by simp [stA]⟩
  | k + 1, hk => ⟨fun _ _ => tap_bounds _, shf_wth (hx k (by omega)) (stA_ok hx k (by omega)).2⟩

/-- Two lists and a bool told. -/
def P3 (w w' : World) (e : Ending) (n m : Nat) (ys zs : Nat → Int) (ok : Bool) : Prop := ∃ u0 u1, e = .returned (.tuple #[u0, u1, .bool ok]) ∧ w'.ownsRow w.heap.size 3 1 u0 n (ils ys n) ∧ w'.ownsRow w.heap.size 3 1 u1 m (ils zs m) ∧ Apart u0 u1 ∧ Below w.heap.size w w'

/-- Narrow numbers. -/
abbrev Nar (n : Nat) (xs : Nat → Int) : Prop := n ≤ 512 ∧ Wth 32767 n xs

theorem nar_sig {n : Nat} {xs : Nat → Int} : Nar n xs ↔ (Sig n xs ∧ Wth 32767 n xs) := by
  constructor
  · rintro ⟨h1, h2⟩
    exact ⟨⟨h1, fun k hk => by have := h2 k hk; omega⟩, h2⟩
  · rintro ⟨⟨h1, _⟩, h2⟩
    exact ⟨h1, h2⟩

theorem iNar_any {w : World} {v : Value} {n : Nat} {xs : Nat → Int} (hv : Il w v n xs) (hn : n ≤ 1048576) : Calls Try.prog 15 #[v] w fun e w' => e = .returned (.bool (decide (Nar n xs))) ∧ w' = w := by
  have i1 := iSig_any hv hn
  have i2 := iWth_any hv hn (M := 32767) (by omega)
  rw [show decide (Nar n xs) = decide (Sig n xs ∧ Wth 32767 n xs) from decide_eq_decide.2 nar_sig]
  obtain ⟨ao, cap, rfl, hcap, hc⟩ := hv
  clear hc
  obtain ⟨d, hd⟩ : ∃ d, d = decide (Wth 32767 n xs) := ⟨_, rfl⟩
  rw [← hd] at i2
  have HD : Hid _ := hd
  clear hd
  by_cases hs : Sig n xs
  · rw [decide_eq_true hs] at i1
    go_enter Try.func15, Try.ntmps15
    go_wp2_with (first
      | (go_at_call 22; (with_reducible refine i1.mono ?_); rintro e w' ⟨rfl, hw⟩; obtain rfl := hw.symm)
      | (go_at_call 23; (with_reducible refine i2.mono ?_); rintro e w' ⟨rfl, hw⟩; obtain rfl := hw.symm))
    go_ret
    exact ⟨congrArg (fun z => Ending.returned (.bool z)) (by rw [HD.out]; exact decide_eq_decide.2 ⟨fun h => ⟨hs, h⟩, fun h => h.2⟩), rfl⟩
  · rw [decide_eq_false hs] at i1
    go_enter Try.func15, Try.ntmps15
    go_wp2_with (first
      | (go_at_call 22; (with_reducible refine i1.mono ?_); rintro e w' ⟨rfl, hw⟩; obtain rfl := hw.symm))
    go_ret
    exact ⟨congrArg (fun z => Ending.returned (.bool z)) (decide_eq_false (fun h => hs h.1)).symm, rfl⟩

theorem ads_run {w : World} {v : Value} {n N B A P1 P2 cap : Nat} {ao : Option Addr} {b : Int} {xs wt : Nat → Int} (hv : Il w v N xs) (hN : N ≤ 512) (hx : Wth 32767 N xs) (hw : Il w (.slice ao N cap) N wt) (hwt : Wth 32767 N wt) (hn0 : 0 < n) (hn : n ≤ 64) (hb : 0 ≤ b ∧ b ≤ 40)
    (ha : Ad w B A P1 P2 n b (fun _ => 0) (fun _ => 0) (.slice ao N cap)) (hl : 0 < N → ∀ c off n' c', v = .slice (some ⟨c, off, none⟩) n' c' → ¬ AdD A P1 P2 c) (hlw : 0 < N → ∀ c off, ao = some ⟨c, off, none⟩ → ¬ AdD A P1 P2 c) :
    Calls Try.prog 16 #[.iface 38 (.pointer (some ⟨A, 0, none⟩)), v] w fun e w' => ∃ v', e = .returned v' ∧ w'.ownsRow w.heap.size 3 1 v' N (ils (msA n b xs wt) N) ∧ (∃ wv, Ad w' B A P1 P2 n b (stA n b xs wt N).1 (stA n b xs wt N).2 wv) ∧ Kd (AdD A P1 P2) w w' := by
  have l := ha.lt
  obtain ⟨ao', cap', he, hcap, hc⟩ := hw
  injection he with e1 e2 e3
  subst e1 e3
  obtain ⟨bw, ow, hbo⟩ : ∃ bw ow, 0 < N → (ao = some ⟨bw, ow, none⟩ ∧ bw < w.heap.size ∧ ∀ k, k < N → w.cell? ⟨bw, ow + k, none⟩ = some (.int .i64 (wt k))) := by
    by_cases h : 0 < N
    · obtain ⟨bw, ow, h1, h2, h3⟩ := hc h
      exact ⟨bw, ow, fun _ => ⟨h1, h2, h3⟩⟩
    · exact ⟨0, 0, fun h' => absurd h' h⟩
  refine (runA hv (by omega) ⟨A, 0, none⟩ (AdD A P1 P2) (fun g => AdD A P1 P2 g ∨ (0 < N ∧ g = bw)) (fun k W => ∃ wv, Ad W B A P1 P2 n b (stA n b xs wt k).1 (stA n b xs wt k).2 wv ∧ (k < N → wv = .slice (some ⟨bw, ow + k, none⟩) (N - k) (cap - k)) ∧ ∀ j, j < N → W.cell? ⟨bw, ow + j, none⟩ = some (.int .i64 (wt j))) (msA n b xs wt) ?_ ?_ ?_ hl ?_ ?_).mono ?_
  · rintro k W W' ⟨wv, h1, h2, h3⟩ hg
    exact ⟨wv, h1.block (fun g h => hg g (.inl h)), h2, fun j hj => (World.cell?_of_block (w := W) (hg bw (.inr ⟨by omega, rfl⟩))).trans (h3 j hj)⟩
  · rintro g (h | ⟨h, rfl⟩)
    · omega
    · exact (hbo h).2.1
  · intro g h
    omega
  · rintro k W hk ⟨wv, h1, h2, h3⟩
    obtain rfl := h2 hk
    have ok := stA_ok (n := n) (b := b) (wt := wt) hx k (by omega)
    have nd := hlw (by omega) bw ow (hbo (by omega)).1
    refine (aStep h1 (by omega) (by omega) (h3 k hk) nd hn0 hn hb (hx k hk) (hwt k hk) ok.1 ok.2).mono ?_
    rintro e W' ⟨rfl, ⟨wv', h4, h5⟩, h6⟩
    refine ⟨rfl, ⟨wv', h4, fun hk1 => ?_, fun j hj => ?_⟩, h6⟩
    · rw [h5 (by omega), show ow + k + 1 = ow + (k + 1) by omega, show N - k - 1 = N - (k + 1) by omega, show cap - k - 1 = cap - (k + 1) by omega]
    · have hc := h3 j hj
      exact (World.cell?_of_block (w := W) (h6.block bw (World.block_lt_of_cell? W _ hc) nd)).trans hc
  · refine ⟨_, ha, fun h => ?_, fun j hj => (hbo (by omega)).2.2 j hj⟩
    rw [(hbo h).1]
    rfl
  · rintro e w' ⟨v', rfl, h1, ⟨wv, h2, _⟩, h3⟩
    exact ⟨v', rfl, h1, ⟨wv, h2⟩, h3⟩

theorem Il.at {w : World} {v : Value} {n : Nat} {xs : Nat → Int} (h : Il w v n xs) (hn : 0 < n) {b off n' c : Nat} (hv : v = .slice (some ⟨b, off, none⟩) n' c) : b < w.heap.size := by
  obtain ⟨ao, cap, rfl, _, hc⟩ := h
  obtain ⟨b', off', rfl, hlt, _⟩ := hc hn
  injection hv with h1
  injection h1 with h2
  injection h2 with h3
  omega

/-- An adapting line made: two lists in either order, then the line. -/
theorem Ad.start {w : World} {n P1 P2 : Nat} {b : Int} {wv : Value} (hn : n ≤ 64) (h : (P1 = w.heap.size ∧ P2 = (mkd w.drew n).heap.size) ∨ (P2 = w.heap.size ∧ P1 = (mkd w.drew n).heap.size)) :
    Ad ((mkd (mkd w.drew n) n).alloc (.cells #[.int .i64 b, .slice (some ⟨P1, 0, none⟩) n n, .slice (some ⟨P2, 0, none⟩) n n, wv] 40)) w.heap.size (mkd (mkd w.drew n) n).heap.size P1 P2 n b (fun _ => 0) (fun _ => 0) wv ∧ w.heap.size ≤ (mkd (mkd w.drew n) n).heap.size ∧
      Below w.heap.size w ((mkd (mkd w.drew n) n).alloc (.cells #[.int .i64 b, .slice (some ⟨P1, 0, none⟩) n n, .slice (some ⟨P2, 0, none⟩) n n, wv] 40)) := by
  have s0 : (w.drew).heap.size = w.heap.size := rfl
  have s1 : (mkd w.drew n).heap.size = w.heap.size + 1 := mkd_size w.drew n
  have s2 : (mkd (mkd w.drew n) n).heap.size = (mkd w.drew n).heap.size + 1 := mkd_size _ n
  have o1 := mkd_own w.drew (B := w.heap.size) (k := n) (by omega) (Nat.le_refl _)
  have o2 := mkd_own (mkd w.drew n) (B := w.heap.size) (k := n) (by omega) (by omega)
  have bA := below_one (mkd (mkd w.drew n) n) (.cells #[.int .i64 b, .slice (some ⟨P1, 0, none⟩) n n, .slice (some ⟨P2, 0, none⟩) n n, wv] 40)
  have q1 := own_below (own_below o1 (mkd_below (mkd w.drew n) n)) bA
  have q2 := own_below o2 bA
  have bw : Below w.heap.size w ((mkd (mkd w.drew n) n).alloc (.cells #[.int .i64 b, .slice (some ⟨P1, 0, none⟩) n n, .slice (some ⟨P2, 0, none⟩) n n, wv] 40)) := bstep (bstep (bstep (drewN_below w 1) (mkd_below w.drew n)) (mkd_below _ n)) bA
  refine ⟨⟨by simp, by simp, by simp, by simp, by simp, ?_, ?_, by omega, by omega, by omega⟩, by omega, bw⟩
  · rcases h with ⟨rfl, rfl⟩ | ⟨rfl, rfl⟩
    · exact q1
    · exact q2
  · rcases h with ⟨rfl, rfl⟩ | ⟨rfl, rfl⟩
    · exact q2
    · exact q1

/-- Good for Adapt. -/
abbrev GA (t b : Int) (n m : Nat) (xs wt : Nat → Int) : Prop := ((1 ≤ t ∧ t ≤ 64) ∧ (0 ≤ b ∧ b ≤ 40)) ∧ (Nar n xs ∧ Nar m wt) ∧ n = m

set_option maxHeartbeats 4000000 in
theorem iAdapt_good {w : World} {v1 v2 : Value} {N n : Nat} {b : Int} {xs wt : Nat → Int} (h1 : Il w v1 N xs) (h2 : Il w v2 N wt) (hx : Nar N xs) (hw : Nar N wt) (hn0 : 1 ≤ n) (hn : n ≤ 64) (hb : 0 ≤ b ∧ b ≤ 40) :
    Calls Try.prog 6 #[.int .i64 (n : Int), .int .i64 b, v1, v2] w fun e w' => P3 w w' e N n (msA n b xs wt) (tpA n b xs wt N) true := by
  have i1 := iNar_any h1 (Nat.le_trans hx.1 (by omega))
  rw [decide_eq_true hx] at i1
  have i2 := iNar_any h2 (Nat.le_trans hw.1 (by omega))
  rw [decide_eq_true hw] at i2
  have H1 : Hid (Il w v1 N xs) := h1
  have H2 : Hid (Il w v2 N wt) := h2
  have hmk := fun W => mkd_run W (k := n) (by omega)
  obtain ⟨ao1, cap1, rfl, hcap1, hc1⟩ := h1
  obtain ⟨ao2, cap2, rfl, hcap2, hc2⟩ := h2
  clear hc1 hc2
  have HX : Hid (Nar N xs) := hx
  have HW : Hid (Nar N wt) := hw
  obtain ⟨b1, b2⟩ := hb
  clear hx hw
  go_enter Try.func6, Try.ntmps6
  go_wp2_with (first
    | (go_at_call 15; (with_reducible refine i1.mono ?_); rintro e w' ⟨rfl, hw⟩; obtain rfl := hw.symm)
    | (go_at_call 15; (with_reducible refine i2.mono ?_); rintro e w' ⟨rfl, hw⟩; obtain rfl := hw.symm))
  go_cut [11] from 45 (fun a wx => ∃ A P1 P2, a = .pointer (some ⟨A, 0, none⟩) ∧ Hid (Ad wx w.heap.size A P1 P2 n b (fun _ => 0) (fun _ => 0) (.slice ao2 N cap2) ∧ w.heap.size ≤ A ∧ Below w.heap.size w wx))
  case first =>
    go_region
    all_goals go_wp2
    all_goals go_meet
    all_goals first
      | exact ⟨_, _, _, rfl, Ad.start hn (.inl ⟨rfl, rfl⟩)⟩
      | exact ⟨_, _, _, rfl, Ad.start hn (.inr ⟨rfl, rfl⟩)⟩
  case rest =>
    obtain ⟨A, P1, P2, rfl, hq⟩ := hcut
    have HA : Hid (Ad wc w.heap.size A P1 P2 n b (fun _ => 0) (fun _ => 0) (.slice ao2 N cap2)) := hq.out.1
    have BC : Hid (Below w.heap.size w wc) := hq.out.2.2
    have hAg := hq.out.2.1
    have g1 := (own_lt HA.out.o1).1
    have g2 := (own_lt HA.out.o2).1
    have hl := HA.out.lt
    clear hq
    go_wp2_with (first
      | (go_at_call 16; refine (ads_run (H1.out.below BC.out) HX.out.1 HX.out.2 (H2.out.below BC.out) HW.out.2 (by omega) hn ⟨b1, b2⟩ HA.out (fun hn0 c off n' c' e hd => by have := H1.out.at hn0 e; omega) (fun hn0 c off e hd => by have := H2.out.at (n' := N) (c := cap2) hn0 (by rw [e]); omega)).mono ?_; rintro e w2 ⟨u, rfl, h5, ⟨wv, h6⟩, h7⟩; have H5 : Hid (w2.ownsRow wc.heap.size 3 1 u N (ils (msA n b xs wt) N)) := h5; have H6 : Hid (Ad w2 w.heap.size A P1 P2 n b (stA n b xs wt N).1 (stA n b xs wt N).2 wv) := h6; have B7 : Hid (Below w.heap.size w w2) := Kd.below BC.out h7 BC.out.size (fun g hg => by omega); clear h5 h6 h7; obtain ⟨f0, f1, f2, f3, _, _, _, _, _, _⟩ := H6.out))
    go_region
    have O5 : Hid (w2.drew.ownsRow w.heap.size 3 1 u N (ils (msA n b xs wt) N)) := own_base (own_below H5.out (drewN_below w2 1)) BC.out.size
    have O6 : Hid (w2.drew.ownsRow w.heap.size 3 1 (.slice (some ⟨P1, 0, none⟩) n n) n (ils (tpA n b xs wt N) n)) := own_below H6.out.o1 (drewN_below w2 1)
    have AP : Hid (Apart u (.slice (some ⟨P1, 0, none⟩) n n)) := .inr (fun e => by have := (World.ownsRow.lt H5.out P1 (by rw [e]; rfl)).1; omega)
    have B8 : Hid (Below w.heap.size w w2.drew) := B7.out.drew
    clear f0 f1 f2 f3 H5 H6 B7
    generalize w2.drew = W9 at O5 O6 B8 ⊢
    go_wp2
    go_ret3
    exact ⟨_, _, rfl, O5.out, O6.out, AP.out, B8.out⟩

/-- Two lists of nothing. -/
theorem two_none (w : World) (ys zs : Nat → Int) : ((w.alloc (.cells #[] 3)).alloc (.cells #[] 3)).ownsRow w.heap.size 3 1 (.slice (some ⟨w.heap.size, 0, none⟩) 0 0) 0 (ils ys 0) ∧ ((w.alloc (.cells #[] 3)).alloc (.cells #[] 3)).ownsRow w.heap.size 3 1 (.slice (some ⟨w.heap.size + 1, 0, none⟩) 0 0) 0 (ils zs 0) ∧
    Apart (.slice (some ⟨w.heap.size, 0, none⟩) 0 0) (.slice (some ⟨w.heap.size + 1, 0, none⟩) 0 0) ∧ Below w.heap.size w ((w.alloc (.cells #[] 3)).alloc (.cells #[] 3)) := by
  have h2 := own_base (own_empty (w.alloc (.cells #[] 3)) 3 1) (below_one w (.cells #[] 3)).size
  have hs : (w.alloc (.cells #[] 3)).heap.size = w.heap.size + 1 := by simp
  rw [hs] at h2
  exact ⟨own_below (own_empty w 3 1) (below_one _ _), h2, .inr (by simp [Value.ownBlock]), bstep (below_one _ _) (below_one _ _)⟩

set_option maxHeartbeats 4000000 in
theorem iAdapt_bad {w : World} {v1 v2 : Value} {n m : Nat} {t b : Int} {xs wt : Nat → Int} (h1 : Il w v1 n xs) (h2 : Il w v2 m wt) (hn : n ≤ 1048576) (hm : m ≤ 1048576) (h : ¬ GA t b n m xs wt) (ys zs : Nat → Int) :
    Calls Try.prog 6 #[.int .i64 t, .int .i64 b, v1, v2] w fun e w' => P3 w w' e 0 0 ys zs false := by
  have i1 := iNar_any h1 hn
  have i2 := iNar_any h2 hm
  have T0 : Hid _ := two_none w ys zs
  obtain ⟨ao1, cap1, rfl, hcap1, hc1⟩ := h1
  obtain ⟨ao2, cap2, rfl, hcap2, hc2⟩ := h2
  clear hc1 hc2
  by_cases t1 : 1 ≤ t
  · by_cases t2 : t ≤ 64
    · by_cases b1 : 0 ≤ b
      · by_cases b2 : b ≤ 40
        · by_cases hx : Nar n xs
          · rw [decide_eq_true hx] at i1
            by_cases hw : Nar m wt
            · rw [decide_eq_true hw] at i2
              have hne : ¬ ((n : Int) = (m : Int)) := fun e => h ⟨⟨⟨t1, t2⟩, b1, b2⟩, ⟨hx, hw⟩, by omega⟩
              have hne' : ((n : Int) != (m : Int)) = true := bne_iff_ne.2 hne
              clear h hx hw
              go_enter Try.func6, Try.ntmps6
              go_wp2_with (first
                | (go_at_call 15; (with_reducible refine i1.mono ?_); rintro e w' ⟨rfl, hw⟩; obtain rfl := hw.symm)
                | (go_at_call 15; (with_reducible refine i2.mono ?_); rintro e w' ⟨rfl, hw⟩; obtain rfl := hw.symm))
              go_ret3
              exact ⟨_, _, rfl, T0.out.1, T0.out.2.1, T0.out.2.2.1, T0.out.2.2.2⟩
            · rw [decide_eq_false hw] at i2
              clear h hx hw
              go_enter Try.func6, Try.ntmps6
              go_wp2_with (first
                | (go_at_call 15; (with_reducible refine i1.mono ?_); rintro e w' ⟨rfl, hw⟩; obtain rfl := hw.symm)
                | (go_at_call 15; (with_reducible refine i2.mono ?_); rintro e w' ⟨rfl, hw⟩; obtain rfl := hw.symm))
              go_ret3
              exact ⟨_, _, rfl, T0.out.1, T0.out.2.1, T0.out.2.2.1, T0.out.2.2.2⟩
          · rw [decide_eq_false hx] at i1
            clear h hx i2
            go_enter Try.func6, Try.ntmps6
            go_wp2_with (first
              | (go_at_call 15; (with_reducible refine i1.mono ?_); rintro e w' ⟨rfl, hw⟩; obtain rfl := hw.symm))
            go_ret3
            exact ⟨_, _, rfl, T0.out.1, T0.out.2.1, T0.out.2.2.1, T0.out.2.2.2⟩
        · clear h i1 i2
          go_enter Try.func6, Try.ntmps6
          go_wp2
          go_ret3
          exact ⟨_, _, rfl, T0.out.1, T0.out.2.1, T0.out.2.2.1, T0.out.2.2.2⟩
      · clear h i1 i2
        go_enter Try.func6, Try.ntmps6
        go_wp2
        go_ret3
        exact ⟨_, _, rfl, T0.out.1, T0.out.2.1, T0.out.2.2.1, T0.out.2.2.2⟩
    · clear h i1 i2
      go_enter Try.func6, Try.ntmps6
      go_wp2
      go_ret3
      exact ⟨_, _, rfl, T0.out.1, T0.out.2.1, T0.out.2.2.1, T0.out.2.2.2⟩
  · clear h i1 i2
    go_enter Try.func6, Try.ntmps6
    go_wp2
    go_ret3
    exact ⟨_, _, rfl, T0.out.1, T0.out.2.1, T0.out.2.2.1, T0.out.2.2.2⟩
end Go.Proofs.Ytbkkjbehmpmjeaa
