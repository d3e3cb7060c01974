/- An adapting line's step. -/
import Derived.Test.YtbkkjbehmpmjeaaDA
import Derived.Deep.RegionWith
import Derived.Deep.Cut
namespace Go.Proofs.Ytbkkjbehmpmjeaa
open Go.RowKit

/-- The nearer end of a tap. -/
def tap (x : Int) : Int := min (max x (-1000000)) 1000000

theorem tap_bounds (x : Int) : -1000000 ≤ tap x ∧ tap x ≤ 1000000 := by unfold tap; omega

theorem toTap_any (x : Int) (w : World) : Calls Try.prog 48 #[.int .i64 x] w fun e w' => e = .returned (.int .i64 (tap x)) ∧ w' = w := by
  obtain ⟨y, hy⟩ : ∃ y, y = tap x := ⟨_, rfl⟩
  rw [← hy]
  have HY : Hid (y = tap x) := hy
  clear hy
  by_cases h1 : x < -1000000
  · have e1 : (if x < -1000000 then -1000000 else x) = -1000000 := if_pos h1
    go_enter Try.func48, Try.ntmps48
    go_wp2
    go_ret
    exact ⟨congrArg (fun z => Ending.returned (.int .i64 z)) (by rw [HY.out]; unfold tap; omega), rfl⟩
  · have e1 : (if x < -1000000 then -1000000 else x) = x := if_neg h1
    by_cases h2 : 1000000 < x
    · go_enter Try.func48, Try.ntmps48
      go_wp2
      go_ret
      exact ⟨congrArg (fun z => Ending.returned (.int .i64 z)) (by rw [HY.out]; unfold tap; omega), rfl⟩
    · go_enter Try.func48, Try.ntmps48
      go_wp2
      go_ret
      exact ⟨congrArg (fun z => Ending.returned (.int .i64 z)) (by rw [HY.out]; unfold tap; omega), rfl⟩

theorem sEnd_any (x : Int) (w : World) : Calls Try.prog 20 #[.int .i64 x] w fun e w' => e = .returned (.int .i64 (tap x)) ∧ w' = w := by
  obtain ⟨y, hy⟩ : ∃ y, y = tap x := ⟨_, rfl⟩
  rw [← hy]
  have HY : Hid (y = tap x) := hy
  clear hy
  by_cases h1 : x < -1000000
  · have e1 : (if x < -1000000 then -1000000 else x) = -1000000 := if_pos h1
    go_enter Try.func20, Try.ntmps20
    go_wp2
    go_ret
    exact ⟨congrArg (fun z => Ending.returned (.int .i64 z)) (by rw [HY.out]; unfold tap; omega), rfl⟩
  · have e1 : (if x < -1000000 then -1000000 else x) = x := if_neg h1
    by_cases h2 : 1000000 < x
    · go_enter Try.func20, Try.ntmps20
      go_wp2
      go_ret
      exact ⟨congrArg (fun z => Ending.returned (.int .i64 z)) (by rw [HY.out]; unfold tap; omega), rfl⟩
    · go_enter Try.func20, Try.ntmps20
      go_wp2
      go_ret
      exact ⟨congrArg (fun z => Ending.returned (.int .i64 z)) (by rw [HY.out]; unfold tap; omega), rfl⟩

/-- By how much what was wanted is missed. -/
def mis (n : Nat) (f z : Nat → Int) (wt : Int) : Int := wt - shd (dts f z n) 14

/-- The taps behind it. -/
def ntp (e b : Int) (f z : Nat → Int) (k : Nat) : Int := tap (f k + shd (e * z k) b)

theorem shd_bounds {x b M : Int} (hb : 0 ≤ b ∧ b ≤ 60) (h : -M ≤ x ∧ x ≤ M) (hM : 0 ≤ M) : -M ≤ shd x b ∧ shd x b ≤ M := ediv_bounds (two_bounds hb).1 h.1 h.2 hM

theorem mis_bounds {n : Nat} {f z : Nat → Int} {wt : Int} (hn : n ≤ 64) (hf : Wth 1000000 n f) (hz : Wth 32767 n z) (hw : -32767 ≤ wt ∧ wt ≤ 32767) : -128200000 ≤ mis n f z wt ∧ mis n f z wt ≤ 128200000 := by
  have h1 := dts_bounds hf hz n (Nat.le_refl _)
  have h2 : -2097088000000 ≤ dts f z n ∧ dts f z n ≤ 2097088000000 := by omega
  have h3 : shd (dts f z n) 14 = dts f z n / 16384 := rfl
  unfold mis
  rw [h3]
  omega

/-- The first j taps adapted. -/
def ntj (e b : Int) (f z : Nat → Int) (j i : Nat) : Int := if i < j then ntp e b f z i else f i

theorem ntj_put (e b : Int) (f z : Nat → Int) (n j : Nat) : (ils (ntj e b f z j) n).set j (.int .i64 (ntp e b f z j)) = ils (ntj e b f z (j + 1)) n := by
  rw [ils_put]
  refine ils_congr fun i _ => ?_
  unfold ntj
  by_cases h : i = j
  · subst h; rw [if_pos rfl, if_pos (by omega)]
  · rw [if_neg h]
    by_cases h1 : i < j
    · rw [if_pos h1, if_pos (by omega)]
    · rw [if_neg h1, if_neg (by omega)]

theorem ntj_at (e b : Int) (f z : Nat → Int) (j : Nat) : ntj e b f z j j = f j := by unfold ntj; rw [if_neg (by omega)]

theorem shf_wth {n : Nat} {x : Int} {z : Nat → Int} (hx : -32767 ≤ x ∧ x ≤ 32767) (hz : Wth 32767 n z) : Wth 32767 n (shf x z) := by
  intro k hk
  unfold shf
  by_cases h : k = 0
  · rw [if_pos h]; exact hx
  · rw [if_neg h]; exact hz _ (by omega)

theorem Ad.come {W W' : World} {B A P1 P2 n : Nat} {b : Int} {f z z' : Nat → Int} {wv : Value} (h : Ad W B A P1 P2 n b f z wv) (ho : W'.ownsRow B 3 1 (.slice (some ⟨P2, 0, none⟩) n n) n (ils z' n)) (hk : Kd (fun k => k = P2) W W') : Ad W' B A P1 P2 n b f z' wv := by
  have hl := h.lt
  have eA := hk.block A hl.1 h.n2
  exact ⟨(World.cell?_of_block (w := W) eA).trans h.c0, (World.cell?_of_block (w := W) eA).trans h.c1, (World.cell?_of_block (w := W) eA).trans h.c2, (World.cell?_of_block (w := W) eA).trans h.c3, (World.frozen?_of_block (w := W) eA).trans h.z3,
    own_block h.o1 (hk.block P1 hl.2.1 h.n3), ho, h.n1, h.n2, h.n3⟩

theorem Ad.want {W : World} {B A P1 P2 n : Nat} {b : Int} {f z : Nat → Int} {wv : Value} (h : Ad W B A P1 P2 n b f z wv) (u : Value) : Ad (W.setCell ⟨A, 3, none⟩ u) B A P1 P2 n b f z u := by
  have z3 := h.z3
  have c0 := h.c0
  have c1 := h.c1
  have c2 := h.c2
  have c3 := h.c3
  exact ⟨by simp [go_sem, c0], by simp [go_sem, c1], by simp [go_sem, c2], by simp [go_sem, c3], by simp [go_sem, z3], own_block h.o1 (Below.heap_setCell _ _ _ _ (fun e => h.n1 e.symm)), own_block h.o2 (Below.heap_setCell _ _ _ _ (fun e => h.n2 e.symm)), h.n1, h.n2, h.n3⟩

theorem Ad.tapped {W : World} {B A P1 P2 n j : Nat} {b e : Int} {f z : Nat → Int} {wv : Value} (h : Ad W B A P1 P2 n b (ntj e b f z j) z wv) : Ad (W.setCell ⟨P1, j, none⟩ (.int .i64 (ntp e b f z j))) B A P1 P2 n b (ntj e b f z (j + 1)) z wv := by
  have st := (World.ownsRow.stored h.o1 j (.int .i64 (ntp e b f z j))).1
  rw [ntj_put] at st
  have eA : (W.setCell ⟨P1, j, none⟩ (.int .i64 (ntp e b f z j))).heap[A]? = W.heap[A]? := Below.heap_setCell _ _ _ _ h.n1
  exact ⟨(World.cell?_of_block (w := W) eA).trans h.c0, (World.cell?_of_block (w := W) eA).trans h.c1, (World.cell?_of_block (w := W) eA).trans h.c2, (World.cell?_of_block (w := W) eA).trans h.c3, (World.frozen?_of_block (w := W) eA).trans h.z3,
    st, own_block h.o2 (Below.heap_setCell _ _ _ _ (fun e => h.n3 e.symm)), h.n1, h.n2, h.n3⟩

theorem drewN_below (w : World) (m : Nat) : Below w.heap.size w (w.drewN m) := ⟨rfl, rfl, rfl, Nat.le_refl _, fun _ _ => rfl⟩

set_option maxHeartbeats 4000000 in
theorem aStep {w : World} {B A P1 P2 n bw ow m cw : Nat} {b x wt : Int} {f z : Nat → Int} (h : Ad w B A P1 P2 n b f z (.slice (some ⟨bw, ow, none⟩) m cw)) (hm : 0 < m) (hmc : m ≤ cw) (hcw : w.cell? ⟨bw, ow, none⟩ = some (.int .i64 wt)) (hbw : ¬ AdD A P1 P2 bw)
    (hn0 : 0 < n) (hn : n ≤ 64) (hb : 0 ≤ b ∧ b ≤ 40) (hx : -32767 ≤ x ∧ x ≤ 32767) (hwt : -32767 ≤ wt ∧ wt ≤ 32767) (hf : Wth 1000000 n f) (hz : Wth 32767 n z) :
    Calls Try.prog 43 #[.pointer (some ⟨A, 0, none⟩), .int .i64 x] w fun e w' => e = .returned (.int .i64 (mis n f (shf x z) wt)) ∧ (∃ wv, Ad w' B A P1 P2 n b (ntp (mis n f (shf x z) wt) b f (shf x z)) (shf x z) wv ∧ (1 < m → wv = .slice (some ⟨bw, ow + 1, none⟩) (m - 1) (cw - 1))) ∧ Kd (AdD A P1 P2) w w' := by
  have HZ : Hid (Wth 32767 n (shf x z)) := shf_wth hx hz
  have HF : Hid (Wth 1000000 n f) := hf
  have H : Hid (Ad w B A P1 P2 n b f z (.slice (some ⟨bw, ow, none⟩) m cw)) := h
  have H0 : Hid (Ad (w.alloc (.cells #[.pointer (some ⟨A, 0, none⟩)] 38)) B A P1 P2 n b f z (.slice (some ⟨bw, ow, none⟩) m cw)) := h.below (below_one _ _)
  have hl := h.lt
  have G0 : Hid ((w.alloc (.cells #[.pointer (some ⟨A, 0, none⟩)] 38)).cell? ⟨w.heap.size, 0, none⟩ = some (.pointer (some ⟨A, 0, none⟩))) := by show _ = _; simp
  have hbwl : bw < w.heap.size := World.block_lt_of_cell? w _ hcw
  have W0 : Hid ((w.alloc (.cells #[.pointer (some ⟨A, 0, none⟩)] 38)).cell? ⟨bw, ow, none⟩ = some (.int .i64 wt)) := ((below_one w _).cell (p := ⟨bw, ow, none⟩) hbwl).trans hcw
  have K0 : Hid (Kd (AdD A P1 P2) w (w.alloc (.cells #[.pointer (some ⟨A, 0, none⟩)] 38))) := Kd.of_below (below_one _ _)
  have S0 : Hid (w.heap.size < (w.alloc (.cells #[.pointer (some ⟨A, 0, none⟩)] 38)).heap.size) := by show _ < _; simp
  obtain ⟨er, her⟩ : ∃ er, er = mis n f (shf x z) wt := ⟨_, rfl⟩
  have ber : -128200000 ≤ er ∧ er ≤ 128200000 := by rw [her]; exact mis_bounds hn HF.out HZ.out hwt
  rw [← her]
  have HER : Hid (er = mis n f (shf x z) wt) := her
  clear her
  clear h hcw hf hz H
  go_enter Try.func43, Try.ntmps43
  go_upto_region 1 with fail
  generalize hG : w.heap.size = G at *
  generalize w.alloc (.cells #[.pointer (some ⟨A, 0, none⟩)] 38) = W at H0 G0 W0 K0 S0 ⊢
  have g0 := G0.out
  obtain ⟨c0, c1, c2, c3, _, _, _, _, _, _⟩ := H0.out
  obtain ⟨sm, hsm⟩ : ∃ sm, sm = dts f (shf x z) n := ⟨_, rfl⟩
  have HSM : Hid (sm = dts f (shf x z) n) := hsm
  have bsm : -2097088000000 ≤ sm ∧ sm ≤ 2097088000000 := by have := dts_bounds HF.out HZ.out n (Nat.le_refl _); rw [hsm]; omega
  clear hsm
  go_upto_region 3 with (first
    | (go_at_call 44; refine (come_any (x := x) H0.out.o2 hn).mono ?_; rintro e w1 ⟨⟨v, rfl⟩, h1, h2⟩; have H1 : Hid (Ad w1 B A P1 P2 n b f (shf x z) (.slice (some ⟨bw, ow, none⟩) m cw)) := H0.out.come h1 h2; have G1 : Hid (w1.cell? ⟨G, 0, none⟩ = some (.pointer (some ⟨A, 0, none⟩))) := (World.cell?_of_block (w := W) (h2.block G S0.out (by omega))).trans G0.out; have W1 : Hid (w1.cell? ⟨bw, ow, none⟩ = some (.int .i64 wt)) := (World.cell?_of_block (w := W) (h2.block bw (Nat.lt_trans hbwl S0.out) (fun e => hbw (.inr (.inr e))))).trans W0.out; have K1 : Hid (Kd (AdD A P1 P2) w w1) := K0.out.trans (h2.mono (fun g hg => .inr (.inr hg))); have S1 : Hid (G < w1.heap.size) := Nat.lt_of_lt_of_le S0.out h2.size; clear h1 h2; have g1 := G1.out; obtain ⟨f0, f1, f2, f3, _, _, _, _, _, _⟩ := H1.out)
    | (go_at_call 45; refine (over_any hn (.pointer (some ⟨G, 0, none⟩)) (dts f (shf x z)) (fun k hk W' hB => ?_)).mono ?_; (refine (clo_any (H1.out.below hB) ((hB.cell (p := ⟨G, 0, none⟩) S1.out).trans G1.out) hk hn HF.out HZ.out (by have := dts_bounds HF.out HZ.out k (by omega); omega)).mono ?_; rintro e w' ⟨rfl, m', rfl⟩; exact ⟨rfl, drewN_below _ _⟩); rw [← HSM.out]; rintro e w2 ⟨rfl, h2⟩; have H2 : Hid (Ad w2 B A P1 P2 n b f (shf x z) (.slice (some ⟨bw, ow, none⟩) m cw)) := H1.out.below h2; have G2 : Hid (w2.cell? ⟨G, 0, none⟩ = some (.pointer (some ⟨A, 0, none⟩))) := (h2.cell (p := ⟨G, 0, none⟩) S1.out).trans G1.out; have W2 : Hid (w2.cell? ⟨bw, ow, none⟩ = some (.int .i64 wt)) := (h2.cell (p := ⟨bw, ow, none⟩) (Nat.lt_trans hbwl S1.out)).trans W1.out; have K2 : Hid (Kd (AdD A P1 P2) w w2) := K1.out.trans (Kd.of_below h2); have S2 : Hid (G < w2.heap.size) := Nat.lt_of_lt_of_le S1.out h2.size; clear h2))
  clear c0 c1 c2 c3 f0 f1 f2 f3 g0 g1 H0 G0 W0 K0 S0 H1 G1 W1 K1 S1
  obtain ⟨sd, hsd⟩ : ∃ sd, sd = shd sm 14 := ⟨_, rfl⟩
  have i3 := iShd (x := sm) (b := 14) (by omega) (by omega)
  rw [← hsd] at i3
  have eer : wt - sd = er := by rw [hsd, HSM.out, HER.out]; rfl
  clear hsd
  have g2 := G2.out
  have q2 := W2.out
  obtain ⟨c0, c1, c2, c3, z3, _, _, _, _, _⟩ := H2.out
  go_quiet ((go_at_call 47; exact Calls.quiet_of_same (i3 _)))
  have H3 : Hid (Ad (w2.drewN nq) B A P1 P2 n b f (shf x z) (.slice (some ⟨bw, ow, none⟩) m cw)) := H2.out.below (drewN_below _ _)
  have G3 : Hid ((w2.drewN nq).cell? ⟨G, 0, none⟩ = some (.pointer (some ⟨A, 0, none⟩))) := G2.out
  have K3 : Hid (Kd (AdD A P1 P2) w (w2.drewN nq)) := K2.out.drewN nq
  have S3 : Hid (G < (w2.drewN nq).heap.size) := S2.out
  clear c0 c1 c2 c3 z3 g2 q2 H2 G2 W2 K2 S2 eer i3
  generalize w2.drewN nq = W3 at H3 G3 K3 S3 ⊢
  go_upto_region 4 with fail
  have g3 := G3.out
  obtain ⟨c0, c1, c2, c3, z3, _, _, _, _, _⟩ := H3.out
  have hm' : (1 : Int) ≤ (m : Int) := by omega
  have hmc' : (m : Int) ≤ (cw : Int) := by omega
  go_region
  obtain ⟨wv, hwv⟩ : ∃ wv, wv = Value.slice (if cw = 1 then some ⟨bw, ow, none⟩ else some ⟨bw, ow + 1, none⟩) (m - 1) (cw - 1) := ⟨_, rfl⟩
  have HWV : Hid (1 < m → wv = .slice (some ⟨bw, ow + 1, none⟩) (m - 1) (cw - 1)) := by intro h1; rw [hwv, if_neg (by omega)]
  rw [← hwv]
  clear hwv
  have H4 : Hid (Ad (W3.setCell ⟨A, 3, none⟩ wv).drew B A P1 P2 n b (ntj er b f (shf x z) 0) (shf x z) wv) := by
    show Ad (W3.setCell ⟨A, 3, none⟩ wv).drew B A P1 P2 n b (ntj er b f (shf x z) 0) (shf x z) wv
    have e0 : ntj er b f (shf x z) 0 = f := by funext i; simp [ntj]
    rw [e0]
    exact (H3.out.want wv).below (drewN_below _ 1)
  have G4 : Hid ((W3.setCell ⟨A, 3, none⟩ wv).drew.cell? ⟨G, 0, none⟩ = some (.pointer (some ⟨A, 0, none⟩))) := (World.cell?_of_block (w := W3) (Below.heap_setCell W3 ⟨A, 3, none⟩ wv G (by show G ≠ A; omega))).trans G3.out
  have K4 : Hid (Kd (AdD A P1 P2) w (W3.setCell ⟨A, 3, none⟩ wv).drew) := (K3.out.put (.inl (.inl rfl)) 3 _).drew
  clear c0 c1 c2 c3 z3 g3 H3 G3 K3 S3
  generalize (W3.setCell ⟨A, 3, none⟩ wv).drew = W4 at H4 G4 K4 ⊢
  have g4 := G4.out
  obtain ⟨c0, c1, c2, c3, z3, _, _, _, _, _⟩ := H4.out
  go_wp2
  clear c0 c1 c2 c3 z3 g4
  go_loopw [7, 43] (fun _ i wr => ∃ k : Nat, i = .int .i64 k ∧ k ≤ n ∧ Hid (Ad wr B A P1 P2 n b (ntj er b f (shf x z) k) (shf x z) wv ∧ wr.cell? ⟨G, 0, none⟩ = some (.pointer (some ⟨A, 0, none⟩)) ∧ Kd (AdD A P1 P2) w wr)) (fun _ i _ => n - (intOf i).toNat)
  case atStart => exact ⟨0, rfl, by omega, H4.out, G4.out, K4.out⟩
  case round =>
    obtain ⟨k, rfl, hk, hrel⟩ := hrel
    by_cases h1 : k < n
    · have H5 : Hid (Ad wr.drew B A P1 P2 n b (ntj er b f (shf x z) k) (shf x z) wv) := hrel.out.1.below (drewN_below _ 1)
      have bz := HZ.out k h1
      have bf := HF.out k h1
      have D5 : Hid (wr.drew.cell? ⟨P1, k, none⟩ = some (.int .i64 (f k))) := by
        have := World.ownsRow.cellAt H5.out.o1 k (by omega)
        rw [ils_get h1, ntj_at] at this
        exact this
      have Z5 : Hid (wr.drew.frozen? ⟨P1, k, none⟩ = false) := World.ownsRow.frozenAt H5.out.o1 k
      have Y5 : Hid (wr.drew.cell? ⟨P2, k, none⟩ = some (.int .i64 (shf x z k))) := by
        have := World.ownsRow.cellAt H5.out.o2 k (by omega)
        rw [ils_get h1] at this
        exact this
      have K5 : Hid (Kd (AdD A P1 P2) w wr.drew) := hrel.out.2.2.drew
      have HN : Hid (ntp er b f (shf x z) k = tap (f k + shd (er * shf x z k) b)) := rfl
      have H6 : Hid (Ad (wr.drew.setCell ⟨P1, k, none⟩ (.int .i64 (ntp er b f (shf x z) k))) B A P1 P2 n b (ntj er b f (shf x z) (k + 1)) (shf x z) wv) := H5.out.tapped
      have G6 : Hid ((wr.drew.setCell ⟨P1, k, none⟩ (.int .i64 (ntp er b f (shf x z) k))).cell? ⟨G, 0, none⟩ = some (.pointer (some ⟨A, 0, none⟩))) := (World.cell?_of_block (w := wr) (Below.heap_setCell wr.drew ⟨P1, k, none⟩ _ G (by show G ≠ P1; omega))).trans hrel.out.2.1
      have K6 : Hid (Kd (AdD A P1 P2) w (wr.drew.setCell ⟨P1, k, none⟩ (.int .i64 (ntp er b f (shf x z) k)))) := K5.out.put (.inl (.inr (.inl rfl))) k _
      have I0 : Hid (wr.drew.cell? ⟨G, 0, none⟩ = some (.pointer (some ⟨A, 0, none⟩)) ∧ wr.drew.cell? ⟨A, 0, none⟩ = some (.int .i64 b) ∧ wr.drew.cell? ⟨A, 1, none⟩ = some (.slice (some ⟨P1, 0, none⟩) n n) ∧ wr.drew.cell? ⟨A, 2, none⟩ = some (.slice (some ⟨P2, 0, none⟩) n n) ∧ wr.drew.cell? ⟨P2, k, none⟩ = some (.int .i64 (shf x z k))) := ⟨hrel.out.2.1, H5.out.c0, H5.out.c1, H5.out.c2, Y5.out⟩
      have l6 : Hid ((wr.drew.setCell ⟨P1, k, none⟩ (.int .i64 (ntp er b f (shf x z) k))).cell? ⟨G, 0, none⟩ = some (.pointer (some ⟨A, 0, none⟩)) ∧ (wr.drew.setCell ⟨P1, k, none⟩ (.int .i64 (ntp er b f (shf x z) k))).cell? ⟨A, 0, none⟩ = some (.int .i64 b) ∧ (wr.drew.setCell ⟨P1, k, none⟩ (.int .i64 (ntp er b f (shf x z) k))).cell? ⟨A, 1, none⟩ = some (.slice (some ⟨P1, 0, none⟩) n n) ∧ (wr.drew.setCell ⟨P1, k, none⟩ (.int .i64 (ntp er b f (shf x z) k))).cell? ⟨A, 2, none⟩ = some (.slice (some ⟨P2, 0, none⟩) n n) ∧ (wr.drew.setCell ⟨P1, k, none⟩ (.int .i64 (ntp er b f (shf x z) k))).cell? ⟨P2, k, none⟩ = some (.int .i64 (shf x z k))) := ⟨G6.out, H6.out.c0, H6.out.c1, H6.out.c2, by have := World.ownsRow.cellAt H6.out.o2 k (by omega); rw [ils_get h1] at this; exact this⟩
      clear hrel Y5
      generalize shf x z k = zk at bz HN I0 l6
      generalize f k = fk at bf HN D5
      have mm := mul_bounds ber bz (by omega) (by omega)
      obtain ⟨pr, hpr⟩ : ∃ pr, pr = er * zk := ⟨_, rfl⟩
      have epr : er * zk = pr := hpr.symm
      have bpr : -4200729400000 ≤ pr ∧ pr ≤ 4200729400000 := by rw [hpr]; omega
      have i4 := iShd (x := pr) (b := b) (by omega) (by omega)
      have bs := shd_bounds (x := pr) (b := b) (M := 4200729400000) (by omega) bpr (by omega)
      rw [epr] at HN
      clear hpr mm
      generalize shd pr b = sv at i4 bs HN
      have i5 := toTap_any (fk + sv)
      rw [← HN.out] at i5
      clear HN
      generalize ntp er b f (shf x z) k = tv at i5 H6 G6 K6 l6
      go_upto_region 8 with fail
      refine wp_region_any (by kernel_rfl) ?_
      change wpAny _ _ _ _ _ _ _ (World.drew _)
      refine wpI_any (I := fun X => X.cell? ⟨G, 0, none⟩ = some (.pointer (some ⟨A, 0, none⟩)) ∧ X.cell? ⟨A, 0, none⟩ = some (.int .i64 b) ∧ X.cell? ⟨A, 1, none⟩ = some (.slice (some ⟨P1, 0, none⟩) n n) ∧ X.cell? ⟨A, 2, none⟩ = some (.slice (some ⟨P2, 0, none⟩) n n) ∧ X.cell? ⟨P2, k, none⟩ = some (.int .i64 zk)) _ _ _ _ ?_
      have l0 := I0.out
      generalize wr.drew = X0 at l0 H5 D5 Z5 K5 H6 G6 K6 l6 ⊢
      refine wpI_take (i := 0) (v := ?_) rfl (by kernel_rfl) (by kernel_rfl) (by kernel_rfl) (fun _ _ _ h => h) ⟨by rfl, ?_⟩ ?_
      rotate_left
      · intro X hI; obtain ⟨y0, y1, y2, y3, y4⟩ := hI; go_simp; try go_bits
        try rw [if_pos (by omega)]
        try with_reducible rfl
      refine wpI_take (i := 1) (v := ?_) rfl (by kernel_rfl) (by kernel_rfl) (by kernel_rfl) (fun _ _ _ h => h) ⟨by rfl, ?_⟩ ?_
      rotate_left
      · intro X hI; obtain ⟨y0, y1, y2, y3, y4⟩ := hI; go_simp; try go_bits
        try rw [if_pos (by omega)]
        try with_reducible rfl
      refine wpI_take (i := 2) (v := ?_) rfl (by kernel_rfl) (by kernel_rfl) (by kernel_rfl) (fun _ _ _ h => h) ⟨by rfl, ?_⟩ ?_
      rotate_left
      · intro X hI; obtain ⟨y0, y1, y2, y3, y4⟩ := hI; go_simp; try go_bits
        try rw [if_pos (by omega)]
        try with_reducible rfl
      refine wpI_take (i := 3) (v := ?_) rfl (by kernel_rfl) (by kernel_rfl) (by kernel_rfl) (fun _ _ _ h => h) ⟨by rfl, ?_⟩ ?_
      rotate_left
      · intro X hI; obtain ⟨y0, y1, y2, y3, y4⟩ := hI; go_simp; try go_bits
        try rw [if_pos (by omega)]
        try with_reducible rfl
      refine wpI_take (i := 4) (v := ?_) rfl (by kernel_rfl) (by kernel_rfl) (by kernel_rfl) (fun _ _ _ h => h) ⟨by rfl, ?_⟩ ?_
      rotate_left
      · intro X hI; obtain ⟨y0, y1, y2, y3, y4⟩ := hI; go_simp; try go_bits
        try rw [if_pos (by omega)]
        try with_reducible rfl
      refine wpI_take (i := 5) (v := ?_) rfl (by kernel_rfl) (by kernel_rfl) (by kernel_rfl) (fun _ _ _ h => h) ⟨by rfl, ?_⟩ ?_
      rotate_left
      · intro X hI; obtain ⟨y0, y1, y2, y3, y4⟩ := hI; go_simp; try go_bits
        try rw [if_pos (by omega)]
        try with_reducible rfl
      refine wpI_take (i := 6) (v := ?_) rfl (by kernel_rfl) (by kernel_rfl) (by kernel_rfl) (fun _ _ _ h => h) ⟨by rfl, ?_⟩ ?_
      rotate_left
      · intro X hI; obtain ⟨y0, y1, y2, y3, y4⟩ := hI; go_simp; try go_bits
        try rw [if_pos (by omega)]
        try with_reducible rfl
      refine wpI_take (i := 7) (v := ?_) rfl (by kernel_rfl) (by kernel_rfl) (by kernel_rfl) (fun _ _ _ h => h) ⟨by rfl, ?_⟩ ?_
      rotate_left
      · intro X hI; obtain ⟨y0, y1, y2, y3, y4⟩ := hI; go_simp; try go_bits
        try rw [if_pos (by omega)]
        try with_reducible rfl
      refine wpI_take (i := 8) (v := ?_) rfl (by kernel_rfl) (by kernel_rfl) (by kernel_rfl) (fun _ _ _ h => h) ⟨by rfl, ?_⟩ ?_
      rotate_left
      · intro X hI; obtain ⟨y0, y1, y2, y3, y4⟩ := hI; go_simp; try go_bits
        try rw [if_pos (by omega)]
        try with_reducible rfl
      refine wpI_take (i := 9) (v := ?_) rfl (by kernel_rfl) (by kernel_rfl) (by kernel_rfl) (fun _ _ _ h => h) ⟨by rfl, ?_⟩ ?_
      rotate_left
      · intro X hI; obtain ⟨y0, y1, y2, y3, y4⟩ := hI; go_simp; try go_bits
        try rw [if_pos (by omega)]
        try with_reducible rfl
      refine wpI_take (i := 10) (v := ?_) rfl (by kernel_rfl) (by kernel_rfl) (by kernel_rfl) (fun _ _ _ h => h) ⟨by rfl, ?_⟩ ?_
      rotate_left
      · intro X hI; obtain ⟨y0, y1, y2, y3, y4⟩ := hI; go_simp; try go_bits
        try rw [if_pos (by omega)]
        try with_reducible rfl
      refine wpI_take (i := 12) (v := ?_) rfl (by kernel_rfl) (by kernel_rfl) (by kernel_rfl) (fun _ _ _ h => h) ⟨by rfl, ?_⟩ ?_
      rotate_left
      · intro X hI; obtain ⟨y0, y1, y2, y3, y4⟩ := hI; go_simp; try go_bits
        try rw [if_pos (by omega)]
        try with_reducible rfl
      refine wpI_take (i := 13) (v := ?_) rfl (by kernel_rfl) (by kernel_rfl) (by kernel_rfl) (fun _ _ _ h => h) ⟨by rfl, ?_⟩ ?_
      rotate_left
      · intro X hI; obtain ⟨y0, y1, y2, y3, y4⟩ := hI; go_simp; try go_bits
        try rw [if_pos (by omega)]
        try with_reducible rfl
      refine wpI_take (i := 14) (v := ?_) rfl (by kernel_rfl) (by kernel_rfl) (by kernel_rfl) (fun _ _ _ h => h) ⟨by rfl, ?_⟩ ?_
      rotate_left
      · intro X hI; obtain ⟨y0, y1, y2, y3, y4⟩ := hI; go_simp; try go_bits
        try rw [if_pos (by omega)]
        try with_reducible rfl
      refine wpI_take (i := 15) (v := ?_) rfl (by kernel_rfl) (by kernel_rfl) (by kernel_rfl) (fun _ _ _ h => h) ⟨by rfl, ?_⟩ ?_
      rotate_left
      · intro X hI; obtain ⟨y0, y1, y2, y3, y4⟩ := hI; go_simp; try go_bits
        try rw [if_pos (by omega)]
        try with_reducible rfl
      refine wpI_take (i := 16) (v := ?_) rfl (by kernel_rfl) (by kernel_rfl) (by kernel_rfl) (fun _ _ _ h => h) ⟨by rfl, ?_⟩ ?_
      rotate_left
      · intro X hI; obtain ⟨y0, y1, y2, y3, y4⟩ := hI; go_simp; try go_bits
        try rw [if_pos (by omega)]
        try with_reducible rfl
      refine wpI_take (i := 17) (v := ?_) rfl (by kernel_rfl) (by kernel_rfl) (by kernel_rfl) (fun _ _ _ h => h) ⟨by rfl, ?_⟩ ?_
      rotate_left
      · intro X hI; obtain ⟨y0, y1, y2, y3, y4⟩ := hI; go_simp; try go_bits
        try rw [if_pos (by omega)]
        try with_reducible rfl
      refine wpI_take (i := 18) (v := ?_) rfl (by kernel_rfl) (by kernel_rfl) (by kernel_rfl) (fun _ _ _ h => h) ⟨by rfl, ?_⟩ ?_
      rotate_left
      · intro X hI; obtain ⟨y0, y1, y2, y3, y4⟩ := hI; go_simp; try go_bits
        try rw [if_pos (by omega)]
        try with_reducible rfl
      refine wpI_take (i := 19) (v := ?_) rfl (by kernel_rfl) (by kernel_rfl) (by kernel_rfl) (fun _ _ _ h => h) ⟨by rfl, ?_⟩ ?_
      rotate_left
      · intro X hI; obtain ⟨y0, y1, y2, y3, y4⟩ := hI; go_simp; try go_bits
        try rw [if_pos (by omega)]
        try with_reducible rfl
      refine wpI_take (i := 20) (v := ?_) rfl (by kernel_rfl) (by kernel_rfl) (by kernel_rfl) (fun _ _ _ h => h) ⟨by rfl, ?_⟩ ?_
      rotate_left
      · intro X hI; obtain ⟨y0, y1, y2, y3, y4⟩ := hI; go_simp; try go_bits
        try rw [if_pos (by omega)]
        try with_reducible rfl
      refine wpI_take (i := 21) (v := ?_) rfl (by kernel_rfl) (by kernel_rfl) (by kernel_rfl) (fun _ _ _ h => h) ⟨by rfl, ?_⟩ ?_
      rotate_left
      · intro X hI; obtain ⟨y0, y1, y2, y3, y4⟩ := hI; go_simp; try go_bits
        try rw [if_pos (by omega)]
        try with_reducible rfl
      refine wpI_take (i := 22) (v := ?_) rfl (by kernel_rfl) (by kernel_rfl) (by kernel_rfl) (fun _ _ _ h => h) ⟨by rfl, ?_⟩ ?_
      rotate_left
      · intro X hI; obtain ⟨y0, y1, y2, y3, y4⟩ := hI; go_simp; try go_bits
        try rw [if_pos (by omega)]
        try with_reducible rfl
      refine wpI_take (i := 23) (v := ?_) rfl (by kernel_rfl) (by kernel_rfl) (by kernel_rfl) (fun _ _ _ h => h) ⟨by rfl, ?_⟩ ?_
      rotate_left
      · intro X hI; obtain ⟨y0, y1, y2, y3, y4⟩ := hI; go_simp; try go_bits
        try rw [if_pos (by omega)]
        try with_reducible rfl
      refine wpI_take (i := 24) (v := ?_) rfl (by kernel_rfl) (by kernel_rfl) (by kernel_rfl) (fun _ _ _ h => h) ⟨by rfl, ?_⟩ ?_
      rotate_left
      · intro X hI; obtain ⟨y0, y1, y2, y3, y4⟩ := hI; go_simp; try go_bits
        try rw [if_pos (by omega)]
        try with_reducible rfl
      refine wpI_two (i := 11) (j := 25) rfl rfl (by kernel_rfl) l0 (by rfl) (by rfl) ?_ ?_
      · intro K hK
        have d5 := D5.out
        go_simp
        refine hK _ _ ?_
        clear hK K d5
        refine wpI_only (i := 25) rfl (by kernel_rfl) l0 (by rfl) ?_
        intro K hK
        go_simp
        go_wp2_with (go_at_call 47; (with_reducible refine (i4 _).mono ?_); rintro e w' ⟨rfl, hw⟩; obtain rfl := hw.symm)
        refine wpI_take (i := 26) (v := ?_) rfl (by kernel_rfl) (by kernel_rfl) (by kernel_rfl) (fun _ _ _ h => h) ⟨by rfl, ?_⟩ ?_
        rotate_left
        · intro X hI; go_simp; try go_bits
          try with_reducible rfl
        refine wpI_only (i := 27) rfl (by kernel_rfl) l0 (by rfl) ?_
        intro K hK
        go_simp
        go_wp2_with (go_at_call 48; (with_reducible refine (i5 _).mono ?_); rintro e w' ⟨rfl, hw⟩; obtain rfl := hw.symm)
        refine wpI_take (i := 28) (v := ?_) rfl (by kernel_rfl) (by kernel_rfl) (by kernel_rfl) (fun _ _ _ h => h) ⟨by rfl, ?_⟩ ?_
        rotate_left
        · intro X hI; go_simp; try go_bits
          try with_reducible rfl
        refine wpI_only (i := 29) rfl (by kernel_rfl) l0 (by rfl) ?_
        intro K hK
        have d5 := D5.out
        have z5 := Z5.out
        go_simp
        refine hK _ _ ?_
        clear hK K d5 z5
        refine wpI_done l6.out (by kernel_rfl) ?_ _
        go_wp2
        go_roundw
        case rel => exact ⟨k + 1, by go_num, by omega, H6.out, G6.out, K6.out⟩
        case measure => simp [intOf]; omega
      · intro K hK
        go_simp
        go_wp2_with (go_at_call 47; (with_reducible refine (i4 _).mono ?_); rintro e w' ⟨rfl, hw⟩; obtain rfl := hw.symm)
        refine wpI_only (i := 11) rfl (by kernel_rfl) l0 (by rfl) ?_
        intro K hK
        have d5 := D5.out
        go_simp
        refine hK _ _ ?_
        clear hK K d5
        refine wpI_take (i := 26) (v := ?_) rfl (by kernel_rfl) (by kernel_rfl) (by kernel_rfl) (fun _ _ _ h => h) ⟨by rfl, ?_⟩ ?_
        rotate_left
        · intro X hI; go_simp; try go_bits
          try with_reducible rfl
        refine wpI_only (i := 27) rfl (by kernel_rfl) l0 (by rfl) ?_
        intro K hK
        go_simp
        go_wp2_with (go_at_call 48; (with_reducible refine (i5 _).mono ?_); rintro e w' ⟨rfl, hw⟩; obtain rfl := hw.symm)
        refine wpI_take (i := 28) (v := ?_) rfl (by kernel_rfl) (by kernel_rfl) (by kernel_rfl) (fun _ _ _ h => h) ⟨by rfl, ?_⟩ ?_
        rotate_left
        · intro X hI; go_simp; try go_bits
          try with_reducible rfl
        refine wpI_only (i := 29) rfl (by kernel_rfl) l0 (by rfl) ?_
        intro K hK
        have d5 := D5.out
        have z5 := Z5.out
        go_simp
        refine hK _ _ ?_
        clear hK K d5 z5
        refine wpI_done l6.out (by kernel_rfl) ?_ _
        go_wp2
        go_roundw
        case rel => exact ⟨k + 1, by go_num, by omega, H6.out, G6.out, K6.out⟩
        case measure => simp [intOf]; omega
    · obtain rfl : n = k := by omega
      have H7 : Hid (Ad wr B A P1 P2 n b (ntp er b f (shf x z)) (shf x z) wv) := by
        have h := hrel.out.1
        have o := h.o1
        rw [show ils (ntj er b f (shf x z) n) n = ils (ntp er b f (shf x z)) n from ils_congr fun i hi => by simp [ntj, hi]] at o
        exact ⟨h.c0, h.c1, h.c2, h.c3, h.z3, o, h.o2, h.n1, h.n2, h.n3⟩
      have K7 : Hid (Kd (AdD A P1 P2) w wr) := hrel.out.2.2
      clear hrel
      go_wp2
      go_ret
      exact ⟨rfl, ⟨_, H7.out, HWV.out⟩, K7.out⟩
end Go.Proofs.Ytbkkjbehmpmjeaa
