/- A line's step, whatever room its samples have. -/
import Derived.Test.YthfmcfgnegfkdaaFE
import Derived.Deep.RegionWith
namespace Go.Proofs.Ythfmcfgnegfkdaa
open Go.RowKit

set_option maxHeartbeats 2000000 in
theorem come_c {w : World} {B g n c : Nat} {z : Nat → Int} {x : Int} (ho : w.ownsRow B 3 1 (.slice (some ⟨g, 0, none⟩) n c) n (ils z n)) (hn : n ≤ 64) :
    Calls Try.prog 52 #[.slice (some ⟨g, 0, none⟩) n c, .int .i64 x] w fun e w' => (∃ v, e = .returned v) ∧ w'.ownsRow B 3 1 (.slice (some ⟨g, 0, none⟩) n c) n (ils (shf x z) n) ∧ Kd (fun k => k = g) w w' := by
  have HO : Hid (w.ownsRow B 3 1 (.slice (some ⟨g, 0, none⟩) n c) n (ils (mvd x z 0) n)) := by
    show w.ownsRow B 3 1 (.slice (some ⟨g, 0, none⟩) n c) n (ils (mvd x z 0) n)
    rw [show ils (mvd x z 0) n = ils z n from ils_congr fun i _ => by simp [mvd]]; exact ho
  clear ho
  go_enter Try.func52, Try.ntmps52
  go_wp2
  go_loopw [1, 4, 7] (fun xv _ i wr => ∃ k : Nat, i = .int .i64 k ∧ xv = .int .i64 (shf x z k) ∧ k ≤ n ∧ Hid (wr.ownsRow B 3 1 (.slice (some ⟨g, 0, none⟩) n c) n (ils (mvd x z k) n) ∧ Kd (fun k => k = g) w wr)) (fun _ _ i _ => n - (intOf i).toNat)
  case atStart => exact ⟨0, rfl, by simp [shf], by omega, HO.out, Kd.refl _ _⟩
  case round =>
    obtain ⟨k, rfl, rfl, hk, hrel⟩ := hrel
    by_cases h1 : k < n
    · have d0 := World.ownsRow.cellAt hrel.out.1 k (by omega)
      rw [ils_get h1, mvd_at] at d0
      have z0 := World.ownsRow.frozenAt hrel.out.1 k
      have e1 : z k = shf x z (k + 1) := by unfold shf; rw [if_neg (by omega)]; rfl
      rw [e1] at d0
      obtain ⟨y1, hy1⟩ : ∃ y1, y1 = shf x z (k + 1) := ⟨_, rfl⟩
      rw [← hy1] at d0
      have Y1 : Hid (y1 = shf x z (k + 1)) := hy1
      clear hy1 e1
      have O1 : Hid ((wr.setCell ⟨g, k, none⟩ (.int .i64 (shf x z k))).ownsRow B 3 1 (.slice (some ⟨g, 0, none⟩) n c) n (ils (mvd x z (k + 1)) n)) := by
        have := (World.ownsRow.stored hrel.out.1 k (.int .i64 (shf x z k))).1
        rw [mvd_put] at this
        exact this
      have K1 : Hid (Kd (fun k => k = g) w (wr.setCell ⟨g, k, none⟩ (.int .i64 (shf x z k)))) := hrel.out.2.put (.inl rfl) k _
      generalize shf x z k = y0 at O1 K1 ⊢
      go_wp2
      go_roundw
      case rel => exact ⟨k + 1, by go_num, by rw [Y1.out], by omega, O1.out, K1.out⟩
      case measure => simp [intOf]; omega
    · obtain rfl : n = k := by omega
      have HF : Hid (wr.ownsRow B 3 1 (.slice (some ⟨g, 0, none⟩) n c) n (ils (shf x z) n)) := by
        have := hrel.out.1
        rw [show ils (mvd x z n) n = ils (shf x z) n from ils_congr fun i hi => by simp [mvd, hi]] at this
        exact this
      go_wp2
      go_end0
      exact ⟨⟨_, rfl⟩, HF.out, hrel.out.2⟩


set_option maxHeartbeats 1000000 in
theorem come_nil (w : World) (x : Int) : Calls Try.prog 52 #[.slice none 0 0, .int .i64 x] w fun e w' => (∃ v, e = .returned v) ∧ w' = w := by
  go_enter Try.func52, Try.ntmps52
  go_wp2
  go_loopw [1, 4, 7] (fun _ _ i wr => i = .int .i64 0 ∧ wr = w) (fun _ _ _ _ => 0)
  case atStart => exact ⟨rfl, rfl⟩
  case round =>
    obtain ⟨rfl, rfl⟩ := hrel
    go_wp2
    go_end0
    exact ⟨⟨_, rfl⟩, rfl⟩

/-- The block of a row. -/
abbrev Blk (v : Value) (k : Nat) : Prop := v.ownBlock = some k

theorem come_v {w : World} {B n : Nat} {v : Value} {z : Nat → Int} {x : Int} (ho : w.ownsRow B 3 1 v n (ils z n)) (hn : n ≤ 64) :
    Calls Try.prog 52 #[v, .int .i64 x] w fun e w' => (∃ v, e = .returned v) ∧ w'.ownsRow B 3 1 v n (ils (shf x z) n) ∧ Kd (Blk v) w w' := by
  rcases ho.2 with ⟨rfl, rfl⟩ | ⟨g, c, cur, rfl, _⟩
  · refine (come_nil w x).mono ?_
    rintro e w' ⟨h1, rfl⟩
    exact ⟨h1, ⟨rfl, .inl ⟨rfl, rfl⟩⟩, Kd.refl _ _⟩
  · refine (come_c ho hn).mono ?_
    rintro e w' ⟨h1, h2, h3⟩
    exact ⟨h1, h2, h3.mono (fun k hk => by subst hk; rfl)⟩

theorem Il.kd {D : Nat → Prop} {w w' : World} {v : Value} {n : Nat} {xs : Nat → Int} (h : Il w v n xs) (hk : Kd D w w') (hd : 0 < n → ∀ b off n' c, v = .slice (some ⟨b, off, none⟩) n' c → ¬ D b) : Il w' v n xs := by
  obtain ⟨ao, cap, rfl, hcap, hc⟩ := h
  refine ⟨ao, cap, rfl, hcap, fun h0 => ?_⟩
  obtain ⟨b, off, rfl, hlt, hcell⟩ := hc h0
  exact ⟨b, off, rfl, Nat.lt_of_lt_of_le hlt hk.size, fun k hk' => (World.cell?_of_block (w := w) (hk.block b hlt (hd h0 b off n cap rfl))).trans (hcell k hk')⟩

set_option maxHeartbeats 4000000 in
theorem lStep {w : World} {A B n m tc : Nat} {ao : Option Addr} {pv : Value} {f z : Nat → Int} {x : Int} (h : Ln w A (.slice ao n tc) pv) (ht : Il w (.slice ao n tc) n f) (hp : w.ownsRow B 3 1 pv m (ils z m)) (hmn : m + 1 = n) (hn : n ≤ 64) (hA : ¬ Blk pv A)
    (hf : Wth 1000000 n f) (hz : Wth 1000000000 m z) (hx : -1000000000 ≤ x ∧ x ≤ 1000000000) :
    Calls Try.prog 48 #[.pointer (some ⟨A, 0, none⟩), .int .i64 x] w fun e w' => e = .returned (.int .i64 (dts f (shf x z) n)) ∧ w'.ownsRow B 3 1 pv m (ils (shf x z) m) ∧ Kd (Blk pv) w w' := by
  have HF : Hid (Wth 1000000 n f) := hf
  have HZ : Hid (Wth 1000000000 m z) := hz
  have HZ2 : Hid (Wth 1000000000 n (shf x z)) := shf_wth hx (by rw [show n - 1 = m by omega]; exact hz)
  have hb0 := below_one w (.cells #[.pointer (some ⟨A, 0, none⟩)] 45)
  have H0 : Hid (Ln (w.alloc (.cells #[.pointer (some ⟨A, 0, none⟩)] 45)) A (.slice ao n tc) pv) := h.block (hb0.block A h.lt)
  have T0 : Hid (Il (w.alloc (.cells #[.pointer (some ⟨A, 0, none⟩)] 45)) (.slice ao n tc) n f) := ht.below hb0
  have P0 : Hid ((w.alloc (.cells #[.pointer (some ⟨A, 0, none⟩)] 45)).ownsRow B 3 1 pv m (ils z m)) := own_below hp hb0
  have G0 : Hid ((w.alloc (.cells #[.pointer (some ⟨A, 0, none⟩)] 45)).cell? ⟨w.heap.size, 0, none⟩ = some (.pointer (some ⟨A, 0, none⟩))) := by show _ = _; simp
  have K0 : Hid (Kd (Blk pv) w (w.alloc (.cells #[.pointer (some ⟨A, 0, none⟩)] 45))) := Kd.of_below hb0
  have S0 : Hid (w.heap.size < (w.alloc (.cells #[.pointer (some ⟨A, 0, none⟩)] 45)).heap.size) := by show _ < _; simp
  have GL : Hid (∀ g, Blk pv g → g < w.heap.size) := fun g hg => (World.ownsRow.lt hp g hg).2
  have hAl := h.lt
  obtain ⟨po, pc, rfl⟩ : ∃ po pc, pv = .slice po m pc := by
    rcases hp.2 with ⟨rfl, rfl⟩ | ⟨g, c, cur, rfl, _⟩
    · exact ⟨_, _, rfl⟩
    · exact ⟨_, _, rfl⟩
  obtain ⟨sm, hsm⟩ : ∃ sm, sm = dts f (shf x z) n := ⟨_, rfl⟩
  rw [← hsm]
  have HSM : Hid (sm = dts f (shf x z) n) := hsm
  have e0 : f 0 * x = dts f (shf x z) 1 := by simp [dts, shf]
  have m0 := mul_bounds (hf 0 (by omega)) hx (by omega) (by omega)
  clear h ht hp hf hz hsm hb0
  go_enter Try.func48, Try.ntmps48
  go_upto_region 1 with fail
  generalize hG : w.heap.size = G at *
  generalize w.alloc (.cells #[.pointer (some ⟨A, 0, none⟩)] 45) = W at H0 T0 P0 G0 K0 S0 ⊢
  have g0 := G0.out
  obtain ⟨c0, c1, _⟩ := H0.out
  obtain ⟨ao', tc', e1, _, hc1⟩ := T0.out
  injection e1 with e3 _ e4
  subst e3 e4
  obtain ⟨b1, o1, rfl, hlt1, hcell1⟩ := hc1 (by omega)
  have d1 := hcell1 0 (by omega)
  rw [Nat.add_zero] at d1
  clear hc1 hcell1
  have hn0 : (0 : Int) < (n : Int) := by omega
  have i1 : ∀ r, Calls Try.prog 50 #[.int .i64 m, .int .i64 (dts f (shf x z) 1), .func (.func 51) #[] #[.pointer (some ⟨G, 0, none⟩)]] (W.drewN r) fun e w' => e = .returned (.int .i64 sm) ∧ ∃ q, w' = (W.drewN r).drewN q := by
    intro r
    have := over47 (w := W.drewN r) (n := m) (by omega) (.pointer (some ⟨G, 0, none⟩)) (fun k => dts f (shf x z) (k + 1)) (fun k hk q => by
      have hb : Below W.heap.size W ((W.drewN r).drewN q) := bstep (drewN_below W r) (drewN_below (W.drewN r) q)
      refine (clo47 (W := (W.drewN r).drewN q) (H0.out.block rfl) G0.out (T0.out.below hb) (il_of_own (own_below P0.out hb)) hk hmn hn HF.out HZ.out ?_).mono ?_
      · have := dtb HF.out HZ2.out (k + 1) (by omega)
        omega
      · rintro e w' ⟨rfl, q', rfl⟩
        exact ⟨rfl, q', rfl⟩)
    rw [HSM.out, ← hmn]
    exact this
  go_quiet ((go_at_call 50; exact Calls.quiet_of (i1 _)))
  have hb2 := drewN_below W nq
  have H2 : Hid (Ln (W.drewN nq) A (.slice (some ⟨b1, o1, none⟩) n tc) (.slice po m pc)) := H0.out.block rfl
  have P2 : Hid ((W.drewN nq).ownsRow B 3 1 (.slice po m pc) m (ils z m)) := own_below P0.out hb2
  have G2 : Hid ((W.drewN nq).cell? ⟨G, 0, none⟩ = some (.pointer (some ⟨A, 0, none⟩))) := G0.out
  have K2 : Hid (Kd (Blk (.slice po m pc)) w (W.drewN nq)) := K0.out.drewN nq
  clear hb2 c0 c1 d1 g0 H0 T0 P0 G0 K0 i1 e0 m0
  generalize W.drewN nq = W2 at H2 P2 G2 K2 ⊢
  have g2 := G2.out
  obtain ⟨c0, c1, _⟩ := H2.out
  have i2 := come_v (x := x) P2.out (by omega)
  go_wp2_with (first | (go_at_call 52; (with_reducible refine i2.mono ?_); rintro e w3 ⟨⟨v, rfl⟩, h3, h4⟩; have P3 : Hid (w3.ownsRow B 3 1 (.slice po m pc) m (ils (shf x z) m)) := h3; have K3 : Hid (Kd (Blk (.slice po m pc)) w w3) := K2.out.trans h4; clear h3 h4))
  go_ret
  exact ⟨rfl, P3.out, K3.out⟩

set_option maxHeartbeats 2000000 in
theorem clo50 {W : World} {A G1 G2 G3 n k m c N lc p : Nat} {ao po lo : Option Addr} {tc : Nat} {s : Int} {f xs : Nat → Int} (h : Ln W A (.slice ao n tc) (.slice po m c)) (hG1 : W.cell? ⟨G1, 0, none⟩ = some (.pointer (some ⟨A, 0, none⟩))) (hG2 : W.cell? ⟨G2, 0, none⟩ = some (.slice lo N lc)) (hG3 : W.cell? ⟨G3, 0, none⟩ = some (.int .i64 (p : Int)))
    (ht : Il W (.slice ao n tc) n f) (hl : Il W (.slice lo N lc) N xs) (hk : k < n) (hkp : k ≤ p) (hp : p < N) (hn : n ≤ 64) (hN : N ≤ 512) (hf : Wth 1000000 n f) (hx : Wth 1000000000 N xs) (hs : -100000000000000000 ≤ s ∧ s ≤ 100000000000000000) :
    Calls Try.prog 55 #[.int .i64 s, .int .i64 k, .pointer (some ⟨G1, 0, none⟩), .pointer (some ⟨G2, 0, none⟩), .pointer (some ⟨G3, 0, none⟩)] W fun e w' => e = .returned (.int .i64 (s + f k * xs (p - k))) ∧ ∃ q, w' = W.drewN q := by
  have m0 := mul_bounds (hf k hk) (hx (p - k) (by omega)) (by omega) (by omega)
  obtain ⟨ao', tc', e1, _, hc1⟩ := ht
  obtain ⟨lo', lc', e2, _, hc2⟩ := hl
  injection e1 with e3 _ e4
  injection e2 with e5 _ e6
  subst e3 e4 e5 e6
  obtain ⟨b1, o1, rfl, _, hcell1⟩ := hc1 (by omega)
  obtain ⟨b2, o2, rfl, _, hcell2⟩ := hc2 (by omega)
  have d1 := hcell1 k hk
  obtain ⟨q0, hq0⟩ : ∃ q0, q0 = p - k := ⟨_, rfl⟩
  have d2 := hcell2 (p - k) (by omega)
  have e7 : (p : Int) - (k : Int) = (q0 : Int) := by omega
  have hq1 : q0 < N := by omega
  rw [← hq0] at d2 m0 ⊢
  obtain ⟨c0, c1, _⟩ := h
  clear hc1 hc2 hcell1 hcell2 hq0
  go_enter Try.func55, Try.ntmps55
  go_wp2_with (go_quiet (fail))
  go_ret
  exact ⟨rfl, _, rfl⟩

theorem box1 (w : World) (v : Value) (t : TypeId) : (w.alloc (.cells #[v] t)).cell? ⟨w.heap.size, 0, none⟩ = some v := by simp

theorem keepc {W w1 : World} (hb : Below W.heap.size W w1) {a : Addr} {v : Value} (h : W.cell? a = some v) : w1.cell? a = some v := (hb.cell (World.block_lt_of_cell? W _ h)).trans h

set_option maxHeartbeats 4000000 in
theorem sumAt_any {w : World} {A n m c N lc p tc : Nat} {ao po lo : Option Addr} {f xs : Nat → Int} (h : Ln w A (.slice ao n tc) (.slice po m c)) (ht : Il w (.slice ao n tc) n f) (hl : Il w (.slice lo N lc) N xs) (hnp : n ≤ p + 1) (hp : p < N) (hn : n ≤ 64) (hN : N ≤ 512) (hf : Wth 1000000 n f) (hx : Wth 1000000000 N xs) :
    Calls Try.prog 53 #[.pointer (some ⟨A, 0, none⟩), .slice lo N lc, .int .i64 (p : Int)] w fun e w' => e = .returned (.int .i64 (dts f (fun j => xs (p - j)) n)) ∧ Below w.heap.size w w' := by
  have HF : Hid (Wth 1000000 n f) := hf
  have HX : Hid (Wth 1000000000 N xs) := hx
  have HX2 : Hid (Wth 1000000000 n (fun j => xs (p - j))) := fun k hk => hx _ (by omega)
  have b1 := below_one w (.cells #[.pointer (some ⟨A, 0, none⟩)] 45)
  have s1 : (w.alloc (.cells #[.pointer (some ⟨A, 0, none⟩)] 45)).heap.size = w.heap.size + 1 := by simp
  have b2 := below_one (w.alloc (.cells #[.pointer (some ⟨A, 0, none⟩)] 45)) (.cells #[.slice lo N lc] 24)
  have b3 := below_one ((w.alloc (.cells #[.pointer (some ⟨A, 0, none⟩)] 45)).alloc (.cells #[.slice lo N lc] 24)) (.cells #[.int .i64 (p : Int)] 3)
  have B3 : Hid (Below w.heap.size w (((w.alloc (.cells #[.pointer (some ⟨A, 0, none⟩)] 45)).alloc (.cells #[.slice lo N lc] 24)).alloc (.cells #[.int .i64 (p : Int)] 3))) := bstep (bstep b1 b2) b3
  have a1 : (w.alloc (.cells #[.pointer (some ⟨A, 0, none⟩)] 45)).cell? ⟨w.heap.size, 0, none⟩ = some (.pointer (some ⟨A, 0, none⟩)) := box1 _ _ _
  have a2 : ((w.alloc (.cells #[.pointer (some ⟨A, 0, none⟩)] 45)).alloc (.cells #[.slice lo N lc] 24)).cell? ⟨(w.alloc (.cells #[.pointer (some ⟨A, 0, none⟩)] 45)).heap.size, 0, none⟩ = some (.slice lo N lc) := box1 _ _ _
  have a3 : (((w.alloc (.cells #[.pointer (some ⟨A, 0, none⟩)] 45)).alloc (.cells #[.slice lo N lc] 24)).alloc (.cells #[.int .i64 (p : Int)] 3)).cell? ⟨((w.alloc (.cells #[.pointer (some ⟨A, 0, none⟩)] 45)).alloc (.cells #[.slice lo N lc] 24)).heap.size, 0, none⟩ = some (.int .i64 (p : Int)) := box1 _ _ _
  have s2 : ((w.alloc (.cells #[.pointer (some ⟨A, 0, none⟩)] 45)).alloc (.cells #[.slice lo N lc] 24)).heap.size = w.heap.size + 1 + 1 := by simp
  have g1 := keepc b3 (keepc b2 a1)
  have g2 := keepc b3 a2
  have g3 := a3
  rw [s1] at g2
  rw [s2] at g3
  have H3 : Hid (Ln (((w.alloc (.cells #[.pointer (some ⟨A, 0, none⟩)] 45)).alloc (.cells #[.slice lo N lc] 24)).alloc (.cells #[.int .i64 (p : Int)] 3)) A (.slice ao n tc) (.slice po m c)) := h.block (B3.out.block A h.lt)
  have T3 : Hid (Il (((w.alloc (.cells #[.pointer (some ⟨A, 0, none⟩)] 45)).alloc (.cells #[.slice lo N lc] 24)).alloc (.cells #[.int .i64 (p : Int)] 3)) (.slice ao n tc) n f) := ht.below B3.out
  have L3 : Hid (Il (((w.alloc (.cells #[.pointer (some ⟨A, 0, none⟩)] 45)).alloc (.cells #[.slice lo N lc] 24)).alloc (.cells #[.int .i64 (p : Int)] 3)) (.slice lo N lc) N xs) := hl.below B3.out
  obtain ⟨sm, hsm⟩ : ∃ sm, sm = dts f (fun j => xs (p - j)) n := ⟨_, rfl⟩
  rw [← hsm]
  have HSM : Hid (sm = dts f (fun j => xs (p - j)) n) := hsm
  clear h ht hl hf hx b1 b2 b3 s1 s2 a1 a2 a3 hsm
  go_enter Try.func53, Try.ntmps53
  go_upto_region 1 with fail
  generalize (((w.alloc (.cells #[.pointer (some ⟨A, 0, none⟩)] 45)).alloc (.cells #[.slice lo N lc] 24)).alloc (.cells #[.int .i64 (p : Int)] 3)) = W at B3 g1 g2 g3 H3 T3 L3 ⊢
  have i1 := over50 (w := W) (n := n) (by omega) (.pointer (some ⟨w.heap.size, 0, none⟩)) (.pointer (some ⟨w.heap.size + 1, 0, none⟩)) (.pointer (some ⟨w.heap.size + 1 + 1, 0, none⟩)) (fun k => dts f (fun j => xs (p - j)) k) (fun k hk q => by
      have hb : Below W.heap.size W (W.drewN q) := drewN_below W q
      refine (clo50 (W := W.drewN q) (H3.out.block rfl) g1 g2 g3 (T3.out.below hb) (L3.out.below hb) hk (by omega) hp hn hN HF.out HX.out ?_).mono ?_
      · have := dtb HF.out HX2.out k (by omega)
        omega
      · rintro e w' ⟨rfl, q', rfl⟩
        exact ⟨rfl, q', rfl⟩)
  rw [← HSM.out] at i1
  have e00 : dts f (fun j => xs (p - j)) 0 = 0 := rfl
  rw [e00] at i1
  obtain ⟨c0, c1, _⟩ := H3.out
  go_wp2_with (first | (go_at_call 50; (with_reducible refine i1.mono ?_); rintro e w2 ⟨rfl, q, rfl⟩))
  go_ret
  exact ⟨rfl, bstep B3.out (drewN_below _ _)⟩
end Go.Proofs.Ythfmcfgnegfkdaa
