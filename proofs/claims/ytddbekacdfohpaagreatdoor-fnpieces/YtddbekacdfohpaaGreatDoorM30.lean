/- LA LW. -/
import Derived.Test.YtddbekacdfohpaaGreatDoorM12
import Derived.Test.YtddbekacdfohpaaGreatDoorM22
import Derived.Test.YtddbekacdfohpaaGreatDoorM21
import Derived.Test.YtddbekacdfohpaaGreatDoorM24
import Derived.Test.YtddbekacdfohpaaGreatDoorM29
namespace Go.Proofs.YtddbekacdfohpaaGreatDoor
open Go.RowKit

theorem lt_bd {x : Nat} (h : Bd x) : Lt64 (cn x) := by
  rcases h with h | h
  · rw [h]; intro b hb; cases hb
  · exact cn_lt h

/-- The bounds of what Fast makes. -/
theorem fast_lt {P : Nat → Option Nat × Option Nat} (h : ∀ i, Lt64 (P i).1 ∧ Lt64 (P i).2) (bk : Bool) : ∀ (j k : Nat), Lt64 (fast bk j P k).1 ∧ Lt64 (fast bk j P k).2 := by
  intro j
  cases j with
  | zero => intro k; exact h k
  | succ j =>
    intro k
    simp only [fast]
    split <;> exact ⟨cop_lt _ _ _, cop_lt _ _ _⟩

theorem pcC_lt {j h : Nat} {X Y : Nat → Nat} (hb : ∀ k, Bd (X k) ∧ Bd (Y k)) (i k : Nat) : Lt64 (pcC j h X Y i k).1 ∧ Lt64 (pcC j h X Y i k).2 := by
  unfold pcC fby
  simp only [Bool.false_eq_true, if_false]
  exact fast_lt (fun t => ⟨lt_bd (hb _).1, lt_bd (hb _).2⟩) false j k

/-- Beyond its end a list may be anything. -/
theorem bd_all {w : World} {u : Value} {n : Nat} {X Y : Nat → Nat} (hf : Fp w u n X Y) (hb : ∀ k, k < n → Bd (X k) ∧ Bd (Y k)) : ∃ X' Y', Fp w u n X' Y' ∧ ∀ k, Bd (X' k) ∧ Bd (Y' k) := by
  refine ⟨fun k => if k < n then X k else 0, fun k => if k < n then Y k else 0, ?_, fun k => ?_⟩
  · obtain ⟨ao, cap, rfl, hc, h⟩ := hf
    refine ⟨ao, cap, rfl, hc, fun h0 => ?_⟩
    obtain ⟨b, off, rfl, hl, hk⟩ := h h0
    refine ⟨b, off, rfl, hl, fun k hk1 => ?_⟩
    simp only [hk1, if_true]
    exact hk k hk1
  · by_cases h : k < n
    · simp only [h, if_true]; exact hb k h
    · simp only [h, if_false]; exact ⟨.inr (by omega), .inr (by omega)⟩

/-- Good arguments and what is told of them. -/
def Gd (m : Nat) (p q : Int) (X Y : Nat → Nat) (N c : Nat) (C : Nat → Nat → Option Nat × Option Nat) : Prop :=
  ∃ h j : Nat, p = (c : Int) ∧ q = (h : Int) ∧ j < 8 ∧ c = 2 ^ j ∧ 1 ≤ h ∧ h ≤ 128 ∧ m ≤ 128 ∧ N = npc m c h ∧ C = pcC j h X Y ∧ 1 ≤ c ∧ c ≤ 128 ∧ N ≤ 128

theorem pcs_told (m : Nat) (hm : m ≤ 129) (p q : Int) (X Y : Nat → Nat) : ∃ (N c : Nat) (C : Nat → Nat → Option Nat × Option Nat) (ok : Bool),
    (∀ W v, Brj W → Fp W v m X Y → Calls Tryz.prog 6 #[v, .int .i64 p, .int .i64 q] W fun e w' => Ppe W w' e N c C ok) ∧
    (∀ W v, Fp W v m X Y → Calls Tryz.prog 7 #[v, .int .i64 p, .int .i64 q] W fun e w' => Ppe W w' e N c C ok) ∧ (N = 0 ∨ Gd m p q X Y N c C) := by
  by_cases hg : GPc m p q
  · obtain ⟨c, rfl⟩ : ∃ c : Nat, p = (c : Int) := ⟨p.toNat, by omega⟩
    obtain ⟨h, rfl⟩ : ∃ h : Nat, q = (h : Int) := ⟨q.toNat, by omega⟩
    obtain ⟨j, hj, hcj⟩ := h8_pow hg.1
    have hc1 : 1 ≤ c ∧ c ≤ 128 := by omega
    exact ⟨npc m c h, c, pcC j h X Y, true, fun W v hb hv => iPcs_good hv hg.2.2 hj hcj (by omega) hb, fun W v hv => sPcs_good hv hg.2.2 hj hcj (by omega), .inr ⟨h, j, rfl, rfl, hj, hcj, by omega, by omega, hg.2.2, rfl, rfl, hc1.1, hc1.2, Nat.le_trans (npc_le hc1.1) hg.2.2⟩⟩
  · exact ⟨0, 0, fun _ _ => (none, none), false, fun W v _ hv => iPcs_bad hv (by omega) hg _, fun W v hv => sPcs_bad hv (by omega) hg _, .inl rfl⟩

theorem Pcs.rows {w : World} {B n c : Nat} {o : Value} {C : Nat → Nat → Option Nat × Option Nat} (h : Pcs w B o n c C) : ∃ X Y, Fpp w o n c X Y ∧ ∀ i, i < n → ∀ k, k < c → (cn (X i k), cn (Y i k)) = C i k := by
  obtain ⟨gs, cs, F, X, Y, h1, h2, h3⟩ := h
  exact ⟨X, Y, h1.fpp h2, h3⟩

/-- One row in a list of its own. -/
theorem fpp_one {w : World} {v : Value} {c : Nat} {X Y : Nat → Nat} (h : Fp w v c X Y) (t : TypeId) : W.Fpp (w.alloc (.cells #[v] t)) (.slice (some ⟨w.heap.size, 0, none⟩) 1 1) 1 (fun _ => c) (fun _ => X) (fun _ => Y) := by
  refine ⟨_, 1, rfl, Nat.le_refl _, fun _ => ⟨w.heap.size, 0, fun _ => v, rfl, by simp, fun k hk => ?_⟩⟩
  obtain rfl : k = 0 := by omega
  refine ⟨by simp [go_sem]; try rfl, h.below (below_one _ _)⟩

/-- A literal of one pair. -/
theorem fp_lit (w : World) (x y : Nat) (t : TypeId) : Fp (w.alloc (.cells #[.float .f64 x, .float .f64 y] t)) (.slice (some ⟨w.heap.size, 0, none⟩) 1 1) 1 (fun _ => x) (fun _ => y) := by
  refine ⟨_, 1, rfl, Nat.le_refl _, fun _ => ⟨w.heap.size, 0, rfl, by simp, fun k hk => ?_⟩⟩
  obtain rfl : k = 0 := by omega
  constructor <;> (simp [go_sem]; try rfl)

theorem fp_some {w : World} {ua : Option Addr} {m ucap : Nat} {X Y : Nat → Nat} (h : Fp w (.slice ua m ucap) m X Y) (hm : 0 < m) : ∃ b off, ua = some ⟨b, off, none⟩ ∧ m ≤ ucap ∧ b < w.heap.size ∧ ∀ k, k < m → w.cell? ⟨b, off + k * 2, none⟩ = some (.float .f64 (X k)) ∧ w.cell? ⟨b, off + k * 2 + 1, none⟩ = some (.float .f64 (Y k)) := by
  obtain ⟨ao, cap, e, hc, hk⟩ := h
  obtain ⟨b, off, rfl, hl, hcell⟩ := hk hm
  cases e
  exact ⟨b, off, rfl, hc, hl, hcell⟩

theorem fpp_some {w : World} {ua : Option Addr} {n ucap c : Nat} {X Y : Nat → Nat → Nat} (h : Fpp w (.slice ua n ucap) n c X Y) (hm : 0 < n) : ∃ b off, ∃ R : Nat → Value, ua = some ⟨b, off, none⟩ ∧ n ≤ ucap ∧ b < w.heap.size ∧ ∀ k, k < n → w.cell? ⟨b, off + k, none⟩ = some (R k) ∧ Fp w (R k) c (X k) (Y k) := by
  obtain ⟨ao, cap, e, hc, hk⟩ := h
  obtain ⟨b, off, R, rfl, hl, hcell⟩ := hk hm
  cases e
  exact ⟨b, off, R, rfl, hc, hl, hcell⟩

theorem fl_some {w : World} {ua : Option Addr} {n ucap : Nat} {X : Nat → Nat} (h : W.Fl w (.slice ua n ucap) n X) (hm : 0 < n) : ∃ b off, ua = some ⟨b, off, none⟩ ∧ n ≤ ucap ∧ b < w.heap.size ∧ ∀ k, k < n → w.cell? ⟨b, off + k, none⟩ = some (.float .f64 (X k)) := by
  obtain ⟨ao, cap, e, hc, hk⟩ := h
  obtain ⟨b, off, rfl, hl, hcell⟩ := hk hm
  cases e
  exact ⟨b, off, rfl, hc, hl, hcell⟩

end Go.Proofs.YtddbekacdfohpaaGreatDoor

namespace Go.Proofs.YtddbekacdfohpaaGreatDoor
open Go.RowKit

set_option maxRecDepth 100000 in
set_option maxHeartbeats 16000000 in
theorem walk_fpc {w : World} {a : Option Addr} {n cap : Nat} (hb : Brj w) (hr : Q.Row w a n) (hn : n ≤ 9223372036854775807) :
    Calls Tryz.prog 3 #[.slice a n cap] w fun e w' => e = .returned (.bool true) ∧ Below w.heap.size w w' := by
  have ib := fun W => big_any (w := W) a n cap hn
  have hnot : ∀ (x : Bool) (w : World), (Op.unary .not (.bool x)).run Tryz.prog w = .ok (.bool (!x)) w := fun _ _ => rfl
  by_cases hs : n ≤ 1048576
  · rw [decide_eq_false (show ¬ (1048576 : Int) < n by omega)] at ib
    have id := dpc_any (cap := cap) hr hs
    have HBR : Hid (∀ W, Below w.heap.size w W → Brj W) := fun W h => hb.below h
    clear hr hb
    go_enter Tryz.func3, Tryz.ntmps3
    go_wp2_with (first
      | (go_at_call 4; refine (ib _).mono ?_; rintro e w' ⟨rfl, hw⟩; obtain rfl := hw.symm)
      | (go_at_call 5; refine id.mono ?_; rintro e w1 ⟨u0, m, X0, Y0, p, q, rfl, hm, hf0, hbd0, hb1⟩; obtain ⟨X, Y, hf1, hbd1⟩ := bd_all hf0 hbd0; obtain ⟨NN, c, C, ok, hi6, hs7, hgd⟩ := pcs_told m hm p q X Y; have FU : Hid (Fp w1 u0 m X Y) := hf1; have HBD : Hid (∀ k, Bd (X k) ∧ Bd (Y k)) := hbd1; have B1 : Hid (Below w.heap.size w w1) := hb1; have HI : Hid (∀ W v, Brj W → Fp W v m X Y → Calls Tryz.prog 6 #[v, .int .i64 p, .int .i64 q] W fun e w' => Ppe W w' e NN c C ok) := hi6; have HS : Hid (∀ W v, Fp W v m X Y → Calls Tryz.prog 7 #[v, .int .i64 p, .int .i64 q] W fun e w' => Ppe W w' e NN c C ok) := hs7; have HG : Hid (NN = 0 ∨ Gd m p q X Y NN c C) := hgd; clear hf0 hbd0 hf1 hbd1 hi6 hs7 hgd hb1 id ib)
      | (go_at_call 6; (fail_if_success have := M2); refine (HI.out _ _ (HBR.out _ B1.out) FU.out).mono ?_; rintro e w2 ⟨p0, rfl, hp2, hb2⟩; have M2 : Hid True := trivial; obtain ⟨PX, PY, hpp, hpc⟩ := hp2.rows; have FP : Hid (Fpp w2 p0 NN c PX PY) := hpp; have PC : Hid (∀ i, i < NN → ∀ k, k < c → (cn (PX i k), cn (PY i k)) = C i k) := hpc; have B2 : Hid (Below w.heap.size w w2) := bstep B1.out hb2; have FU2 : Hid (Fp w2 u0 m X Y) := FU.out.below hb2; clear hp2 hpp hpc hb2)
      | (go_at_call 7; refine (HS.out _ _ FU2.out).mono ?_; rintro e w3 ⟨s0, rfl, _, hb3⟩; have FP3 : Hid (Fpp w3 p0 NN c PX PY) := FP.out.below hb3; have B3 : Hid (Below w.heap.size w w3) := bstep B2.out hb3; have FU3 : Hid (Fp w3 u0 m X Y) := FU2.out.below hb3; have hpv := FP3.out; obtain ⟨pa, pcap, rfl, hpcap, _⟩ := hpv; have huv := FU3.out; obtain ⟨ua, ucap, rfl, hucap, _⟩ := huv; clear hb3))
    go_loopw [10, 11, 12, 13, 14, 15, 16] (fun i _ _ _ _ _ _ wr => ∃ k : Nat, i = .int .i64 k ∧ k ≤ NN ∧ Hid (Below w3.heap.size w3 wr)) (fun i _ _ _ _ _ _ _ => NN - (intOf i).toNat)
    case atStart => exact ⟨0, rfl, by omega, Below.refl _ _⟩
    case round =>
      obtain ⟨i, rfl, hiN, BL⟩ := hrel
      by_cases h1 : i < NN
      · obtain ⟨h, j, rfl, rfl, hj, hcj, hh1, hh2, hm8, hNN, hC, hc1, hc2, hN8⟩ : Gd m p q X Y NN c C := by
          rcases HG.out with h0 | h0
          · omega
          · exact h0
        have hcut : i * h + c ≤ m := (npc_lt (by omega)).2 (by rw [← hNN]; exact h1)
        obtain ⟨A, hA⟩ : ∃ A : Nat, A = i * h := ⟨_, rfl⟩
        have hmul : (i : Int) * (h : Int) = (A : Int) := by rw [hA, Int.natCast_mul]
        rw [← hA] at hcut
        have BW : Hid (Below w.heap.size w wr) := bstep B3.out BL.out
        obtain ⟨b, off, rfl, _, hlt, _⟩ := fp_some (FU3.out.below BL.out) (by omega)
        obtain ⟨pb, po, R, rfl, _, hplt, hR⟩ := fpp_some (FP3.out.below BL.out) (by omega)
        obtain ⟨hRc, hRf⟩ := hR i h1
        have hRf' := hRf
        obtain ⟨ra, rcap, hRv, _, _⟩ := hRf'
        rw [hRv] at hRc hRf
        obtain ⟨rb, ro, rfl, hrcap, hrlt, hrcell⟩ := fp_some hRf (by omega)
        have i8 := iFast_f (fp_cut (FU3.out.below BL.out) hcut (by omega)) hj hcj (HBR.out _ BW.out)
        have HC8 : Hid (∀ k, fby c false (fast false j (fun t => (cn (X (A + t)), cn (Y (A + t)))) k) = C i k) := fun k => by
          rw [hC, hA]
          simp only [pcC, fby, Bool.false_eq_true, if_false]
        have HLT : Hid (∀ k, Lt64 (C i k).1 ∧ Lt64 (C i k).2) := fun k => by
          rw [hC]
          exact pcC_lt HBD.out i k
        have d1 : (A : Int) + (c : Int) - (A : Int) = (c : Int) := by omega
        have d2 : ¬ (ucap = A) := by omega
        have HRF : Hid (Fp wr (.slice (some ⟨rb, ro, none⟩) c rcap) c (PX i) (PY i)) := hRf
        clear hA hNN hC hR hRv hRf hrcell hcj hlt HG HI HS FU FU2 FP
        go_wp2_with (first
          | (go_at_call 8; (with_reducible refine i8.mono ?_); rintro e w4 ⟨f0, FX, FY, L4, rfl, hf4, hc4, _, hb4⟩; have F4 : Hid (Fp w4 f0 c FX FY) := hf4; have FC4 : Hid (∀ k, k < c → (cn (FX k), cn (FY k)) = C i k) := fun k hk => (hc4 k hk).trans (HC8.out k); have B34 : Hid (Below w3.heap.size w3 w4) := bstep BL.out hb4; have hR4 := (hb4.cell (p := ⟨pb, po + i, none⟩) hplt).trans hRc; have HR4 : Hid (Fp w4 (.slice (some ⟨rb, ro, none⟩) c rcap) c (PX i) (PY i)) := HRF.out.below hb4; have hp4 := Nat.lt_of_lt_of_le hplt hb4.size; obtain ⟨fa, fcap, rfl, _, _⟩ := hf4; clear hc4 hb4 i8 hRc hplt)
          | (go_at_call 9; refine (W.iPowers_good F4.out hc2).mono ?_; rintro e w5 ⟨pw, zs, rfl, ho5, hc5, hb5⟩; have Z5 : Hid (W.Fl w5 pw c zs) := W.fl_of_own ho5; have ZC : Hid (∀ k, k < c → cn (zs k) = cpw (cn (FX k)) (cn (FY k))) := hc5; have B35 : Hid (Below w3.heap.size w3 w5) := bstep B34.out hb5; have hR5 := (hb5.cell (p := ⟨pb, po + i, none⟩) hp4).trans hR4; have HR5 : Hid (Fp w5 (.slice (some ⟨rb, ro, none⟩) c rcap) c (PX i) (PY i)) := HR4.out.below hb5; have hp5 := Nat.lt_of_lt_of_le hp4 hb5.size; have F5 : Hid (Fp w5 (.slice fa c fcap) c FX FY) := F4.out.below hb5; have zz := Z5.out; obtain ⟨za, zcap, rfl, _, _⟩ := zz; clear ho5 hc5 hb5 hR4 hp4)
          | (go_at_call 10; refine (W.iAvg_good (fpp_one HR5.out 24) ⟨⟨by omega, by omega⟩, hc2, fun _ _ => rfl⟩).mono ?_; rintro e w6 ⟨av, vs, rfl, ho6, hc6, hb6⟩; have V6 : Hid (W.Fl w6 av c vs) := W.fl_of_own ho6; have VC : Hid (∀ k, k < c → cn (vs k) = cpw (cn (PX i k)) (cn (PY i k))) := fun k hk => (hc6 k hk).trans (mean_one _ _); have hb56 := bstep (below_one w5 (.cells #[.slice (some ⟨rb, ro, none⟩) c rcap] 24)) hb6; have B36 : Hid (Below w3.heap.size w3 w6) := bstep B35.out hb56; have hR6 := (hb56.cell (p := ⟨pb, po + i, none⟩) hp5).trans hR5; have HR6 : Hid (Fp w6 (.slice (some ⟨rb, ro, none⟩) c rcap) c (PX i) (PY i)) := HR5.out.below hb56; have hp6 := Nat.lt_of_lt_of_le hp5 hb56.size; have F6 : Hid (Fp w6 (.slice fa c fcap) c FX FY) := F5.out.below hb56; have Z6 : Hid (W.Fl w6 (.slice za c zcap) c zs) := Z5.out.below hb56; have vv := V6.out; obtain ⟨va, vcap, rfl, _, _⟩ := vv; clear ho6 hc6 hb6 hb56 hR5 hp5))
        go_loopw [16] (fun k wr => ∃ q : Nat, k = .int .i64 q ∧ q ≤ c ∧ Hid (Below w6.heap.size w6 wr)) (fun k _ => c - (intOf k).toNat)
        case atStart => exact ⟨0, rfl, by omega, Below.refl _ _⟩
        case round =>
          obtain ⟨k, rfl, hk, BI⟩ := hrel
          by_cases h2 : k < c
          · obtain ⟨fb, fo, rfl, _, hfl, hfc⟩ := fp_some (F6.out.below BI.out) (by omega)
            obtain ⟨zb, zo, rfl, _, hzl, hzc⟩ := fl_some (Z6.out.below BI.out) (by omega)
            obtain ⟨vb, vo, rfl, _, hvl, hvc⟩ := fl_some (V6.out.below BI.out) (by omega)
            obtain ⟨rb', ro', hre, _, hrl, hrc⟩ := fp_some (HR6.out.below BI.out) (by omega)
            simp only [Option.some.injEq, Addr.mk.injEq] at hre
            obtain ⟨rfl, rfl, _⟩ := hre
            have hRw := (BI.out.cell (p := ⟨pb, po + i, none⟩) hp6).trans hR6
            have hpl := Nat.lt_of_lt_of_le hp6 BI.out.size
            have rF : ∀ X, Below wr.heap.size wr X → X.cell? ⟨fb, fo + k * 2, none⟩ = some (.float .f64 (FX k)) ∧ X.cell? ⟨fb, fo + k * 2 + 1, none⟩ = some (.float .f64 (FY k)) := fun X hX => ⟨(hX.cell (p := ⟨fb, fo + k * 2, none⟩) hfl).trans (hfc k h2).1, (hX.cell (p := ⟨fb, fo + k * 2 + 1, none⟩) hfl).trans (hfc k h2).2⟩
            have rR : ∀ X, Below wr.heap.size wr X → X.cell? ⟨rb, ro + k * 2, none⟩ = some (.float .f64 (PX i k)) ∧ X.cell? ⟨rb, ro + k * 2 + 1, none⟩ = some (.float .f64 (PY i k)) := fun X hX => ⟨(hX.cell (p := ⟨rb, ro + k * 2, none⟩) hrl).trans (hrc k h2).1, (hX.cell (p := ⟨rb, ro + k * 2 + 1, none⟩) hrl).trans (hrc k h2).2⟩
            have rP : ∀ X, Below wr.heap.size wr X → X.cell? ⟨pb, po + i, none⟩ = some (.slice (some ⟨rb, ro, none⟩) c rcap) := fun X hX => (hX.cell (p := ⟨pb, po + i, none⟩) hpl).trans hRw
            have rW : ∀ X, Below wr.heap.size wr X → X.cell? ⟨zb, zo + k, none⟩ = some (.float .f64 (zs k)) := fun X hX => (hX.cell (p := ⟨zb, zo + k, none⟩) hzl).trans (hzc k h2)
            have rV : ∀ X, Below wr.heap.size wr X → X.cell? ⟨vb, vo + k, none⟩ = some (.float .f64 (vs k)) := fun X hX => (hX.cell (p := ⟨vb, vo + k, none⟩) hvl).trans (hvc k h2)
            have fq := FC4.out k h2
            have pq := PC.out i h1 k h2
            have e1 : cn (FX k) = cn (PX i k) ∧ cn (FY k) = cn (PY i k) := Prod.mk.injEq .. ▸ (fq.trans pq.symm)
            have e2 : Bd (FX k) ∧ Bd (FY k) := ⟨bd_cn (congrArg Prod.fst fq) (HLT.out k).1, bd_cn (congrArg Prod.snd fq) (HLT.out k).2⟩
            have e3 : Bd (PX i k) ∧ Bd (PY i k) := ⟨bd_cn (congrArg Prod.fst pq) (HLT.out k).1, bd_cn (congrArg Prod.snd pq) (HLT.out k).2⟩
            have e4 : cn (zs k) = cn (vs k) := by rw [ZC.out k h2, VC.out k h2, e1.1, e1.2]
            have e5 : Bd (zs k) ∧ Bd (vs k) := ⟨bd_cn (ZC.out k h2) (cop_lt _ _ _), bd_cn (VC.out k h2) (cop_lt _ _ _)⟩
            have l0 : Below wr.heap.size wr wr.drew := (Below.refl _ _).drew
            clear hfc hzc hvc hrc hfl hzl hvl hrl hRw hpl fq pq
            generalize FX k = x1 at *
            generalize FY k = x2 at *
            generalize PX i k = x3 at *
            generalize PY i k = x4 at *
            generalize zs k = x5 at *
            generalize vs k = x6 at *
            go_wp2
            refine wp_region_any (by kernel_rfl) ?_
            change wpAny _ _ _ _ _ _ _ (World.drew _)
            refine wpI_any (I := fun X => Below wr.heap.size wr X) _ _ _ _ ?_
            refine wpI_takeD (some 101) (i := 0) (v := ?_) rfl rfl (by kernel_rfl) (by kernel_rfl) (by kernel_rfl) (fun _ _ _ h => h) ⟨by rfl, ?_⟩ ?_
            rotate_left
            · intro X hI; go_simp; try go_bits
              try rw [if_pos (by omega)]
              try with_reducible rfl
            refine wpI_takeD (some 102) (i := 1) (v := ?_) rfl rfl (by kernel_rfl) (by kernel_rfl) (by kernel_rfl) (fun _ _ _ h => h) ⟨by rfl, ?_⟩ ?_
            rotate_left
            · intro X hI; go_simp; try go_bits
              try rw [if_pos (by omega)]
              try with_reducible rfl
            refine wpI_takeD (some 103) (i := 2) (v := ?_) rfl rfl (by kernel_rfl) (by kernel_rfl) (by kernel_rfl) (fun _ _ _ h => h) ⟨by rfl, ?_⟩ ?_
            rotate_left
            · intro X hI; go_simp; try go_bits
              try rw [if_pos (by omega)]
              try with_reducible rfl
            refine wpI_takeD (some 104) (i := 3) (v := ?_) rfl rfl (by kernel_rfl) (by kernel_rfl) (by kernel_rfl) (fun _ _ _ h => h) ⟨by rfl, ?_⟩ ?_
            rotate_left
            · intro X hI; obtain ⟨q1, q2⟩ := rF X hI; go_simp; try go_bits
              try rw [if_pos (by omega)]
              try with_reducible rfl
            refine wpI_takeD (some 105) (i := 4) (v := ?_) rfl rfl (by kernel_rfl) (by kernel_rfl) (by kernel_rfl) (fun _ _ _ h => h) ⟨by rfl, ?_⟩ ?_
            rotate_left
            · intro X hI; go_simp; try go_bits
              try rw [if_pos (by omega)]
              try with_reducible rfl
            refine wpI_takeD (some 106) (i := 5) (v := ?_) rfl rfl (by kernel_rfl) (by kernel_rfl) (by kernel_rfl) (fun _ _ _ h => h) ⟨by rfl, ?_⟩ ?_
            rotate_left
            · intro X hI; go_simp; try go_bits
              try rw [if_pos (by omega)]
              try with_reducible rfl
            refine wpI_takeD (some 107) (i := 6) (v := ?_) rfl rfl (by kernel_rfl) (by kernel_rfl) (by kernel_rfl) (fun _ _ _ h => h) ⟨by rfl, ?_⟩ ?_
            rotate_left
            · intro X hI; go_simp; try go_bits
              try rw [if_pos (by omega)]
              try with_reducible rfl
            refine wpI_takeD (some 108) (i := 7) (v := ?_) rfl rfl (by kernel_rfl) (by kernel_rfl) (by kernel_rfl) (fun _ _ _ h => h) ⟨by rfl, ?_⟩ ?_
            rotate_left
            · intro X hI; have q1 := rP X hI; go_simp; try go_bits
              try rw [if_pos (by omega)]
              try with_reducible rfl
            refine wpI_takeD (some 109) (i := 8) (v := ?_) rfl rfl (by kernel_rfl) (by kernel_rfl) (by kernel_rfl) (fun _ _ _ h => h) ⟨by rfl, ?_⟩ ?_
            rotate_left
            · intro X hI; go_simp; try go_bits
              try rw [if_pos (by omega)]
              try with_reducible rfl
            refine wpI_takeD (some 110) (i := 9) (v := ?_) rfl rfl (by kernel_rfl) (by kernel_rfl) (by kernel_rfl) (fun _ _ _ h => h) ⟨by rfl, ?_⟩ ?_
            rotate_left
            · intro X hI; go_simp; try go_bits
              try rw [if_pos (by omega)]
              try with_reducible rfl
            refine wpI_takeD (some 111) (i := 10) (v := ?_) rfl rfl (by kernel_rfl) (by kernel_rfl) (by kernel_rfl) (fun _ _ _ h => h) ⟨by rfl, ?_⟩ ?_
            rotate_left
            · intro X hI; obtain ⟨q1, q2⟩ := rR X hI; go_simp; try go_bits
              try rw [if_pos (by omega)]
              try with_reducible rfl
            refine wpI_only (i := 11) rfl (by kernel_rfl) l0 (by rfl) ?_
            intro K hK
            go_simp
            go_wp2_with (go_at_call 11; refine (samePair_any e1.1 e1.2 e2.1 e2.2 e3.1 e3.2 _).mono ?_; rintro e y1 ⟨rfl, hb1⟩; have l1 := bstep l0 hb1; clear hb1)
            refine wpI_takeD (some 113) (i := 12) (v := ?_) rfl rfl (by kernel_rfl) (by kernel_rfl) (by kernel_rfl) (fun _ _ _ h => h) ⟨by rfl, ?_⟩ ?_
            rotate_left
            · intro X hI; go_simp; try go_bits
              try rw [if_pos (by omega)]
              try with_reducible rfl
            refine wpI_takeD (some 114) (i := 13) (v := ?_) rfl rfl (by kernel_rfl) (by kernel_rfl) (by kernel_rfl) (fun _ _ _ h => h) ⟨by rfl, ?_⟩ ?_
            rotate_left
            · intro X hI; go_simp; try go_bits
              try rw [if_pos (by omega)]
              try with_reducible rfl
            refine wpI_at (a' := ?_) ?_ ?_
            rotate_left
            · go_simp; with_reducible rfl
            refine wpI_takeD (some 115) (i := 14) (v := ?_) rfl rfl (by kernel_rfl) (by kernel_rfl) (by kernel_rfl) (fun _ _ _ h => h) ⟨by rfl, ?_⟩ ?_
            rotate_left
            · intro X hI; go_simp; try go_bits
              try rw [if_pos (by omega)]
              try with_reducible rfl
            refine wpI_takeD (some 116) (i := 15) (v := ?_) rfl rfl (by kernel_rfl) (by kernel_rfl) (by kernel_rfl) (fun _ _ _ h => h) ⟨by rfl, ?_⟩ ?_
            rotate_left
            · intro X hI; go_simp; try go_bits
              try rw [if_pos (by omega)]
              try with_reducible rfl
            refine wpI_at (a' := ?_) ?_ ?_
            rotate_left
            · go_simp; with_reducible rfl
            refine wpI_takeD (some 117) (i := 16) (v := ?_) rfl rfl (by kernel_rfl) (by kernel_rfl) (by kernel_rfl) (fun _ _ _ h => h) ⟨by rfl, ?_⟩ ?_
            rotate_left
            · intro X hI; go_simp; try go_bits
              try rw [if_pos (by omega)]
              try with_reducible rfl
            refine wpI_takeD (some 118) (i := 17) (v := ?_) rfl rfl (by kernel_rfl) (by kernel_rfl) (by kernel_rfl) (fun _ _ _ h => h) ⟨by rfl, ?_⟩ ?_
            rotate_left
            · intro X hI; go_simp; try go_bits
              try rw [if_pos (by omega)]
              try with_reducible rfl
            refine wpI_at (a' := ?_) ?_ ?_
            rotate_left
            · go_simp; with_reducible rfl
            refine wpI_takeD (some 119) (i := 18) (v := ?_) rfl rfl (by kernel_rfl) (by kernel_rfl) (by kernel_rfl) (fun _ _ _ h => h) ⟨by rfl, ?_⟩ ?_
            rotate_left
            · intro X hI; go_simp; try go_bits
              try rw [if_pos (by omega)]
              try with_reducible rfl
            refine wpI_takeD (some 120) (i := 19) (v := ?_) rfl rfl (by kernel_rfl) (by kernel_rfl) (by kernel_rfl) (fun _ _ _ h => h) ⟨by rfl, ?_⟩ ?_
            rotate_left
            · intro X hI; go_simp; try go_bits
              try rw [if_pos (by omega)]
              try with_reducible rfl
            refine wpI_at (a' := ?_) ?_ ?_
            rotate_left
            · go_simp; with_reducible rfl
            refine wpI_takeD (some 121) (i := 20) (v := ?_) rfl rfl (by kernel_rfl) (by kernel_rfl) (by kernel_rfl) (fun _ _ _ h => h) ⟨by rfl, ?_⟩ ?_
            rotate_left
            · intro X hI; go_simp; try go_bits
              try rw [if_pos (by omega)]
              try with_reducible rfl
            refine wpI_takeD (some 122) (i := 21) (v := ?_) rfl rfl (by kernel_rfl) (by kernel_rfl) (by kernel_rfl) (fun _ _ _ h => h) ⟨by rfl, ?_⟩ ?_
            rotate_left
            · intro X hI; go_simp; try go_bits
              try rw [if_pos (by omega)]
              try with_reducible rfl
            refine wpI_at (a' := ?_) ?_ ?_
            rotate_left
            · go_simp; with_reducible rfl
            refine wpI_takeD (some 123) (i := 22) (v := ?_) rfl rfl (by kernel_rfl) (by kernel_rfl) (by kernel_rfl) (fun _ _ _ h => h) ⟨by rfl, ?_⟩ ?_
            rotate_left
            · intro X hI; go_simp; try go_bits
              try rw [if_pos (by omega)]
              try with_reducible rfl
            refine wpI_takeD (some 124) (i := 23) (v := ?_) rfl rfl (by kernel_rfl) (by kernel_rfl) (by kernel_rfl) (fun _ _ _ h => h) ⟨by rfl, ?_⟩ ?_
            rotate_left
            · intro X hI; go_simp; try go_bits
              try rw [if_pos (by omega)]
              try with_reducible rfl
            refine wpI_at (a' := ?_) ?_ ?_
            rotate_left
            · go_simp; with_reducible rfl
            refine wpI_takeD (some 125) (i := 24) (v := ?_) rfl rfl (by kernel_rfl) (by kernel_rfl) (by kernel_rfl) (fun _ _ _ h => h) ⟨by rfl, ?_⟩ ?_
            rotate_left
            · intro X hI; go_simp; try go_bits
              try rw [if_pos (by omega)]
              try with_reducible rfl
            refine wpI_takeD (some 126) (i := 25) (v := ?_) rfl rfl (by kernel_rfl) (by kernel_rfl) (by kernel_rfl) (fun _ _ _ h => h) ⟨by rfl, ?_⟩ ?_
            rotate_left
            · intro X hI; go_simp; try go_bits
              try rw [if_pos (by omega)]
              try with_reducible rfl
            refine wpI_at (a' := ?_) ?_ ?_
            rotate_left
            · go_simp; with_reducible rfl
            refine wpI_takeD (some 127) (i := 26) (v := ?_) rfl rfl (by kernel_rfl) (by kernel_rfl) (by kernel_rfl) (fun _ _ _ h => h) ⟨by rfl, ?_⟩ ?_
            rotate_left
            · intro X hI; go_simp; try go_bits
              try rw [if_pos (by omega)]
              try with_reducible rfl
            refine wpI_takeD (some 128) (i := 27) (v := ?_) rfl rfl (by kernel_rfl) (by kernel_rfl) (by kernel_rfl) (fun _ _ _ h => h) ⟨by rfl, ?_⟩ ?_
            rotate_left
            · intro X hI; go_simp; try go_bits
              try rw [if_pos (by omega)]
              try with_reducible rfl
            refine wpI_at (a' := ?_) ?_ ?_
            rotate_left
            · go_simp; with_reducible rfl
            refine wpI_takeD (some 129) (i := 28) (v := ?_) rfl rfl (by kernel_rfl) (by kernel_rfl) (by kernel_rfl) (fun _ _ _ h => h) ⟨by rfl, ?_⟩ ?_
            rotate_left
            · intro X hI; go_simp; try go_bits
              try rw [if_pos (by omega)]
              try with_reducible rfl
            refine wpI_takeD (some 130) (i := 29) (v := ?_) rfl rfl (by kernel_rfl) (by kernel_rfl) (by kernel_rfl) (fun _ _ _ h => h) ⟨by rfl, ?_⟩ ?_
            rotate_left
            · intro X hI; go_simp; try go_bits
              try rw [if_pos (by omega)]
              try with_reducible rfl
            refine wpI_at (a' := ?_) ?_ ?_
            rotate_left
            · go_simp; with_reducible rfl
            refine wpI_takeD (some 131) (i := 30) (v := ?_) rfl rfl (by kernel_rfl) (by kernel_rfl) (by kernel_rfl) (fun _ _ _ h => h) ⟨by rfl, ?_⟩ ?_
            rotate_left
            · intro X hI; go_simp; try go_bits
              try rw [if_pos (by omega)]
              try with_reducible rfl
            refine wpI_takeD (some 132) (i := 31) (v := ?_) rfl rfl (by kernel_rfl) (by kernel_rfl) (by kernel_rfl) (fun _ _ _ h => h) ⟨by rfl, ?_⟩ ?_
            rotate_left
            · intro X hI; go_simp; try go_bits
              try rw [if_pos (by omega)]
              try with_reducible rfl
            refine wpI_at (a' := ?_) ?_ ?_
            rotate_left
            · go_simp; with_reducible rfl
            refine wpI_takeD (some 133) (i := 32) (v := ?_) rfl rfl (by kernel_rfl) (by kernel_rfl) (by kernel_rfl) (fun _ _ _ h => h) ⟨by rfl, ?_⟩ ?_
            rotate_left
            · intro X hI; go_simp; try go_bits
              try rw [if_pos (by omega)]
              try with_reducible rfl
            refine wpI_takeD (some 134) (i := 33) (v := ?_) rfl rfl (by kernel_rfl) (by kernel_rfl) (by kernel_rfl) (fun _ _ _ h => h) ⟨by rfl, ?_⟩ ?_
            rotate_left
            · intro X hI; go_simp; try go_bits
              try rw [if_pos (by omega)]
              try with_reducible rfl
            refine wpI_at (a' := ?_) ?_ ?_
            rotate_left
            · go_simp; with_reducible rfl
            refine wpI_takeD (some 135) (i := 34) (v := ?_) rfl rfl (by kernel_rfl) (by kernel_rfl) (by kernel_rfl) (fun _ _ _ h => h) ⟨by rfl, ?_⟩ ?_
            rotate_left
            · intro X hI; go_simp; try go_bits
              try rw [if_pos (by omega)]
              try with_reducible rfl
            refine wpI_takeD (some 136) (i := 35) (v := ?_) rfl rfl (by kernel_rfl) (by kernel_rfl) (by kernel_rfl) (fun _ _ _ h => h) ⟨by rfl, ?_⟩ ?_
            rotate_left
            · intro X hI; have q1 := rW X hI; go_simp; try go_bits
              try rw [if_pos (by omega)]
              try with_reducible rfl
            refine wpI_at (a' := ?_) ?_ ?_
            rotate_left
            · go_simp; with_reducible rfl
            refine wpI_takeD (some 137) (i := 36) (v := ?_) rfl rfl (by kernel_rfl) (by kernel_rfl) (by kernel_rfl) (fun _ _ _ h => h) ⟨by rfl, ?_⟩ ?_
            rotate_left
            · intro X hI; go_simp; try go_bits
              try rw [if_pos (by omega)]
              try with_reducible rfl
            refine wpI_takeD (some 138) (i := 37) (v := ?_) rfl rfl (by kernel_rfl) (by kernel_rfl) (by kernel_rfl) (fun _ _ _ h => h) ⟨by rfl, ?_⟩ ?_
            rotate_left
            · intro X hI; go_simp; try go_bits
              try rw [if_pos (by omega)]
              try with_reducible rfl
            refine wpI_at (a' := ?_) ?_ ?_
            rotate_left
            · go_simp; with_reducible rfl
            refine wpI_takeD (some 139) (i := 38) (v := ?_) rfl rfl (by kernel_rfl) (by kernel_rfl) (by kernel_rfl) (fun _ _ _ h => h) ⟨by rfl, ?_⟩ ?_
            rotate_left
            · intro X hI; go_simp; try go_bits
              try rw [if_pos (by omega)]
              try with_reducible rfl
            refine wpI_takeD (some 140) (i := 39) (v := ?_) rfl rfl (by kernel_rfl) (by kernel_rfl) (by kernel_rfl) (fun _ _ _ h => h) ⟨by rfl, ?_⟩ ?_
            rotate_left
            · intro X hI; have q1 := rV X hI; go_simp; try go_bits
              try rw [if_pos (by omega)]
              try with_reducible rfl
            refine wpI_only (i := 40) rfl (by kernel_rfl) l1 (by rfl) ?_
            intro K hK
            go_simp
            go_wp2_with (go_at_call 12; refine (same_any e5.1 e5.2 e4 _).mono ?_; rintro e y2 ⟨rfl, hb2⟩; have l2 := bstep l1 hb2; clear hb2)
            refine wpI_takeD (some 142) (i := 41) (v := ?_) rfl rfl (by kernel_rfl) (by kernel_rfl) (by kernel_rfl) (fun _ _ _ h => h) ⟨by rfl, ?_⟩ ?_
            rotate_left
            · intro X hI; go_simp; try go_bits
              try rw [if_pos (by omega)]
              try with_reducible rfl
            refine wpI_at (a' := ?_) ?_ ?_
            rotate_left
            · go_simp; with_reducible rfl
            refine wpI_takeD (some 143) (i := 42) (v := ?_) rfl rfl (by kernel_rfl) (by kernel_rfl) (by kernel_rfl) (fun _ _ _ h => h) ⟨by rfl, ?_⟩ ?_
            rotate_left
            · intro X hI; go_simp; try go_bits
              try rw [if_pos (by omega)]
              try with_reducible rfl
            refine wpI_done l2 (by kernel_rfl) ?_ _
            go_wp2
            go_roundw
            case rel => exact ⟨k + 1, by go_num, by omega, bstep BI.out l2⟩
            case measure => simp [intOf]; omega
          · obtain rfl : k = c := by omega
            go_wp2
            go_roundw
            case rel => exact ⟨i + 1, by go_num, by omega, bstep B36.out BI.out⟩
            case measure => simp [intOf]; omega
      · obtain rfl : i = NN := by omega
        have BW : Hid (Below w.heap.size w wr) := bstep B3.out BL.out
        have hl := fp_lit wr 4613937818241073152 0 39
        have i6 := iPcs_good (n := 1) (c := 1) (h := 1) (j := 0) hl (by omega) (by omega) rfl (by omega) (HBR.out _ (bstep BW.out (below_one _ _)))
        go_wp2_with (go_at_call 6; refine i6.mono ?_; rintro e w9 ⟨o9, rfl, hp9, hb9⟩; obtain ⟨oa9, oc9, rfl⟩ := hp9.open; have B9 : Hid (Below w.heap.size w w9) := bstep (bstep BW.out (below_one _ _)) hb9; have hn1 : npc 1 1 1 = 1 := (by decide); clear hp9 hb9)
        go_ret
        exact ⟨by simp, B9.out⟩
  · rw [decide_eq_true (show (1048576 : Int) < n by omega)] at ib
    clear hr hb
    go_enter Tryz.func3, Tryz.ntmps3
    go_wp2_with (go_at_call 4; refine (ib _).mono ?_; rintro e w' ⟨rfl, hw⟩; obtain rfl := hw.symm)
    go_ret
    exact ⟨rfl, Below.refl _ _⟩

end Go.Proofs.YtddbekacdfohpaaGreatDoor
