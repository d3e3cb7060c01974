/- Pieces: the program. -/
import Derived.Test.YtlcnciibjhcbiaaDoorQE
namespace Go.Proofs.YtlcnciibjhcbiaaDoor
open Go.RowKit

/-- The capacity of a slice. -/
def capOf : Value → Nat
  | .slice _ _ c => c
  | _ => 0

theorem pcs_lt {w : World} {B n c : Nat} {o : Value} {C : Nat → Nat → Option Nat × Option Nat} (h : Pcs w B o n c C) (g : Nat) (hg : o.ownBlock = some g) : B ≤ g ∧ g < w.heap.size := by
  obtain ⟨gs, cs, F, X, Y, h1, _, _⟩ := h
  exact World.ownsRow.lt h1.row g hg

theorem pcs_some {w : World} {B n c g oc : Nat} {oo : Option Addr} {C : Nat → Nat → Option Nat × Option Nat} (h : Pcs w B (.slice oo n oc) n c C) (hg : (Value.slice oo n oc).ownBlock = some g) : ∃ _ : Nat, oo = some ⟨g, 0, none⟩ := by
  obtain ⟨gs, cs, F, X, Y, h1, _, _⟩ := h
  rcases h1.row.2 with ⟨h', _⟩ | ⟨g', cap', cur, h', _⟩
  · rw [h'] at hg
    cases hg
  · rw [h'] at hg
    injection hg with hg
    injection h' with e
    exact ⟨0, by rw [e, show g' = g from hg]⟩

theorem hv_next {w w' : World} {n G2 : Nat} {o : Value} {ob : Obj} (h : Hv w (n + 1) ⟨n, 0, none⟩ false) (hg : (w.alloc ob).grownBy w' o.ownBlock) (hs : ∀ go, o.ownBlock = some go → G2 ≤ go ∧ go < w.heap.size ∧ ∀ u, w.cell? ⟨go, 0, none⟩ = some u → ∃ a l c, u = .slice a l c) (h1 : 1 ≤ n) (h2 : G2 = n + 2) : Hv w' (n + 1) ⟨n, 0, none⟩ false := by
  have hb := h.below (below_one w ob)
  cases ho : o.ownBlock with
  | none =>
    rw [ho] at hg
    exact hb.kp (w' := w') ⟨hg.os, hg.tape, hg.output, hg.size, fun k hk _ => hg.block k hk (by simp)⟩ ⟨Nat.lt_of_lt_of_le hb.wh.1 hg.size, fun j hj => (hb.wh.2 j hj).same ⟨hg.os, hg.tape, hg.output, hg.size, fun k hk _ => hg.block k hk (by simp)⟩ (fun i _ => World.cell?_of_block (w := w.alloc ob) (a := ⟨n + 1, i, none⟩) (hg.block _ hb.wh.1 (by simp))) (fun i => World.frozen?_of_block (w := w.alloc ob) (a := ⟨n + 1, i, none⟩) (hg.block _ hb.wh.1 (by simp)))⟩
  | some go =>
    rw [ho] at hg
    obtain ⟨h3, hlt, h4⟩ := hs go ho
    refine hb.grown hg (fun u hu => ?_) (by omega) (by show go ≠ n; omega) (by omega)
    exact h4 u (((below_one w ob).cell (p := ⟨go, 0, none⟩) hlt).symm.trans hu)

set_option maxRecDepth 100000 in
theorem iPcs_bad {w : World} {v : Value} {n : Nat} {c h : Int} {xs ys : Nat → Nat} (hv : Fp w v n xs ys) (hn : n ≤ 1048576) (hg : ¬ GPc n c h) (C : Nat → Nat → Option Nat × Option Nat) :
    Calls Tryd.prog 16 #[v, .int .i64 c, .int .i64 h] w fun e w' => Ppe w w' e 0 0 C false := by
  have i1 := iH8_any c
  have hnot : ∀ (x : Bool) (w : World), (Op.unary .not (.bool x)).run Tryd.prog w = .ok (.bool (!x)) w := fun _ _ => rfl
  have OS : Hid (Pcs (w.alloc (.cells #[] 24)) w.heap.size (.slice (some ⟨w.heap.size, 0, none⟩) 0 0) 0 0 C) := Pcs.start w 0 _
  have BS : Hid (Below w.heap.size w (w.alloc (.cells #[] 24))) := below_one _ _
  obtain ⟨ao, cap, rfl, hcap, hcc⟩ := hv
  clear hcc
  by_cases h1 : H8 c
  · rw [decide_eq_true h1] at i1
    by_cases h2 : 1 ≤ h
    · by_cases h4 : h ≤ 128
      · have h3 : 128 < n := by omega
        have b1 : decide (h < 1) = false := by simp; omega
        have b2 : decide (128 < h) = false := by simp; omega
        clear hg h1
        go_enter Tryd.func16, Tryd.ntmps16
        go_wp2_with (first | (go_at_call 27; refine (i1 _).mono ?_; rintro e w' ⟨rfl, hw⟩; obtain rfl := hw.symm))
        go_ret2
        exact ⟨_, rfl, OS.out, BS.out⟩
      · have b1 : decide (h < 1) = false := by simp; omega
        have b2 : decide (128 < h) = true := by simp; omega
        clear hg h1
        go_enter Tryd.func16, Tryd.ntmps16
        go_wp2_with (first | (go_at_call 27; refine (i1 _).mono ?_; rintro e w' ⟨rfl, hw⟩; obtain rfl := hw.symm))
        go_ret2
        exact ⟨_, rfl, OS.out, BS.out⟩
    · have b1 : decide (h < 1) = true := by simp; omega
      clear hg h1
      go_enter Tryd.func16, Tryd.ntmps16
      go_wp2_with (first | (go_at_call 27; refine (i1 _).mono ?_; rintro e w' ⟨rfl, hw⟩; obtain rfl := hw.symm))
      go_ret2
      exact ⟨_, rfl, OS.out, BS.out⟩
  · rw [decide_eq_false h1] at i1
    clear hg h1
    go_enter Tryd.func16, Tryd.ntmps16
    go_wp2_with (first | (go_at_call 27; refine (i1 _).mono ?_; rintro e w' ⟨rfl, hw⟩; obtain rfl := hw.symm))
    go_ret2
    exact ⟨_, rfl, OS.out, BS.out⟩

set_option maxRecDepth 100000 in
set_option maxHeartbeats 4000000 in
theorem iPcs_good {w : World} {v : Value} {n c h j : Nat} {xs ys : Nat → Nat} (hv : Fp w v n xs ys) (hn : n ≤ 128) (hj : j < 8) (hc : c = 2 ^ j) (hh : 1 ≤ h ∧ h ≤ 128) (hbr : Brj w) :
    Calls Tryd.prog 16 #[v, .int .i64 (c : Int), .int .i64 (h : Int)] w fun e w' => Ppe w w' e (npc n c h) c (pcC j h xs ys) true := by
  have h8 := pow_cases hj hc
  have hc1 : 1 ≤ c ∧ c ≤ 128 := by omega
  have i1 := iH8_any (c : Int)
  rw [decide_eq_true (show H8 (c : Int) by omega)] at i1
  have b1 : decide ((h : Int) < 1) = false := by simp; omega
  have b2 : decide (128 < (h : Int)) = false := by simp; omega
  have b3 : decide (128 < (n : Int)) = false := by simp; omega
  have j2 := new_any false w
  have hnot : ∀ (x : Bool) (w : World), (Op.unary .not (.bool x)).run Tryd.prog w = .ok (.bool (!x)) w := fun _ _ => rfl
  have HV : Hid (Fp w v n xs ys) := hv
  have HJ : Hid (c = 2 ^ j) := hc
  have HBR : Hid (Brj w) := hbr
  have HNP : Hid (npc n c h ≤ 128) := Nat.le_trans (npc_le hc1.1) hn
  obtain ⟨ao, cap, rfl, hcap, hcc⟩ := hv
  have HCC : Hid (0 < n → ∃ b off, ao = some ⟨b, off, none⟩ ∧ b < w.heap.size) := fun h0 => by obtain ⟨b, off, h1, h2, _⟩ := hcc h0; exact ⟨b, off, h1, h2⟩
  clear hcc hc h8 hbr
  obtain ⟨np, hnp⟩ : ∃ np, np = npc n c h := ⟨_, rfl⟩
  rw [← hnp] at HNP ⊢
  have HQ : Hid (np = npc n c h) := hnp
  clear hnp
  go_enter Tryd.func16, Tryd.ntmps16
  go_wp2_with (first
    | (go_at_call 27; refine (i1 _).mono ?_; rintro e w' ⟨rfl, hw⟩; obtain rfl := hw.symm)
    | (go_at_call 29; (with_reducible refine j2.mono ?_); rintro e w2 ⟨rfl, h1, h2, h3, b2⟩; have bl2 := below_one w2 (.cells #[] 24); have H2 : Hid (Hv (w2.alloc (.cells #[] 24)) (w.heap.size + 1) ⟨w.heap.size, 0, none⟩ false) := Hv.below ⟨h1, HBR.out.below b2, by have := HBR.out.size; omega, h2, by simp⟩ bl2; have B2 : Hid (Below w.heap.size w (w2.alloc (.cells #[] 24))) := bstep b2 bl2; have S2 : Hid (w2.heap.size = w.heap.size + 2) := h3; have P2 : Hid (Pcs (w2.alloc (.cells #[] 24)) w2.heap.size (.slice (some ⟨w2.heap.size, 0, none⟩) 0 0) 0 c (pcC j h xs ys)) := Pcs.start w2 c _; have BB2 : Hid (w2.heap.size ≤ (w2.alloc (.cells #[] 24)).heap.size) := bl2.size; clear h1 h2 h3 b2 j2 bl2))
  clear i1
  go_loopw [9, 10] (fun o i wr => ∃ q a : Nat, i = .int .i64 (a : Int) ∧ q ≤ np ∧ a ≤ 256 ∧ Hid (a = q * h ∧ Pcs wr w2.heap.size o q c (pcC j h xs ys) ∧ Below w.heap.size w wr ∧ Hv wr (w.heap.size + 1) ⟨w.heap.size, 0, none⟩ false ∧ w2.heap.size ≤ wr.heap.size ∧ (q = 0 → capOf o = 0))) (fun _ i _ => 400 - (intOf i).toNat)
  case atStart => exact ⟨0, 0, rfl, by omega, by omega, (Nat.zero_mul h).symm, P2.out, B2.out, H2.out, BB2.out, fun _ => rfl⟩
  case round =>
    obtain ⟨q, a, rfl, hq, ha, hrel⟩ := hrel
    obtain ⟨haq, hP, hB, hH, hS, hq0⟩ := hrel.out
    obtain ⟨oo, oc, rfl⟩ := hP.open
    have HAQ : Hid (a = q * h) := haq
    have HP : Hid (Pcs wr w2.heap.size (.slice oo q oc) q c (pcC j h xs ys)) := hP
    have HBW : Hid (Below w.heap.size w wr) := hB
    have HHV : Hid (Hv wr (w.heap.size + 1) ⟨w.heap.size, 0, none⟩ false) := hH
    have HSS : Hid (w2.heap.size ≤ wr.heap.size) := hS
    have HFST : Hid (∀ go, (Value.slice oo q oc).ownBlock = some go → ∀ W, Kp (w.heap.size + 1) wr W → w2.heap.size ≤ go ∧ go < W.heap.size ∧ ∀ u, W.cell? ⟨go, 0, none⟩ = some u → ∃ a l c, u = .slice a l c) := fun go hgo W hW => by
      have hlt := pcs_lt hP go hgo
      obtain ⟨oo', rfl⟩ : ∃ x : Nat, oo = some ⟨go, 0, none⟩ := pcs_some hP hgo
      refine ⟨hlt.1, Nat.lt_of_lt_of_le hlt.2 hW.size, fun u hu => hP.first hq0 u ?_⟩
      rw [← hu]
      exact (hW.cell (p := ⟨go, 0, none⟩) hlt.2 (by have := S2.out; have := hlt.1; show go ≠ w.heap.size + 1; omega)).symm
    by_cases h1 : a + c ≤ n
    · obtain ⟨b, off, rfl, hlt⟩ := HCC.out (by omega)
      have hqn : q < np := by rw [HQ.out]; exact (npc_lt hh.1).1 (by rw [← haq]; exact h1)
      have ha2 : a + h ≤ 256 := by have := npc_at (n := n) (c := c) (h := h) (q := q + 1) hh.1 hh.2 hn (by rw [← HQ.out]; omega); rw [Nat.add_mul, Nat.one_mul, ← haq] at this; exact this
      have FC : Fp wr (.slice (some ⟨b, off + a * 2, none⟩) c (cap - a)) c (fun t => xs (a + t)) (fun t => ys (a + t)) := fp_cut (HV.out.below hB) h1 (by omega)
      have j1 := toCs_any FC (by omega)
      have d1 : (a : Int) + (c : Int) - (a : Int) = (c : Int) := by omega
      have d2 : ¬ (cap = a) := by omega
      have hq128 : q ≤ 128 := by have := HNP.out; omega
      clear hrel hP hB haq hH hS hq0 FC P2 B2 H2 BB2 hlt
      go_wp2_with (first
        | (go_at_call 28; (with_reducible refine j1.mono ?_); rintro e w3 ⟨rfl, z3, b3⟩; have Z3 : Hid (Zr w3 wr.heap.size c (fun t => xs (a + t)) (fun t => ys (a + t))) := z3; have B3 : Hid (Below wr.heap.size wr w3) := b3; have hlw : w.heap.size + 2 ≤ wr.heap.size := S2.out ▸ HSS.out; have j3 := halves_any j hj c HJ.out false w3 (w.heap.size + 1) ⟨w.heap.size, 0, none⟩ wr.heap.size _ _ (fun t => (cn (xs (a + t)), cn (ys (a + t)))) (HHV.out.below b3) z3 (by omega) (fun k _ => rfl); clear z3 b3 j1)
        | (go_at_call 37; (with_reducible refine j3.mono ?_); rintro e w4 ⟨g4, X4, Y4, rfl, z4, _, f4, wh4, k4⟩; have Z4 : Hid (Zr w4 g4 c X4 Y4) := z4; have F4 : Hid (∀ k, k < c → (cn (X4 k), cn (Y4 k)) = fast false j (fun t => (cn (xs (a + t)), cn (ys (a + t)))) k) := f4; have K4 : Hid (Kp (w.heap.size + 1) wr w4) := (((Kp.refl _ wr).below B3.out).trans k4); have H4 : Hid (Hv w4 (w.heap.size + 1) ⟨w.heap.size, 0, none⟩ false) := (HHV.out.below B3.out).kp k4 wh4; have j4 := toPs_any z4 (by omega); clear z4 f4 k4 wh4 j3)
        | (go_at_call 34; (with_reducible refine j4.mono ?_); rintro e w5 ⟨b5, u5, L5, rfl, f5, o5⟩; have K5 : Hid (Kp (w.heap.size + 1) wr w5) := K4.out.below b5; have H5 : Hid (Hv w5 (w.heap.size + 1) ⟨w.heap.size, 0, none⟩ false) := H4.out.below b5; obtain ⟨v6, w6, ha6, hp6, hb6, hg6⟩ := Pcs.app (w := w5) HP.out (fun g hg hl => K5.out.block g hl (by have := S2.out; omega)) K5.out.size HSS.out (by omega) (own_base o5 K4.out.size) f5 (fun k hk => (F4.out k hk).trans (by rw [HAQ.out]; rfl)) hq128; have B6 : Hid (Below w.heap.size w w6) := (Kp.after HBW.out (by omega) (by omega) K5.out).trans (hb6.mono (by have := S2.out; omega)); have P6 : Hid (Pcs w6 w2.heap.size v6 (q + 1) c (pcC j h xs ys)) := hp6; have HA6 : Hid _ := ha6; have HH6 : Hid (Hv w6 (w.heap.size + 1) ⟨w.heap.size, 0, none⟩ false) := hv_next H5.out hg6 (fun go hgo => (HFST.out go hgo _ K5.out)) (by have := HBR.out.size; omega) S2.out; have SS6 : Hid (w2.heap.size ≤ w6.heap.size) := Nat.le_trans (Nat.le_trans HSS.out K5.out.size) hb6.size; obtain ⟨ua, uc, hu, _⟩ := f5; subst hu; clear ha6 hp6 hb6 hg6 o5 b5 j4)
        | (at_builtin; refine wpList_appr rfl _ _ rfl rfl rfl rfl HA6.out ?_))
      go_roundw
      case rel => exact ⟨q + 1, a + h, by go_num, by omega, by omega, by rw [Nat.add_mul, Nat.one_mul, ← HAQ.out], P6.out, B6.out, HH6.out, SS6.out, fun h => by omega⟩
      case measure => simp [intOf]; omega
    · have hqn : q = np := by
        rcases Nat.lt_or_ge q np with h2 | h2
        · exact absurd ((npc_lt (n := n) (c := c) hh.1).2 (by rw [← HQ.out]; exact h2)) (by rw [← haq]; exact h1)
        · omega
      subst hqn
      have PB : Hid (Pcs wr w.heap.size (.slice oo q oc) q c (pcC j h xs ys)) := HP.out.base (by have := S2.out; omega)
      clear hrel hP hB haq hH hS hq0 HFST
      go_wp2
      go_ret2
      exact ⟨_, rfl, PB.out, HBW.out⟩
end Go.Proofs.YtlcnciibjhcbiaaDoor
