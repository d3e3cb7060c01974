/- Pieces: the model. -/
import Derived.Test.YtlcnciibjhcbiaaDoorQE
namespace Go.Proofs.YtlcnciibjhcbiaaDoor
open Go.RowKit

set_option maxRecDepth 100000 in
set_option maxHeartbeats 4000000 in
theorem sPcs_good {w : World} {v : Value} {n c h j : Nat} {xs ys : Nat → Nat} (hv : Fp w v n xs ys) (hn : n ≤ 128) (hj : j < 8) (hc : c = 2 ^ j) (hh : 1 ≤ h ∧ h ≤ 128) :
    Calls Tryd.prog 15 #[v, .int .i64 (c : Int), .int .i64 (h : Int)] w fun e w' => Ppe w w' e (npc n c h) c (pcC j h xs ys) true := by
  have h8 := pow_cases hj hc
  have hc1 : 1 ≤ c ∧ c ≤ 128 := by omega
  have i1 := sH8_any (c : Int)
  rw [decide_eq_true (show H8 (c : Int) by omega)] at i1
  have i2 := Wv.in_any (h : Int) 1 128
  rw [decide_eq_true (by omega)] at i2
  have hnot : ∀ (x : Bool) (w : World), (Op.unary .not (.bool x)).run Tryd.prog w = .ok (.bool (!x)) w := fun _ _ => rfl
  have HV : Hid (Fp w v n xs ys) := hv
  have HJ : Hid (c = 2 ^ j) := hc
  have OS : Hid (Pcs (w.alloc (.cells #[] 24)) w.heap.size (.slice (some ⟨w.heap.size, 0, none⟩) 0 0) 0 c (pcC j h xs ys)) := Pcs.start w c _
  have BS : Hid (Below w.heap.size w (w.alloc (.cells #[] 24))) := below_one _ _
  have HNP : Hid (npc n c h ≤ 128) := Nat.le_trans (npc_le hc1.1) hn
  obtain ⟨ao, cap, rfl, hcap, hcc⟩ := hv
  have HCC : Hid (0 < n → ∃ b off, ao = some ⟨b, off, none⟩ ∧ b < w.heap.size) := fun h0 => by obtain ⟨b, off, h1, h2, _⟩ := hcc h0; exact ⟨b, off, h1, h2⟩
  clear hcc hc h8
  obtain ⟨np, hnp⟩ : ∃ np, np = npc n c h := ⟨_, rfl⟩
  rw [← hnp] at HNP ⊢
  have HQ : Hid (np = npc n c h) := hnp
  clear hnp
  go_enter Tryd.func15, Tryd.ntmps15
  go_wp2_with (first | (go_at_call 20; refine (i1 _).mono ?_; rintro e w' ⟨rfl, hw⟩; obtain rfl := hw.symm) | (go_at_call 38; refine (i2 _).mono ?_; rintro e w' ⟨rfl, hw⟩; obtain rfl := hw.symm))
  clear i1 i2
  go_loopw [8, 9, 10, 11] (fun o i _ _ wr => ∃ q a : Nat, i = .int .i64 (a : Int) ∧ q ≤ np ∧ a ≤ 256 ∧ Hid (a = q * h ∧ Pcs wr w.heap.size o q c (pcC j h xs ys) ∧ Below w.heap.size w wr)) (fun _ i _ _ _ => 400 - (intOf i).toNat)
  case atStart => exact ⟨0, 0, rfl, by omega, by omega, (Nat.zero_mul h).symm, OS.out, BS.out⟩
  case round =>
    obtain ⟨q, a, rfl, hq, ha, hrel⟩ := hrel
    obtain ⟨haq, hP, hB⟩ := hrel.out
    obtain ⟨oo, oc, rfl⟩ := hP.open
    have HAQ : Hid (a = q * h) := haq
    have HP : Hid (Pcs wr w.heap.size (.slice oo q oc) q c (pcC j h xs ys)) := hP
    have HBW : Hid (Below w.heap.size w wr) := hB
    by_cases h1 : a + c ≤ n
    · obtain ⟨b, off, rfl, hlt⟩ := HCC.out (by omega)
      have hqn : q < np := by rw [HQ.out]; exact (npc_lt hh.1).1 (by rw [← haq]; exact h1)
      have ha2 : a + h ≤ 256 := by have := npc_at (n := n) (c := c) (h := h) (q := q + 1) hh.1 hh.2 hn (by rw [← HQ.out]; omega); rw [Nat.add_mul, Nat.one_mul, ← haq] at this; exact this
      have j1 := sFast_own (fp_cut (HV.out.below hB) h1 (by omega)) hj HJ.out
      have d1 : (a : Int) + (c : Int) - (a : Int) = (c : Int) := by omega
      have d2 : ¬ (cap = a) := by omega
      have hq128 : q ≤ 128 := by have := HNP.out; omega
      have HSZ : Hid (w.heap.size ≤ wr.heap.size) := hB.size
      clear hrel hP hB haq
      go_wp2_with (first | (go_at_call 13; refine j1.mono ?_; rintro e w2 ⟨u, X2, Y2, L2, rfl, f2, v2, o2, b2⟩; obtain ⟨v5, w5, ha5, hp5, hb5, _⟩ := Pcs.app (w := w2) HP.out (fun g _ hl => b2.block g hl) b2.size HSZ.out (by omega) o2 f2 (fun k hk => (v2 k hk).trans (by rw [HAQ.out, HJ.out]; rfl)) hq128; have B5 : Hid (Below w.heap.size w w5) := ((bstep HBW.out b2).trans hb5); have P5 : Hid (Pcs w5 w.heap.size v5 (q + 1) c (pcC j h xs ys)) := hp5; have HA5 : Hid _ := ha5; obtain ⟨ua, uc, hu, _⟩ := f2; subst hu; clear ha5 hb5 hp5 v2 o2 b2 j1) | (at_builtin; refine wpList_appr rfl _ _ rfl rfl rfl rfl HA5.out ?_))
      go_roundw
      case rel => exact ⟨q + 1, a + h, by go_num, by omega, by omega, by rw [Nat.add_mul, Nat.one_mul, ← HAQ.out], P5.out, B5.out⟩
      case measure => simp [intOf]; omega
    · have hqn : q = np := by
        rcases Nat.lt_or_ge q np with h2 | h2
        · exact absurd ((npc_lt (n := n) (c := c) hh.1).2 (by rw [← HQ.out]; exact h2)) (by rw [← haq]; exact h1)
        · omega
      subst hqn
      clear hrel hP hB haq
      go_wp2
      go_ret2
      exact ⟨_, rfl, HP.out, HBW.out⟩

set_option maxRecDepth 100000 in
theorem sPcs_bad {w : World} {v : Value} {n : Nat} {c h : Int} {xs ys : Nat → Nat} (hv : Fp w v n xs ys) (hn : n ≤ 1048576) (hg : ¬ GPc n c h) (C : Nat → Nat → Option Nat × Option Nat) :
    Calls Tryd.prog 15 #[v, .int .i64 c, .int .i64 h] w fun e w' => Ppe w w' e 0 0 C false := by
  have i1 := sH8_any c
  have i2 := Wv.in_any h 1 128
  have hnot : ∀ (x : Bool) (w : World), (Op.unary .not (.bool x)).run Tryd.prog w = .ok (.bool (!x)) w := fun _ _ => rfl
  have OS : Hid (Pcs (w.alloc (.cells #[] 24)) w.heap.size (.slice (some ⟨w.heap.size, 0, none⟩) 0 0) 0 0 C) := Pcs.start w 0 _
  have BS : Hid (Below w.heap.size w (w.alloc (.cells #[] 24))) := below_one _ _
  obtain ⟨ao, cap, rfl, hcap, hcc⟩ := hv
  clear hcc
  by_cases h1 : H8 c
  · rw [decide_eq_true h1] at i1
    by_cases h2 : 1 ≤ h ∧ h ≤ 128
    · rw [decide_eq_true h2] at i2
      have h3 : 128 < n := by omega
      clear hg h1
      go_enter Tryd.func15, Tryd.ntmps15
      go_wp2_with (first | (go_at_call 20; refine (i1 _).mono ?_; rintro e w' ⟨rfl, hw⟩; obtain rfl := hw.symm) | (go_at_call 38; refine (i2 _).mono ?_; rintro e w' ⟨rfl, hw⟩; obtain rfl := hw.symm))
      go_ret2
      exact ⟨_, rfl, OS.out, BS.out⟩
    · rw [decide_eq_false h2] at i2
      clear hg h1 h2
      go_enter Tryd.func15, Tryd.ntmps15
      go_wp2_with (first | (go_at_call 20; refine (i1 _).mono ?_; rintro e w' ⟨rfl, hw⟩; obtain rfl := hw.symm) | (go_at_call 38; refine (i2 _).mono ?_; rintro e w' ⟨rfl, hw⟩; obtain rfl := hw.symm))
      go_ret2
      exact ⟨_, rfl, OS.out, BS.out⟩
  · rw [decide_eq_false h1] at i1
    clear hg h1
    go_enter Tryd.func15, Tryd.ntmps15
    go_wp2_with (first | (go_at_call 20; refine (i1 _).mono ?_; rintro e w' ⟨rfl, hw⟩; obtain rfl := hw.symm))
    go_ret2
    exact ⟨_, rfl, OS.out, BS.out⟩
end Go.Proofs.YtlcnciibjhcbiaaDoor
