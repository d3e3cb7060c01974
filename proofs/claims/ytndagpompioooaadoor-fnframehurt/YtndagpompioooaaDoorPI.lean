/- PackFrame: the program. -/
import Derived.Test.YtndagpompioooaaDoorPF
import Derived.Test.YtndagpompioooaaDoorSJ
import Derived.Test.YtndagpompioooaaDoorCI
import Derived.Test.YtndagpompioooaaDoorPN
import Derived.Test.YtndagpompioooaaDoorRE
import Derived.Test.YtndagpompioooaaDoorRW
namespace Go.Proofs.YtndagpompioooaaDoor
open Go.RowKit

theorem size_any (x : Int) (w : World) : Calls Tryd.prog 56 #[.int .i64 x] w fun e w' => e = .returned (.bool (decide (1 ≤ x ∧ x ≤ 128))) ∧ w' = w := by
  go_enter Tryd.func56, Tryd.ntmps56
  by_cases h : 1 ≤ x
  · by_cases h1 : x ≤ 128
    · go_wp2
      go_ret
      exact ⟨by simp [h, h1], rfl⟩
    · go_wp2
      go_ret
      exact ⟨by simp [h1], rfl⟩
  · go_wp2
    go_ret
    exact ⟨by simp; omega, rfl⟩

theorem nil_il (w : World) (f : Nat → Int) : Il w (.slice none 0 0) 0 f := ⟨_, _, rfl, Nat.le_refl _, fun h => absurd h (Nat.lt_irrefl _)⟩

set_option maxRecDepth 20000 in
set_option maxHeartbeats 8000000 in
theorem iFrame_good {w : World} {v : Value} {n : Nat} {xs : Nat → Int} (hv : Il w v n xs) (hn : 1 ≤ n ∧ n ≤ 128) (h : Sig n xs) {q : Nat} (hq : q = min n 4) {a k C : Nat} (hs : shp n xs q = ((a : Int), (k : Int), C)) {M : Nat} (hM : M = 3 + (C + 7) / 8) :
    Calls Tryd.prog 20 #[v] w fun e w' => Psb w w' e (M + 2) (frm M (fr0 n a k C (lf (ric k (gus a xs) n)))) true := by
  obtain ⟨i0, hi, hz0, hz1, hz2⟩ := info_parts Tryd.info5
  have ht := shp_told (n := n) (xs := xs) q
  rw [hs] at ht
  obtain ⟨haq, hk, hC, hCr, hRc⟩ : a < q ∧ k ≤ 30 ∧ C ≤ 100000 ∧ C = rbt k (gus a xs) n ∧ Rc n (gus a xs) := by
    rcases ht with ht | ⟨o', k', C', e1, e2, e3, e4, e5, e6⟩
    · injection ht with ht _
      omega
    · injection e1 with e7 e8
      injection e8 with e8 e9
      obtain rfl : a = o' := by omega
      obtain rfl : k = k' := by omega
      subst e9
      exact ⟨e2, e3, e4, e5, e6⟩
  clear ht
  have ha : a ≤ 3 := by omega
  have i1 := size_any (n : Int) w
  rw [decide_eq_true (by omega)] at i1
  have HSH : Hid (Calls Tryd.prog 61 #[v] w fun e w' => ∃ xa xc, e = .returned (.tuple #[.agg #[.int .i64 (a : Int), .int .i64 (k : Int), .slice xa n xc], .bool true]) ∧ Il w' (.slice xa n xc) n (gus a xs) ∧ Below w.heap.size w w') := by
    refine (shape_good hv h hn.2 hq).mono ?_
    rintro e w' (⟨e1, _⟩ | ⟨a', k', C', u, e1, e2, e3, e4, rfl, hu, hb⟩)
    · rw [hs] at e1
      injection e1 with e1 _
      omega
    · rw [hs] at e1
      injection e1 with e7 e8
      injection e8 with e8 e9
      obtain rfl : a = a' := by omega
      obtain rfl : k = k' := by omega
      have hu2 := hu
      obtain ⟨ua, uc, rfl, _⟩ := hu2
      exact ⟨_, _, rfl, hu, hb⟩
  have HRI : Hid (∀ W u, Il W u n (gus a xs) → Calls Tryd.prog 13 #[.int .i64 (k : Int), u] W fun e w' => Pst W w' e C (lf (ric k (gus a xs) n)) true) := fun W u hu => iRice_good hu hRc hk (by omega) hCr
  have HBI : Hid (∀ i, i < C → Bit (lf (ric k (gus a xs) n) i)) := ric_bit hCr
  obtain ⟨L, hL⟩ : ∃ L : Nat → Int, L = lf (ric k (gus a xs) n) := ⟨_, rfl⟩
  rw [← hL] at HRI HBI
  rw [← hL]
  clear hL hRc hCr hs h hq haq
  obtain ⟨Q, hQ⟩ : ∃ Q, Q = (C + 7) / 8 := ⟨_, rfl⟩
  have hQ1 : Q ≤ 12501 := by omega
  have HBY : Hid (∀ W u, Il W u C L → Calls Tryd.prog 62 #[u] W fun e w' => ∃ x, e = .returned x ∧ w'.ownsRow W.heap.size 5 1 x Q (bls (pk8 C L) Q) ∧ Below W.heap.size W w') := fun W u hu => bytes_any hu HBI.out hC hQ
  rw [← hQ] at hM
  have HFB : Hid (Byt M (fr0 n a k C L)) := by rw [hM]; exact fr0_byt hn.2 ha hk HBI.out
  have HF0 : Hid ([Value.int .u8 70, .int .u8 ((n - 1 : Nat) : Int), .int .u8 ((32 * a + k : Nat) : Int)] ++ bls (pk8 C L) Q = bls (fr0 n a k C L) M) := by rw [hM]; exact fr0_all n a k C Q L
  have hcl : crc (fr0 n a k C L) M < 65536 := crc_lt HFB.out M (Nat.le_refl _)
  have hcv : crv M (fr0 n a k C L) = ((crc (fr0 n a k C L) M : Nat) : Int) := by unfold crv; rw [if_neg (by omega)]
  have HFA := frm_all M (fr0 n a k C L)
  generalize fr0 n a k C L = f at *
  have HF9 : Hid (bls f M ++ [.int .u8 ((crc f M / 256 : Nat) : Int), .int .u8 ((crc f M % 256 : Nat) : Int)] = bls (frm M f) (M + 2)) := HFA
  have HCV : Hid (crv M f = ((crc f M : Nat) : Int)) := hcv
  obtain ⟨c, hc9⟩ : ∃ c, c = crc f M := ⟨_, rfl⟩
  rw [← hc9] at hcl HCV HF9
  obtain ⟨g1, hg1⟩ : ∃ g1 : Nat, g1 = n - 1 := ⟨_, rfl⟩
  obtain ⟨g2, hg2⟩ : ∃ g2 : Nat, g2 = 32 * a + k := ⟨_, rfl⟩
  obtain ⟨ch, hch⟩ : ∃ ch : Nat, ch = c / 256 := ⟨_, rfl⟩
  obtain ⟨cl, hcl2⟩ : ∃ cl : Nat, cl = c % 256 := ⟨_, rfl⟩
  rw [← hch, ← hcl2] at HF9
  rw [← hg1, ← hg2] at HF0
  have e1 : IntKind.u8.wrap ((n : Int) - 1) = (g1 : Int) := by rw [IntKind.wrap_u8']; omega
  have e2 : IntKind.u8.wrap (32 * (a : Int) + (k : Int)) = (g2 : Int) := by rw [IntKind.wrap_u8']; omega
  have e3 : (c : Int) / 256 = (ch : Int) := by omega
  have e4 : IntKind.u8.wrap (ch : Int) = (ch : Int) := by rw [IntKind.wrap_u8']; omega
  have e5 : IntKind.u8.wrap (c : Int) = (cl : Int) := by rw [IntKind.wrap_u8']; omega
  have hMb : M ≤ 12504 := by omega
  have HM : Hid (M = 3 + Q) := hM
  obtain ⟨ao, cap, rfl, hcap, hc⟩ := hv
  clear hc HFA hcv hc9 hg1 hg2 hch hcl2 hQ hM
  go_enter Tryd.func20, Tryd.ntmps20
  go_upto_region 3 with (first | (go_at_call 56; (with_reducible refine (i1).mono ?_); rintro e w' ⟨rfl, hw⟩; obtain rfl := hw.symm))
  clear i1
  go_upto_region 4 with (first
    | (go_at_call 61; refine HSH.out.mono ?_; rintro e w1 ⟨xa, xc, rfl, hu, hb⟩; have HU : Hid (Il w1 (.slice xa n xc) n (gus a xs)) := hu; have B1 : Hid (Below w.heap.size w w1) := hb; clear hu hb))
  have HSB : Hid (Sh (w1.alloc (.cells #[.int .i64 (a : Int), .int .i64 (k : Int), .slice xa n xc] 74)) w1.heap.size (a : Int) (k : Int) (.slice xa n xc)) := Sh.new _ _ _ _ _
  have HU : Hid (Il (w1.alloc (.cells #[.int .i64 (a : Int), .int .i64 (k : Int), .slice xa n xc] 74)) (.slice xa n xc) n (gus a xs)) := HU.out.below (below_one _ _)
  have B2 : Hid (Below w.heap.size w (w1.alloc (.cells #[.int .i64 (a : Int), .int .i64 (k : Int), .slice xa n xc] 74))) := bstep B1.out (below_one _ _)
  generalize w1.alloc (.cells #[.int .i64 (a : Int), .int .i64 (k : Int), .slice xa n xc] 74) = W2 at *
  obtain ⟨G, hG⟩ : ∃ G, G = w1.heap.size := ⟨_, rfl⟩
  rw [← hG] at HSB
  rw [← hG]
  clear hG HSH B1
  obtain ⟨c0, c1, c2, _, _, _⟩ := HSB.out
  go_upto_region 5 with (first
    | (go_at_call 13; refine (HRI.out _ _ HU.out).mono ?_; rintro e w3 ⟨x3, rfl, hq, hb⟩; have HX : Hid (Il w3 x3 C L) := il_of_own hq; have HSB3 : Hid (Sh w3 G (a : Int) (k : Int) (.slice xa n xc)) := HSB.out.below hb; have B3 : Hid (Below w.heap.size w w3) := bstep B2.out hb; clear hq hb))
  clear HSB B2 HU HRI c0 c1 c2
  obtain ⟨c0, c1, c2, _, _, _⟩ := HSB3.out
  have O4 : Hid ((w3.alloc (.cells #[.int .u8 70, .int .u8 (g1 : Int), .int .u8 (g2 : Int)] 5)).ownsRow w.heap.size 5 1 (.slice (some ⟨w3.heap.size, 0, none⟩) 3 3) 3 [.int .u8 70, .int .u8 (g1 : Int), .int .u8 (g2 : Int)]) := own_base (three_own w3 70 g1 g2) B3.out.size
  have B4 : Hid (Below w.heap.size w (w3.alloc (.cells #[.int .u8 70, .int .u8 (g1 : Int), .int .u8 (g2 : Int)] 5))) := bstep B3.out (below_one _ _)
  have HX4 : Hid (Il (w3.alloc (.cells #[.int .u8 70, .int .u8 (g1 : Int), .int .u8 (g2 : Int)] 5)) x3 C L) := HX.out.below (below_one _ _)
  go_upto_region 8 with fail
  generalize w3.alloc (.cells #[.int .u8 70, .int .u8 (g1 : Int), .int .u8 (g2 : Int)] 5) = W4 at *
  clear HSB3 c0 c1 c2 HX B3
  go_upto_region 10 with (first
    | (go_at_call 62; refine (HBY.out _ _ HX4.out).mono ?_; rintro e w5 ⟨x5, rfl, hq, hb⟩; have HX5 : Hid (Bl w5 x5 Q (pk8 C L)) := bl_of_own hq; have O5 : Hid (w5.ownsRow w.heap.size 5 1 (.slice (some ⟨w3.heap.size, 0, none⟩) 3 3) 3 [.int .u8 70, .int .u8 (g1 : Int), .int .u8 (g2 : Int)]) := own_below O4.out hb; have B5 : Hid (Below w.heap.size w w5) := bstep B4.out hb; clear hq hb)
    | (at_builtin; refine wpList_appb rfl _ _ rfl w.heap.size _ _ 3 Q [.int .u8 70, .int .u8 (g1 : Int), .int .u8 (g2 : Int)] (pk8 C L) rfl rfl O5.out HX5.out (by omega) B5.out.size ?_; intro x6 w6 hown hgrow; have O6 : Hid (w6.ownsRow w.heap.size 5 1 x6 M (bls f M)) := (by have h := hown; rw [HF0.out, ← HM.out] at h; exact h); have B6 : Hid (Below w.heap.size w w6) := grown_below B5.out (Nat.le_refl _) O5.out hgrow; have i7 := iCrc_any (bl_of_own O6.out) HFB.out (by omega); rw [HCV.out] at i7; clear hown hgrow)
    | (go_at_call 63; (with_reducible refine i7.mono ?_); rintro e w' ⟨rfl, hw⟩; obtain rfl := hw.symm))
  clear i7 O4 B4 HX4 O5 B5 HX5
  have O7 : Hid ((w6.alloc (.cells #[.int .u8 (ch : Int), .int .u8 (cl : Int)] 5)).ownsRow w.heap.size 5 1 x6 M (bls f M)) := own_below O6.out (below_one _ _)
  have B7 : Hid (Below w.heap.size w (w6.alloc (.cells #[.int .u8 (ch : Int), .int .u8 (cl : Int)] 5))) := bstep B6.out (below_one _ _)
  go_wp2_with (first
    | (at_builtin; refine wpList_append_own _ rfl _ _ 22 rfl w.heap.size 5 i0 (.int .u8 0) 1 1 Tryd.underlying22 hi hz0 hz1 hz2 rfl (by decide) _ _ _ rfl O7.out ⟨w6.heap.size, 0, none⟩ 2 2 [.int .u8 (ch : Int), .int .u8 (cl : Int)] rfl rfl (twob_new _ _ _ _) (by simp [Value.oneCell']) (by unfold maxLen; omega) (by omega) B7.out.size ?_; intro x8 w8 hown hgrow _; have O8 : Hid (w8.ownsRow w.heap.size 5 1 x8 (M + 2) (bls (frm M f) (M + 2))) := (by have h := hown; rw [HF9.out] at h; exact h); have B8 : Hid (Below w.heap.size w w8) := grown_below B7.out (Nat.le_refl _) O7.out hgrow; clear hown hgrow))
  go_ret2
  exact ⟨_, rfl, O8.out, B8.out⟩
end Go.Proofs.YtndagpompioooaaDoor
