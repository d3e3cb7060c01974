/- PackFrame: the model. -/
import Derived.Test.YtndagpompioooaaDoorPF
import Derived.Test.YtndagpompioooaaDoorSH
import Derived.Test.YtndagpompioooaaDoorCI
import Derived.Test.YtndagpompioooaaDoorRF
import Derived.Test.YtndagpompioooaaDoorRW
import Derived.Test.YtndagpompioooaaDoorC1
import Derived.Test.YtndagpompioooaaDoorMK
namespace Go.Proofs.YtndagpompioooaaDoor
open Go.RowKit

theorem madeb_zero (k : Nat) : (madeCells (Value.int .u8 0).cells (k * 1)).toList = bls (fun _ => 0) k := by
  apply List.ext_getElem?
  intro i
  by_cases h : i < k
  · rw [bls_get h]
    simp [madeCells, Value.cells, h, Nat.mod_one]
  · rw [List.getElem?_eq_none (by rw [Array.length_toList, size_madeCells]; omega), List.getElem?_eq_none (by rw [bls_length]; omega)]

/-- A list of bytes made. -/
def mkb (W : World) (k : Nat) : World := W.alloc (.cells (madeCells (Value.int .u8 0).cells (k * 1)) 5)

theorem mkb_run (W : World) {k : Nat} (hk : k ≤ 1048576) : (Instr.makeSlice 22 (.int .i64 (k : Int)) (.int .i64 (k : Int))).run Tryd.prog W = .ok (.slice (some ⟨W.heap.size, 0, none⟩) k k) (mkb W k) := by
  obtain ⟨i0, hi, hz0, hz1, hz2⟩ := info_parts Tryd.info5
  have h := run_make (P := Tryd.prog) W 22 5 i0 (.int .u8 0) Tryd.underlying22 hi hz0 .i64 .i64 k k (by omega) (Int.le_refl _) (by rw [hz2]; omega) (by omega)
  rw [Int.toNat_natCast, hz1] at h
  exact h

theorem mkb_own (W : World) {B k : Nat} (hk : k ≤ 1048576) (hB : B ≤ W.heap.size) : (mkb W k).ownsRow B 5 1 (.slice (some ⟨W.heap.size, 0, none⟩) k k) k (bls (fun _ => 0) k) := by
  have h := World.ownsRow_lit (base := B) (e := 5) (size := 1) W (madeCells (Value.int .u8 0).cells (k * 1)) k hB (by unfold maxLen; omega) (size_madeCells _ _)
  rw [madeb_zero] at h
  exact h

theorem dwb {w : World} {B n : Nat} {v : Value} {L : List Value} (h : w.ownsRow B 5 1 v n L) : w.drew.ownsRow B 5 1 v n L := own_below h (Below.refl _ _).drew

set_option maxRecDepth 20000 in
set_option maxHeartbeats 16000000 in
theorem sFrame_good {w : World} {v : Value} {n : Nat} {xs : Nat → Int} (hv : Il w v n xs) (hn : 1 ≤ n ∧ n ≤ 128) (h : Sig n xs) {q : Nat} (hq : q = min n 4) {a k C : Nat} (hs : shp n xs q = ((a : Int), (k : Int), C)) {M : Nat} (hM : M = 3 + (C + 7) / 8) :
    Calls Tryd.prog 26 #[v] w fun e w' => Psb w w' e (M + 2) (frm M (fr0 n a k C (lf (ric k (gus a xs) n)))) true := by
  obtain ⟨i0, hi, hz0, hz1, hz2⟩ := info_parts Tryd.info5
  have ht := shp_told (n := n) (xs := xs) q
  rw [hs] at ht
  obtain ⟨haq, hk, hC, hCr, hRc⟩ : a < q ∧ k ≤ 30 ∧ C ≤ 100000 ∧ C = rbt k (gus a xs) n ∧ Rc n (gus a xs) := by
    rcases ht with ht | ⟨o', k', C', e1, e2, e3, e4, e5, e6⟩
    · injection ht with ht _
      omega
    · injection e1 with e7 e8
      injection e8 with e8 e9
      obtain rfl : a = o' := by omega
      obtain rfl : k = k' := by omega
      subst e9
      exact ⟨e2, e3, e4, e5, e6⟩
  clear ht
  have ha : a ≤ 3 := by omega
  have i1 := in_any (n : Int) 1 128
  rw [decide_eq_true (by omega)] at i1
  have i2 := sSig_any hv (by omega)
  rw [decide_eq_true h] at i2
  have i3 := order17_any hv h hn.2 hq
  rw [hs] at i3
  have i3' : Calls Tryd.prog 66 #[v] w fun e w' => e = .returned (.tuple #[.int .i64 (a : Int), .int .i64 (k : Int), .bool true]) ∧ Below w.heap.size w w' := by
    refine i3.mono ?_
    rintro e w' ⟨rfl, hb⟩
    exact ⟨by rw [decide_eq_true (show 0 ≤ (a : Int) by omega)], hb⟩
  have HOR : Hid (Calls Tryd.prog 66 #[v] w fun e w' => e = .returned (.tuple #[.int .i64 (a : Int), .int .i64 (k : Int), .bool true]) ∧ Below w.heap.size w w') := i3'
  have HGU : Hid (∀ W u, Il W u n xs → Calls Tryd.prog 67 #[.int .i64 (a : Int), u] W fun e w' => Pst W w' e n (gus a xs) true) := fun W u hu => sGuess_good hu h ha
  have HRI : Hid (∀ W u, Il W u n (gus a xs) → Calls Tryd.prog 14 #[.int .i64 (k : Int), u] W fun e w' => Pst W w' e C (lf (ric k (gus a xs) n)) true) := fun W u hu => sRice_good hu hRc hk (by omega) hCr
  have HBI : Hid (∀ i, i < C → Bit (lf (ric k (gus a xs) n) i)) := ric_bit hCr
  obtain ⟨L, hL⟩ : ∃ L : Nat → Int, L = lf (ric k (gus a xs) n) := ⟨_, rfl⟩
  rw [← hL] at HRI HBI
  rw [← hL]
  clear hL hRc hCr hs h hq haq i3 i3'
  obtain ⟨Q, hQ⟩ : ∃ Q, Q = (C + 7) / 8 := ⟨_, rfl⟩
  have hQ1 : Q ≤ 12501 := by omega
  have hQ8 : 8 * Q < C + 8 := by omega
  have HQ9 : Hid (Q = (C + 7) / 8) := hQ
  have e0 : ((C : Int) + 7) / 8 = (Q : Int) := by omega
  have e00 : ((C : Int) + 7).tdiv 8 = (Q : Int) := by rw [Int.tdiv_eq_ediv_of_nonneg (by omega)]; exact e0
  rw [← hQ] at hM
  have HFB : Hid (Byt M (fr0 n a k C L)) := by rw [hM]; exact fr0_byt hn.2 ha hk HBI.out
  have HF0 : Hid ([Value.int .u8 70, .int .u8 ((n - 1 : Nat) : Int), .int .u8 ((32 * a + k : Nat) : Int)] ++ bls (pk8 C L) Q = bls (fr0 n a k C L) M) := by rw [hM]; exact fr0_all n a k C Q L
  have hcl : crc (fr0 n a k C L) M < 65536 := crc_lt HFB.out M (Nat.le_refl _)
  have hcv : crv M (fr0 n a k C L) = ((crc (fr0 n a k C L) M : Nat) : Int) := by unfold crv; rw [if_neg (by omega)]
  have HFA := frm_all M (fr0 n a k C L)
  generalize fr0 n a k C L = f at *
  have HF9 : Hid (bls f M ++ [.int .u8 ((crc f M / 256 : Nat) : Int), .int .u8 ((crc f M % 256 : Nat) : Int)] = bls (frm M f) (M + 2)) := HFA
  have HCV : Hid (crv M f = ((crc f M : Nat) : Int)) := hcv
  obtain ⟨c, hc9⟩ : ∃ c, c = crc f M := ⟨_, rfl⟩
  rw [← hc9] at hcl HCV HF9
  obtain ⟨g1, hg1⟩ : ∃ g1 : Nat, g1 = n - 1 := ⟨_, rfl⟩
  obtain ⟨g2, hg2⟩ : ∃ g2 : Nat, g2 = 32 * a + k := ⟨_, rfl⟩
  obtain ⟨ch, hch⟩ : ∃ ch : Nat, ch = c / 256 := ⟨_, rfl⟩
  obtain ⟨cl, hcl2⟩ : ∃ cl : Nat, cl = c % 256 := ⟨_, rfl⟩
  rw [← hch, ← hcl2] at HF9
  rw [← hg1, ← hg2] at HF0
  have e1 : IntKind.u8.wrap ((n : Int) - 1) = (g1 : Int) := by rw [IntKind.wrap_u8']; omega
  have e2 : IntKind.u8.wrap (32 * (a : Int) + (k : Int)) = (g2 : Int) := by rw [IntKind.wrap_u8']; omega
  have e3 : (c : Int).tdiv 256 = (ch : Int) := by rw [Int.tdiv_eq_ediv_of_nonneg (by omega)]; omega
  have e31 : (c : Int) / 256 = (ch : Int) := by omega
  have e4 : IntKind.u8.wrap (ch : Int) = (ch : Int) := by rw [IntKind.wrap_u8']; omega
  have e5 : (c : Int).tmod 256 = (cl : Int) := by rw [Int.tmod_eq_emod_of_nonneg (by omega)]; omega
  have e51 : (c : Int) % 256 = (cl : Int) := by omega
  have e6 : IntKind.u8.wrap (cl : Int) = (cl : Int) := by rw [IntKind.wrap_u8']; omega
  have hMb : M ≤ 12504 := by omega
  have HM : Hid (M = 3 + Q) := hM
  have HV : Hid (Il w v n xs) := hv
  obtain ⟨ao, cap, rfl, hcap, hc⟩ := hv
  clear hc HFA hcv hc9 hg1 hg2 hch hcl2 hQ hM
  go_enter Tryd.func26, Tryd.ntmps26
  go_upto_region 3 with (first | (go_at_call 59; (with_reducible refine (i1 _).mono ?_); rintro e w' ⟨rfl, hw⟩; obtain rfl := hw.symm) | (go_at_call 58; (with_reducible refine (i2).mono ?_); rintro e w' ⟨rfl, hw⟩; obtain rfl := hw.symm))
  clear i1 i2
  go_upto_region 8 with (first
    | (go_at_call 66; refine HOR.out.mono ?_; rintro e w1 ⟨rfl, hb⟩; have HV : Hid (Il w1 (.slice ao n cap) n xs) := HV.out.below hb; have BW : Hid (Below w.heap.size w w1) := hb; clear hb)
    | (go_at_call 67; refine (HGU.out _ _ HV.out).mono ?_; rintro e w2 ⟨x2, rfl, hq, hb⟩; have HL2 : Hid (Il w2 x2 n (gus a xs)) := il_of_own hq; have BW : Hid (Below w.heap.size w w2) := bstep BW.out hb; clear hq hb)
    | (go_at_call 14; refine (HRI.out _ _ HL2.out).mono ?_; rintro e w3 ⟨x3, rfl, hq, hb⟩; have HX : Hid (Il w3 x3 C L) := il_of_own hq; have BW : Hid (Below w.heap.size w w3) := bstep BW.out hb; clear hq hb))
  clear HOR HGU HRI HV HL2
  obtain ⟨bo, bcap, rfl, hbcap, hbc⟩ := HX.out
  have BW9 : Hid (∀ W, Below w.heap.size w W → w3.heap.size ≤ W.heap.size → True) := fun _ _ _ => trivial
  clear BW9
  have O4 : Hid ((w3.alloc (.cells #[.int .u8 70, .int .u8 (g1 : Int), .int .u8 (g2 : Int)] 5)).ownsRow w.heap.size 5 1 (.slice (some ⟨w3.heap.size, 0, none⟩) 3 3) 3 [.int .u8 70, .int .u8 (g1 : Int), .int .u8 (g2 : Int)]) := own_base (three_own w3 70 g1 g2) BW.out.size
  have B4 : Hid (Below w.heap.size w (w3.alloc (.cells #[.int .u8 70, .int .u8 (g1 : Int), .int .u8 (g2 : Int)] 5))) := bstep BW.out (below_one _ _)
  have HX4 : Hid (Il (w3.alloc (.cells #[.int .u8 70, .int .u8 (g1 : Int), .int .u8 (g2 : Int)] 5)) (.slice bo C bcap) C L) := HX.out.below (below_one _ _)
  have hY4 : w3.heap.size < (w3.alloc (.cells #[.int .u8 70, .int .u8 (g1 : Int), .int .u8 (g2 : Int)] 5)).heap.size := by simp
  go_upto_region 9 with fail
  generalize w3.alloc (.cells #[.int .u8 70, .int .u8 (g1 : Int), .int .u8 (g2 : Int)] 5) = W4 at *
  obtain ⟨Y, hY⟩ : ∃ Y, Y = w3.heap.size := ⟨_, rfl⟩
  rw [← hY] at O4 hY4
  rw [← hY]
  have hr := mkb_run W4 (k := Q) (by omega)
  have OX : Hid ((mkb W4 Q).ownsRow w.heap.size 5 1 (.slice (some ⟨W4.heap.size, 0, none⟩) Q Q) Q (bls (fun t => ((pkb L 0 t : Nat) : Int)) Q)) := mkb_own W4 (by omega) B4.out.size
  have O5 : Hid ((mkb W4 Q).ownsRow w.heap.size 5 1 (.slice (some ⟨Y, 0, none⟩) 3 3) 3 [.int .u8 70, .int .u8 (g1 : Int), .int .u8 (g2 : Int)]) := own_below O4.out (below_one _ _)
  have B5 : Hid (Below w.heap.size w (mkb W4 Q)) := bstep B4.out (below_one _ _)
  have HX5 : Hid (Il (mkb W4 Q) (.slice bo C bcap) C L) := HX4.out.below (below_one _ _)
  have HX0 : Hid (w.heap.size ≤ W4.heap.size ∧ Y ≠ W4.heap.size) := ⟨B4.out.size, by omega⟩
  clear hbc HX BW
  generalize hW5 : mkb W4 Q = W5 at *
  have HC9 : Hid (0 < C → ∃ b off, bo = some ⟨b, off, none⟩ ∧ b < W4.heap.size ∧ ∀ k, k < C → W5.cell? ⟨b, off + k, none⟩ = some (.int .i64 (L k))) := by
    intro h0
    obtain ⟨_, _, e, _, h9⟩ := HX4.out
    injection e with e7 e8 e9
    subst e7
    obtain ⟨b, off, e1, e2, e3⟩ := h9 h0
    refine ⟨b, off, e1, by omega, fun k hk => ?_⟩
    rw [← hW5]
    exact ((below_one W4 _).cell (p := ⟨b, off + k, none⟩) e2).trans (e3 k hk)
  clear hW5 HX5 HX4 O4 B4
  go_wp2
  clear hr
  generalize W4.heap.size = X at *
  go_loopw [13] (fun iv wr => ∃ i : Nat, iv = .int .i64 (i : Int) ∧ i ≤ C ∧ Hid (wr.ownsRow w.heap.size 5 1 (.slice (some ⟨X, 0, none⟩) Q Q) Q (bls (fun t => ((pkb L i t : Nat) : Int)) Q) ∧ wr.ownsRow w.heap.size 5 1 (.slice (some ⟨Y, 0, none⟩) 3 3) 3 [.int .u8 70, .int .u8 (g1 : Int), .int .u8 (g2 : Int)] ∧ Below w.heap.size w wr ∧ Only X W5 wr)) (fun iv _ => C - (intOf iv).toNat)
  case atStart => exact ⟨0, rfl, by omega, OX.out, O5.out, B5.out, Only.refl _ _⟩
  case round =>
    clear OX O5 B5
    obtain ⟨i, rfl, hi9, hrel⟩ := hrel
    by_cases h1 : i < C
    · obtain ⟨b, off, rfl, hlt, hcell⟩ := HC9.out (by omega)
      have c := (World.cell?_of_block (w := W5) (hrel.out.2.2.2.block b (by omega))).trans (hcell i h1)
      rw [nb_eq HBI.out h1] at c
      have hxb := nb_le HBI.out h1
      obtain ⟨x, hx⟩ : ∃ x : Nat, x = nb L i := ⟨_, rfl⟩
      rw [← hx] at c hxb
      obtain ⟨m, hm⟩ : ∃ m : Nat, m = i / 8 := ⟨_, rfl⟩
      obtain ⟨r, hr⟩ : ∃ r : Nat, r = i % 8 := ⟨_, rfl⟩
      obtain ⟨d, hd⟩ : ∃ d : Nat, d = 7 - r := ⟨_, rfl⟩
      have f1 : (i : Int) / 8 = (m : Int) := by omega
      have f2 : (i : Int).tdiv 8 = (m : Int) := by rw [Int.tdiv_eq_ediv_of_nonneg (by omega)]; exact f1
      have f3 : (i : Int) % 8 = (r : Int) := by omega
      have f4 : (i : Int).tmod 8 = (r : Int) := by rw [Int.tmod_eq_emod_of_nonneg (by omega)]; exact f3
      have f5 : 7 - (r : Int) = (d : Int) := by omega
      have f6 : IntKind.u64.wrap (d : Int) = (d : Int) := by rw [IntKind.wrap_u64]; omega
      have hd7 : d ≤ 7 := by omega
      have hmq : m < Q := by have := HQ9.out; omega
      have hrow := hrel.out.1
      have hfz := hrow.frozenAt m
      have hce := hrow.cellAt m (by omega)
      rw [bls_get hmq] at hce
      obtain ⟨p, hp⟩ : ∃ p : Nat, p = pkb L i m := ⟨_, rfl⟩
      have hpb : p < 256 := by rw [hp]; exact pkb_lt HBI.out i m (by omega)
      rw [← hp] at hce
      obtain ⟨s, hs⟩ : ∃ s : Nat, s = x * 2 ^ d := ⟨_, rfl⟩
      have hsb : s ≤ 128 := by
        rw [hs]
        have g1 : (2 : Nat) ^ d ≤ 2 ^ 7 := Nat.pow_le_pow_right (by omega) hd7
        have g2 := Nat.mul_le_mul hxb g1
        omega
      have f7 : (x : Int) * 2 ^ d = (s : Int) := by rw [hs, Int.natCast_mul, Int.natCast_pow]; rfl
      have f8 : IntKind.i64.wrap (s : Int) = (s : Int) := wrap_nat (by omega)
      have f9 : IntKind.u8.wrap (s : Int) = (s : Int) := by rw [IntKind.wrap_u8']; omega
      obtain ⟨y, hy⟩ : ∃ y : Nat, y = p ||| s := ⟨_, rfl⟩
      have f10 : bits .or .u8 (p : Int) (s : Int) = (y : Int) := by rw [u8_or_nat p s (by omega) (by omega), hy]
      have st := (hrow.stored m (.int .u8 (y : Int))).1
      rw [bls_put] at st
      have HO4 : Hid ((wr.setCell ⟨X, m, none⟩ (.int .u8 (y : Int))).ownsRow w.heap.size 5 1 (.slice (some ⟨X, 0, none⟩) Q Q) Q (bls (fun t => ((pkb L (i + 1) t : Nat) : Int)) Q)) := by
        have h9 : bls (fun t => if t = m then (y : Int) else ((pkb L i t : Nat) : Int)) Q = bls (fun t => ((pkb L (i + 1) t : Nat) : Int)) Q := by
          refine bls_congr fun t ht => ?_
          show (if t = m then (y : Int) else ((pkb L i t : Nat) : Int)) = ((if t = i / 8 then pkb L i t ||| nb L i * 2 ^ (7 - i % 8) else pkb L i t : Nat) : Int)
          rw [← hm, ← hr, ← hx, ← hd, ← hs]
          by_cases h6 : t = m
          · rw [if_pos h6, if_pos h6, hy, hp, h6]
          · rw [if_neg h6, if_neg h6]
        rw [← h9]; exact st
      have hon : Only X wr (wr.setCell ⟨X, m, none⟩ (.int .u8 (y : Int))) := (Only.refl X wr).put m _
      have ON4 : Hid (Only X W5 (wr.setCell ⟨X, m, none⟩ (.int .u8 (y : Int)))) := hrel.out.2.2.2.put m _
      have HB4 : Hid (Below w.heap.size w (wr.setCell ⟨X, m, none⟩ (.int .u8 (y : Int)))) := Below.only hrel.out.2.2.1 hon HX0.out.1
      have HR4 : Hid ((wr.setCell ⟨X, m, none⟩ (.int .u8 (y : Int))).ownsRow w.heap.size 5 1 (.slice (some ⟨Y, 0, none⟩) 3 3) 3 [.int .u8 70, .int .u8 (g1 : Int), .int .u8 (g2 : Int)]) := own_apart (x := .slice (some ⟨X, 0, none⟩) Q Q) hrel.out.2.1 hon (.inl rfl) (.inr (fun e => HX0.out.2 (by simpa [Value.ownBlock] using e)))
      clear hx hm hr hd hs hy hp hcell hrel hrow st hon
      go_wp2
      go_region
      go_wp2
      go_roundw
      case rel => exact ⟨i + 1, by go_num, by omega, dwb HO4.out, dwb HR4.out, HB4.out.drew, ⟨ON4.out.os, ON4.out.tape, ON4.out.output, ON4.out.size, ON4.out.block⟩⟩
      case measure => simp [intOf]; omega
    · obtain rfl : C = i := by omega
      have HX9 : Hid (Bl wr (.slice (some ⟨X, 0, none⟩) Q Q) Q (pk8 C L)) := by
        have h9 : bls (pk8 C L) Q = bls (fun t => ((pkb L C t : Nat) : Int)) Q := by
          refine bls_congr fun t ht => ?_
          show ((nba C L (8 * t) 8 : Nat) : Int) = ((pkb L C t : Nat) : Int)
          rw [pkb_nba HBI.out (by omega)]
        have h8 := hrel.out.1
        rw [← h9] at h8
        exact bl_of_own h8
      have O5 : Hid (wr.ownsRow w.heap.size 5 1 (.slice (some ⟨Y, 0, none⟩) 3 3) 3 [.int .u8 70, .int .u8 (g1 : Int), .int .u8 (g2 : Int)]) := hrel.out.2.1
      have B5 : Hid (Below w.heap.size w wr) := hrel.out.2.2.1
      clear hrel HC9
      go_upto_region 16 with (first
        | (at_builtin; refine wpList_appb rfl _ _ rfl w.heap.size _ _ 3 Q [.int .u8 70, .int .u8 (g1 : Int), .int .u8 (g2 : Int)] (pk8 C L) rfl rfl O5.out HX9.out (by omega) B5.out.size ?_; intro x6 w6 hown hgrow; have O6 : Hid (w6.ownsRow w.heap.size 5 1 x6 M (bls f M)) := (by have h := hown; rw [HF0.out, ← HM.out] at h; exact h); have B6 : Hid (Below w.heap.size w w6) := grown_below B5.out (Nat.le_refl _) O5.out hgrow; have i7 := sCrc_any (bl_of_own O6.out) HFB.out (by omega); rw [HCV.out] at i7; clear hown hgrow)
        | (go_at_call 68; (with_reducible refine i7.mono ?_); rintro e w' ⟨rfl, hw⟩; obtain rfl := hw.symm))
      clear i7 O5 B5 HX9
      have O7 : Hid ((w6.alloc (.cells #[.int .u8 (ch : Int), .int .u8 (cl : Int)] 5)).ownsRow w.heap.size 5 1 x6 M (bls f M)) := own_below O6.out (below_one _ _)
      have B7 : Hid (Below w.heap.size w (w6.alloc (.cells #[.int .u8 (ch : Int), .int .u8 (cl : Int)] 5))) := bstep B6.out (below_one _ _)
      go_wp2_with (first
        | (at_builtin; refine wpList_append_own _ rfl _ _ 22 rfl w.heap.size 5 i0 (.int .u8 0) 1 1 Tryd.underlying22 hi hz0 hz1 hz2 rfl (by decide) _ _ _ rfl O7.out ⟨w6.heap.size, 0, none⟩ 2 2 [.int .u8 (ch : Int), .int .u8 (cl : Int)] rfl rfl (twob_new _ _ _ _) (by simp [Value.oneCell']) (by unfold maxLen; omega) (by omega) B7.out.size ?_; intro x8 w8 hown hgrow _; have O8 : Hid (w8.ownsRow w.heap.size 5 1 x8 (M + 2) (bls (frm M f) (M + 2))) := (by have h := hown; rw [HF9.out] at h; exact h); have B8 : Hid (Below w.heap.size w w8) := grown_below B7.out (Nat.le_refl _) O7.out hgrow; clear hown hgrow))
      go_ret2
      exact ⟨_, rfl, O8.out, B8.out⟩
end Go.Proofs.YtndagpompioooaaDoor
