/- Pack8: both sides. -/
import Derived.Test.YtcekjaleefidlaaPN
namespace Go.Proofs.Ytcekjaleefidlaa
open Go.RowKit

set_option maxHeartbeats 4000000 in
theorem bytes_any {w : World} {v : Value} {n q : Nat} {xs : Nat → Int} (hv : Il w v n xs) (h : Bts n xs) (hq : q = (n + 7) / 8) :
    Calls Try.prog 19 #[v] w fun e w' => ∃ u, e = .returned u ∧ w'.ownsRow w.heap.size 5 1 u q (bls (pk8 n xs) q) ∧ Below w.heap.size w w' := by
  obtain ⟨i0, hi, hz0, hz1, hz2⟩ := info_parts Try.info5
  have h5 := h.1
  have HBT : Hid (Bts n xs) := h
  have i2 : ∀ W, Calls Try.prog 21 #[.int .i64 (n : Int), .int .i64 8] W fun e w' => e = .returned (.int .i64 (q : Int)) ∧ w' = W := pieces_any (n := n) (r := 8) (q := q) (by omega) (by omega) (by omega) (by rw [hq]; omega)
  have hqb : q ≤ 12501 := by omega
  have OW : Hid ((w.alloc (.cells #[] 5)).ownsRow w.heap.size 5 1 (.slice (some ⟨w.heap.size, 0, none⟩) 0 0) 0 (bls (pk8 n xs) 0)) := own_empty w 5 1
  have BL : Hid (Below w.heap.size w (w.alloc (.cells #[] 5))) := below_one _ _
  have HV : Hid (Il w v n xs) := hv
  obtain ⟨ao, cap, rfl, hcap, hc⟩ := hv
  clear hc h hq
  go_enter Try.func19, Try.ntmps19
  go_wp2_with (first | (go_at_call 21; (with_reducible refine (i2 _).mono ?_); rintro e w' ⟨rfl, hw⟩; obtain rfl := hw.symm))
  clear i2
  generalize w.alloc (.cells #[] 5) = W at *
  go_loopw [3, 4, 9] (fun o _ i wr => ∃ k : Nat, i = .int .i64 (k : Int) ∧ k ≤ q ∧ Hid (wr.ownsRow w.heap.size 5 1 o k (bls (pk8 n xs) k) ∧ Below w.heap.size w wr)) (fun _ _ i _ => q - (intOf i).toNat)
  case atStart => exact ⟨0, rfl, by omega, OW.out, BL.out⟩
  case round =>
    obtain ⟨k, rfl, hk, hrel⟩ := hrel
    by_cases h1 : k < q
    · obtain ⟨m, hm⟩ : ∃ m : Nat, m = 8 * k := ⟨_, rfl⟩
      have e0 : (k : Int) * 8 = (m : Int) := by omega
      have i3 : Calls Try.prog 24 #[.slice ao n cap, .int .i64 (m : Int), .int .i64 8] wr fun e w' => e = .returned (.int .i64 ((nba n xs m 8 : Nat) : Int)) ∧ w' = wr := number_any (c := 8) (HV.out.below hrel.out.2) HBT.out (by omega) (by omega)
      have hzb : nba n xs m 8 < 256 := nba_lt HBT.out.2 m 8
      obtain ⟨z, hz⟩ : ∃ z : Nat, z = nba n xs m 8 := ⟨_, rfl⟩
      rw [← hz] at i3 hzb
      have e1 : IntKind.u8.wrap (z : Int) = (z : Int) := by rw [IntKind.wrap_u8']; omega
      have hzz : (z : Int) = pk8 n xs k := by rw [hz, hm]; rfl
      have HZ : Hid ((z : Int) = pk8 n xs k) := hzz
      have hb3 := below_one wr (.cells #[.int .u8 (z : Int)] 5)
      have HO3 := own_below hrel.out.1 hb3
      have HB3 := bstep hrel.out.2 hb3
      clear hz hzz hm hb3 hrel
      go_wp2_with (first | (go_at_call 24; (with_reducible refine (i3).mono ?_); rintro e w' ⟨rfl, hw⟩; obtain rfl := hw.symm) | (at_builtin; refine wpList_append_own _ rfl _ _ 23 rfl w.heap.size 5 i0 (.int .u8 0) 1 1 Try.underlying23 hi hz0 hz1 hz2 rfl (by decide) _ _ _ rfl HO3 ⟨wr.heap.size, 0, none⟩ 1 1 [.int .u8 (z : Int)] rfl rfl (one_new _ _ _) (by simp [Value.oneCell']) (by unfold maxLen; omega) (by omega) HB3.size ?_))
      intro v' w4 hown' hgrow _
      have HB4 : Hid (Below w.heap.size w w4) := grown_below HB3 (Nat.le_refl _) HO3 hgrow
      rw [show Value.int .u8 (z : Int) = .int .u8 (pk8 n xs k) from congrArg _ HZ.out, ← bls_snoc (pk8 n xs) k] at hown'
      have HO4 : Hid (w4.ownsRow w.heap.size 5 1 v' (k + 1) (bls (pk8 n xs) (k + 1))) := hown'
      clear hown' hgrow HB3 HO3
      go_wp2
      go_roundw
      case rel => exact ⟨k + 1, by go_num, by omega, HO4.out, HB4.out⟩
      case measure => simp [intOf]; omega
    · obtain rfl : q = k := by omega
      go_wp2
      go_ret
      exact ⟨_, rfl, hrel.out.1, hrel.out.2⟩

theorem iPack_good {w : World} {v : Value} {n q : Nat} {xs : Nat → Int} (hv : Il w v n xs) (h : Bts n xs) (hq : q = (n + 7) / 8) :
    Calls Try.prog 7 #[v] w fun e w' => Psb w w' e q (pk8 n xs) true := by
  have h5 := h.1
  have i1 := iBits_any hv (by omega)
  rw [decide_eq_true h] at i1
  have i2 := bytes_any hv h hq
  obtain ⟨ao, cap, rfl, hcap, hc⟩ := hv
  clear hc h hq
  go_enter Try.func7, Try.ntmps7
  go_wp2_with (first | (go_at_call 18; (with_reducible refine (i1).mono ?_); rintro e w' ⟨rfl, hw⟩; obtain rfl := hw.symm) | (go_at_call 19; (with_reducible refine (i2).mono ?_); rintro e w' ⟨u, rfl, ho, hb⟩; have HO : Hid _ := ho; have HB : Hid _ := hb; clear ho hb))
  go_ret2
  exact ⟨_, rfl, HO.out, HB.out⟩

theorem madeb_zero (k : Nat) : (madeCells (Value.int .u8 0).cells (k * 1)).toList = bls (fun _ => 0) k := by
  apply List.ext_getElem?
  intro i
  by_cases h : i < k
  · rw [bls_get h]
    simp [madeCells, Value.cells, h, Nat.mod_one]
  · rw [List.getElem?_eq_none (by rw [Array.length_toList, size_madeCells]; omega), List.getElem?_eq_none (by rw [bls_length]; omega)]

/-- A list of bytes made. -/
def mkb (W : World) (k : Nat) : World := W.alloc (.cells (madeCells (Value.int .u8 0).cells (k * 1)) 5)

theorem mkb_run (W : World) {k : Nat} (hk : k ≤ 1048576) : (Instr.makeSlice 23 (.int .i64 (k : Int)) (.int .i64 (k : Int))).run Try.prog W = .ok (.slice (some ⟨W.heap.size, 0, none⟩) k k) (mkb W k) := by
  obtain ⟨i0, hi, hz0, hz1, hz2⟩ := info_parts Try.info5
  have h := run_make (P := Try.prog) W 23 5 i0 (.int .u8 0) Try.underlying23 hi hz0 .i64 .i64 k k (by omega) (Int.le_refl _) (by rw [hz2]; omega) (by omega)
  rw [Int.toNat_natCast, hz1] at h
  exact h

theorem mkb_own (W : World) {B k : Nat} (hk : k ≤ 1048576) (hB : B ≤ W.heap.size) : (mkb W k).ownsRow B 5 1 (.slice (some ⟨W.heap.size, 0, none⟩) k k) k (bls (fun _ => 0) k) := by
  have h := World.ownsRow_lit (base := B) (e := 5) (size := 1) W (madeCells (Value.int .u8 0).cells (k * 1)) k hB (by unfold maxLen; omega) (size_madeCells _ _)
  rw [madeb_zero] at h
  exact h

theorem dwb {w : World} {B n : Nat} {v : Value} {L : List Value} (h : w.ownsRow B 5 1 v n L) : w.drew.ownsRow B 5 1 v n L := own_below h (Below.refl _ _).drew

set_option maxHeartbeats 8000000 in
theorem sPack_good {w : World} {v : Value} {n q : Nat} {xs : Nat → Int} (hv : Il w v n xs) (h : Bts n xs) (hq : q = (n + 7) / 8) :
    Calls Try.prog 5 #[v] w fun e w' => Psb w w' e q (pk8 n xs) true := by
  have h5 := h.1
  have HBT : Hid (∀ k, k < n → Bit (xs k)) := h.2
  have i1 := sBits_any hv (by omega)
  rw [decide_eq_true h] at i1
  have HQ : Hid (q = (n + 7) / 8) := hq
  have hqb : q ≤ 128 := by omega
  have hqn : 8 * q < n + 8 := by omega
  have e0 : ((n : Int) + 7) / 8 = (q : Int) := by omega
  have e00 : ((n : Int) + 7).tdiv 8 = (q : Int) := by rw [Int.tdiv_eq_ediv_of_nonneg (by omega)]; exact e0
  have hr := mkb_run w (k := q) (by omega)
  have OW : Hid ((mkb w q).ownsRow w.heap.size 5 1 (.slice (some ⟨w.heap.size, 0, none⟩) q q) q (bls (fun t => ((pkb xs 0 t : Nat) : Int)) q)) := mkb_own w (by omega) (Nat.le_refl _)
  have BL : Hid (Below w.heap.size w (mkb w q)) := below_one _ _
  obtain ⟨ao, cap, rfl, hcap, hc⟩ := hv
  have HC : Hid (0 < n → ∃ b off, ao = some ⟨b, off, none⟩ ∧ b < w.heap.size ∧ ∀ k, k < n → w.cell? ⟨b, off + k, none⟩ = some (.int .i64 (xs k))) := hc
  clear hc h hq
  go_enter Try.func5, Try.ntmps5
  go_wp2_with (first | (go_at_call 17; (with_reducible refine (i1).mono ?_); rintro e w' ⟨rfl, hw⟩; obtain rfl := hw.symm))
  clear i1 hr
  generalize mkb w q = W at *
  go_loopw [5] (fun i wr => ∃ k : Nat, i = .int .i64 (k : Int) ∧ k ≤ n ∧ Hid (wr.ownsRow w.heap.size 5 1 (.slice (some ⟨w.heap.size, 0, none⟩) q q) q (bls (fun t => ((pkb xs k t : Nat) : Int)) q) ∧ Below w.heap.size w wr)) (fun i _ => n - (intOf i).toNat)
  case atStart => exact ⟨0, rfl, by omega, OW.out, BL.out⟩
  case round =>
    obtain ⟨k, rfl, hk, hrel⟩ := hrel
    by_cases h1 : k < n
    · obtain ⟨b, off, rfl, hlt, hcell⟩ := HC.out (by omega)
      have c := (hrel.out.2.cell (p := ⟨b, off + k, none⟩) hlt).trans (hcell k h1)
      rw [nb_eq HBT.out h1] at c
      have hxb := nb_le HBT.out h1
      obtain ⟨x, hx⟩ : ∃ x : Nat, x = nb xs k := ⟨_, rfl⟩
      rw [← hx] at c hxb
      obtain ⟨m, hm⟩ : ∃ m : Nat, m = k / 8 := ⟨_, rfl⟩
      obtain ⟨r, hr⟩ : ∃ r : Nat, r = k % 8 := ⟨_, rfl⟩
      obtain ⟨d, hd⟩ : ∃ d : Nat, d = 7 - r := ⟨_, rfl⟩
      have f1 : (k : Int) / 8 = (m : Int) := by omega
      have f2 : (k : Int).tdiv 8 = (m : Int) := by rw [Int.tdiv_eq_ediv_of_nonneg (by omega)]; exact f1
      have f3 : (k : Int) % 8 = (r : Int) := by omega
      have f4 : (k : Int).tmod 8 = (r : Int) := by rw [Int.tmod_eq_emod_of_nonneg (by omega)]; exact f3
      have f5 : 7 - (r : Int) = (d : Int) := by omega
      have f6 : IntKind.u64.wrap (d : Int) = (d : Int) := by rw [IntKind.wrap_u64]; omega
      have hd7 : d ≤ 7 := by omega
      have hmq : m < q := by have := HQ.out; omega
      have hrow := hrel.out.1
      have hfz := hrow.frozenAt m
      have hce := hrow.cellAt m (by omega)
      rw [bls_get hmq] at hce
      obtain ⟨p, hp⟩ : ∃ p : Nat, p = pkb xs k m := ⟨_, rfl⟩
      have hpb : p < 256 := by rw [hp]; exact pkb_lt HBT.out k m (by omega)
      rw [← hp] at hce
      obtain ⟨s, hs⟩ : ∃ s : Nat, s = x * 2 ^ d := ⟨_, rfl⟩
      have hsb : s ≤ 128 := by
        rw [hs]
        have g1 : (2 : Nat) ^ d ≤ 2 ^ 7 := Nat.pow_le_pow_right (by omega) hd7
        have g2 := Nat.mul_le_mul hxb g1
        omega
      have f7 : (x : Int) * 2 ^ d = (s : Int) := by rw [hs, Int.natCast_mul, Int.natCast_pow]; rfl
      have f8 : IntKind.i64.wrap (s : Int) = (s : Int) := wrap_nat (by omega)
      have f9 : IntKind.u8.wrap (s : Int) = (s : Int) := by rw [IntKind.wrap_u8']; omega
      obtain ⟨y, hy⟩ : ∃ y : Nat, y = p ||| s := ⟨_, rfl⟩
      have f10 : bits .or .u8 (p : Int) (s : Int) = (y : Int) := by rw [u8_or_nat p s (by omega) (by omega), hy]
      have st := (hrow.stored m (.int .u8 (y : Int))).1
      rw [bls_put] at st
      have HO4 : Hid ((wr.setCell ⟨w.heap.size, m, none⟩ (.int .u8 (y : Int))).ownsRow w.heap.size 5 1 (.slice (some ⟨w.heap.size, 0, none⟩) q q) q (bls (fun t => ((pkb xs (k + 1) t : Nat) : Int)) q)) := by
        have h9 : bls (fun i => if i = m then (y : Int) else ((pkb xs k i : Nat) : Int)) q = bls (fun t => ((pkb xs (k + 1) t : Nat) : Int)) q := by
          refine bls_congr fun t ht => ?_
          show (if t = m then (y : Int) else ((pkb xs k t : Nat) : Int)) = ((if t = k / 8 then pkb xs k t ||| nb xs k * 2 ^ (7 - k % 8) else pkb xs k t : Nat) : Int)
          rw [← hm, ← hr, ← hx, ← hd, ← hs]
          by_cases h6 : t = m
          · rw [if_pos h6, if_pos h6, hy, hp, h6]
          · rw [if_neg h6, if_neg h6]
        rw [← h9]; exact st
      have HB4 : Hid (Below w.heap.size w (wr.setCell ⟨w.heap.size, m, none⟩ (.int .u8 (y : Int)))) := hrel.out.2.setCell (p := ⟨w.heap.size, m, none⟩) (Nat.le_refl _) _
      clear hx hm hr hd hs hy hp hcell hrel hrow st
      go_wp2
      go_region
      go_wp2
      go_roundw
      case rel => exact ⟨k + 1, by go_num, by omega, dwb HO4.out, HB4.out.drew⟩
      case measure => simp [intOf]; omega
    · obtain rfl : n = k := by omega
      have HF : Hid (wr.ownsRow w.heap.size 5 1 (.slice (some ⟨w.heap.size, 0, none⟩) q q) q (bls (pk8 n xs) q) ∧ Below w.heap.size w wr) := by
        refine ⟨?_, hrel.out.2⟩
        have h9 : bls (pk8 n xs) q = bls (fun t => ((pkb xs n t : Nat) : Int)) q := by
          refine bls_congr fun t ht => ?_
          show ((nba n xs (8 * t) 8 : Nat) : Int) = ((pkb xs n t : Nat) : Int)
          rw [pkb_nba HBT.out (by omega)]
        rw [h9]; exact hrel.out.1
      clear hrel
      go_wp2
      go_ret2
      exact ⟨_, rfl, HF.out⟩

set_option maxHeartbeats 2000000 in
theorem iPack_bad {w : World} {v : Value} {n : Nat} {xs : Nat → Int} (hv : Il w v n xs) (hn : n ≤ 1048576) (h : ¬ Bts n xs) (ys : Nat → Int) :
    Calls Try.prog 7 #[v] w fun e w' => Psb w w' e 0 ys false := by
  have i1 := iBits_any hv hn
  obtain ⟨ao, cap, rfl, hcap, hc⟩ := hv
  clear hc
  rw [decide_eq_false (fun c1 => h c1)] at i1
  clear h
  go_enter Try.func7, Try.ntmps7
  go_wp2_with (first | (go_at_call 18; (with_reducible refine (i1).mono ?_); rintro e w' ⟨rfl, hw⟩; obtain rfl := hw.symm))
  go_ret2
  exact ⟨_, rfl, own_empty w 5 1, below_one _ _⟩
set_option maxHeartbeats 2000000 in
theorem sPack_bad {w : World} {v : Value} {n : Nat} {xs : Nat → Int} (hv : Il w v n xs) (hn : n ≤ 1048576) (h : ¬ Bts n xs) (ys : Nat → Int) :
    Calls Try.prog 5 #[v] w fun e w' => Psb w w' e 0 ys false := by
  have i1 := sBits_any hv hn
  obtain ⟨ao, cap, rfl, hcap, hc⟩ := hv
  clear hc
  rw [decide_eq_false (fun c1 => h c1)] at i1
  clear h
  go_enter Try.func5, Try.ntmps5
  go_wp2_with (first | (go_at_call 17; (with_reducible refine (i1).mono ?_); rintro e w' ⟨rfl, hw⟩; obtain rfl := hw.symm))
  go_ret2
  exact ⟨_, rfl, own_empty w 5 1, below_one _ _⟩
end Go.Proofs.Ytcekjaleefidlaa
