/- Pack8: both sides. -/
import Derived.Test.YtgahjkijmihmdaaPN
namespace Go.Proofs.Ytgahjkijmihmdaa
open Go.RowKit

set_option maxHeartbeats 4000000 in
theorem bytes_any {w : World} {v : Value} {n q : Nat} {xs : Nat → Int} (hv : Il w v n xs) (h : Bts n xs) (hq : q = (n + 7) / 8) :
    Calls Try.prog 28 #[v] w fun e w' => ∃ u, e = .returned u ∧ w'.ownsRow w.heap.size 5 1 u q (bls (pk8 n xs) q) ∧ Below w.heap.size w w' := by
  obtain ⟨i0, hi, hz0, hz1, hz2⟩ := info_parts Try.info5
  have h5 := h.1
  have HBT : Hid (Bts n xs) := h
  have i2 : ∀ W, Calls Try.prog 29 #[.int .i64 (n : Int), .int .i64 8] W fun e w' => e = .returned (.int .i64 (q : Int)) ∧ w' = W := pieces_any (n := n) (r := 8) (q := q) (by omega) (by omega) (by omega) (by rw [hq]; omega)
  have hqb : q ≤ 12501 := by omega
  have OW : Hid ((w.alloc (.cells #[] 5)).ownsRow w.heap.size 5 1 (.slice (some ⟨w.heap.size, 0, none⟩) 0 0) 0 (bls (pk8 n xs) 0)) := own_empty w 5 1
  have BL : Hid (Below w.heap.size w (w.alloc (.cells #[] 5))) := below_one _ _
  have HV : Hid (Il w v n xs) := hv
  obtain ⟨ao, cap, rfl, hcap, hc⟩ := hv
  clear hc h hq
  go_enter Try.func28, Try.ntmps28
  go_wp2_with (first | (go_at_call 29; (with_reducible refine (i2 _).mono ?_); rintro e w' ⟨rfl, hw⟩; obtain rfl := hw.symm))
  clear i2
  generalize w.alloc (.cells #[] 5) = W at *
  go_loopw [3, 4, 9] (fun o _ i wr => ∃ k : Nat, i = .int .i64 (k : Int) ∧ k ≤ q ∧ Hid (wr.ownsRow w.heap.size 5 1 o k (bls (pk8 n xs) k) ∧ Below w.heap.size w wr)) (fun _ _ i _ => q - (intOf i).toNat)
  case atStart => exact ⟨0, rfl, by omega, OW.out, BL.out⟩
  case round =>
    obtain ⟨k, rfl, hk, hrel⟩ := hrel
    by_cases h1 : k < q
    · obtain ⟨m, hm⟩ : ∃ m : Nat, m = 8 * k := ⟨_, rfl⟩
      have e0 : (k : Int) * 8 = (m : Int) := by omega
      have i3 : Calls Try.prog 36 #[.slice ao n cap, .int .i64 (m : Int), .int .i64 8] wr fun e w' => e = .returned (.int .i64 ((nba n xs m 8 : Nat) : Int)) ∧ w' = wr := number_any (c := 8) (HV.out.below hrel.out.2) HBT.out (by omega) (by omega)
      have hzb : nba n xs m 8 < 256 := nba_lt HBT.out.2 m 8
      obtain ⟨z, hz⟩ : ∃ z : Nat, z = nba n xs m 8 := ⟨_, rfl⟩
      rw [← hz] at i3 hzb
      have e1 : IntKind.u8.wrap (z : Int) = (z : Int) := by rw [IntKind.wrap_u8']; omega
      have hzz : (z : Int) = pk8 n xs k := by rw [hz, hm]; rfl
      have HZ : Hid ((z : Int) = pk8 n xs k) := hzz
      have hb3 := below_one wr (.cells #[.int .u8 (z : Int)] 5)
      have HO3 := own_below hrel.out.1 hb3
      have HB3 := bstep hrel.out.2 hb3
      clear hz hzz hm hb3 hrel
      go_wp2_with (first | (go_at_call 36; (with_reducible refine (i3).mono ?_); rintro e w' ⟨rfl, hw⟩; obtain rfl := hw.symm) | (at_builtin; refine wpList_append_own _ rfl _ _ 22 rfl w.heap.size 5 i0 (.int .u8 0) 1 1 Try.underlying22 hi hz0 hz1 hz2 rfl (by decide) _ _ _ rfl HO3 ⟨wr.heap.size, 0, none⟩ 1 1 [.int .u8 (z : Int)] rfl rfl (one_new _ _ _) (by simp [Value.oneCell']) (by unfold maxLen; omega) (by omega) HB3.size ?_))
      intro v' w4 hown' hgrow _
      have HB4 : Hid (Below w.heap.size w w4) := grown_below HB3 (Nat.le_refl _) HO3 hgrow
      rw [show Value.int .u8 (z : Int) = .int .u8 (pk8 n xs k) from congrArg _ HZ.out, ← bls_snoc (pk8 n xs) k] at hown'
      have HO4 : Hid (w4.ownsRow w.heap.size 5 1 v' (k + 1) (bls (pk8 n xs) (k + 1))) := hown'
      clear hown' hgrow HB3 HO3
      go_wp2
      go_roundw
      case rel => exact ⟨k + 1, by go_num, by omega, HO4.out, HB4.out⟩
      case measure => simp [intOf]; omega
    · obtain rfl : q = k := by omega
      go_wp2
      go_ret
      exact ⟨_, rfl, hrel.out.1, hrel.out.2⟩

theorem iPack_good {w : World} {v : Value} {n q : Nat} {xs : Nat → Int} (hv : Il w v n xs) (h : Bts n xs) (hq : q = (n + 7) / 8) :
    Calls Try.prog 14 #[v] w fun e w' => Psb w w' e q (pk8 n xs) true := by
  have h5 := h.1
  have i1 := iBits_any hv (by omega)
  rw [decide_eq_true h] at i1
  have i2 := bytes_any hv h hq
  obtain ⟨ao, cap, rfl, hcap, hc⟩ := hv
  clear hc h hq
  go_enter Try.func14, Try.ntmps14
  go_wp2_with (first | (go_at_call 23; (with_reducible refine (i1).mono ?_); rintro e w' ⟨rfl, hw⟩; obtain rfl := hw.symm) | (go_at_call 28; (with_reducible refine (i2).mono ?_); rintro e w' ⟨u, rfl, ho, hb⟩; have HO : Hid _ := ho; have HB : Hid _ := hb; clear ho hb))
  go_ret2
  exact ⟨_, rfl, HO.out, HB.out⟩

set_option maxHeartbeats 2000000 in
theorem iPack_bad {w : World} {v : Value} {n : Nat} {xs : Nat → Int} (hv : Il w v n xs) (hn : n ≤ 1048576) (h : ¬ Bts n xs) (ys : Nat → Int) :
    Calls Try.prog 14 #[v] w fun e w' => Psb w w' e 0 ys false := by
  have i1 := iBits_any hv hn
  obtain ⟨ao, cap, rfl, hcap, hc⟩ := hv
  clear hc
  rw [decide_eq_false (fun c1 => h c1)] at i1
  clear h
  go_enter Try.func14, Try.ntmps14
  go_wp2_with (first | (go_at_call 23; (with_reducible refine (i1).mono ?_); rintro e w' ⟨rfl, hw⟩; obtain rfl := hw.symm))
  go_ret2
  exact ⟨_, rfl, own_empty w 5 1, below_one _ _⟩
end Go.Proofs.Ytgahjkijmihmdaa
