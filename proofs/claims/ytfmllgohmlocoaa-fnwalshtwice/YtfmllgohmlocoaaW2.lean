/- Walsh: the model. -/
import Derived.Test.YtfmllgohmlocoaaW1
import Derived.BigRegion
namespace Go.Proofs.Ytfmllgohmlocoaa
open Go.RowKit

theorem and_i64 (a b : Nat) (ha : a < 4611686018427387904) (hb : b < 4611686018427387904) : bits .and .i64 (a : Int) (b : Int) = ((a &&& b : Nat) : Int) := by
  have hx : a &&& b < 2 ^ 62 := Nat.and_lt_two_pow _ (by omega)
  have h1 : (BitVec.ofInt 64 (a : Int)).toNat = a := by
    rw [BitVec.ofInt_natCast, BitVec.toNat_ofNat]; exact Nat.mod_eq_of_lt (by omega)
  have h2 : (BitVec.ofInt 64 (b : Int)).toNat = b := by
    rw [BitVec.ofInt_natCast, BitVec.toNat_ofNat]; exact Nat.mod_eq_of_lt (by omega)
  show IntKind.i64.wrap ((BitVec.ofInt 64 (a : Int) &&& BitVec.ofInt 64 (b : Int)).toNat : Int) = _
  rw [BitVec.toNat_and, h1, h2]
  exact iw (by omega) (by omega)

/-- Good for Walsh. -/
abbrev GW (n : Nat) (xs : Nat → Int) : Prop := Sig n xs ∧ Whl n

set_option maxHeartbeats 4000000 in
theorem sWalsh_yes {w : World} {v : Value} {n m : Nat} {xs : Nat → Int} (hv : Il w v n xs) (hg : GW n xs) (_ : m ≤ 8) (hn : n = 2 ^ m) :
    Calls Try.prog 8 #[v] w fun e w' => Pst w w' e n (wlv m xs) true := by
  obtain ⟨i0, hi, hz0, hz1, hz2⟩ := info_parts Try.info3
  have hb := hg.2.bounds
  have i1 := sSig_any hv (by omega)
  have i2 := sWhl_any n
  rw [decide_eq_true hg.1] at i1
  rw [decide_eq_true hg.2] at i2
  have HX : Hid (∀ k, k < n → Smp (xs k)) := hg.1.2
  have HN : Hid (n = 2 ^ m) := hn
  obtain ⟨ao1, cap1, rfl, hcap1, hc1⟩ := hv
  have HC1 : Hid (0 < n → ∃ b off, ao1 = some ⟨b, off, none⟩ ∧ b < w.heap.size ∧ ∀ k, k < n → w.cell? ⟨b, off + k, none⟩ = some (.int .i64 (xs k))) := hc1
  clear hc1

  clear hg hn
  go_enter Try.func8, Try.ntmps8
  go_wp2_with (first | (go_at_call 9; (with_reducible refine (i1).mono ?_); rintro e w' ⟨rfl, hw⟩; obtain rfl := hw.symm) | (go_at_call 27; (with_reducible refine (i2 _).mono ?_); rintro e w' ⟨rfl, hw⟩; obtain rfl := hw.symm))
  go_loopw [4, 5, 6, 7, 8, 9] (fun o kv _ _ _ _ wr => ∃ k : Nat, kv = .int .i64 k ∧ k ≤ n ∧ Hid (wr.ownsRow w.heap.size 3 1 o k (ils (wlv m xs) k) ∧ Below w.heap.size w wr)) (fun _ kv _ _ _ _ _ => n - (intOf kv).toNat)
  case atStart => exact ⟨0, rfl, by omega, own_empty w 3 1, below_one _ _⟩
  case round =>
    obtain ⟨k, rfl, hk, hrel⟩ := hrel
    have hrel_ := hrel
    by_cases h1 : k < n
    · go_wp2
      go_loopw [6, 7, 8, 9] (fun sv iv _ _ wr2 => ∃ (i : Nat) (S : Int), iv = .int .i64 i ∧ sv = .int .i64 S ∧ i ≤ n ∧ (-1000000000 * (i : Int) ≤ S ∧ S ≤ 1000000000 * (i : Int)) ∧ wr2 = wr ∧ Hid (S = sm (fun i => xs i * sgw m i k) i)) (fun _ iv _ _ _ => n - (intOf iv).toNat)
      case atStart => exact ⟨0, 0, rfl, rfl, by omega, by omega, rfl, rfl⟩
      case round =>
        obtain ⟨i, S, rfl, rfl, hik, bS, hw2, hS⟩ := hrel
        obtain rfl := hw2.symm
        by_cases h2 : i < n
        · obtain ⟨b1, off1, rfl, hlt1, hcell1⟩ := HC1.out (by omega)
          have c1 : wr.cell? ⟨b1, off1 + i, none⟩ = some (.int .i64 (xs i)) := (hrel_.out.2.cell (p := ⟨b1, off1 + i, none⟩) hlt1).trans (hcell1 i h2)
          clear hcell1 hlt1
          obtain ⟨x, hx⟩ : ∃ x, x = i &&& k := ⟨_, rfl⟩
          have ha : bits .and .i64 (i : Int) (k : Int) = (x : Int) := by rw [hx]; exact and_i64 i k (by omega) (by omega)
          have hxl : x < 2 ^ m := by rw [hx]; exact Nat.and_lt_two_pow _ (by rw [← HN.out]; omega)
          have hx256 : x < 256 := Nat.lt_of_lt_of_le hxl (by rw [← HN.out]; omega)
          have HXX : Hid (x = i &&& k) := hx
          have HXL : Hid (x < 2 ^ m) := hxl
          clear hx hxl
          go_wp2
          clear ha
          go_loopw [8, 9] (fun ov bv wr3 => ∃ (b t : Nat) (od : Bool), bv = .int .i64 b ∧ ov = .bool od ∧ wr3 = wr ∧ b < 256 ∧ Hid (b < 2 ^ t ∧ (od != par t b) = par m (i &&& k))) (fun _ bv _ => (intOf bv).toNat)
          case atStart => exact ⟨x, m, false, rfl, rfl, rfl, hx256, HXL.out, by rw [HXX.out]; simp⟩
          case round =>
            obtain ⟨b, t, od, rfl, rfl, hw3, hb256, hB⟩ := hrel
            obtain rfl := hw3.symm
            by_cases h3 : b = 0
            · subst h3
              have hod : od = par m (i &&& k) := by have := hB.out.2; rw [par_zero] at this; simpa using this
              have bx := HX.out i h2
              have e4 : sm (fun i => xs i * sgw m i k) (i + 1) = S + xs i * sgw m i k := by rw [sm, hS.out]
              cases od
              · have e5 : Hid (S + xs i = sm (fun i => xs i * sgw m i k) (i + 1)) := by
                  show S + xs i = _
                  rw [e4]; unfold sgw; rw [← hod]; simp
                clear e4 hod hB hS
                go_wp2
                go_roundw
                case rel => exact ⟨i + 1, _, by go_num, rfl, by omega, by omega, by trivial, e5.out⟩
                case measure => simp [intOf]; omega
              · have e5 : Hid (S - xs i = sm (fun i => xs i * sgw m i k) (i + 1)) := by
                  show S - xs i = _
                  rw [e4]; unfold sgw; rw [← hod]; simp; omega
                clear e4 hod hB hS
                go_wp2
                go_roundw
                case rel => exact ⟨i + 1, _, by go_num, rfl, by omega, by omega, by trivial, e5.out⟩
                case measure => simp [intOf]; omega
            · have ht : ∃ t', t = t' + 1 := by
                cases t with
                | zero => have := hB.out.1; rw [Nat.pow_zero] at this; omega
                | succ t' => exact ⟨t', rfl⟩
              obtain ⟨t', rfl⟩ := ht
              have hlt : b / 2 < 2 ^ t' := by have := hB.out.1; rw [two_pow_twice] at this; omega
              have hpar := hB.out.2
              rw [par] at hpar
              obtain ⟨q, hq⟩ : ∃ q, q = b / 2 := ⟨_, rfl⟩
              have eq2 : (b : Int) / 2 = (q : Int) := by omega
              rw [← hq] at hlt hpar
              have hqb : q < b := by omega
              clear hq
              rcases Nat.mod_two_eq_zero_or_one b with hb2 | hb2
              · have hb3 : (b : Int) % 2 = 0 := by omega
                have HP : Hid (q < 2 ^ t' ∧ (od != par t' q) = par m (i &&& k)) := ⟨hlt, by rw [← hpar, hb2]; cases od <;> cases par t' q <;> rfl⟩
                clear hpar hB hlt
                go_wp2
                go_roundw
                case rel => exact ⟨q, t', od, rfl, by first | rfl | (congr 1; cases od <;> rfl), by trivial, by omega, HP.out⟩
                case measure => simp [intOf]; omega
              · have hb3 : (b : Int) % 2 = 1 := by omega
                have HP : Hid (q < 2 ^ t' ∧ ((!od) != par t' q) = par m (i &&& k)) := ⟨hlt, by rw [← hpar, hb2]; cases od <;> cases par t' q <;> rfl⟩
                clear hpar hB hlt
                go_wp2
                go_roundw
                case rel => exact ⟨q, t', !od, rfl, by first | rfl | (congr 1; cases od <;> rfl), by trivial, by omega, HP.out⟩
                case measure => simp [intOf]; omega
        · obtain rfl : i = n := by omega
          have HV : Hid (S = wlv m xs k) := by show S = wlv m xs k; rw [hS.out]; unfold wlv; rw [← HN.out]
          have hb3 := below_one wr (.cells #[.int .i64 S] 3)
          have HO3 := own_below hrel_.out.1 hb3
          have HB3 := bstep hrel_.out.2 hb3
          clear hb3 hS
          go_wp2_with (at_builtin; refine wpList_append_own _ rfl _ _ 24 rfl w.heap.size 3 i0 (.int .i64 0) 1 8 Try.underlying24 hi hz0 hz1 hz2 rfl (by decide) _ _ _ rfl HO3 ⟨wr.heap.size, 0, none⟩ 1 1 [.int .i64 S] rfl rfl (one_new _ _ _) (by simp [Value.oneCell']) (by unfold maxLen; omega) (by omega) HB3.size ?_)
          intro v' w4 hown' hgrow _
          have HB4 : Hid _ := grown_below HB3 (Nat.le_refl _) HO3 hgrow
          rw [HV.out, ← ils_snoc (wlv m xs) k] at hown'
          have HO4 : Hid _ := hown'
          clear hown' hgrow HB3 HO3
          go_wp2
          go_roundw
          case rel => exact ⟨k + 1, by go_num, by omega, HO4.out, HB4.out⟩
          case measure => simp [intOf]; omega
    · obtain rfl : k = n := by omega
      go_wp2
      go_ret2
      exact ⟨_, rfl, hrel.out.1, hrel.out.2⟩

set_option maxHeartbeats 2000000 in
theorem sWalsh_no {w : World} {v : Value} {n : Nat} {xs : Nat → Int} (hv : Il w v n xs) (hn : n ≤ 1048576) (hbad : ¬ GW n xs) (zs : Nat → Int) :
    Calls Try.prog 8 #[v] w fun e w' => Pst w w' e 0 zs false := by
  have i1 := sSig_any hv hn
  have i2 := sWhl_any n
  obtain ⟨ao1, cap1, rfl, hcap1, hc1⟩ := hv
  clear hc1
  by_cases hx : Sig n xs
  · rw [decide_eq_true hx] at i1
    have hy : ¬ Whl n := fun h => hbad ⟨hx, h⟩
    rw [decide_eq_false hy] at i2
    clear hbad hx hy
    go_enter Try.func8, Try.ntmps8
    go_wp2_with (first | (go_at_call 9; (with_reducible refine (i1).mono ?_); rintro e w' ⟨rfl, hw⟩; obtain rfl := hw.symm) | (go_at_call 27; (with_reducible refine (i2 _).mono ?_); rintro e w' ⟨rfl, hw⟩; obtain rfl := hw.symm))
    go_ret2
    exact ⟨_, rfl, own_empty w 3 1, below_one _ _⟩
  · rw [decide_eq_false hx] at i1
    clear hbad hx
    go_enter Try.func8, Try.ntmps8
    go_wp2_with (first | (go_at_call 9; (with_reducible refine (i1).mono ?_); rintro e w' ⟨rfl, hw⟩; obtain rfl := hw.symm) | (go_at_call 27; (with_reducible refine (i2 _).mono ?_); rintro e w' ⟨rfl, hw⟩; obtain rfl := hw.symm))
    go_ret2
    exact ⟨_, rfl, own_empty w 3 1, below_one _ _⟩

set_option maxHeartbeats 2000000 in
theorem iWalsh_no {w : World} {v : Value} {n : Nat} {xs : Nat → Int} (hv : Il w v n xs) (hn : n ≤ 1048576) (hbad : ¬ GW n xs) (zs : Nat → Int) :
    Calls Try.prog 7 #[v] w fun e w' => Pst w w' e 0 zs false := by
  have i1 := iSig_any hv hn
  have i2 := iWhl_any n
  obtain ⟨ao1, cap1, rfl, hcap1, hc1⟩ := hv
  clear hc1
  by_cases hx : Sig n xs
  · rw [decide_eq_true hx] at i1
    have hy : ¬ Whl n := fun h => hbad ⟨hx, h⟩
    rw [decide_eq_false hy] at i2
    clear hbad hx hy
    go_enter Try.func7, Try.ntmps7
    go_wp2_with (first | (go_at_call 22; (with_reducible refine (i1).mono ?_); rintro e w' ⟨rfl, hw⟩; obtain rfl := hw.symm) | (go_at_call 23; (with_reducible refine (i2 _).mono ?_); rintro e w' ⟨rfl, hw⟩; obtain rfl := hw.symm))
    go_ret2
    exact ⟨_, rfl, own_empty w 3 1, below_one _ _⟩
  · rw [decide_eq_false hx] at i1
    clear hbad hx
    go_enter Try.func7, Try.ntmps7
    go_wp2_with (first | (go_at_call 22; (with_reducible refine (i1).mono ?_); rintro e w' ⟨rfl, hw⟩; obtain rfl := hw.symm) | (go_at_call 23; (with_reducible refine (i2 _).mono ?_); rintro e w' ⟨rfl, hw⟩; obtain rfl := hw.symm))
    go_ret2
    exact ⟨_, rfl, own_empty w 3 1, below_one _ _⟩
end Go.Proofs.Ytfmllgohmlocoaa
