/- Cic: the model. -/
import Derived.Test.YtnhkiknmbjaafaaCA
namespace Go.Proofs.Ytnhkiknmbjaafaa
open Go.RowKit

set_option maxHeartbeats 4000000 in
theorem sCic_good {w : World} {v : Value} {n m s : Nat} {xs : Nat → Int} {B : Nat} (hv : w.ownsRow B 3 1 v n (ils xs n)) (hx : n ≤ 512 ∧ Wth 32767 n xs) (h0 : 1 ≤ m) (hm : m ≤ 32) (hs0 : 1 ≤ s) (hs : s ≤ 5) :
    Calls Try.prog 7 #[v, .int .i64 (m : Int), .int .i64 (s : Int)] w fun e w' => Pst w w' e (n / m) (thn m (gtn m xs s)) true := by
  obtain ⟨i0, hi, hz0, hz1, hz2⟩ := info_parts Try.info3
  have h512 := hx.1
  have i1 := sWth_any (il_of_own hv) (by omega) (M := 32767) (by omega)
  rw [decide_eq_true hx.2] at i1
  have i2 := in_any (m : Int) 1 32
  rw [decide_eq_true (by omega)] at i2
  have i3 := in_any (s : Int) 1 5
  rw [decide_eq_true (by omega)] at i3
  have HW : Hid (Wth 32767 n xs) := hx.2
  have HV : Hid ((w.alloc (.cells #[] 3)).ownsRow B 3 1 v n (ils xs n)) := own_below hv (below_one _ _)
  have HE : Hid ((w.alloc (.cells #[] 3)).ownsRow w.heap.size 3 1 (.slice (some ⟨w.heap.size, 0, none⟩) 0 0) 0 []) := own_empty w 3 1
  have BE : Hid (Below w.heap.size w (w.alloc (.cells #[] 3))) := below_one _ _
  obtain ⟨ao, cap, rfl, hcap, hc⟩ := il_of_own hv
  clear hc hx hv
  go_enter Try.func7, Try.ntmps7
  go_wp2_with (first
    | (go_at_call 20; (with_reducible refine i1.mono ?_); rintro e w' ⟨rfl, hw⟩; obtain rfl := hw.symm)
    | (go_at_call 21; (with_reducible refine (i2 _).mono ?_); rintro e w' ⟨rfl, hw⟩; obtain rfl := hw.symm)
    | (go_at_call 21; (with_reducible refine (i3 _).mono ?_); rintro e w' ⟨rfl, hw⟩; obtain rfl := hw.symm)
    | (at_builtin; refine wpList_appo rfl _ _ rfl w.heap.size B _ _ _ _ _ _ rfl rfl HE.out HV.out (by omega) BE.out.size ?_))
  intro u w1 ho hg
  have HI0 : Hid (Il w1 u n (gtn m xs 0) ∧ Below w.heap.size w w1) := ⟨il_of_own ho, grown_below BE.out (Nat.le_refl _) HE.out hg⟩
  clear ho hg HE BE HV
  go_wp2
  go_loopw [8, 9] (fun u i wr => ∃ k : Nat, i = .int .i64 k ∧ k ≤ s ∧ Hid (Il wr u n (gtn m xs k) ∧ Below w.heap.size w wr)) (fun _ i _ => s - (intOf i).toNat)
  case atStart => exact ⟨0, rfl, by omega, HI0.out⟩
  case round =>
    obtain ⟨k, rfl, hk, hrel⟩ := hrel
    by_cases h1 : k < s
    · obtain ⟨hil, hbl⟩ := hrel.out
      have i4 := sGat_any hil (by omega) (gtn_bnd hm HW.out (by omega)) (show 0 < m by omega) (show m ≤ 512 by omega)
      have HBL : Hid (Below w.heap.size w wr) := hbl
      obtain ⟨ao', cap', rfl, hcap', _⟩ := hil
      clear hbl hrel
      go_wp2_with (first
        | (go_at_call 22; (with_reducible refine i4.mono ?_); rintro e w2 ⟨u, rfl, h5, h6⟩; have H5 : Hid (Il w2 u n (gtn m xs (k + 1))) := il_of_own h5; have H6 : Hid (Below w.heap.size w w2) := bstep HBL.out h6; clear h5 h6))
      go_roundw
      case rel => exact ⟨k + 1, by go_num, by omega, H5.out, H6.out⟩
      case measure => simp [intOf]; omega
    · obtain rfl : k = s := by omega
      rename World => V0
      obtain ⟨hil, hbl⟩ := hrel.out
      have HBL : Hid (Below w.heap.size w V0) := hbl
      obtain ⟨ao', cap', rfl, hcap', hc'⟩ := hil
      have HCE : Hid (0 < n → ∃ b off, ao' = some ⟨b, off, none⟩ ∧ b < V0.heap.size ∧ ∀ q, q < n → V0.cell? ⟨b, off + q, none⟩ = some (.int .i64 (gtn m xs k q))) := hc'
      have HOW : Hid ((V0.alloc (.cells #[] 3)).ownsRow V0.heap.size 3 1 (.slice (some ⟨V0.heap.size, 0, none⟩) 0 0) 0 (ils (thn m (gtn m xs k)) 0)) := own_empty V0 3 1
      have HBK : Hid (Below V0.heap.size V0 (V0.alloc (.cells #[] 3))) := below_one _ _
      have e0 : (m : Int) - 1 = ((m - 1 : Nat) : Int) := by omega
      have m1 : m - 1 + 1 = m := by omega
      generalize m - 1 = m' at e0 m1
      clear hc' hbl hrel
      go_wp2
      generalize hH1 : V0.heap.size = H1 at *
      have HH1 : Hid (V0.heap.size = H1) := hH1
      clear hH1
      generalize hW5 : V0.alloc (.cells #[] 3) = W5 at *
      clear hW5
      go_loopw [10, 11] (fun o i wr2 => ∃ j a : Nat, i = .int .i64 a ∧ Hid ((a + 1 = m * (j + 1) ∧ m * j ≤ n) ∧ wr2.ownsRow H1 3 1 o j (ils (thn m (gtn m xs k)) j) ∧ Below H1 V0 wr2)) (fun _ i _ => n + m - (intOf i).toNat)
      case atStart => exact ⟨0, m', rfl, ⟨by rw [m1]; omega, by omega⟩, HOW.out, HBK.out⟩
      case round =>
        obtain ⟨j, a, rfl, hrel2⟩ := hrel
        have HM : Hid (a + 1 = m * (j + 1) ∧ m * j ≤ n) := hrel2.out.1
        obtain ⟨_, e3, e5⟩ := hrel2.out
        have HE5 : Hid (Below H1 V0 wr) := e5
        by_cases h1 : a < n
        · obtain ⟨b, off, rfl, hlt, hcell⟩ := HCE.out (by omega)
          have c := (e5.cell (p := ⟨b, off + a, none⟩) hlt).trans (hcell a h1)
          have hy : gtn m xs k a = thn m (gtn m xs k) j := by
            show _ = gtn m xs k (m * (j + 1) - 1)
            rw [← HM.out.1]; rfl
          rw [hy] at c
          generalize hz : thn m (gtn m xs k) j = z at c hy
          have HZ : Hid (thn m (gtn m xs k) j = z) := hz
          clear hz hy hcell
          have hjb : j ≤ n := by have := HM.out.2; have := Nat.le_mul_of_pos_left j (show 0 < m by omega); omega
          have hb3 := below_one wr (.cells #[.int .i64 z] 3)
          have HO3 := own_below e3 hb3
          have HB3 : Below H1 V0 _ := e5.trans (hb3.mono (by have := HE5.out.size; have := HH1.out; omega))
          have HS3 := HB3.size
          rw [HH1.out] at HS3
          clear hb3 e3 e5 hrel2
          go_wp2_with (first | (at_builtin; refine wpList_append_own _ rfl _ _ 24 rfl H1 3 i0 (.int .i64 0) 1 8 Try.underlying24 hi hz0 hz1 hz2 rfl (by decide) _ _ _ rfl HO3 ⟨wr.heap.size, 0, none⟩ 1 1 [.int .i64 z] rfl rfl (one_new _ _ _) (by simp [Value.oneCell']) (by unfold maxLen; omega) (by omega) HS3 ?_))
          intro v' w4 hown' hgrow _
          have HB4 : Hid (Below H1 V0 w4) := grown_below HB3 (by rw [HH1.out]; exact Nat.le_refl _) HO3 hgrow
          rw [← HZ.out, ← ils_snoc (thn m (gtn m xs k)) j] at hown'
          have HO4 : Hid _ := hown'
          clear hown' hgrow HB3 HO3
          go_wp2
          go_roundw
          case rel => exact ⟨j + 1, a + m, by go_num, ⟨by have := HM.out.1; rw [Nat.mul_succ]; omega, by have := HM.out.1; omega⟩, HO4.out, HB4.out⟩
          case measure => simp [intOf]; omega
        · have hj : n / m = j := Nat.div_eq_of_lt_le (by have := HM.out.2; rw [Nat.mul_comm]; exact this) (by have := HM.out.1; rw [Nat.mul_comm]; omega)
          have HF : Hid (wr.ownsRow w.heap.size 3 1 u10 (n / m) (ils (thn m (gtn m xs k)) (n / m))) := by
            rw [hj]
            exact own_base e3 (by have := HBL.out.size; rw [HH1.out] at this; exact this)
          have HB4 : Hid (Below w.heap.size w wr) := HBL.out.trans (HE5.out.mono (by have := HBL.out.size; rw [HH1.out] at this; exact this))
          clear e3 e5 hrel2 hj
          go_wp2
          go_ret2
          exact ⟨_, rfl, HF.out, HB4.out⟩


set_option maxHeartbeats 2000000 in
theorem sCic_bad {w : World} {v : Value} {n : Nat} {r s : Int} {xs : Nat → Int} (hv : Il w v n xs) (hn : n ≤ 1048576) (h : ¬ GC n xs r s) (ys : Nat → Int) :
    Calls Try.prog 7 #[v, .int .i64 r, .int .i64 s] w fun e w' => Pst w w' e 0 ys false := by
  have i1 := sWth_any hv hn (M := 32767) (by omega)
  have i2 := in_any r 1 32
  have i3 := in_any s 1 5
  obtain ⟨ao, cap, rfl, hcap, hc⟩ := hv
  clear hc
  by_cases h5 : n ≤ 512
  · by_cases hx : Wth 32767 n xs
    · rw [decide_eq_true hx] at i1
      by_cases hr : 1 ≤ r ∧ r ≤ 32
      · rw [decide_eq_true hr] at i2
        rw [decide_eq_false (fun e => h ⟨⟨h5, hx⟩, hr, e⟩)] at i3
        clear h hx hr
        go_enter Try.func7, Try.ntmps7
        go_wp2_with (first
          | (go_at_call 20; (with_reducible refine i1.mono ?_); rintro e w' ⟨rfl, hw⟩; obtain rfl := hw.symm)
          | (go_at_call 21; (with_reducible refine (i2 _).mono ?_); rintro e w' ⟨rfl, hw⟩; obtain rfl := hw.symm)
          | (go_at_call 21; (with_reducible refine (i3 _).mono ?_); rintro e w' ⟨rfl, hw⟩; obtain rfl := hw.symm))
        go_ret2
        exact ⟨_, rfl, own_empty w 3 1, below_one _ _⟩
      · rw [decide_eq_false hr] at i2
        clear h hx hr i3
        go_enter Try.func7, Try.ntmps7
        go_wp2_with (first
          | (go_at_call 20; (with_reducible refine i1.mono ?_); rintro e w' ⟨rfl, hw⟩; obtain rfl := hw.symm)
          | (go_at_call 21; (with_reducible refine (i2 _).mono ?_); rintro e w' ⟨rfl, hw⟩; obtain rfl := hw.symm))
        go_ret2
        exact ⟨_, rfl, own_empty w 3 1, below_one _ _⟩
    · rw [decide_eq_false hx] at i1
      clear h hx i2 i3
      go_enter Try.func7, Try.ntmps7
      go_wp2_with (first
        | (go_at_call 20; (with_reducible refine i1.mono ?_); rintro e w' ⟨rfl, hw⟩; obtain rfl := hw.symm))
      go_ret2
      exact ⟨_, rfl, own_empty w 3 1, below_one _ _⟩
  · clear h i1 i2 i3
    go_enter Try.func7, Try.ntmps7
    go_wp2
    go_ret2
    exact ⟨_, rfl, own_empty w 3 1, below_one _ _⟩
end Go.Proofs.Ytnhkiknmbjaafaa
