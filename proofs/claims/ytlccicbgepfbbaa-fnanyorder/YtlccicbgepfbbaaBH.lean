/- Balance of the model. -/
import Derived.Test.YtlccicbgepfbbaaBG
import Derived.BigRegion
import Derived.Deep.QuietTactic
namespace Go.Proofs.Ytlccicbgepfbbaa
open Go.RowKit

theorem own_putV {w : World} {B g0 n c j : Nat} {f : Nat → Nat} {y : Nat} (h : w.ownsRow B 3 1 (.slice (some ⟨g0, 0, none⟩) n c) n (ils (fun i => ((f i : Nat) : Int)) n)) : (w.setCell ⟨g0, j, none⟩ (.int .i64 (y : Int))).ownsRow B 3 1 (.slice (some ⟨g0, 0, none⟩) n c) n (ils (fun i => ((if i = j then y else f i : Nat) : Int)) n) := by
  have h1 := (World.ownsRow.stored h j (.int .i64 (y : Int))).1
  rw [ils_put] at h1
  rw [ils_congr fun i hi => ?_]
  · exact h1
  · by_cases e : i = j
    · rw [if_pos e, if_pos e]
    · rw [if_neg e, if_neg e]

theorem row_congrV {w : World} {B n : Nat} {v : Value} {f g : Nat → Nat} (h : w.ownsRow B 3 1 v n (ils (fun i => ((f i : Nat) : Int)) n)) (e : ∀ k, k < n → f k = g k) : w.ownsRow B 3 1 v n (ils (fun i => ((g i : Nat) : Int)) n) := by
  rw [← ils_congr (f := fun i => ((f i : Nat) : Int)) fun i hi => by rw [e i hi]]
  exact h

set_option maxHeartbeats 4000000 in
theorem sBal_bad {w : World} {v : Value} {m : Nat} {ss : Nat → Wr} (n : Int) (hv : Il5 w v m ss) (hm : m ≤ 1048576) (h : ¬ Wok n m ss) (ys : Nat → Int) :
    Calls Try.prog 13 #[.int .i64 n, v] w fun e w' => Pst w w' e 0 ys false := by
  have i1 := sWok_any n hv hm
  rw [decide_eq_false h] at i1
  go_enter Try.func13, Try.ntmps13
  go_wp2_with (go_at_call 29; (with_reducible refine i1.mono ?_); rintro e w2 ⟨rfl, hb⟩; have BX : Hid (Below w.heap.size w w2) := hb; clear hb)
  go_ret2
  exact ⟨_, rfl, own_base (nil_own w2 ys) BX.out.size, bstep BX.out (below_one _ _)⟩

set_option maxRecDepth 100000 in
set_option maxHeartbeats 16000000 in
theorem sBal_any {w : World} {v : Value} {n m : Nat} {ss : Nat → Wr} (hv : Il5 w v m ss) (hw : Wok (n : Int) m ss) :
    Calls Try.prog 13 #[.int .i64 (n : Int), v] w fun e w' => Bpo n m ss w w' e := by
  have h40 := hw.2.1
  have n20 : n ≤ 20 := by have := hw.1; omega
  have n1 : 1 ≤ n := by have := hw.1; omega
  have i1 := sWok_any (n : Int) hv (by omega)
  rw [decide_eq_true hw] at i1
  have HW : Hid (Wok (n : Int) m ss) := hw
  have HOK : Hid ((wsn ss).ok n m) := wsn_ok hw
  have HV : Hid (Il5 w v m ss) := hv
  clear hw hv
  obtain ⟨i0, hi, hz0, hz1, hz2⟩ := info_parts Try.info3
  go_enter Try.func13, Try.ntmps13
  go_upto_region 3 with (go_at_call 29; (with_reducible refine i1.mono ?_); rintro e V ⟨rfl, hb⟩; have BX : Hid (Below w.heap.size w V) := hb; clear hb)
  clear i1
  obtain ⟨w1, hm, hrow, hgr⟩ := run_makeSlice_full (P := Try.prog) V V.heap.size 27 3 i0 (.int .i64 0) 1 Try.underlying27 hi hz0 hz1 .i64 .i64 n (by omega) (by rw [hz2]; omega) (by unfold maxLen; omega) (Nat.le_refl _)
  rw [made_zero] at hrow
  have hbw : Below V.heap.size V w1 := (Below.refl _ _).grown hgr (Nat.le_refl _) (fun _ h => by cases h)
  clear hgr hi hz0 hz1 hz2
  obtain ⟨g0, hg0⟩ : ∃ g, g = V.heap.size := ⟨_, rfl⟩
  have HG0 : Hid (g0 = V.heap.size) := hg0
  rw [← hg0] at hm
  have R0 : Hid (w1.ownsRow V.heap.size 3 1 (.slice (some ⟨g0, 0, none⟩) n n) n (ils (fun i => ((0 : Nat) : Int)) n)) := by show w1.ownsRow V.heap.size 3 1 (.slice (some ⟨g0, 0, none⟩) n n) n (ils (fun i => ((0 : Nat) : Int)) n); rw [hg0]; exact hrow
  have B0 : Hid (Below V.heap.size V w1) := hbw
  clear hrow hbw hg0
  go_wp2
  clear hm
  go_loopw [8, 9, 10, 11] (fun bv _ _ _ wr => ∃ (b : Nat) (out : Nat → Nat), bv = .int .i64 b ∧ b ≤ n ∧ Hid (All (wsn ss) n m b out ∧ (∀ k, k < n → out k ≤ b * 256000000) ∧ wr.ownsRow V.heap.size 3 1 (.slice (some ⟨g0, 0, none⟩) n n) n (ils (fun i => ((out i : Nat) : Int)) n) ∧ Below V.heap.size V wr)) (fun bv _ _ _ _ => n - (intOf bv).toNat)
  case atStart => exact ⟨0, _, rfl, by omega, all_0 _ n m, fun k _ => Nat.zero_le _, R0.out, B0.out⟩
  case round =>
    obtain ⟨b, out, rfl, hb, hrel⟩ := hrel
    have HA : Hid (All (wsn ss) n m b out) := hrel.out.1
    have HM : Hid (∀ k, k < n → out k ≤ b * 256000000) := hrel.out.2.1
    have HR : Hid (wr.ownsRow V.heap.size 3 1 (.slice (some ⟨g0, 0, none⟩) n n) n (ils (fun i => ((out i : Nat) : Int)) n)) := hrel.out.2.2.1
    have HB : Hid (Below V.heap.size V wr) := hrel.out.2.2.2
    clear hrel
    by_cases h1 : b < n
    · have a0 := World.ownsRow.cellAt HR.out b (by omega)
      rw [ils_get h1] at a0
      obtain ⟨ob, hob⟩ : ∃ x, x = out b := ⟨_, rfl⟩
      have HOB : Hid (ob = out b) := hob
      rw [← hob] at a0
      clear hob
      by_cases h2 : 0 < ob
      · have HA2 : Hid (All (wsn ss) n m (b + 1) out) := all_skip HA.out (by rw [← HOB.out]; omega)
        have HM2 : Hid (∀ k, k < n → out k ≤ (b + 1) * 256000000) := fun k hk => Nat.le_trans (HM.out k hk) (Nat.mul_le_mul_right _ (by omega))
        go_wp2
        go_roundw
        case rel => exact ⟨b + 1, out, by go_num, by omega, HA2.out, HM2.out, HR.out, HB.out⟩
        case measure => simp [intOf]; omega
      · obtain rfl : ob = 0 := by omega
        clear h2
        go_wp2_with (go_at_call 45; (with_reducible refine (sPart_any (HV.out.below (BX.out.trans (HB.out.mono BX.out.size))) HW.out h1).mono ?_); rintro e V3 ho; rcases ho with ⟨num, u, p1, p2, p3, p4, rfl, p5, p6⟩ | ⟨p1, u, rfl, p2⟩)
        · have P1 : Hid _ := p1
          have P2 : Hid _ := p2
          have P3 : Hid _ := p3
          have P4 : Hid (∀ k, k < n → num k ≤ 256000000) := p4
          have P5 : Hid (V3.ownsRow wr.heap.size 3 1 u n (ils (fun i => (num i : Int)) n)) := p5
          have P6 : Hid (Below V.heap.size V V3) := HB.out.trans (p6.mono HB.out.size)
          have R3 : Hid (V3.ownsRow V.heap.size 3 1 (.slice (some ⟨g0, 0, none⟩) n n) n (ils (fun i => ((out i : Nat) : Int)) n)) := own_below HR.out p6
          have HGW : Hid (g0 < wr.heap.size) := (World.ownsRow.lt HR.out g0 rfl).2
          obtain ⟨uo, uc, rfl, hug⟩ := own_open p5
          have HUG : Hid (0 < n → ∃ g, uo = some ⟨g, 0, none⟩) := hug
          clear p1 p2 p3 p4 p5 p6 hug
          go_wp2
          go_loopw [11] (fun kv wr => ∃ k : Nat, kv = .int .i64 k ∧ k ≤ n ∧ Hid (wr.ownsRow V.heap.size 3 1 (.slice (some ⟨g0, 0, none⟩) n n) n (ils (fun i => ((if i < k then out i + num i else out i : Nat) : Int)) n) ∧ Il wr (.slice uo n uc) n (fun i => (num i : Int)) ∧ Below V.heap.size V wr)) (fun kv _ => n - (intOf kv).toNat)
          case atStart => exact ⟨0, rfl, by omega, row_congrV R3.out (fun k _ => by rw [if_neg (by omega)]), il_of_own P5.out, P6.out⟩
          case round =>
            obtain ⟨k, rfl, hk, hrel⟩ := hrel
            have HR4 : Hid (wr.ownsRow V.heap.size 3 1 (.slice (some ⟨g0, 0, none⟩) n n) n (ils (fun i => ((if i < k then out i + num i else out i : Nat) : Int)) n)) := hrel.out.1
            have HU4 : Hid (Il wr (.slice uo n uc) n (fun i => (num i : Int))) := hrel.out.2.1
            have HB4 : Hid (Below V.heap.size V wr) := hrel.out.2.2
            clear hrel
            by_cases h3 : k < n
            · have a0 := World.ownsRow.cellAt HR4.out k (by omega)
              rw [ils_get h3, if_neg (Nat.lt_irrefl k)] at a0
              have z0 := World.ownsRow.frozenAt HR4.out k
              obtain ⟨ub, rfl⟩ := HUG.out (by omega)
              obtain ⟨ao2, ac2, hzz, _, hzc⟩ := HU4.out
              obtain ⟨zb, zf, hzo, _, hzc⟩ := hzc (by omega)
              injection hzz with hz1 hz2 hz3
              rw [hzo] at hz1
              injection hz1 with hz1
              injection hz1 with hz1 hz4 hz5
              subst hz1
              subst hz4
              have a1 : wr.cell? ⟨ub, k, none⟩ = some (.int .i64 (num k : Int)) := by
                have h := hzc k h3
                rw [Nat.zero_add] at h
                exact h
              clear hzc hzo hz2 hz3 hz5
              have HNE : Hid (¬ ub = g0) := by
                intro e
                have h5 := (World.ownsRow.lt P5.out ub rfl).1
                have := HGW.out
                omega
              have m0 := HM.out k h3
              have m1 := P4.out k h3
              obtain ⟨ok, hok⟩ : ∃ x, x = out k := ⟨_, rfl⟩
              obtain ⟨nk, hnk⟩ : ∃ x, x = num k := ⟨_, rfl⟩
              have HON : Hid (ok = out k ∧ nk = num k) := ⟨hok, hnk⟩
              rw [← hok] at a0 m0
              rw [← hnk] at a1 m1
              clear hok hnk
              have m2 : b * 256000000 ≤ 20 * 256000000 := Nat.mul_le_mul_right _ (by omega)
              have m0i : (ok : Int) ≤ 5120000000 := by omega
              have m1i : (nk : Int) ≤ 256000000 := by omega
              obtain ⟨sk, hsk⟩ : ∃ x, x = ok + nk := ⟨_, rfl⟩
              have HSK : Hid (sk = ok + nk) := hsk
              have ske : (ok : Int) + (nk : Int) = (sk : Int) := by omega
              have sk3 : (sk : Int) ≤ 6000000000 := by omega
              clear hsk m0 m1 m2
              have RP : Hid ((wr.setCell ⟨g0, k, none⟩ (.int .i64 (sk : Int))).ownsRow V.heap.size 3 1 (.slice (some ⟨g0, 0, none⟩) n n) n (ils (fun i => ((if i < k + 1 then out i + num i else out i : Nat) : Int)) n)) := row_congrV (own_putV (j := k) (y := sk) HR4.out) (fun i hi => by
                by_cases e : i = k
                · rw [if_pos e, if_pos (by omega), e, HSK.out, HON.out.1, HON.out.2]
                · rw [if_neg e]
                  by_cases e2 : i < k
                  · rw [if_pos e2, if_pos (by omega)]
                  · rw [if_neg e2, if_neg (by omega)])
              have KP : Hid (Kd (fun q => q = g0) wr (wr.setCell ⟨g0, k, none⟩ (.int .i64 (sk : Int)))) := (Kd.refl (fun q => q = g0) wr).put (.inl rfl) k _
              have UP : Hid (Il (wr.setCell ⟨g0, k, none⟩ (.int .i64 (sk : Int))) (.slice (some ⟨ub, 0, none⟩) n uc) n (fun i => (num i : Int))) := il_kd HU4.out KP.out (by intro b2 o2 e; injection e with e1; injection e1 with e2; subst e2; exact HNE.out)
              have BP : Hid (Below V.heap.size V (wr.setCell ⟨g0, k, none⟩ (.int .i64 (sk : Int)))) := Kd.below HB4.out KP.out HB4.out.size (by rintro q rfl; rw [HG0.out]; exact Nat.le_refl _)
              have hug : ¬ ub = g0 := HNE.out
              have hug2 : ¬ g0 = ub := fun e => hug e.symm
              go_wp2
              go_region
              go_wp2
              go_roundw
              case rel => exact ⟨k + 1, by go_num, by omega, own_drew RP.out, UP.out.below (Below.refl _ _).drew, BP.out.drew⟩
              case measure => simp [intOf]; omega
            · have hkn : n = k := by omega
              subst hkn
              have HA3 : Hid (All (wsn ss) n m (b + 1) (fun k => out k + num k)) := all_add HOK.out HA.out HOB.out.symm P1.out P2.out P3.out
              have HM3 : Hid (∀ k, k < n → out k + num k ≤ (b + 1) * 256000000) := fun k hk => by have := HM.out k hk; have := P4.out k hk; omega
              have R5 : Hid (wr.ownsRow V.heap.size 3 1 (.slice (some ⟨g0, 0, none⟩) n n) n (ils (fun i => ((out i + num i : Nat) : Int)) n)) := row_congrV HR4.out (fun i hi => by rw [if_pos hi])
              go_wp2
              go_roundw
              case rel => exact ⟨b + 1, _, by go_num, by omega, HA3.out, HM3.out, R5.out, HB4.out⟩
              case measure => simp [intOf]; omega
        · have P1 : Hid _ := p1
          have P2 : Hid (Below w.heap.size w V3) := bstep BX.out (HB.out.trans (p2.mono HB.out.size))
          clear p1 p2
          go_wp2
          go_ret2
          exact .inr ⟨P1.out, fun ys => ⟨_, rfl, own_base (nil_own V3 ys) P2.out.size, bstep P2.out (below_one _ _)⟩⟩
    · have hbn : n = b := by omega
      subst hbn
      have HSB : Hid (∀ k, k ≤ n → smN k out ≤ k * 5120000000) := by
        intro k
        induction k with
        | zero => intro _; exact Nat.zero_le _
        | succ k ih =>
          intro hk
          have h5 := ih (by omega)
          have h6 := HM.out k (by omega)
          have h7 : n * 256000000 ≤ 20 * 256000000 := Nat.mul_le_mul_right _ n20
          show smN k out + out k ≤ _
          omega
      go_wp2
      go_loopw [7, 12] (fun sm kv wr => ∃ k : Nat, kv = .int .i64 k ∧ k ≤ n ∧ sm = .int .i64 ((smN k out : Nat) : Int) ∧ Hid (wr.ownsRow V.heap.size 3 1 (.slice (some ⟨g0, 0, none⟩) n n) n (ils (fun i => ((out i : Nat) : Int)) n) ∧ Below V.heap.size V wr)) (fun _ kv _ => n - (intOf kv).toNat)
      case atStart => exact ⟨0, rfl, by omega, rfl, HR.out, HB.out⟩
      case round =>
        obtain ⟨k, rfl, hk, rfl, hrel⟩ := hrel
        have HR4 : Hid (wr.ownsRow V.heap.size 3 1 (.slice (some ⟨g0, 0, none⟩) n n) n (ils (fun i => ((out i : Nat) : Int)) n)) := hrel.out.1
        have HB4 : Hid (Below V.heap.size V wr) := hrel.out.2
        clear hrel
        have b1 := HSB.out k hk
        by_cases h3 : k < n
        · have a0 := World.ownsRow.cellAt HR4.out k (by omega)
          rw [ils_get h3] at a0
          have b2 := HM.out k h3
          have b3 : n * 256000000 ≤ 20 * 256000000 := Nat.mul_le_mul_right _ n20
          obtain ⟨x, hx⟩ : ∃ x, x = smN k out := ⟨_, rfl⟩
          obtain ⟨y, hy⟩ : ∃ y, y = out k := ⟨_, rfl⟩
          have HE : Hid (smN (k + 1) out = x + y) := by show smN k out + out k = _; rw [hx, hy]
          rw [← hx] at b1 ⊢
          rw [← hy] at a0 b2
          clear hx hy
          have hx3 : (x : Int) ≤ 102400000000 := by omega
          have hy3 : (y : Int) ≤ 5120000000 := by omega
          clear b1 b2 b3
          go_wp2
          go_roundw
          case rel => exact ⟨k + 1, by go_num, by omega, by rw [HE.out]; go_num, HR4.out, HB4.out⟩
          case measure => simp [intOf]; omega
        · have hkn : n = k := by omega
          subst hkn
          obtain ⟨x, hx⟩ : ∃ x, x = smN n out := ⟨_, rfl⟩
          have HX : Hid (x = smN n out) := hx
          rw [← hx]
          clear hx b1
          by_cases h2 : x ≤ 2000
          · go_wp2
            go_ret2
            exact .inl ⟨out, all_end HA.out (by rw [← HX.out]; exact h2), _, rfl, own_base HR4.out BX.out.size, bstep BX.out HB4.out⟩
          · have HNO : Hid (¬ ∃ x, Sol (wsn ss) n m x) := all_few HA.out (by rw [← HX.out]; exact h2)
            have BW4 : Hid (Below w.heap.size w wr) := bstep BX.out HB4.out
            go_wp2
            go_ret2
            exact .inr ⟨HNO.out, fun ys => ⟨_, rfl, own_base (nil_own wr ys) BW4.out.size, bstep BW4.out (below_one _ _)⟩⟩

/-- Both sides' Balance of wires that are such, by whether there are numbers. -/
theorem bpo_yes {n m : Nat} {ss : Nat → Wr} {w w' : World} {e : Ending} {r : Nat → Nat} (h : Bpo n m ss w w' e) (hr : Lst (wsn ss) n m r) : Pst w w' e n (fun i => (r i : Int)) true := by
  rcases h with ⟨r', h1, u, rfl, h2, h3⟩ | ⟨h1, _⟩
  · exact ⟨u, rfl, row_congrV h2 (fun k hk => lst_one h1 hr hk), h3⟩
  · exact absurd ⟨r, hr.1⟩ h1

theorem bpo_no {n m : Nat} {ss : Nat → Wr} {w w' : World} {e : Ending} (h : Bpo n m ss w w' e) (hr : ¬ ∃ x, Sol (wsn ss) n m x) (ys : Nat → Int) : Pst w w' e 0 ys false := by
  rcases h with ⟨r', h1, _⟩ | ⟨_, h2⟩
  · exact absurd ⟨r', h1.1⟩ hr
  · exact h2 ys
end Go.Proofs.Ytlccicbgepfbbaa
