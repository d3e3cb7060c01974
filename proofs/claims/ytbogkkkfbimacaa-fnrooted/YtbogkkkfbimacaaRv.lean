/- FnRooted: the walk. -/
import Derived.Test.YtbogkkkfbimacaaRu
namespace Go.Proofs.Ytbogkkkfbimacaa
open Go.RowKit

/-- Small pairs as floats. -/
def Gs (X Y : Nat → Nat) (zs : Nat → Int × Int) (n : Nat) : Prop := Sm zs n ∧ ∀ j, j < n → X j = fk (zs j).1 ∧ Y j = fk (zs j).2

theorem croot_top (xs ys : Nat → Nat) : ∀ n, croot xs ys n n = (some 4607182418800017408, some 0)
  | 0 => rfl
  | n + 1 => by simp [croot]

theorem root_eq {X Y PX PY : Nat → Nat} {zs : Nat → Int × Int} {k q a b : Nat} (hk : k ≤ 8) (hg : Gs X Y zs k) (hcp : ∀ j, j < k + 1 → cn (PX j) = (croot X Y k j).1 ∧ cn (PY j) = (croot X Y k j).2) (hq : q < k)
    (ha : cn a = (cpoly PX PY (k + 1) (cn (X q)) (cn (Y q)) (k + 1 - 1)).1) (hb : cn b = (cpoly PX PY (k + 1) (cn (X q)) (cn (Y q)) (k + 1 - 1)).2) : (eqb a 0 && eqb b 0) = true := by
  have hv : ∀ j, j < k → Vc (cn (X j)) (zs j).1 ∧ Vc (cn (Y j)) (zs j).2 := fun j hj => by
    obtain ⟨e1, e2⟩ := hg.2 j hj
    have hs := hg.1 j hj
    rw [e1, e2]
    exact ⟨Vfk (by omega), Vfk (by omega)⟩
  have hc : ∀ j, j ≤ k → Vc (cn (PX j)) (ir zs k j).1 ∧ Vc (cn (PY j)) (ir zs k j).2 := fun j hj => by
    obtain ⟨e1, e2⟩ := hcp j (by omega)
    rw [e1, e2]
    exact Vroot hk hg.1 hv k (Nat.le_refl _) j hj
  obtain ⟨v1, v2, _⟩ := Vpoly hk hg.1 hc (hg.1 q hq) (hv q hq).1 (hv q hq).2 k (Nat.le_refl _)
  rw [roots_zero zs k q hq] at v1 v2
  rw [show k + 1 - 1 = k by omega] at ha hb
  rw [← ha] at v1
  rw [← hb] at v2
  rw [eqV v1 V_z, eqV v2 V_z]
  rfl

set_option maxHeartbeats 4000000 in
theorem walk_rooted {w : World} {a : Option Addr} {n cap : Nat} (hr : Row w a n) (hn : n ≤ 9223372036854775807) : Calls Try.prog 5 #[.slice a n cap] w fun e w' => e = .returned (.bool true) ∧ Below w.heap.size w w' := by
  have hbg := fun W => big_any (w := W) a n cap hn
  by_cases h : n ≤ 1048576
  · rw [decide_eq_false (show ¬ (1048576 : Int) < n by omega)] at hbg
    obtain ⟨i0, hi, hz0, hz1, hz2⟩ := info_parts Try.info26
    have HR : Hid (Row w a n) := hr
    clear hr
    go_enter Try.func5, Try.ntmps5
    go_wp2_with (go_at_call 7; refine (hbg _).mono ?_; rintro e w' ⟨rfl, hw⟩; obtain rfl := hw.symm)
    go_loopw [3, 4] (fun rs i wr => ∃ k : Nat, i = .int .i64 k ∧ k ≤ 8 ∧ Hid ((∃ X Y zs, wr.ownsRow w.heap.size 26 2 rs k (cl2 X Y k) ∧ Gs X Y zs k) ∧ Below w.heap.size w wr)) (fun _ i _ => 8 - (intOf i).toNat)
    case atStart => exact ⟨0, rfl, by omega, ⟨fun _ => 0, fun _ => 0, fun _ => (0, 0), own_empty w 26 2, fun j hj => by omega, fun j hj => by omega⟩, below_one _ _⟩
    case round =>
      obtain ⟨k, rfl, hk, hrel⟩ := hrel
      obtain ⟨X, Y, zs, ho, hg⟩ := hrel.out.1
      obtain ⟨ra, rc, hu3, hrc, hrcell⟩ := fp_of_own ho
      subst hu3
      have HO : Hid (wr.ownsRow w.heap.size 26 2 (.slice ra k rc) k (cl2 X Y k)) := ho
      have HRC : Hid _ := hrcell
      have HG : Hid (Gs X Y zs k) := hg
      have HB : Hid (Below w.heap.size w wr) := hrel.out.2
      have hat := at_any (cap := cap) (HR.out.below hrel.out.2) h 0 (by omega)
      have hro := iRoots_any (fp_of_own HO.out) (by omega)
      clear ho hg hrel hrcell
      go_wp2_with (first
        | (go_at_call 17; refine hat.mono ?_; rintro e w' ⟨v, rfl, lv, hw⟩; obtain rfl := hw.symm)
        | (go_at_call 16; refine (gauss_any (HR.out.below HB.out) h (2 * k + 1) (by omega)).mono ?_; rintro e w2 ⟨x, y, rfl, hx, hy, hb2⟩; have hb3 := bstep hb2 (below_one w2 (.cells #[.float .f64 (fk x), .float .f64 (fk y)] 26)); have HO3 := own_below HO.out hb3; have HB3 := bstep HB.out hb3)
        | (at_builtin; refine wpList_append_own _ rfl _ _ 36 rfl w.heap.size 26 i0 (.agg #[.float .f64 0, .float .f64 0]) 2 16 Try.underlying36 hi hz0 hz1 hz2 rfl (by decide) _ _ _ rfl HO3 ⟨w2.heap.size, 0, none⟩ 1 1 [.float .f64 (fk x), .float .f64 (fk y)] rfl rfl (two_new _ _ _ _) (by simp [Value.oneCell']) (by unfold maxLen; omega) (by omega) HB3.size ?_)
        | (go_at_call 20; refine hro.mono ?_; rintro e w5 ⟨p, PX, PY, rfl, hop, hcp, hb5⟩; obtain ⟨pa, pc, hp, hpc, hpcell⟩ := fp_of_own hop; subst hp; obtain ⟨gp, op, rfl, hlp, hpc2⟩ := hpcell (by omega); have HP : Hid (Fp w5 (.slice (some ⟨gp, op, none⟩) (k + 1) pc) (k + 1) PX PY) := fp_of_own hop; have HCP : Hid _ := hcp; have HB5 : Hid (Below w.heap.size w w5) := bstep HB.out hb5; have D5 : Hid (Below wr.heap.size wr w5) := hb5; obtain ⟨ct0, ct1⟩ := hpc2 k (by omega); have e1 := cn_inv ((hcp k (by omega)).1.trans (congrArg Prod.fst (croot_top X Y k))); have e2 := cn_inv ((hcp k (by omega)).2.trans (congrArg Prod.snd (croot_top X Y k))); rw [e1] at ct0; rw [e2] at ct1; clear hop hcp hb5 hpc2 e1 e2 hro hlp)
        | (go_at_call 14; refine (iEq_any _ _ _ _ _).mono ?_; rw [eq_one]; rintro e w6 ⟨rfl, hb6⟩))
      · intro v' w4 hown' hgrow _
        have HB4 : Hid _ := grown_below HB3 (Nat.le_refl _) HO3 hgrow
        rw [cl2_snoc] at hown'
        have HO4 : Hid (w4.ownsRow w.heap.size 26 2 v' (k + 1) _) := hown'
        clear hown' hgrow HB3 HO3 hb3 hb2
        go_wp2
        go_roundw
        case rel =>
          refine ⟨k + 1, by go_num, by omega, ⟨_, _, fun j => if j = k then (x, y) else zs j, HO4.out, fun j hj => ?_, fun j hj => ?_⟩, HB4.out⟩
          · by_cases hjk : j = k
            · simp only [if_pos hjk]; exact ⟨hx, hy⟩
            · simp only [if_neg hjk]; exact HG.out.1 j (by omega)
          · by_cases hjk : j = k
            · simp only [if_pos hjk]; exact ⟨trivial, trivial⟩
            · simp only [if_neg hjk]; exact HG.out.2 j (by omega)
        case measure => simp [intOf]; omega
      · have hB6 : Hid (Below w.heap.size w w6) := bstep HB5.out hb6
        have D6 : Hid (Below wr.heap.size wr w6) := bstep D5.out hb6
        have HP6 : Hid (Fp w6 (.slice (some ⟨gp, op, none⟩) (k + 1) pc) (k + 1) PX PY) := HP.out.below hb6
        clear hb6 ct0 ct1
        go_loopw [6] (fun i wq => ∃ q : Nat, i = .int .i64 q ∧ q ≤ k ∧ Hid (Below w6.heap.size w6 wq)) (fun i _ => k - (intOf i).toNat)
        case atStart => exact ⟨0, rfl, by omega, Below.refl _ _⟩
        case round =>
          obtain ⟨q, rfl, hq, hrel⟩ := hrel
          by_cases h1 : q < k
          · obtain ⟨b, off, rfl, hlt, hcell⟩ := HRC.out (by omega)
            obtain ⟨c0, c1⟩ := hcell q h1
            have D7 := D6.out.trans (hrel.out.mono D6.out.size)
            have c0' := (D7.cell (p := ⟨b, off + q * 2, none⟩) hlt).trans c0
            have c1' := (D7.cell (p := ⟨b, off + q * 2 + 1, none⟩) hlt).trans c1
            have hpo := iPoly_any (X q) (Y q) (HP6.out.below hrel.out) (by omega) (by omega)
            clear c0 c1 hcell hlt D7
            go_wp2_with (first
              | (go_at_call 21; refine hpo.mono ?_; rintro e w7 ⟨r1, r2, rfl, er1, er2, hb7⟩; have hq0 := root_eq hk HG.out HCP.out h1 er1 er2)
              | (go_at_call 14; refine (iEq_any _ _ _ _ _).mono ?_; rw [hq0]; rintro e w8 ⟨rfl, hb8⟩))
            go_roundw
            case rel => exact ⟨q + 1, by go_num, by omega, bstep (bstep hrel.out hb7) hb8⟩
            case measure => simp [intOf]; omega
          · obtain rfl : q = k := by omega
            go_wp2
            go_ret
            exact ⟨rfl, bstep hB6.out hrel.out⟩
  · rw [decide_eq_true (show (1048576 : Int) < n by omega)] at hbg
    clear hr
    go_enter Try.func5, Try.ntmps5
    go_wp2_with (go_at_call 7; refine (hbg _).mono ?_; rintro e w' ⟨rfl, hw⟩; obtain rfl := hw.symm)
    go_ret
    exact ⟨rfl, Below.refl _ _⟩
end Go.Proofs.Ytbogkkkfbimacaa
