/- The model's RsCode. -/
import Derived.Test.YtpjpkkgcnnmljaaRX
import Derived.Test.YtpjpkkgcnnmljaaRG
import Derived.Test.YtpjpkkgcnnmljaaGU
import Derived.Test.YtpjpkkgcnnmljaaI1
import Derived.RegionTactic
import Derived.Deep.RegionWith
import Derived.WalkMore
import Derived.BigQuiet
namespace Go.Proofs.Ytpjpkkgcnnmljaa
open Go.RowKit

/-- The next product, behind i of its numbers. -/
def nxt (j i k : Nat) : Nat := (if k ≤ j then gen j k else 0) ^^^ (if 1 ≤ k ∧ k ≤ i then gm (gen j (k - 1)) (gpw j) else 0)
theorem nxt_lt (j i k : Nat) : nxt j i k < 256 := by
  unfold nxt
  refine xor_lt8 ?_ ?_
  · split
    · exact gen_lt j k
    · omega
  · split
    · exact gm_lt (gen_lt j _) _
    · omega
theorem nxt_zero (j k : Nat) : nxt j 0 k = if k ≤ j then gen j k else 0 := by
  unfold nxt
  rw [if_neg (show ¬ (1 ≤ k ∧ k ≤ 0) by omega), Nat.xor_zero]
theorem nxt_at {j i : Nat} (_h : i ≤ j) : nxt j i (i + 1) ^^^ gm (gen j i) (gpw j) = nxt j (i + 1) (i + 1) := by
  unfold nxt
  rw [if_neg (show ¬ (1 ≤ i + 1 ∧ i + 1 ≤ i) by omega), if_pos (show 1 ≤ i + 1 ∧ i + 1 ≤ i + 1 by omega), Nat.xor_zero, Nat.add_sub_cancel]
theorem nxt_other {j i k : Nat} (h : k ≠ i + 1) : nxt j (i + 1) k = nxt j i k := by
  unfold nxt
  by_cases e : 1 ≤ k ∧ k ≤ i
  · rw [if_pos e, if_pos (show 1 ≤ k ∧ k ≤ i + 1 by omega)]
  · rw [if_neg e, if_neg (show ¬ (1 ≤ k ∧ k ≤ i + 1) by omega)]
theorem nxt_end {j k : Nat} (h : k ≤ j + 1) : nxt j (j + 1) k = gen (j + 1) k := by
  show _ = (if k ≤ j then gen j k else 0) ^^^ (if k = 0 then 0 else gm (gen j (k - 1)) (gpw j))
  unfold nxt
  by_cases e : k = 0
  · rw [if_neg (show ¬ (1 ≤ k ∧ k ≤ j + 1) by omega), if_pos e]
  · rw [if_pos (show 1 ≤ k ∧ k ≤ j + 1 by omega), if_neg e]

/-- The next rest, behind k of its numbers. -/
def rsx (T : Nat) (d : Nat → Nat) (i k q : Nat) : Nat := (if q + 1 < T then rst T d i (q + 1) else 0) ^^^ (if q < k then gm (rst T d i 0 ^^^ d i) (gen T (q + 1)) else 0)
theorem rsx_lt {T : Nat} {d : Nat → Nat} (hd : ∀ k, d k < 256) (i k q : Nat) : rsx T d i k q < 256 := by
  unfold rsx
  refine xor_lt8 ?_ ?_
  · split
    · exact rst_lt hd _ _
    · omega
  · split
    · exact gm_lt (xor_lt8 (rst_lt hd _ _) (hd i)) _
    · omega
theorem rsx_zero (T : Nat) (d : Nat → Nat) (i q : Nat) : rsx T d i 0 q = if q + 1 < T then rst T d i (q + 1) else 0 := by
  unfold rsx
  rw [if_neg (show ¬ q < 0 by omega), Nat.xor_zero]
theorem rsx_at (T : Nat) (d : Nat → Nat) (i k : Nat) : rsx T d i k k ^^^ gm (rst T d i 0 ^^^ d i) (gen T (k + 1)) = rsx T d i (k + 1) k := by
  unfold rsx
  rw [if_neg (show ¬ k < k by omega), if_pos (show k < k + 1 by omega), Nat.xor_zero]
theorem rsx_other {T : Nat} {d : Nat → Nat} {i k q : Nat} (h : q ≠ k) : rsx T d i (k + 1) q = rsx T d i k q := by
  unfold rsx
  by_cases e : q < k
  · rw [if_pos e, if_pos (show q < k + 1 by omega)]
  · rw [if_neg e, if_neg (show ¬ q < k + 1 by omega)]
theorem rsx_end {T : Nat} {d : Nat → Nat} {i q : Nat} (h : q < T) : rsx T d i T q = rst T d (i + 1) q := by
  show _ = (if q + 1 < T then rst T d i (q + 1) else 0) ^^^ gm (rst T d i 0 ^^^ d i) (gen T (q + 1))
  unfold rsx
  rw [if_pos h]

theorem own_cap {w : World} {B g n c : Nat} {f : Nat → Int} (h : w.ownsRow B 3 1 (.slice (some ⟨g, 0, none⟩) n c) n (ils f n)) : n ≤ c := by
  obtain ⟨ar, cr, hsl, hcr, _⟩ := il_of_own h
  injection hsl with _ _ hc1
  omega

theorem xor_i8 {a b : Nat} (ha : a < 256) (hb : b < 256) : bits .xor .i64 (a : Int) (b : Int) = ((a ^^^ b : Nat) : Int) := xor_nat (by omega) (by omega)

set_option maxRecDepth 50000 in
set_option maxHeartbeats 16000000 in
theorem sCode_good {w : World} {v : Value} {nd t : Nat} {xs : Nat → Int} (hv : Bl w v nd xs) (hb : Byt nd xs) (h : Cod nd (t : Int)) :
    Calls Try.prog 15 #[v, .int .i64 (t : Int)] w fun e w' => Pbo w w' e (nd + 2 * t) (fun q => ((cwd (2 * t) nd (nb nd xs) q : Nat) : Int)) true := by
  obtain ⟨i0, hi, hz0, hz1, hz2⟩ := info_parts Try.info3
  obtain ⟨j0, ji, jz0, jz1, jz2⟩ := info_parts Try.info5
  have ht := h.1
  have hn := h.2
  have hG := nb_lt hb
  obtain ⟨G, hGG⟩ : ∃ G, G = nb nd xs := ⟨_, rfl⟩
  have i1 := sMend_any (t : Int)
  rw [decide_eq_true ht] at i1
  have i2 := in_any (nd : Int) 1 (255 - 2 * (t : Int))
  rw [decide_eq_true (show (1 : Int) ≤ (nd : Int) ∧ (nd : Int) ≤ 255 - 2 * (t : Int) by omega)] at i2
  have hv2 : Bl w v nd (fun q => ((G q : Nat) : Int)) := by
    obtain ⟨ao, cap, e, h1, h2⟩ := hv
    exact ⟨ao, cap, e, h1, fun h0 => by
      obtain ⟨b, off, h3, h4, h5⟩ := h2 h0
      exact ⟨b, off, h3, h4, fun k hk => by rw [h5 k hk, nb_at hb hk, hGG]⟩⟩
  rw [← hGG] at hG ⊢
  have HG : Hid (∀ k, G k < 256) := hG
  have HV : Hid (Bl w v nd (fun q => ((G q : Nat) : Int))) := hv2
  have h2t : 2 ≤ 2 * t ∧ 2 * t ≤ 16 := by omega
  have hnd : 1 ≤ nd ∧ nd ≤ 253 := by omega
  have A0 : Hid ((w.alloc (.cells #[.int .i64 1] 3)).ownsRow w.heap.size 3 1 (.slice (some ⟨w.heap.size, 0, none⟩) 1 1) (0 + 1) (ils (fun k => ((gen 0 k : Nat) : Int)) (0 + 1))) := World.ownsRow_lit (base := w.heap.size) (e := 3) (size := 1) w #[.int .i64 1] 1 (Nat.le_refl _) (by decide) rfl
  have BA : Hid (Below w.heap.size w (w.alloc (.cells #[.int .i64 1] 3))) := below_one _ _
  obtain ⟨ao, cap, rfl, hcap, hcd⟩ := hv2
  have HCD : Hid (∃ b off, ao = some ⟨b, off, none⟩ ∧ b < w.heap.size ∧ ∀ k, k < nd → w.cell? ⟨b, off + k, none⟩ = some (.int .u8 ((G k : Nat) : Int))) := hcd (by omega)
  clear hb h hG hGG hv hcd
  go_enter Try.func15, Try.ntmps15
  go_upto_region 4 with (first | (go_at_call 31; (with_reducible refine (i1 _).mono ?_); rintro e w' ⟨rfl, hw⟩; obtain rfl := hw.symm) | (go_at_call 14; (with_reducible refine (i2 _).mono ?_); rintro e w' ⟨rfl, hw⟩; obtain rfl := hw.symm))
  clear i1 i2
  generalize (Value.slice (some ⟨w.heap.size, 0, none⟩) 1 1) = ug0 at *
  generalize w.alloc (.cells #[.int .i64 1] 3) = W2 at *
  go_wp2
  go_loopw [6, 7, 8, 9] (fun ug jx _ _ wr => ∃ j : Nat, jx = .int .i64 (j : Int) ∧ j ≤ 2 * t ∧ Hid (wr.ownsRow w.heap.size 3 1 ug (j + 1) (ils (fun k => ((gen j k : Nat) : Int)) (j + 1)) ∧ Below w.heap.size w wr)) (fun _ jx _ _ _ => 2 * t - (intOf jx).toNat)
  case atStart => exact ⟨0, rfl, by omega, A0.out, BA.out⟩
  case round =>
    obtain ⟨j, rfl, hj, HR⟩ := hrel
    clear A0 BA
    obtain ⟨gg, cg, hug, hgB, hgw⟩ := own_someb HR.out.1 (by omega)
    subst hug
    by_cases h1 : j < 2 * t
    · have OE : Hid ((wr.alloc (.cells #[] 3)).ownsRow wr.heap.size 3 1 (.slice (some ⟨wr.heap.size, 0, none⟩) 0 0) 0 (ils (fun k => ((gen j k : Nat) : Int)) 0)) := own_empty wr 3 1
      have SR : Hid (Il (wr.alloc (.cells #[] 3)) (.slice (some ⟨gg, 0, none⟩) (j + 1) cg) (j + 1) (fun k => ((gen j k : Nat) : Int))) := (il_of_own HR.out.1).below (below_one _ _)
      have BE : Hid (Below wr.heap.size wr (wr.alloc (.cells #[] 3))) := below_one _ _
      go_upto_region 8 with (first
        | (at_builtin; (fail_if_success have := M1); refine wpList_appi rfl _ _ rfl wr.heap.size _ _ 0 (j + 1) _ (fun k => ((gen j k : Nat) : Int)) rfl rfl OE.out SR.out (by omega) BE.out.size ?_; intro v1 w1 hown hgrow; have M1 : Hid True := trivial; have O1 : Hid ((w1.alloc (.cells #[.int .i64 0] 3)).ownsRow wr.heap.size 3 1 v1 (j + 1) (ils (fun k => ((gen j k : Nat) : Int)) (j + 1))) := (by have h := hown; rw [Nat.zero_add] at h; exact own_below h (below_one _ _)); have B1 : Hid (Below wr.heap.size wr (w1.alloc (.cells #[.int .i64 0] 3))) := bstep (grown_below BE.out (Nat.le_refl _) OE.out hgrow) (below_one _ _); clear hown hgrow)
        | (at_builtin; refine wpList_app _ rfl _ _ 40 rfl wr.heap.size 3 i0 (.int .i64 0) 1 8 Try.underlying40 hi hz0 hz1 hz2 rfl (by decide) _ _ _ rfl O1.out ⟨w1.heap.size, 0, none⟩ 1 1 [.int .i64 0] rfl rfl (one_new _ _ _) (by simp [Value.oneCell']) (by unfold maxLen; omega) (by omega) B1.out.size (by decide) ?_; intro v2 w2 hown hgrow _; have B2 : Hid (Below wr.heap.size wr w2) := grown_below B1.out (Nat.le_refl _) O1.out hgrow; have O2 : Hid (w2.ownsRow wr.heap.size 3 1 v2 ((j + 1) + 1) (ils (fun k => ((gen j k : Nat) : Int)) (j + 1) ++ [.int .i64 0])) := hown; clear hown hgrow))
      clear OE SR BE O1 B1 M1
      obtain ⟨g2, c2, hv2, hg2B, hg2w⟩ := own_someb O2.out (by omega)
      subst hv2
      have ON : Hid (w2.ownsRow wr.heap.size 3 1 (.slice (some ⟨g2, 0, none⟩) (j + 1 + 1) c2) (j + 1 + 1) (ils (fun k => ((nxt j 0 k : Nat) : Int)) (j + 1 + 1))) := by
        have e := ils_snoc (fun k => ((nxt j 0 k : Nat) : Int)) (j + 1)
        rw [ils_congr (n := j + 1) (g := fun k => ((gen j k : Nat) : Int)) (fun k hk => by rw [nxt_zero, if_pos (by omega)])] at e
        have e2 : ((nxt j 0 (j + 1) : Nat) : Int) = 0 := by rw [nxt_zero, if_neg (by omega)]; rfl
        rw [e2] at e
        show World.ownsRow _ _ _ _ _ _ _
        rw [e]
        exact O2.out
      have cG : Hid (∀ k, k < j + 1 → wr.cell? ⟨gg, k, none⟩ = some (.int .i64 ((gen j k : Nat) : Int))) := fun k hk => by
        have := HR.out.1.cellAt k (by omega)
        rw [ils_get hk] at this
        exact this
      have LW : Hid (Below w.heap.size w wr) := HR.out.2
      clear O2 HR
      obtain ⟨W3, rfl⟩ : ∃ W3, W3 = wr := ⟨_, rfl⟩
      obtain ⟨W4, rfl⟩ : ∃ W4, W4 = w2 := ⟨_, rfl⟩
      go_wp2
      go_loopw [9] (fun ix wi => ∃ i : Nat, ix = .int .i64 (i : Int) ∧ i ≤ j + 1 ∧ Hid (wi.ownsRow W3.heap.size 3 1 (.slice (some ⟨g2, 0, none⟩) (j + 1 + 1) c2) (j + 1 + 1) (ils (fun k => ((nxt j i k : Nat) : Int)) (j + 1 + 1)) ∧ Below W3.heap.size W3 wi)) (fun ix _ => j + 1 - (intOf ix).toNat)
      case atStart => exact ⟨0, rfl, by omega, ON.out, B2.out⟩
      case round =>
        obtain ⟨i, rfl, hi2, HI⟩ := hrel
        clear ON B2
        by_cases h2 : i < j + 1
        · have cT := HI.out.1.cellAt (i + 1) (by omega)
          rw [ils_get (show i + 1 < j + 1 + 1 by omega)] at cT
          have zT := HI.out.1.frozenAt (i + 1)
          have ip := sPow_any (k := j) (by omega)
          have im := sMul_yes (gen_lt j i) (gpw_lt j)
          have hx := xor_i8 (nxt_lt j i (i + 1)) (gm_lt (gen_lt j i) (gpw j))
          rw [nxt_at (by omega)] at hx
          have hG1 := (HI.out.2.cell (p := ⟨gg, i, none⟩) hgw).trans (cG.out i h2)
          have HI2 : Hid (Below W3.heap.size W3 wr) := HI.out.2
          obtain ⟨i2, hi3⟩ : ∃ i2 : Nat, i2 = i + 1 := ⟨_, rfl⟩
          have hi4 : (i : Int) + 1 = (i2 : Int) := by omega
          have hi5 : i2 < j + 1 + 1 := by omega
          obtain ⟨y1, hy1⟩ : ∃ y1, y1 = nxt j (i + 1) (i + 1) := ⟨_, rfl⟩
          obtain ⟨y0, hy0⟩ : ∃ y0, y0 = nxt j i (i + 1) := ⟨_, rfl⟩
          rw [← hy1] at hx
          rw [← hy0] at hx cT
          rw [← hi3] at cT zT
          have hst := ((own_below HI.out.1 (Below.refl _ _).drew).stored i2 (.int .i64 ((y1 : Nat) : Int))).1
          rw [ils_put] at hst
          have e9 := ils_congr (n := j + 1 + 1) (f := fun k => if k = i2 then ((y1 : Nat) : Int) else ((nxt j i k : Nat) : Int)) (g := fun k => ((nxt j (i + 1) k : Nat) : Int)) (fun k _ => by
            show (if k = i2 then ((y1 : Nat) : Int) else ((nxt j i k : Nat) : Int)) = ((nxt j (i + 1) k : Nat) : Int)
            by_cases e : k = i2
            · rw [if_pos e, e, hy1, hi3]
            · rw [if_neg e, nxt_other (by omega)])
          rw [e9] at hst
          clear e9
          obtain ⟨ym, hym⟩ : ∃ ym, ym = gm (gen j i) (gpw j) := ⟨_, rfl⟩
          rw [← hym] at hx im
          obtain ⟨yp, hyp⟩ : ∃ yp, yp = gpw j := ⟨_, rfl⟩
          rw [← hyp] at ip im
          obtain ⟨yg, hyg⟩ : ∃ yg, yg = gen j i := ⟨_, rfl⟩
          rw [← hyg] at hG1 im
          have HN1 : Hid ((wr.drew.setCell ⟨g2, i2, none⟩ (.int .i64 ((y1 : Nat) : Int))).ownsRow W3.heap.size 3 1 (.slice (some ⟨g2, 0, none⟩) (j + 1 + 1) c2) (j + 1 + 1) (ils (fun k => ((nxt j (i + 1) k : Nat) : Int)) (j + 1 + 1)) ∧ Below W3.heap.size W3 (wr.drew.setCell ⟨g2, i2, none⟩ (.int .i64 ((y1 : Nat) : Int)))) := ⟨hst, HI2.out.drew.setCell (p := ⟨g2, i2, none⟩) hg2B _⟩
          have HXR : Hid (bits .xor .i64 ((y0 : Nat) : Int) ((ym : Nat) : Int) = ((y1 : Nat) : Int)) := hx
          have hng : gg ≠ g2 := by omega
          obtain ⟨W0, hW0⟩ : ∃ W0, W0 = wr.drew := ⟨_, rfl⟩
          have cT2 : W0.cell? ⟨g2, i2, none⟩ = some (.int .i64 ((y0 : Nat) : Int)) := by rw [hW0]; exact cT
          have zT2 : W0.frozen? ⟨g2, i2, none⟩ = false := by rw [hW0]; exact zT
          rw [← hW0] at HN1
          have hG2 : W0.cell? ⟨gg, i, none⟩ = some (.int .i64 ((yg : Nat) : Int)) := by rw [hW0]; exact hG1
          obtain ⟨W1, hW1⟩ : ∃ W1, W1 = W0.setCell ⟨g2, i2, none⟩ (.int .i64 ((y1 : Nat) : Int)) := ⟨_, rfl⟩
          rw [← hW1] at HN1
          have raG : ∀ X, (X = W0 ∨ X = W1) → X.cell? ⟨gg, i, none⟩ = some (.int .i64 ((yg : Nat) : Int)) := fun X hX => by
            rcases hX with rfl | rfl
            · exact hG2
            · rw [hW1, World.cell?_setCell_other _ _ _ _ (fun e => hng (by injection e with e1 _ _; exact e1.symm))]; exact hG2
          have HW1 : Hid (W1 = W0.setCell ⟨g2, i2, none⟩ (.int .i64 ((y1 : Nat) : Int))) := hW1
          clear hst hx cT zT hG1 HI hi3 hy1 hy0 hym hyp hyg hng hG2 hW1
          go_upto_region 11 with fail
          refine wp_region_any (by kernel_rfl) ?_
          change wpAny _ _ _ _ _ _ _ (World.drew _)
          rw [← hW0]
          clear hW0
          refine wpI_any (I := fun X => X = W0 ∨ X = W1) _ _ _ _ ?_
          refine wpI_take (i := 0) (v := ?_) rfl (by kernel_rfl) (by kernel_rfl) (by kernel_rfl) (fun _ _ _ h => h) ⟨by rfl, ?_⟩ ?_
          rotate_left
          · intro X hI; go_simp; try go_bits
            try rw [if_pos (by omega)]
            try with_reducible rfl
          refine wpI_take (i := 1) (v := ?_) rfl (by kernel_rfl) (by kernel_rfl) (by kernel_rfl) (fun _ _ _ h => h) ⟨by rfl, ?_⟩ ?_
          rotate_left
          · intro X hI; go_simp; try go_bits
            try rw [if_pos (by omega)]
            try with_reducible rfl
          refine wpI_take (i := 2) (v := ?_) rfl (by kernel_rfl) (by kernel_rfl) (by kernel_rfl) (fun _ _ _ h => h) ⟨by rfl, ?_⟩ ?_
          rotate_left
          · intro X hI; go_simp; try go_bits
            try rw [if_pos (by omega)]
            try with_reducible rfl
          refine wpI_take (i := 3) (v := ?_) rfl (by kernel_rfl) (by kernel_rfl) (by kernel_rfl) (fun _ _ _ h => h) ⟨by rfl, ?_⟩ ?_
          rotate_left
          · intro X hI; go_simp; try go_bits
            try rw [if_pos (by omega)]
            try with_reducible rfl
          refine wpI_take (i := 4) (v := ?_) rfl (by kernel_rfl) (by kernel_rfl) (by kernel_rfl) (fun _ _ _ h => h) ⟨by rfl, ?_⟩ ?_
          rotate_left
          · intro X hI; go_simp; try go_bits
            try rw [if_pos (by omega)]
            try with_reducible rfl
          refine wpI_take (i := 5) (v := ?_) rfl (by kernel_rfl) (by kernel_rfl) (by kernel_rfl) (fun _ _ _ h => h) ⟨by rfl, ?_⟩ ?_
          rotate_left
          · intro X hI; go_simp; try go_bits
            try rw [if_pos (by omega)]
            try with_reducible rfl
          refine wpI_take (i := 6) (v := ?_) rfl (by kernel_rfl) (by kernel_rfl) (by kernel_rfl) (fun _ _ _ h => h) ⟨by rfl, ?_⟩ ?_
          rotate_left
          · intro X hI; go_simp; try go_bits
            try rw [if_pos (by omega)]
            try with_reducible rfl
          refine wpI_take (i := 8) (v := ?_) rfl (by kernel_rfl) (by kernel_rfl) (by kernel_rfl) (fun _ _ _ h => h) ⟨by rfl, ?_⟩ ?_
          rotate_left
          · intro X hI; go_simp; try go_bits
            try rw [if_pos (by omega)]
            try with_reducible rfl
          refine wpI_take (i := 9) (v := ?_) rfl (by kernel_rfl) (by kernel_rfl) (by kernel_rfl) (fun _ _ _ h => h) ⟨by rfl, ?_⟩ ?_
          rotate_left
          · intro X hI; go_simp; try go_bits
            try rw [if_pos (by omega)]
            try with_reducible rfl
          refine wpI_take (i := 10) (v := ?_) rfl (by kernel_rfl) (by kernel_rfl) (by kernel_rfl) (fun _ _ _ h => h) ⟨by rfl, ?_⟩ ?_
          rotate_left
          · intro X hI; go_simp; try go_bits
            try rw [if_pos (by omega)]
            try with_reducible rfl
          refine wpI_take (i := 12) (v := ?_) rfl (by kernel_rfl) (by kernel_rfl) (by kernel_rfl) (fun _ _ _ h => h) ⟨by rfl, ?_⟩ ?_
          rotate_left
          · intro X hI; go_simp; try go_bits
            try rw [if_pos (by omega)]
            try with_reducible rfl
          refine wpI_take (i := 11) (v := ?_) rfl (by kernel_rfl) (by kernel_rfl) (by kernel_rfl) (fun _ _ _ h => h) ⟨by rfl, ?_⟩ ?_
          rotate_left
          · intro X hI; have q1 := raG X hI; go_simp; try go_bits
            try rw [if_pos (by omega)]
            try with_reducible rfl
          refine wpI_two (i := 7) (j := 13) rfl rfl (by kernel_rfl) (.inl rfl) (by rfl) (by rfl) ?_ ?_
          · intro K hK
            go_simp
            refine hK _ _ ?_
            refine wpI_only (i := 13) rfl (by kernel_rfl) (.inl rfl) (by rfl) ?_
            intro K hK
            go_simp
            go_wp2_with (go_at_call 33; (with_reducible refine (ip _).mono ?_); rintro e w' ⟨rfl, hw⟩; obtain rfl := hw.symm)
            refine wpI_only (i := 14) rfl (by kernel_rfl) (.inl rfl) (by rfl) ?_
            intro K hK
            go_simp
            go_wp2_with (go_at_call 32; (with_reducible refine (im _).mono ?_); rintro e w' ⟨rfl, hw⟩; obtain rfl := hw.symm)
            refine wpI_take (i := 15) (v := .int .i64 ((y1 : Nat) : Int)) rfl (by kernel_rfl) (by kernel_rfl) (by kernel_rfl) (fun _ _ _ h => h) ⟨by rfl, ?_⟩ ?_
            · intro X hI; have hxx := HXR.out; go_simp; try go_bits
              try rw [if_pos (by omega)]
              try trivial
            refine wpI_take (i := 16) (v := ?_) rfl (by kernel_rfl) (by kernel_rfl) (by kernel_rfl) (fun _ _ _ h => h) ⟨by rfl, ?_⟩ ?_
            rotate_left
            · intro X hI; go_simp; try go_bits
              try rw [if_pos (by omega)]
              try with_reducible rfl
            refine wpI_only (i := 17) rfl (by kernel_rfl) (.inl rfl) (by rfl) ?_
            intro K hK
            go_simp
            refine hK _ _ ?_
            rw [← HW1.out]
            refine wpI_done (.inr rfl) (by kernel_rfl) ?_ _
            go_wp2
            go_roundw
            case rel => exact ⟨i + 1, by go_num, by omega, HN1.out⟩
            case measure => simp [intOf]; omega
          · intro K hK
            go_simp
            go_wp2_with (go_at_call 33; (with_reducible refine (ip _).mono ?_); rintro e w' ⟨rfl, hw⟩; obtain rfl := hw.symm)
            refine wpI_two (i := 7) (j := 14) rfl rfl (by kernel_rfl) (.inl rfl) (by rfl) (by rfl) ?_ ?_
            · intro K hK
              go_simp
              refine hK _ _ ?_
              refine wpI_only (i := 14) rfl (by kernel_rfl) (.inl rfl) (by rfl) ?_
              intro K hK
              go_simp
              go_wp2_with (go_at_call 32; (with_reducible refine (im _).mono ?_); rintro e w' ⟨rfl, hw⟩; obtain rfl := hw.symm)
              refine wpI_take (i := 15) (v := .int .i64 ((y1 : Nat) : Int)) rfl (by kernel_rfl) (by kernel_rfl) (by kernel_rfl) (fun _ _ _ h => h) ⟨by rfl, ?_⟩ ?_
              · intro X hI; have hxx := HXR.out; go_simp; try go_bits
                try rw [if_pos (by omega)]
                try trivial
              refine wpI_take (i := 16) (v := ?_) rfl (by kernel_rfl) (by kernel_rfl) (by kernel_rfl) (fun _ _ _ h => h) ⟨by rfl, ?_⟩ ?_
              rotate_left
              · intro X hI; go_simp; try go_bits
                try rw [if_pos (by omega)]
                try with_reducible rfl
              refine wpI_only (i := 17) rfl (by kernel_rfl) (.inl rfl) (by rfl) ?_
              intro K hK
              go_simp
              refine hK _ _ ?_
              rw [← HW1.out]
              refine wpI_done (.inr rfl) (by kernel_rfl) ?_ _
              go_wp2
              go_roundw
              case rel => exact ⟨i + 1, by go_num, by omega, HN1.out⟩
              case measure => simp [intOf]; omega
            · intro K hK
              go_simp
              go_wp2_with (go_at_call 32; (with_reducible refine (im _).mono ?_); rintro e w' ⟨rfl, hw⟩; obtain rfl := hw.symm)
              refine wpI_only (i := 7) rfl (by kernel_rfl) (.inl rfl) (by rfl) ?_
              intro K hK
              go_simp
              refine hK _ _ ?_
              refine wpI_take (i := 15) (v := .int .i64 ((y1 : Nat) : Int)) rfl (by kernel_rfl) (by kernel_rfl) (by kernel_rfl) (fun _ _ _ h => h) ⟨by rfl, ?_⟩ ?_
              · intro X hI; have hxx := HXR.out; go_simp; try go_bits
                try rw [if_pos (by omega)]
                try trivial
              refine wpI_take (i := 16) (v := ?_) rfl (by kernel_rfl) (by kernel_rfl) (by kernel_rfl) (fun _ _ _ h => h) ⟨by rfl, ?_⟩ ?_
              rotate_left
              · intro X hI; go_simp; try go_bits
                try rw [if_pos (by omega)]
                try with_reducible rfl
              refine wpI_only (i := 17) rfl (by kernel_rfl) (.inl rfl) (by rfl) ?_
              intro K hK
              go_simp
              refine hK _ _ ?_
              rw [← HW1.out]
              refine wpI_done (.inr rfl) (by kernel_rfl) ?_ _
              go_wp2
              go_roundw
              case rel => exact ⟨i + 1, by go_num, by omega, HN1.out⟩
              case measure => simp [intOf]; omega
        · obtain rfl : i = j + 1 := by omega
          have e9 := ils_congr (n := j + 1 + 1) (f := fun k => ((nxt j (j + 1) k : Nat) : Int)) (g := fun k => ((gen (j + 1) k : Nat) : Int)) (fun k hk => by show ((nxt j (j + 1) k : Nat) : Int) = _; rw [nxt_end (by omega)])
          have HO := HI.out.1
          rw [e9] at HO
          have HO2 : Hid (wr.ownsRow w.heap.size 3 1 (.slice (some ⟨g2, 0, none⟩) (j + 1 + 1) c2) (j + 1 + 1) (ils (fun k => ((gen (j + 1) k : Nat) : Int)) (j + 1 + 1))) := own_base HO LW.out.size
          have LW2 : Hid (Below w.heap.size w wr) := bstep LW.out HI.out.2
          clear HI HO e9
          go_wp2
          go_roundw
          case rel => exact ⟨j + 1, by go_num, by omega, HO2.out, LW2.out⟩
          case measure => simp [intOf]; omega
    · obtain rfl : j = 2 * t := by omega
      have cG : Hid (∀ k, k < 2 * t + 1 → wr.cell? ⟨gg, k, none⟩ = some (.int .i64 ((gen (2 * t) k : Nat) : Int))) := fun k hk => by
        have := HR.out.1.cellAt k (by omega)
        rw [ils_get hk] at this
        exact this
      have LW : Hid (Below w.heap.size w wr) := HR.out.2
      have hr : (Instr.makeSlice 40 (.int .i64 (2 * (t : Int))) (.int .i64 (2 * (t : Int)))).run Try.prog wr = .ok (.slice (some ⟨wr.heap.size, 0, none⟩) (2 * t) (2 * t)) (mkd wr (2 * t)) := by
        have := mkd_run wr (k := 2 * t) (by omega)
        have e : ((2 * t : Nat) : Int) = 2 * (t : Int) := by omega
        rw [e] at this
        exact this
      have M0 : Hid ((mkd wr (2 * t)).ownsRow wr.heap.size 3 1 (.slice (some ⟨wr.heap.size, 0, none⟩) (2 * t) (2 * t)) (2 * t) (ils (fun k => ((rst (2 * t) G 0 k : Nat) : Int)) (2 * t))) := mkd_own wr (by omega) (Nat.le_refl _)
      have MB : Hid (Below wr.heap.size wr (mkd wr (2 * t))) := mkd_below wr _
      clear HR
      go_upto_region 14 with fail
      clear hr
      generalize (Value.slice (some ⟨wr.heap.size, 0, none⟩) (2 * t) (2 * t)) = ur0 at *
      generalize mkd wr (2 * t) = W7 at *
      obtain ⟨W8, rfl⟩ : ∃ W8, W8 = wr := ⟨_, rfl⟩
      go_wp2
      go_loopw [10, 11, 12, 13] (fun ur ix _ _ wr => ∃ i : Nat, ix = .int .i64 (i : Int) ∧ i ≤ nd ∧ Hid (wr.ownsRow W8.heap.size 3 1 ur (2 * t) (ils (fun k => ((rst (2 * t) G i k : Nat) : Int)) (2 * t)) ∧ Below W8.heap.size W8 wr)) (fun _ ix _ _ _ => nd - (intOf ix).toNat)
      case atStart => exact ⟨0, rfl, by omega, M0.out, MB.out⟩
      case round =>
        obtain ⟨i, rfl, hi2, HR⟩ := hrel
        clear M0 MB
        obtain ⟨g1, c1, hur, hg1B, hg1w⟩ := own_someb HR.out.1 (by omega)
        subst hur
        have hcr := own_cap HR.out.1
        by_cases h1 : i < nd
        · obtain ⟨b, off, rfl, hbw, hcd⟩ := HCD.out
          have c0 := HR.out.1.cellAt 0 (by omega)
          rw [ils_get (show 0 < 2 * t by omega)] at c0
          have cdt : wr.cell? ⟨b, off + i, none⟩ = some (.int .u8 ((G i : Nat) : Int)) := (HR.out.2.cell (p := ⟨b, off + i, none⟩) (Nat.lt_of_lt_of_le hbw LW.out.size)).trans ((LW.out.cell (p := ⟨b, off + i, none⟩) hbw).trans (hcd i h1))
          have hx := xor_i8 (rst_lt (L := 2 * t) HG.out i 0) (HG.out i)
          have hgi := HG.out i
          obtain ⟨f, hf⟩ : ∃ f, f = rst (2 * t) G i 0 ^^^ G i := ⟨_, rfl⟩
          have HF : Hid (f = rst (2 * t) G i 0 ^^^ G i) := hf
          rw [← hf] at hx
          have hfl : f < 256 := by rw [hf]; exact xor_lt8 (rst_lt HG.out i 0) hgi
          obtain ⟨r0, hr0⟩ : ∃ r0, r0 = rst (2 * t) G i 0 := ⟨_, rfl⟩
          obtain ⟨di, hdi⟩ : ∃ di, di = G i := ⟨_, rfl⟩
          rw [← hr0] at c0 hx
          rw [← hdi] at cdt hx hgi
          have h2c : 2 ≤ c1 := by omega
          have hp2 : 0 < 2 * t := by omega
          clear hf hr0 hdi
          go_upto_region 17 with fail
          go_region
          clear c0 cdt hx hgi
          have HR2 : Hid (wr.drew.ownsRow W8.heap.size 3 1 (.slice (some ⟨g1, 0, none⟩) (2 * t) c1) (2 * t) (ils (fun k => ((rst (2 * t) G i k : Nat) : Int)) (2 * t)) ∧ Below W8.heap.size W8 wr.drew) := ⟨own_below HR.out.1 (Below.refl _ _).drew, HR.out.2.drew⟩
          have hEq : Hid (2 * t - 1 + 1 = 2 * t) := by show _ = _; omega
          clear HR
          generalize wr.drew = W9 at *
          have OE : Hid ((W9.alloc (.cells #[] 3)).ownsRow W9.heap.size 3 1 (.slice (some ⟨W9.heap.size, 0, none⟩) 0 0) 0 (ils (fun k => ((rst (2 * t) G i (k + 1) : Nat) : Int)) 0)) := own_empty W9 3 1
          have SR : Hid (Il (W9.alloc (.cells #[] 3)) (.slice (some ⟨g1, 1, none⟩) (2 * t - 1) (c1 - 1)) (2 * t - 1) (fun k => ((rst (2 * t) G i (k + 1) : Nat) : Int))) := (il_cut (f := fun k => ((rst (2 * t) G i k : Nat) : Int)) HR2.out.1 hEq.out (by omega)).below (below_one _ _)
          have BE : Hid (Below W9.heap.size W9 (W9.alloc (.cells #[] 3))) := below_one _ _
          have hc1 : ¬ c1 = 1 := by omega
          go_upto_region 19 with (first
            | (at_builtin; (fail_if_success have := M1); refine wpList_appi rfl _ _ rfl W9.heap.size _ _ 0 (2 * t - 1) _ (fun k => ((rst (2 * t) G i (k + 1) : Nat) : Int)) rfl rfl OE.out SR.out (by omega) BE.out.size ?_; intro v1 w1 hown hgrow; have M1 : Hid True := trivial; have O1 : Hid ((w1.alloc (.cells #[.int .i64 0] 3)).ownsRow W9.heap.size 3 1 v1 (2 * t - 1) (ils (fun k => ((rst (2 * t) G i (k + 1) : Nat) : Int)) (2 * t - 1))) := (by have h := hown; rw [Nat.zero_add] at h; exact own_below h (below_one _ _)); have B1 : Hid (Below W9.heap.size W9 (w1.alloc (.cells #[.int .i64 0] 3))) := bstep (grown_below BE.out (Nat.le_refl _) OE.out hgrow) (below_one _ _); clear hown hgrow)
            | (at_builtin; refine wpList_app _ rfl _ _ 40 rfl W9.heap.size 3 i0 (.int .i64 0) 1 8 Try.underlying40 hi hz0 hz1 hz2 rfl (by decide) _ _ _ rfl O1.out ⟨w1.heap.size, 0, none⟩ 1 1 [.int .i64 0] rfl rfl (one_new _ _ _) (by simp [Value.oneCell']) (by unfold maxLen; omega) (by omega) B1.out.size (by decide) ?_; intro v2 w2 hown hgrow _; have B2 : Hid (Below W9.heap.size W9 w2) := grown_below B1.out (Nat.le_refl _) O1.out hgrow; have O2 : Hid (w2.ownsRow W9.heap.size 3 1 v2 ((2 * t - 1) + 1) (ils (fun k => ((rst (2 * t) G i (k + 1) : Nat) : Int)) (2 * t - 1) ++ [.int .i64 0])) := hown; clear hown hgrow))
          clear OE SR BE O1 B1 M1
          obtain ⟨g2, c2, hv2, hg2B, hg2w⟩ := own_someb O2.out (by omega)
          subst hv2
          have ON : Hid (w2.ownsRow W9.heap.size 3 1 (.slice (some ⟨g2, 0, none⟩) (2 * t) c2) (2 * t) (ils (fun k => ((rsx (2 * t) G i 0 k : Nat) : Int)) (2 * t))) := by
            have e := ils_snoc (fun k => ((rsx (2 * t) G i 0 k : Nat) : Int)) (2 * t - 1)
            rw [ils_congr (n := 2 * t - 1) (g := fun k => ((rst (2 * t) G i (k + 1) : Nat) : Int)) (fun k hk => by rw [rsx_zero, if_pos (by omega)])] at e
            have e2 : ((rsx (2 * t) G i 0 (2 * t - 1) : Nat) : Int) = 0 := by rw [rsx_zero, if_neg (by omega)]; rfl
            rw [e2, hEq.out] at e
            show World.ownsRow _ _ _ _ _ _ _
            rw [e]
            have := O2.out
            rw [hEq.out] at this
            exact this
          rw [hEq.out]
          have LB9 : Hid (Below W8.heap.size W8 W9) := HR2.out.2
          clear O2 HR2
          obtain ⟨W4, rfl⟩ : ∃ W4, W4 = w2 := ⟨_, rfl⟩
          go_wp2
          go_loopw [13] (fun kx wi => ∃ k : Nat, kx = .int .i64 (k : Int) ∧ k ≤ 2 * t ∧ Hid (wi.ownsRow W9.heap.size 3 1 (.slice (some ⟨g2, 0, none⟩) (2 * t) c2) (2 * t) (ils (fun q => ((rsx (2 * t) G i k q : Nat) : Int)) (2 * t)) ∧ Below W9.heap.size W9 wi)) (fun kx _ => 2 * t - (intOf kx).toNat)
          case atStart => exact ⟨0, rfl, by omega, ON.out, B2.out⟩
          case round =>
            obtain ⟨k, rfl, hk2, HI⟩ := hrel
            clear ON B2
            by_cases h2 : k < 2 * t
            · have cT := HI.out.1.cellAt k (by omega)
              rw [ils_get h2] at cT
              have zT := HI.out.1.frozenAt k
              have im := sMul_yes hfl (gen_lt (2 * t) (k + 1))
              have hx := xor_i8 (rsx_lt (T := 2 * t) HG.out i k k) (gm_lt hfl (gen (2 * t) (k + 1)))
              have e8 : rsx (2 * t) G i k k ^^^ gm f (gen (2 * t) (k + 1)) = rsx (2 * t) G i (k + 1) k := by rw [HF.out]; exact rsx_at _ _ _ _
              rw [e8] at hx
              have hgW : gg < W9.heap.size := Nat.lt_of_lt_of_le hgw LB9.out.size
              have hG1 := (HI.out.2.cell (p := ⟨gg, k + 1, none⟩) hgW).trans ((LB9.out.cell (p := ⟨gg, k + 1, none⟩) hgw).trans (cG.out (k + 1) (by omega)))
              obtain ⟨k2, hk3⟩ : ∃ k2 : Nat, k2 = k + 1 := ⟨_, rfl⟩
              have hk4 : (k : Int) + 1 = (k2 : Int) := by omega
              have hk5 : k2 < 2 * t + 1 := by omega
              obtain ⟨y1, hy1⟩ : ∃ y1, y1 = rsx (2 * t) G i (k + 1) k := ⟨_, rfl⟩
              obtain ⟨y0, hy0⟩ : ∃ y0, y0 = rsx (2 * t) G i k k := ⟨_, rfl⟩
              rw [← hy1] at hx
              rw [← hy0] at hx cT
              have hst := ((own_below HI.out.1 (Below.refl _ _).drew).stored k (.int .i64 ((y1 : Nat) : Int))).1
              rw [ils_put] at hst
              have e9 := ils_congr (n := 2 * t) (f := fun q => if q = k then ((y1 : Nat) : Int) else ((rsx (2 * t) G i k q : Nat) : Int)) (g := fun q => ((rsx (2 * t) G i (k + 1) q : Nat) : Int)) (fun q _ => by
                show (if q = k then ((y1 : Nat) : Int) else ((rsx (2 * t) G i k q : Nat) : Int)) = ((rsx (2 * t) G i (k + 1) q : Nat) : Int)
                by_cases e : q = k
                · rw [if_pos e, e, hy1]
                · rw [if_neg e, rsx_other e])
              rw [e9] at hst
              clear e9 e8
              obtain ⟨ym, hym⟩ : ∃ ym, ym = gm f (gen (2 * t) (k + 1)) := ⟨_, rfl⟩
              rw [← hym] at hx im
              obtain ⟨yg, hyg⟩ : ∃ yg, yg = gen (2 * t) (k + 1) := ⟨_, rfl⟩
              rw [← hyg] at hG1 im
              rw [← hk3] at hG1
              have HN1 : Hid ((wr.drew.setCell ⟨g2, k, none⟩ (.int .i64 ((y1 : Nat) : Int))).ownsRow W9.heap.size 3 1 (.slice (some ⟨g2, 0, none⟩) (2 * t) c2) (2 * t) (ils (fun q => ((rsx (2 * t) G i (k + 1) q : Nat) : Int)) (2 * t)) ∧ Below W9.heap.size W9 (wr.drew.setCell ⟨g2, k, none⟩ (.int .i64 ((y1 : Nat) : Int)))) := ⟨hst, HI.out.2.drew.setCell (p := ⟨g2, k, none⟩) hg2B _⟩
              have HXR : Hid (bits .xor .i64 ((y0 : Nat) : Int) ((ym : Nat) : Int) = ((y1 : Nat) : Int)) := hx
              have hng : gg ≠ g2 := by omega
              obtain ⟨W0, hW0⟩ : ∃ W0, W0 = wr.drew := ⟨_, rfl⟩
              have cT2 : W0.cell? ⟨g2, k, none⟩ = some (.int .i64 ((y0 : Nat) : Int)) := by rw [hW0]; exact cT
              have zT2 : W0.frozen? ⟨g2, k, none⟩ = false := by rw [hW0]; exact zT
              rw [← hW0] at HN1
              have hG2 : W0.cell? ⟨gg, k2, none⟩ = some (.int .i64 ((yg : Nat) : Int)) := by rw [hW0]; exact hG1
              obtain ⟨W1, hW1⟩ : ∃ W1, W1 = W0.setCell ⟨g2, k, none⟩ (.int .i64 ((y1 : Nat) : Int)) := ⟨_, rfl⟩
              rw [← hW1] at HN1
              have raG : ∀ X, (X = W0 ∨ X = W1) → X.cell? ⟨gg, k2, none⟩ = some (.int .i64 ((yg : Nat) : Int)) := fun X hX => by
                rcases hX with rfl | rfl
                · exact hG2
                · rw [hW1, World.cell?_setCell_other _ _ _ _ (fun e => hng (by injection e with e1 _ _; exact e1.symm))]; exact hG2
              have HW1 : Hid (W1 = W0.setCell ⟨g2, k, none⟩ (.int .i64 ((y1 : Nat) : Int))) := hW1
              clear hst hx cT zT hG1 HI hk3 hy1 hy0 hym hyg hng hG2 hW1 hgW
              go_upto_region 22 with fail
              refine wp_region_any (by kernel_rfl) ?_
              change wpAny _ _ _ _ _ _ _ (World.drew _)
              rw [← hW0]
              clear hW0
              refine wpI_any (I := fun X => X = W0 ∨ X = W1) _ _ _ _ ?_
              refine wpI_take (i := 0) (v := ?_) rfl (by kernel_rfl) (by kernel_rfl) (by kernel_rfl) (fun _ _ _ h => h) ⟨by rfl, ?_⟩ ?_
              rotate_left
              · intro X hI; go_simp; try go_bits
                try rw [if_pos (by omega)]
                try with_reducible rfl
              refine wpI_take (i := 1) (v := ?_) rfl (by kernel_rfl) (by kernel_rfl) (by kernel_rfl) (fun _ _ _ h => h) ⟨by rfl, ?_⟩ ?_
              rotate_left
              · intro X hI; go_simp; try go_bits
                try rw [if_pos (by omega)]
                try with_reducible rfl
              refine wpI_take (i := 2) (v := ?_) rfl (by kernel_rfl) (by kernel_rfl) (by kernel_rfl) (fun _ _ _ h => h) ⟨by rfl, ?_⟩ ?_
              rotate_left
              · intro X hI; go_simp; try go_bits
                try rw [if_pos (by omega)]
                try with_reducible rfl
              refine wpI_take (i := 3) (v := ?_) rfl (by kernel_rfl) (by kernel_rfl) (by kernel_rfl) (fun _ _ _ h => h) ⟨by rfl, ?_⟩ ?_
              rotate_left
              · intro X hI; go_simp; try go_bits
                try rw [if_pos (by omega)]
                try with_reducible rfl
              refine wpI_take (i := 4) (v := ?_) rfl (by kernel_rfl) (by kernel_rfl) (by kernel_rfl) (fun _ _ _ h => h) ⟨by rfl, ?_⟩ ?_
              rotate_left
              · intro X hI; go_simp; try go_bits
                try rw [if_pos (by omega)]
                try with_reducible rfl
              refine wpI_take (i := 6) (v := ?_) rfl (by kernel_rfl) (by kernel_rfl) (by kernel_rfl) (fun _ _ _ h => h) ⟨by rfl, ?_⟩ ?_
              rotate_left
              · intro X hI; go_simp; try go_bits
                try rw [if_pos (by omega)]
                try with_reducible rfl
              refine wpI_take (i := 7) (v := ?_) rfl (by kernel_rfl) (by kernel_rfl) (by kernel_rfl) (fun _ _ _ h => h) ⟨by rfl, ?_⟩ ?_
              rotate_left
              · intro X hI; go_simp; try go_bits
                try rw [if_pos (by omega)]
                try with_reducible rfl
              refine wpI_take (i := 8) (v := ?_) rfl (by kernel_rfl) (by kernel_rfl) (by kernel_rfl) (fun _ _ _ h => h) ⟨by rfl, ?_⟩ ?_
              rotate_left
              · intro X hI; go_simp; try go_bits
                try rw [if_pos (by omega)]
                try with_reducible rfl
              refine wpI_take (i := 9) (v := ?_) rfl (by kernel_rfl) (by kernel_rfl) (by kernel_rfl) (fun _ _ _ h => h) ⟨by rfl, ?_⟩ ?_
              rotate_left
              · intro X hI; go_simp; try go_bits
                try rw [if_pos (by omega)]
                try with_reducible rfl
              refine wpI_take (i := 10) (v := ?_) rfl (by kernel_rfl) (by kernel_rfl) (by kernel_rfl) (fun _ _ _ h => h) ⟨by rfl, ?_⟩ ?_
              rotate_left
              · intro X hI; go_simp; try go_bits
                try rw [if_pos (by omega)]
                try with_reducible rfl
              refine wpI_take (i := 11) (v := ?_) rfl (by kernel_rfl) (by kernel_rfl) (by kernel_rfl) (fun _ _ _ h => h) ⟨by rfl, ?_⟩ ?_
              rotate_left
              · intro X hI; have q1 := raG X hI; go_simp; try go_bits
                try rw [if_pos (by omega)]
                try with_reducible rfl
              refine wpI_two (i := 5) (j := 12) rfl rfl (by kernel_rfl) (.inl rfl) (by rfl) (by rfl) ?_ ?_
              · intro K hK
                go_simp
                refine hK _ _ ?_
                refine wpI_only (i := 12) rfl (by kernel_rfl) (.inl rfl) (by rfl) ?_
                intro K hK
                go_simp
                go_wp2_with (go_at_call 32; (with_reducible refine (im _).mono ?_); rintro e w' ⟨rfl, hw⟩; obtain rfl := hw.symm)
                refine wpI_take (i := 13) (v := .int .i64 ((y1 : Nat) : Int)) rfl (by kernel_rfl) (by kernel_rfl) (by kernel_rfl) (fun _ _ _ h => h) ⟨by rfl, ?_⟩ ?_
                · intro X hI; have hxx := HXR.out; go_simp; try go_bits
                  try rw [if_pos (by omega)]
                  try trivial
                refine wpI_take (i := 14) (v := ?_) rfl (by kernel_rfl) (by kernel_rfl) (by kernel_rfl) (fun _ _ _ h => h) ⟨by rfl, ?_⟩ ?_
                rotate_left
                · intro X hI; go_simp; try go_bits
                  try rw [if_pos (by omega)]
                  try with_reducible rfl
                refine wpI_only (i := 15) rfl (by kernel_rfl) (.inl rfl) (by rfl) ?_
                intro K hK
                go_simp
                refine hK _ _ ?_
                rw [← HW1.out]
                refine wpI_done (.inr rfl) (by kernel_rfl) ?_ _
                go_wp2
                go_roundw
                case rel => exact ⟨k + 1, by go_num, by omega, HN1.out⟩
                case measure => simp [intOf]; omega
              · intro K hK
                go_simp
                go_wp2_with (go_at_call 32; (with_reducible refine (im _).mono ?_); rintro e w' ⟨rfl, hw⟩; obtain rfl := hw.symm)
                refine wpI_only (i := 5) rfl (by kernel_rfl) (.inl rfl) (by rfl) ?_
                intro K hK
                go_simp
                refine hK _ _ ?_
                refine wpI_take (i := 13) (v := .int .i64 ((y1 : Nat) : Int)) rfl (by kernel_rfl) (by kernel_rfl) (by kernel_rfl) (fun _ _ _ h => h) ⟨by rfl, ?_⟩ ?_
                · intro X hI; have hxx := HXR.out; go_simp; try go_bits
                  try rw [if_pos (by omega)]
                  try trivial
                refine wpI_take (i := 14) (v := ?_) rfl (by kernel_rfl) (by kernel_rfl) (by kernel_rfl) (fun _ _ _ h => h) ⟨by rfl, ?_⟩ ?_
                rotate_left
                · intro X hI; go_simp; try go_bits
                  try rw [if_pos (by omega)]
                  try with_reducible rfl
                refine wpI_only (i := 15) rfl (by kernel_rfl) (.inl rfl) (by rfl) ?_
                intro K hK
                go_simp
                refine hK _ _ ?_
                rw [← HW1.out]
                refine wpI_done (.inr rfl) (by kernel_rfl) ?_ _
                go_wp2
                go_roundw
                case rel => exact ⟨k + 1, by go_num, by omega, HN1.out⟩
                case measure => simp [intOf]; omega
            · obtain rfl : k = 2 * t := by omega
              have e9 := ils_congr (n := 2 * t) (f := fun q => ((rsx (2 * t) G i (2 * t) q : Nat) : Int)) (g := fun q => ((rst (2 * t) G (i + 1) q : Nat) : Int)) (fun q hq => by show ((rsx (2 * t) G i (2 * t) q : Nat) : Int) = _; rw [rsx_end hq])
              have HO := HI.out.1
              rw [e9] at HO
              have HO2 : Hid (wr.ownsRow W8.heap.size 3 1 (.slice (some ⟨g2, 0, none⟩) (2 * t) c2) (2 * t) (ils (fun q => ((rst (2 * t) G (i + 1) q : Nat) : Int)) (2 * t))) := own_base HO LB9.out.size
              have LW2 : Hid (Below W8.heap.size W8 wr) := bstep LB9.out HI.out.2
              clear HI HO e9
              go_wp2
              go_roundw
              case rel =>
                repeat apply Exists.intro
                exact ⟨⟨i + 1, by go_num, by omega, HO2.out, LW2.out⟩, rfl⟩
              case measure => simp [intOf]; omega
        · obtain rfl : i = nd := by omega
          have cR : Hid (∀ k, k < 2 * t → wr.cell? ⟨g1, k, none⟩ = some (.int .i64 ((rst (2 * t) G i k : Nat) : Int))) := fun k hk => by
            have := HR.out.1.cellAt k (by omega)
            rw [ils_get hk] at this
            exact this
          have LW9 : Hid (Below w.heap.size w wr) := bstep LW.out HR.out.2
          have OW : Hid ((wr.alloc (.cells #[] 5)).ownsRow wr.heap.size 5 1 (.slice (some ⟨wr.heap.size, 0, none⟩) 0 0) 0 (bls (fun q => ((G q : Nat) : Int)) 0)) := own_empty wr 5 1
          have VB : Hid (Bl (wr.alloc (.cells #[] 5)) (.slice ao i cap) i (fun q => ((G q : Nat) : Int))) := (HV.out.below LW9.out).below (below_one _ _)
          have BL : Hid (Below wr.heap.size wr (wr.alloc (.cells #[] 5))) := below_one _ _
          clear HR
          go_upto_region 24 with (first
            | (at_builtin; refine wpList_appb rfl _ _ rfl wr.heap.size _ _ 0 i _ _ rfl rfl OW.out VB.out (by omega) BL.out.size ?_; intro v' w2 hown hgrow; have O2 : Hid (w2.ownsRow wr.heap.size 5 1 v' (i + 0) (bls (fun q => ((cwd (2 * t) i G q : Nat) : Int)) (i + 0))) := (by have h := hown; rw [Nat.zero_add] at h; rw [Nat.add_zero, bls_congr (n := i) (g := fun q => ((G q : Nat) : Int)) (fun q hq => by show ((cwd (2 * t) i G q : Nat) : Int) = _; unfold cwd; rw [if_pos hq])]; exact h); have B2 : Hid (Below wr.heap.size wr w2) := grown_below BL.out (Nat.le_refl _) OW.out hgrow; clear hown hgrow))
          clear OW VB BL
          obtain ⟨W9, rfl⟩ : ∃ W9, W9 = wr := ⟨_, rfl⟩
          go_wp2
          go_loopw [14, 15] (fun uo kx wr => ∃ k : Nat, kx = .int .i64 (k : Int) ∧ k ≤ 2 * t ∧ Hid (wr.ownsRow W9.heap.size 5 1 uo (i + k) (bls (fun q => ((cwd (2 * t) i G q : Nat) : Int)) (i + k)) ∧ Below W9.heap.size W9 wr)) (fun _ kx _ => 2 * t - (intOf kx).toNat)
          case atStart => exact ⟨0, rfl, by omega, O2.out, B2.out⟩
          case round =>
            obtain ⟨k, rfl, hk, HR⟩ := hrel
            clear O2 B2
            by_cases h2 : k < 2 * t
            · have ck : wr.cell? ⟨g1, k, none⟩ = some (.int .i64 ((rst (2 * t) G i k : Nat) : Int)) := (HR.out.2.cell (p := ⟨g1, k, none⟩) hg1w).trans (cR.out k h2)
              have hrl : rst (2 * t) G i k < 256 := rst_lt HG.out _ _
              obtain ⟨y, hy⟩ : ∃ y, y = rst (2 * t) G i k := ⟨_, rfl⟩
              have HYE : Hid (y = cwd (2 * t) i G (i + k)) := by show _ = _; unfold cwd; rw [if_neg (by omega), Nat.add_sub_cancel_left]; exact hy
              rw [← hy] at ck hrl
              have bx := below_one wr (.cells #[.int .u8 ((y : Nat) : Int)] 5)
              have OA : Hid ((wr.alloc (.cells #[.int .u8 ((y : Nat) : Int)] 5)).ownsRow W9.heap.size 5 1 u14 (i + k) (bls (fun q => ((cwd (2 * t) i G q : Nat) : Int)) (i + k))) := own_below HR.out.1 bx
              have LA : Hid (Below W9.heap.size W9 (wr.alloc (.cells #[.int .u8 ((y : Nat) : Int)] 5))) := bstep HR.out.2 bx
              have hwr : IntKind.u8.wrap ((y : Nat) : Int) = ((y : Nat) : Int) := by
                have : ((y : Nat) : Int) < 256 := by omega
                rw [IntKind.wrap_u8]; omega
              clear bx hy HR
              go_wp2_with (first
                | (at_builtin; refine wpList_app _ rfl _ _ 24 rfl W9.heap.size 5 j0 (.int .u8 0) 1 1 Try.underlying24 ji jz0 jz1 jz2 rfl (by decide) _ _ _ rfl OA.out ⟨wr.heap.size, 0, none⟩ 1 1 [.int .u8 ((y : Nat) : Int)] rfl rfl (one_new _ _ _) (by simp [Value.oneCell']) (by unfold maxLen; omega) (by omega) LA.out.size (by decide) ?_; intro v8 w8 hown hgrow _; have OB : Hid (w8.ownsRow W9.heap.size 5 1 v8 (i + (k + 1)) (bls (fun q => ((cwd (2 * t) i G q : Nat) : Int)) (i + (k + 1)))) := (by have h := hown; rw [HYE.out, ← bls_snoc, Nat.add_assoc] at h; exact h); have LB : Hid (Below W9.heap.size W9 w8) := grown_below LA.out (Nat.le_refl _) OA.out hgrow; clear hown hgrow))
              go_roundw
              case rel => exact ⟨k + 1, by go_num, by omega, OB.out, LB.out⟩
              case measure => simp [intOf]; omega
            · obtain rfl : k = 2 * t := by omega
              have O9 : Hid (wr.ownsRow w.heap.size 5 1 u14 (i + 2 * t) (bls (fun q => ((cwd (2 * t) i G q : Nat) : Int)) (i + 2 * t))) := own_base HR.out.1 LW9.out.size
              have B9 : Hid (Below w.heap.size w wr) := bstep LW9.out HR.out.2
              clear HR
              go_wp2
              go_ret2
              exact ⟨_, rfl, O9.out, B9.out⟩

set_option maxHeartbeats 4000000 in
theorem sCode_bad {w : World} {v : Value} {nd : Nat} {xs ys : Nat → Int} {t : Int} (hv : Bl w v nd xs) (hn : nd ≤ 1048576) (h : ¬ Cod nd t) :
    Calls Try.prog 15 #[v, .int .i64 t] w fun e w' => Pbo w w' e 0 ys false := by
  have i1 := sMend_any t
  have OW : Hid ((w.alloc (.cells #[] 5)).ownsRow w.heap.size 5 1 (.slice (some ⟨w.heap.size, 0, none⟩) 0 0) 0 (bls ys 0)) := own_empty w 5 1
  have BL : Hid (Below w.heap.size w (w.alloc (.cells #[] 5))) := below_one _ _
  obtain ⟨ao, cap, rfl, hcap, _⟩ := hv
  by_cases hr : 1 ≤ t ∧ t ≤ 8
  · rw [decide_eq_true hr] at i1
    have i2 := in_any (nd : Int) 1 (255 - 2 * t)
    rw [decide_eq_false (show ¬ ((1 : Int) ≤ (nd : Int) ∧ (nd : Int) ≤ 255 - 2 * t) from fun h2 => h ⟨hr, by omega, by omega⟩)] at i2
    clear h
    go_enter Try.func15, Try.ntmps15
    go_wp2_with (first | (go_at_call 31; (with_reducible refine (i1 _).mono ?_); rintro e w' ⟨rfl, hw⟩; obtain rfl := hw.symm) | (go_at_call 14; (with_reducible refine (i2 _).mono ?_); rintro e w' ⟨rfl, hw⟩; obtain rfl := hw.symm))
    go_ret2
    exact ⟨_, rfl, OW.out, BL.out⟩
  · rw [decide_eq_false hr] at i1
    clear h hr
    go_enter Try.func15, Try.ntmps15
    go_wp2_with (first | (go_at_call 31; (with_reducible refine (i1 _).mono ?_); rintro e w' ⟨rfl, hw⟩; obtain rfl := hw.symm))
    go_ret2
    exact ⟨_, rfl, OW.out, BL.out⟩
end Go.Proofs.Ytpjpkkgcnnmljaa
