/- The program's RsCode. -/
import Derived.Test.YtpjpkkgcnnmljaaRF
import Derived.Test.YtpjpkkgcnnmljaaAW
namespace Go.Proofs.Ytpjpkkgcnnmljaa
open Go.RowKit

theorem ty_ap {w : World} {B B2 s s2 n m : Nat} {e e2 : TypeId} {u v : Value} {xs ys : List Value} (hu : w.ownsRow B e s u n xs) (hv : w.ownsRow B2 e2 s2 v m ys) (he : e ≠ e2) : Apart u v := by
  rcases hu.2 with ⟨rfl, _⟩ | ⟨g, c, cur, rfl, _, hg, _⟩
  · exact .inl rfl
  · refine .inr (fun h => ?_)
    rcases hv.2 with ⟨rfl, _⟩ | ⟨g2, c2, cur2, rfl, _, hg2, _⟩
    · cases h
    · have h2 : g = g2 := by simpa [Value.ownBlock] using h
      subst h2
      rw [hg] at hg2
      injection hg2 with h3
      injection h3 with h4 h5
      exact he h5

/-- What is asked of data. -/
def Cod (nd : Nat) (t : Int) : Prop := (1 ≤ t ∧ t ≤ 8) ∧ 1 ≤ nd ∧ (nd : Int) + 2 * t ≤ 255

theorem cod_pls {nd t : Nat} (h : Cod nd (t : Int)) : Pls (nd + 2 * t) (2 * t) (fun k => nd + k) :=
  ⟨by have := h.1; omega, fun k hk => by show nd + k < _; omega, fun i k _ _ e => by have e2 : nd + i = nd + k := e; omega⟩

/-- The word that is told. -/
theorem cod_told {nd t : Nat} {G : Nat → Nat} (h : Cod nd (t : Int)) (hG : ∀ q, G q < 256) (_ : ∀ q, nd ≤ q → G q = 0) (X S : Nat → Nat) (hX : X = pwr (nd + 2 * t) (fun k => nd + k)) (hS : S = syz (nd + 2 * t) G (2 * t)) :
    cln (nd + 2 * t) (fld X (2 * t) S (fun k => nd + k) G (2 * t)) (2 * t) = true ∧ ∀ q, q < nd + 2 * t → fld X (2 * t) S (fun k => nd + k) G (2 * t) q = cwd (2 * t) nd G q := by
  have ht := h.1
  have hn := h.2
  have hf := fld_told (C := cwd (2 * t) nd G) (cod_pls h) (by omega) (by omega) (Nat.le_refl _) (by omega) hX hS hG (cwd_lt hG) (fun q hq hk => by
    by_cases e : q < nd
    · unfold cwd; rw [if_pos e]
    · exact absurd (show nd + (q - nd) = q by omega) (hk (q - nd) (by omega))) (fun j hj => cwd_clean (by omega) hG hj)
  refine ⟨?_, hf⟩
  rw [cln_congr hf, cln_iff]
  exact fun i hi => cwd_clean (by omega) hG hi

theorem nb_far {n : Nat} {xs : Nat → Int} (q : Nat) (h : n ≤ q) : nb n xs q = 0 := by unfold nb; rw [if_neg (by omega)]

set_option maxRecDepth 20000 in
set_option maxHeartbeats 8000000 in
theorem iCode_good {w : World} {v : Value} {nd t : Nat} {xs : Nat → Int} (hv : Bl w v nd xs) (hb : Byt nd xs) (h : Cod nd (t : Int)) :
    Calls Try.prog 39 #[v, .int .i64 (t : Int)] w fun e w' => Pbo w w' e (nd + 2 * t) (fun q => ((cwd (2 * t) nd (nb nd xs) q : Nat) : Int)) true := by
  obtain ⟨i0, hi, hz0, hz1, hz2⟩ := info_parts Try.info3
  obtain ⟨j0, ji, jz0, jz1, jz2⟩ := info_parts Try.info5
  have ht := h.1
  have hn := h.2
  have hG := nb_lt hb
  obtain ⟨G, hGG⟩ : ∃ G, G = nb nd xs := ⟨_, rfl⟩
  have i1 := iBlock_any ((nd : Int) + 2 * (t : Int)) (t : Int)
  rw [decide_eq_true (show Bk ((nd : Int) + 2 * (t : Int)) (t : Int) from ⟨by omega, by omega, by omega⟩)] at i1
  have hv2 : Bl w v nd (fun q => ((G q : Nat) : Int)) := by
    obtain ⟨ao, cap, e, h1, h2⟩ := hv
    exact ⟨ao, cap, e, h1, fun h0 => by
      obtain ⟨b, off, h3, h4, h5⟩ := h2 h0
      exact ⟨b, off, h3, h4, fun k hk => by rw [h5 k hk, nb_at hb hk, hGG]⟩⟩
  obtain ⟨X, hX⟩ : ∃ X, X = pwr (nd + 2 * t) (fun k => nd + k) := ⟨_, rfl⟩
  obtain ⟨S, hS⟩ : ∃ S, S = syz (nd + 2 * t) G (2 * t) := ⟨_, rfl⟩
  rw [← hGG] at hG ⊢
  obtain ⟨hcl, hq⟩ := cod_told h hG (fun q hq => by rw [hGG]; exact nb_far q hq) X S hX hS
  have ifl : ∀ W a b, Bl W a (nd + 2 * t) (fun q => ((G q : Nat) : Int)) → Il W b (2 * t) (fun k => ((nd + k : Nat) : Int)) → Calls Try.prog 47 #[a, b, .int .i64 (t : Int)] W fun e w' => Pbo W w' e (nd + 2 * t) (fun q => ((cwd (2 * t) nd G q : Nat) : Int)) true := fun W a b ha hb2 => by
    refine (filled_any (t := t) ha hG hb2 (cod_pls h) (by omega) (by omega) (by omega) S X hS hX).mono ?_
    rintro e w' ⟨N, ys, h1, h2, _⟩
    rw [hcl] at h1
    obtain ⟨rfl, rfl⟩ := h2 hcl
    obtain ⟨u, h3, h4, h5⟩ := h1
    refine ⟨u, h3, ?_, h5⟩
    have e9 := bls_congr (n := nd + 2 * t) (f := fun q => ((fld X (2 * t) S (fun k => nd + k) G (2 * t) q : Nat) : Int)) (g := fun q => ((cwd (2 * t) nd G q : Nat) : Int)) (fun q hq2 => by show ((fld X (2 * t) S (fun k => nd + k) G (2 * t) q : Nat) : Int) = _; rw [hq q hq2])
    rw [← e9]
    exact h4
  have OW : Hid ((w.alloc (.cells #[] 5)).ownsRow w.heap.size 5 1 (.slice (some ⟨w.heap.size, 0, none⟩) 0 0) 0 (bls (fun q => ((G q : Nat) : Int)) 0)) := own_empty w 5 1
  have VB : Hid (Bl (w.alloc (.cells #[] 5)) v nd (fun q => ((G q : Nat) : Int))) := hv2.below (below_one _ _)
  have BL : Hid (Below w.heap.size w (w.alloc (.cells #[] 5))) := below_one _ _
  have HFI : Hid (∀ W a b, Bl W a (nd + 2 * t) (fun q => ((G q : Nat) : Int)) → Il W b (2 * t) (fun k => ((nd + k : Nat) : Int)) → Calls Try.prog 47 #[a, b, .int .i64 (t : Int)] W fun e w' => Pbo W w' e (nd + 2 * t) (fun q => ((cwd (2 * t) nd G q : Nat) : Int)) true) := ifl
  have HGZ : Hid (∀ q, nd ≤ q → G q = 0) := fun q hq => by rw [hGG]; exact nb_far q hq
  have h2t : 2 * t ≤ 16 := by omega
  have hnd : nd ≤ 255 := by omega
  obtain ⟨ao, cap, rfl, hcap, _⟩ := hv
  clear hb h hG hGG hv2 hX hS hcl hq ifl
  go_enter Try.func39, Try.ntmps39
  go_upto_region 4 with (first
    | (go_at_call 46; (with_reducible refine (i1 _).mono ?_); rintro e w' ⟨rfl, hw⟩; obtain rfl := hw.symm)
    | (at_builtin; refine wpList_appb rfl _ _ rfl w.heap.size _ _ 0 nd _ _ rfl rfl OW.out VB.out (by omega) BL.out.size ?_; intro v' w2 hown hgrow; have O2 : Hid (w2.ownsRow w.heap.size 5 1 v' nd (bls (fun q => ((G q : Nat) : Int)) nd)) := (by have h := hown; rw [Nat.zero_add] at h; exact h); have B2 : Hid (Below w.heap.size w w2) := grown_below BL.out (Nat.le_refl _) OW.out hgrow; clear hown hgrow))
  clear OW VB BL i1
  have O3 : Hid ((w2.alloc (.cells #[] 3)).ownsRow w.heap.size 5 1 v' nd (bls (fun q => ((G q : Nat) : Int)) nd)) := own_below O2.out (below_one _ _)
  have P3 : Hid ((w2.alloc (.cells #[] 3)).ownsRow w.heap.size 3 1 (.slice (some ⟨w2.heap.size, 0, none⟩) 0 0) 0 (ils (fun k => ((nd + k : Nat) : Int)) 0)) := own_base (own_empty w2 3 1) B2.out.size
  have B3 : Hid (Below w.heap.size w (w2.alloc (.cells #[] 3))) := bstep B2.out (below_one _ _)
  go_upto_region 5 with fail
  generalize (Value.slice (some ⟨w2.heap.size, 0, none⟩) 0 0) = p0 at *
  generalize w2.alloc (.cells #[] 3) = W3 at *
  clear O2 B2
  go_wp2
  go_loopw [6, 7, 23] (fun uw up iv wr => ∃ i : Nat, iv = .int .i64 (i : Int) ∧ i ≤ 2 * t ∧ Hid (wr.ownsRow w.heap.size 5 1 uw (nd + i) (bls (fun q => ((G q : Nat) : Int)) (nd + i)) ∧ wr.ownsRow w.heap.size 3 1 up i (ils (fun k => ((nd + k : Nat) : Int)) i) ∧ Below w.heap.size w wr)) (fun _ _ iv _ => 2 * t - (intOf iv).toNat)
  case atStart => exact ⟨0, rfl, by omega, O3.out, P3.out, B3.out⟩
  case round =>
    obtain ⟨i, rfl, hi2, HR⟩ := hrel
    clear O3 P3 B3
    obtain ⟨a6, c6, hu6⟩ := own_sliceb HR.out.1
    subst hu6
    by_cases h1 : i < 2 * t
    · obtain ⟨y, hy⟩ : ∃ y : Nat, y = nd + i := ⟨_, rfl⟩
      have HYE : Hid (y = nd + i) := hy
      have hy255 : y ≤ 300 := by omega
      have HR2 : Hid (wr.ownsRow w.heap.size 5 1 (.slice a6 y c6) y (bls (fun q => ((G q : Nat) : Int)) y) ∧ wr.ownsRow w.heap.size 3 1 u7 i (ils (fun k => ((nd + k : Nat) : Int)) i) ∧ Below w.heap.size w wr) := by rw [hy]; exact HR.out
      rw [← hy]
      clear hy HR
      have bx := below_one wr (.cells #[.int .i64 (y : Int)] 3)
      have OA : Hid ((wr.alloc (.cells #[.int .i64 (y : Int)] 3)).ownsRow w.heap.size 5 1 (.slice a6 y c6) y (bls (fun q => ((G q : Nat) : Int)) y)) := own_below HR2.out.1 bx
      have PA : Hid ((wr.alloc (.cells #[.int .i64 (y : Int)] 3)).ownsRow w.heap.size 3 1 u7 i (ils (fun k => ((nd + k : Nat) : Int)) i)) := own_below HR2.out.2.1 bx
      have LA : Hid (Below w.heap.size w (wr.alloc (.cells #[.int .i64 (y : Int)] 3))) := bstep HR2.out.2.2 bx
      clear bx HR2
      go_upto_region 8 with (first
        | (at_builtin; refine wpList_app _ rfl _ _ 40 rfl w.heap.size 3 i0 (.int .i64 0) 1 8 Try.underlying40 hi hz0 hz1 hz2 rfl (by decide) _ _ _ rfl PA.out ⟨wr.heap.size, 0, none⟩ 1 1 [.int .i64 (y : Int)] rfl rfl (one_new _ _ _) (by simp [Value.oneCell']) (by unfold maxLen; omega) (by omega) LA.out.size (by decide) ?_; intro v7 w7 hown hgrow _; have OB : Hid (w7.ownsRow w.heap.size 5 1 (.slice a6 y c6) y (bls (fun q => ((G q : Nat) : Int)) y)) := own_grown OA.out hgrow (ty_ap OA.out PA.out (by decide)); have PB : Hid (w7.ownsRow w.heap.size 3 1 v7 (i + 1) (ils (fun k => ((nd + k : Nat) : Int)) (i + 1))) := (by have h := hown; rw [HYE.out, ← ils_snoc] at h; exact h); have LB : Hid (Below w.heap.size w w7) := grown_below LA.out (Nat.le_refl _) PA.out hgrow; clear hown hgrow))
      clear OA PA LA
      have bx := below_one w7 (.cells #[.int .u8 0] 5)
      have OA : Hid ((w7.alloc (.cells #[.int .u8 0] 5)).ownsRow w.heap.size 5 1 (.slice a6 y c6) y (bls (fun q => ((G q : Nat) : Int)) y)) := own_below OB.out bx
      have PA : Hid ((w7.alloc (.cells #[.int .u8 0] 5)).ownsRow w.heap.size 3 1 v7 (i + 1) (ils (fun k => ((nd + k : Nat) : Int)) (i + 1))) := own_below PB.out bx
      have LA : Hid (Below w.heap.size w (w7.alloc (.cells #[.int .u8 0] 5))) := bstep LB.out bx
      clear bx OB PB LB
      go_wp2_with (first
        | (at_builtin; refine wpList_app _ rfl _ _ 24 rfl w.heap.size 5 j0 (.int .u8 0) 1 1 Try.underlying24 ji jz0 jz1 jz2 rfl (by decide) _ _ _ rfl OA.out ⟨w7.heap.size, 0, none⟩ 1 1 [.int .u8 0] rfl rfl (one_new _ _ _) (by simp [Value.oneCell']) (by unfold maxLen; omega) (by omega) LA.out.size (by decide) ?_; intro v8 w8 hown hgrow _; have OB : Hid (w8.ownsRow w.heap.size 5 1 v8 (nd + (i + 1)) (bls (fun q => ((G q : Nat) : Int)) (nd + (i + 1)))) := (by have h := hown; have e := HGZ.out y (by have := HYE.out; omega); have e2 : (.int .u8 0 : Value) = .int .u8 ((G y : Nat) : Int) := (by rw [e]; rfl); rw [e2, ← bls_snoc, HYE.out, Nat.add_assoc] at h; exact h); have PB : Hid (w8.ownsRow w.heap.size 3 1 v7 (i + 1) (ils (fun k => ((nd + k : Nat) : Int)) (i + 1))) := own_grown PA.out hgrow (ty_ap PA.out OA.out (by decide)); have LB : Hid (Below w.heap.size w w8) := grown_below LA.out (Nat.le_refl _) OA.out hgrow; clear hown hgrow))
      go_roundw
      case rel => exact ⟨i + 1, by go_num, by omega, OB.out, PB.out, LB.out⟩
      case measure => simp [intOf]; omega
    · obtain rfl : i = 2 * t := by omega
      have ifl := HFI.out wr _ _ (bl_of_own HR.out.1) (il_of_own HR.out.2.1)
      have LB : Hid (Below w.heap.size w wr) := HR.out.2.2
      clear HR HFI
      go_wp2_with (first
        | (go_at_call 47; (refine ifl.mono ?_); rintro e w9 ⟨u9, rfl, ho9, hb9⟩; have O9 : Hid (w9.ownsRow w.heap.size 5 1 u9 (nd + 2 * t) (bls (fun q => ((cwd (2 * t) nd G q : Nat) : Int)) (nd + 2 * t))) := own_base ho9 LB.out.size; have B9 : Hid (Below w.heap.size w w9) := bstep LB.out hb9; clear ho9 hb9))
      go_ret2
      exact ⟨_, rfl, O9.out, B9.out⟩

set_option maxHeartbeats 4000000 in
theorem iCode_bad {w : World} {v : Value} {nd : Nat} {xs ys : Nat → Int} {t : Int} (hv : Bl w v nd xs) (hn : nd ≤ 1048576) (h : ¬ Cod nd t) :
    Calls Try.prog 39 #[v, .int .i64 t] w fun e w' => Pbo w w' e 0 ys false := by
  have i1 : ∀ x : Int, ((1 ≤ t ∧ t ≤ 8) → x = (nd : Int) + 2 * t) → ∀ W, Calls Try.prog 46 #[.int .i64 x, .int .i64 t] W fun e w' => e = .returned (.bool false) ∧ w' = W := fun x hx W => by
    have := iBlock_any x t W
    rw [decide_eq_false (show ¬ Bk x t from fun hk => h ⟨hk.1, by have := hx hk.1; have := hk.2; omega⟩)] at this
    exact this
  have OW : Hid ((w.alloc (.cells #[] 5)).ownsRow w.heap.size 5 1 (.slice (some ⟨w.heap.size, 0, none⟩) 0 0) 0 (bls ys 0)) := own_empty w 5 1
  have BL : Hid (Below w.heap.size w (w.alloc (.cells #[] 5))) := below_one _ _
  obtain ⟨ao, cap, rfl, hcap, _⟩ := hv
  clear h
  by_cases hr : 1 ≤ t ∧ t ≤ 8
  · have i2 := i1 ((nd : Int) + 2 * t) (fun _ => rfl)
    clear i1
    go_enter Try.func39, Try.ntmps39
    go_wp2_with (first | (go_at_call 46; (with_reducible refine (i2 _).mono ?_); rintro e w' ⟨rfl, hw⟩; obtain rfl := hw.symm))
    go_ret2
    exact ⟨_, rfl, OW.out, BL.out⟩
  · have i2 : ∀ x W, Calls Try.prog 46 #[.int .i64 x, .int .i64 t] W fun e w' => e = .returned (.bool false) ∧ w' = W := fun x W => i1 x (fun h => absurd h hr) W
    clear i1 hr
    go_enter Try.func39, Try.ntmps39
    go_wp2_with (first | (go_at_call 46; (with_reducible refine (i2 _ _).mono ?_); rintro e w' ⟨rfl, hw⟩; obtain rfl := hw.symm))
    go_ret2
    exact ⟨_, rfl, OW.out, BL.out⟩
end Go.Proofs.Ytpjpkkgcnnmljaa
