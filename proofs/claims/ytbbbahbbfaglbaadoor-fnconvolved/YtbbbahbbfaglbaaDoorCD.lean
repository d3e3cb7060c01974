/- FnConvolved: what the law leans on. -/
import Derived.Test.YtbbbahbbfaglbaaDoorCC
import Derived.Test.YtbbbahbbfaglbaaDoorDB
import Derived.Test.YtbbbahbbfaglbaaDoorK5
namespace Go.Proofs.YtbbbahbbfaglbaaDoor
open Go.RowKit

theorem rwf_sum (m : Nat) (ys : Nat → Int) (x : Int) (i : Nat) (f : Nat → Int) (t : Nat) : ∀ k, rwf m ys x i f k t = f t + sm (fun k => if (i + k) % m = t then x * ys k else 0) k
  | 0 => by simp [rwf, sm]
  | k + 1 => by
    rw [sm]
    show (if t = (i + k) % m then rwf m ys x i f k ((i + k) % m) + x * ys k else rwf m ys x i f k t) = _
    by_cases h : t = (i + k) % m
    · subst h
      rw [if_pos rfl, if_pos rfl, rwf_sum m ys x i f _ k]
      omega
    · rw [if_neg h, if_neg (fun e => h e.symm), rwf_sum m ys x i f t k]
      omega

theorem cvf_sum (m : Nat) (xs ys : Nat → Int) (nb t : Nat) : ∀ i, cvf m xs ys nb i t = sm (fun i => sm (fun k => if (i + k) % m = t then xs i * ys k else 0) nb) i
  | 0 => by simp [cvf, sm]
  | i + 1 => by rw [cvf, sm, rwf_sum, cvf_sum m xs ys nb t i]

theorem cvf_arn (n : Nat) (xs ys : Nat → Int) (t : Nat) : cvf n xs ys n n t = arn xs ys n t := cvf_sum n xs ys n t n

/-- A list of residues. -/
def rs (f : Nat → Int) (k : Nat) : Int := f k % 998244353

theorem dft_res (f : Nat → Int) (n : Nat) (W : Int) (t : Nat) : Cg 998244353 (dft (rs f) n W 1 998244353 t) (sm (fun i => f i * W ^ (t * i)) n) := by
  unfold dft
  rw [Int.mul_one]
  refine (cg_mod _ _).trans ((cg_mod _ _).trans ?_)
  rw [dsum_sm]
  exact sm_cg n (fun i _ => (cg_mod _ _).mul (Cg.refl _ _))

theorem conv_dft {a b c : Nat → Int} {n : Nat} {W : Int} (hW : Cg 998244353 (W ^ n) 1) (hn : 0 < n) (hc : ∀ k, c k = arn a b n k) (t : Nat) :
    dft (rs c) n W 1 998244353 t = dft (rs a) n W 1 998244353 t * dft (rs b) n W 1 998244353 t % 998244353 := by
  have h1 := dft_res c n W t
  have h2 : sm (fun i => c i * W ^ (t * i)) n = sm (fun i => arn a b n i * W ^ (t * i)) n := by
    congr 1
    funext i
    rw [hc i]
  rw [h2] at h1
  have h3 := (h1.trans (around_sum hW hn a b t)).trans (((dft_res a n W t).mul (dft_res b n W t)).symm)
  have hb := dft_bounds (xs := rs c) (n := n) (W := W) (b := 1) (p := 998244353) (by omega) t
  rw [← h3.mod_eq]
  exact (Int.emod_eq_of_lt hb.1 (by omega)).symm

theorem rs_taps (f : Nat → Int) : GF 8 (rs f) 998244353 := ⟨.inl rfl, ⟨by omega, fun k _ => by unfold rs; omega⟩, by decide⟩

/-- Dft of eight residues. -/
theorem dft_eight (f : Nat → Int) : ∃ fs : Nat → Int, (∀ w v, Prs w → Il w v 8 (rs f) → Calls Tryd.prog 7 #[v, .int .i64 998244353, .bool false] w fun e w' => Pst w w' e 8 fs true) ∧ fs = dft (rs f) 8 (unV ((8 : Nat) : Int) 998244353) 1 998244353 := by
  obtain ⟨ys, j1, _, _, _, h⟩ := dft_more (rs_taps f)
  exact ⟨ys, j1, h⟩

/-- Three transforms: the third is the product. -/
theorem dft_three (a b : Nat → Int) : ∃ fa fb fc : Nat → Int, (∀ w v, Prs w → Il w v 8 (rs a) → Calls Tryd.prog 7 #[v, .int .i64 998244353, .bool false] w fun e w' => Pst w w' e 8 fa true) ∧ (∀ w v, Prs w → Il w v 8 (rs b) → Calls Tryd.prog 7 #[v, .int .i64 998244353, .bool false] w fun e w' => Pst w w' e 8 fb true) ∧
    (∀ w v, Prs w → Il w v 8 (rs (cvf 8 a b 8 8)) → Calls Tryd.prog 7 #[v, .int .i64 998244353, .bool false] w fun e w' => Pst w w' e 8 fc true) ∧ (∀ t, fc t = fa t * fb t % 998244353 ∧ 0 ≤ fa t ∧ fa t < 998244353 ∧ 0 ≤ fb t ∧ fb t < 998244353) := by
  obtain ⟨fa, ja, ha⟩ := dft_eight a
  obtain ⟨fb, jb, hb⟩ := dft_eight b
  obtain ⟨fc, jc, hc⟩ := dft_eight (cvf 8 a b 8 8)
  refine ⟨fa, fb, fc, ja, jb, jc, fun t => ?_⟩
  have hW := unit_full (n := ((8 : Nat) : Int)) (p := 998244353) (.inl rfl) (by decide)
  have e8 : (((8 : Nat) : Int)).toNat = 8 := rfl
  rw [e8] at hW
  have h1 := conv_dft (a := a) (b := b) (c := cvf 8 a b 8 8) hW (by omega) (cvf_arn 8 a b) t
  have b1 := dft_bounds (xs := rs a) (n := 8) (W := unV ((8 : Nat) : Int) 998244353) (b := 1) (p := 998244353) (by omega) t
  have b2 := dft_bounds (xs := rs b) (n := 8) (W := unV ((8 : Nat) : Int) 998244353) (b := 1) (p := 998244353) (by omega) t
  rw [← ha] at b1
  rw [← hb] at b2
  rw [← ha, ← hb, ← hc] at h1
  exact ⟨h1, by omega, by omega, by omega, by omega⟩

/-- Both lists, and that what was there is there. -/
structure TwoP (w W : World) (u v : Value) (n m : Nat) : Prop where
  oa : ∃ xs, W.ownsRow w.heap.size 3 1 u n (ils xs n)
  ob : ∃ ys, W.ownsRow w.heap.size 3 1 v m (ils ys m)
  ap : Apart u v
  bl : Below w.heap.size w W

theorem TwoP.one {w W : World} {u v : Value} {n m : Nat} (h : TwoP w W u v n m) (o : Obj) : TwoP w (W.alloc o) u v n m := by
  obtain ⟨⟨xs, ha⟩, ⟨ys, hv⟩, hap, hbl⟩ := h
  have hb := below_one W o
  exact ⟨⟨xs, own_below ha hb⟩, ⟨ys, own_below hv hb⟩, hap, bstep hbl hb⟩

theorem TwoP.appA {w W W' : World} {u u' v : Value} {n m : Nat} {xs : Nat → Int} {x : Int} (h : TwoP w W u v n m) (ha : W.ownsRow w.heap.size 3 1 u n (ils xs n))
    (ho : W'.ownsRow w.heap.size 3 1 u' (n + 1) (ils xs n ++ [.int .i64 x])) (hg : W.grownBy W' u.ownBlock) (hbk : u'.ownBlock = u.ownBlock ∨ u'.ownBlock = some W.heap.size) : TwoP w W' u' v (n + 1) m := by
  obtain ⟨_, ⟨ys, hv⟩, hap, hbl⟩ := h
  have hB : Below w.heap.size W W' := grown_below (Below.refl _ W) hbl.size ha hg
  rw [ils_app] at ho
  exact ⟨⟨_, ho⟩, ⟨ys, World.ownsRow.kept hv hg hap.symm⟩, hap.app hv hbk, hbl.trans hB⟩

theorem TwoP.appB {w W W' : World} {u v v' : Value} {n m : Nat} {ys : Nat → Int} {x : Int} (h : TwoP w W u v n m) (hv : W.ownsRow w.heap.size 3 1 v m (ils ys m))
    (ho : W'.ownsRow w.heap.size 3 1 v' (m + 1) (ils ys m ++ [.int .i64 x])) (hg : W.grownBy W' v.ownBlock) (hbk : v'.ownBlock = v.ownBlock ∨ v'.ownBlock = some W.heap.size) : TwoP w W' u v' n (m + 1) := by
  obtain ⟨⟨xs, ha⟩, _, hap, hbl⟩ := h
  have hB : Below w.heap.size W W' := grown_below (Below.refl _ W) hbl.size hv hg
  rw [ils_app] at ho
  exact ⟨⟨xs, World.ownsRow.kept ha hg hap⟩, ⟨_, ho⟩, (hap.symm.app ha hbk).symm, hbl.trans hB⟩

def lenOf : Value → Nat | .slice _ k _ => k | _ => 0

theorem il_cut {w : World} {g k cap j : Nat} {xs : Nat → Int} (h : Il w (.slice (some ⟨g, 0, none⟩) k cap) k xs) (h1 : j ≤ k) : Il w (.slice (some ⟨g, 0, none⟩) j cap) j xs := by
  obtain ⟨ao, cp, e, hc, hx⟩ := h
  injection e with e1 e2 e3
  subst e1 e3
  refine ⟨_, _, rfl, by omega, fun h0 => ?_⟩
  obtain ⟨b, off, e4, hl, hcell⟩ := hx (by omega)
  exact ⟨b, off, e4, hl, fun i hi => hcell i (by omega)⟩

theorem ard_lit : ∀ k, k < 2 → cvf 2 (two 1 2) (two 3 4) 2 2 k = two 11 10 k := by
  intro k hk
  have : k = 0 ∨ k = 1 := by omega
  rcases this with rfl | rfl <;> decide +kernel

theorem tps_two (x y : Int) (hx : Tap x) (hy : Tap y) : Tps 2 (two x y) := ⟨by omega, fun k hk => by
  have : k = 0 ∨ k = 1 := by omega
  rcases this with rfl | rfl
  · exact hx
  · exact hy⟩
end Go.Proofs.YtbbbahbbfaglbaaDoor
