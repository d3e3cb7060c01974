/- A hurt word comes back. -/
import Derived.Test.YtamcpmclnjngcaaRN
import Derived.Test.YtamcpmclnjngcaaRX
namespace Go.Proofs.Ytamcpmclnjngcaa
open Go.RowKit

set_option maxRecDepth 20000 in
set_option maxHeartbeats 8000000 in
/-- A word hurt in at most as many places as are mended comes back. -/
theorem mend_told {w : World} {v : Value} {n t m : Nat} {G C pl : Nat → Nat} (hv : Bl w v n (fun q => ((G q : Nat) : Int))) (hG : ∀ q, G q < 256) (hC : ∀ q, C q < 256) (hp : Pls n m pl) (hk : Bk (n : Int) (t : Int)) (hm : m ≤ t) (hsame : ∀ q, q < n → (∀ k, k < m → pl k ≠ q) → C q = G q) (hclean : ∀ j, j < 2 * t → syn n C j = 0) (hne : ∀ i, i < m → G (pl i) ≠ C (pl i)) (hinc : ∀ i k, i < k → k < m → pl i < pl k) :
    Calls Try.prog 15 #[v, .int .i64 (t : Int)] w fun e w' => ∃ u, e = .returned (.tuple #[u, .int .i64 (m : Int), .bool true]) ∧ w'.ownsRow w.heap.size 5 1 u n (bls (fun q => ((C q : Nat) : Int)) n) ∧ Below w.heap.size w w' := by
  have i1 := iBlock_any (n : Int) (t : Int)
  rw [decide_eq_true hk] at i1
  have hn : 1 ≤ n ∧ n ≤ 255 := by have := hk.2; have := hk.1; omega
  have ht : 1 ≤ t ∧ t ≤ 8 := by have := hk.1; omega
  obtain ⟨S, hS⟩ : ∃ S, S = syz n G (2 * t) := ⟨_, rfl⟩
  have hb : Byt n (fun q => ((G q : Nat) : Int)) := fun k _ => by have := hG k; show 0 ≤ ((G k : Nat) : Int) ∧ ((G k : Nat) : Int) < 256; omega
  have isy : Calls Try.prog 32 #[v, .int .i64 (t : Int)] w fun e w' => e = .returned (.agg (scs S)) ∧ Below w.heap.size w w' := by
    have := syn_any hv hb (by omega) ht.2
    rw [syz_congr (fun k hk => nb_nat hG hk), ← hS] at this
    exact this
  have hSl : ∀ j, S j < 256 := fun j => by rw [hS]; exact syz_lt hG _ _ _
  have iru := rule_any (A := S) (S := S) (t := t) hSl (fun _ _ => rfl) ht.2
  have HPL : Hid (∀ c b L, Bm S c b L (2 * t) → (hls c n n).length = m ∧ ∀ i, i < m → lfn (hls c n n) i = pl i) := fun c b L h => rule_places hp hn.2 hn.1 hm ht.2 rfl hS hG hC hsame hclean hne hinc h
  have HFI : Hid (∀ W o (p2 : Nat → Nat), (∀ i, i < m → p2 i = pl i) → Below w.heap.size w W → Il W o m (fun k => ((p2 k : Nat) : Int)) → Calls Try.prog 31 #[v, o, .int .i64 (t : Int)] W fun e w' => Pbo W w' e n (fun q => ((C q : Nat) : Int)) true) := fun W o p2 h2 hW hI => by
    have hp2 : Pls n m p2 := ⟨hp.le, fun k hk => by rw [h2 k hk]; exact hp.lt k hk, fun i k hi hk e => hp.inj i k hi hk (by rw [← h2 i hi, ← h2 k hk]; exact e)⟩
    have hf := fld_told (pl := p2) (X := pwr n p2) (S := S) hp2 hn.2 hn.1 (show m ≤ 2 * t by omega) ht.2 rfl hS hG hC (fun q hq hk => hsame q hq (fun k hk2 e => hk k hk2 (by rw [h2 k hk2]; exact e))) hclean
    refine (filled_any (t := t) (hv.below hW) hG hI hp2 hn.2 hn.1 ht.2 S (pwr n p2) hS rfl).mono ?_
    rintro e w' ⟨N, ys, h3, h4, _⟩
    have hcl : cln n (fld (pwr n p2) m S p2 G m) (2 * t) = true := by
      rw [cln_congr hf, cln_iff]
      exact hclean
    rw [hcl] at h3
    obtain ⟨rfl, rfl⟩ := h4 hcl
    obtain ⟨u, h5, h6, h7⟩ := h3
    refine ⟨u, h5, ?_, h7⟩
    have e9 := bls_congr (n := N) (f := fun q => ((fld (pwr N p2) m S p2 G m q : Nat) : Int)) (g := fun q => ((C q : Nat) : Int)) (fun q hq2 => by show ((fld (pwr N p2) m S p2 G m q : Nat) : Int) = _; rw [hf q hq2])
    rw [← e9]
    exact h6
  obtain ⟨ao, cap, rfl, hcap, _⟩ := hv
  clear hk hG hC hp hsame hclean hne hinc hb hSl hS
  have hm2 : Hid (m ≤ t) := hm
  go_enter Try.func15, Try.ntmps15
  go_upto_region 4 with (first
    | (go_at_call 30; (with_reducible refine (i1 _).mono ?_); rintro e w' ⟨rfl, hw⟩; obtain rfl := hw.symm)
    | (go_at_call 32; (refine isy.mono ?_); rintro e w1 ⟨rfl, hb1⟩; have B1 : Hid (Below w.heap.size w w1) := hb1; clear hb1)
    | (go_at_call 34; (refine (iru w1).mono ?_); rintro e w2 ⟨c, b, L, hbm, rfl, hb2⟩; have B2 : Hid (Below w.heap.size w w2) := bstep B1.out hb2; have HQ : Hid ((hls c n n).length = m ∧ ∀ i, i < m → lfn (hls c n n) i = pl i) := HPL.out c b L hbm; have ihu := hurt_any hbm.cl hn.2 w2; clear hb2 hbm)
    | (go_at_call 33; (refine ihu.mono ?_); rintro e w3 ⟨u3, rfl, ho3, hb3⟩; have B3 : Hid (Below w.heap.size w w3) := bstep B2.out hb3; have O3 : Hid (w3.ownsRow w2.heap.size 3 1 u3 m (ils (irow (hls c n n)) m)) := (by have h := ho3; rw [HQ.out.1] at h; exact h); clear hb3 ho3))
  clear i1 isy iru ihu B1 B2 HPL
  obtain ⟨a3, c3, hu3⟩ := own_slice O3.out
  subst hu3
  have ifl := HFI.out w3 _ (lfn (hls c n n)) HQ.out.2 B3.out (il_of_own O3.out)
  clear HFI HQ O3
  go_wp2_with (first
    | (go_at_call 31; (refine ifl.mono ?_); rintro e w4 ⟨u4, rfl, ho4, hb4⟩; have O4 : Hid (w4.ownsRow w.heap.size 5 1 u4 n (bls (fun q => ((C q : Nat) : Int)) n)) := own_base ho4 B3.out.size; have B4 : Hid (Below w.heap.size w w4) := bstep B3.out hb4; clear ho4 hb4))
  go_ret3
  exact ⟨_, rfl, O4.out, B4.out⟩
end Go.Proofs.Ytamcpmclnjngcaa
