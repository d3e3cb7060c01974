/- Dft: the program, and the law. -/
import Derived.Test.YtabdondefoldaaaDoorF3
import Derived.Test.YtabdondefoldaaaDoorR4
namespace Go.Proofs.YtabdondefoldaaaDoor
open Go.RowKit

theorem lt_of_own {w : World} {B n g cap : Nat} {L : List Value} (h : w.ownsRow B 3 1 (.slice (some ⟨g, 0, none⟩) n cap) n L) : g < w.heap.size := (World.ownsRow.lt h g rfl).2

theorem trf_inv {mf : Int → Int → Nat → Int × Int} {n : Nat} {f : Nat → Int} {p : Int} {m : Nat} (hI : ∀ a b t, (0 ≤ (mf a b t).1 ∧ (mf a b t).1 < p) ∧ (0 ≤ (mf a b t).2 ∧ (mf a b t).2 < p)) (h0 : ∀ t, t < n → 0 ≤ f t ∧ f t < p) : ∀ t, t < n → 0 ≤ trf mf n f m t ∧ trf mf n f m t < p := by
  intro t ht
  cases m with
  | zero => exact h0 t ht
  | succ r =>
    show 0 ≤ nw mf (trf mf n f r) (n / 2 ^ (r + 1)) r t ∧ nw mf (trf mf n f r) (n / 2 ^ (r + 1)) r t < p
    unfold nw
    split
    · exact (hI _ _ _).1
    · exact (hI _ _ _).2

set_option maxHeartbeats 2000000 in
/-- The whole transform of a row of its own. -/
theorem trans_any {w w1 w2 : World} {n m g cap : Nat} {tu : Value} {p : Int} {back : Bool} {xs : Nat → Int} (hp : Prm p) (hm : m ≤ 8) (hn : n = 2 ^ m) (hw : Whl n) (hx : ∀ k, k < n → 0 ≤ xs k ∧ xs k ≤ p - 1)
    (hu : w1.ownsRow w.heap.size 3 1 (.slice (some ⟨g, 0, none⟩) n cap) n (ils xs n)) (ht : w2.ownsRow w1.heap.size 3 1 tu (n / 2) (ils (trn (dS p back) (dW n p back) p) (n / 2))) (hb : Below w1.heap.size w1 w2) (_ : w.heap.size ≤ g) :
    Calls Tryd.prog 28 #[.slice (some ⟨g, 0, none⟩) n cap, .func (.func 29) #[.agg #[.int .i64 p, .int .i64 (dS p back), tu]] #[]] w2 fun e w' => e = .returned (.tuple #[]) ∧
      w'.ownsRow w.heap.size 3 1 (.slice (some ⟨g, 0, none⟩) n cap) n (ils (trf (dmf p (dS p back) (trn (dS p back) (dW n p back) p)) n xs m) n) ∧ Onl g w2 w' ∧ (∀ k, k < n → trf (dmf p (dS p back) (trn (dS p back) (dW n p back) p)) n xs m (rvp m k) = dft xs n (dW n p back) (dB n p back) p k) := by
  have hpb := hp.bounds
  have hgl := lt_of_own hu
  have bS := dS_bounds hp back
  have hrow := own_below hu hb
  have key := trx_any (RV := .agg #[.int .i64 p, .int .i64 (dS p back), tu]) (mf := dmf p (dS p back) (trn (dS p back) (dW n p back) p)) (fun _ x => 0 ≤ x ∧ x < p) hm hn (fun W => len_pow hm hn W) hrow (fun t h => by have := hx t h; omega)
    (by
      intro W hW r a b t hr htt ha hb'
      rcases ht.2 with ⟨_, h0⟩ | ⟨gt, capt, cur, rfl, hbt, _, hcc, _⟩
      · exfalso; omega
      · have hgt := lt_of_own ht
        have hc := World.ownsRow.cellAt ht t (by omega)
        rw [ils_get htt] at hc
        have hc2 : W.cell? ⟨gt, 0 + t, none⟩ = some (.int .i64 (trn (dS p back) (dW n p back) p t)) := by
          rw [Nat.zero_add]
          exact (hW.cell hgt (by omega)).trans hc
        exact meet_any ha hb' bS (trn_bounds (by omega) bS t) (by omega) htt (Nat.lt_of_lt_of_le hgt hW.size) hc2)
    (by
      intro r a b t _ _ _ _
      exact ⟨⟨Int.emod_nonneg _ (by omega), Int.emod_lt_of_pos _ (by omega)⟩, ⟨Int.emod_nonneg _ (by omega), Int.emod_lt_of_pos _ (by omega)⟩⟩)
  refine key.mono ?_
  rintro e w' ⟨rfl, h1, h2⟩
  refine ⟨rfl, h1, h2, fun k hk => dft_whole hp hn hm hw ?_ hk⟩
  exact trf_inv (p := p) (f := xs) (fun a b t => by exact ⟨⟨Int.emod_nonneg _ (by omega), Int.emod_lt_of_pos _ (by omega)⟩, ⟨Int.emod_nonneg _ (by omega), Int.emod_lt_of_pos _ (by omega)⟩⟩) (fun t h => by have := hx t h; omega)

set_option maxHeartbeats 4000000 in
theorem iDft_yes {w : World} {v : Value} {n : Nat} {xs : Nat → Int} {p : Int} {back : Bool} (hs : Prs w) (hv : Il w v n xs) (hg : GF n xs p) :
    Calls Tryd.prog 16 #[v, .int .i64 p, .bool back] w fun e w' => Pst w w' e n (dft xs n (dW n p back) (dB n p back) p) true := by
  have hb := hg.2.2.bounds
  obtain ⟨m, hm, hn⟩ := hg.2.2.pow
  have i1 := iRow_any (p := p) hs hv (by omega)
  have i2 := iWhl_any n
  rw [decide_eq_true ⟨hg.1, hg.2.1⟩] at i1
  rw [decide_eq_true hg.2.2] at i2
  have i3 := clone_any hv (by omega) (by omega)
  have i4 : Hid (∀ W, Below w.heap.size w W → Calls Tryd.prog 18 #[.int .i64 n, .int .i64 p, .bool back] W fun e w' => ∃ u, e = .returned (.agg #[.int .i64 p, .int .i64 (dS p back), u]) ∧ w'.ownsRow W.heap.size 3 1 u (n / 2) (ils (trn (dS p back) (dW n p back) p) (n / 2)) ∧ Below W.heap.size W w') := fun W hW => turning_any (hs.below hW) hg.1 (by omega)
  have i5 : Hid (∀ W1 W2 g cap tu, W1.ownsRow w.heap.size 3 1 (.slice (some ⟨g, 0, none⟩) n cap) n (ils xs n) → W2.ownsRow W1.heap.size 3 1 tu (n / 2) (ils (trn (dS p back) (dW n p back) p) (n / 2)) → Below W1.heap.size W1 W2 → w.heap.size ≤ g → Calls Tryd.prog 28 #[.slice (some ⟨g, 0, none⟩) n cap, .func (.func 29) #[.agg #[.int .i64 p, .int .i64 (dS p back), tu]] #[]] W2 fun e w' => e = .returned (.tuple #[]) ∧
      w'.ownsRow w.heap.size 3 1 (.slice (some ⟨g, 0, none⟩) n cap) n (ils (trf (dmf p (dS p back) (trn (dS p back) (dW n p back) p)) n xs m) n) ∧ Onl g W2 w' ∧ (∀ k, k < n → trf (dmf p (dS p back) (trn (dS p back) (dW n p back) p)) n xs m (rvp m k) = dft xs n (dW n p back) (dB n p back) p k)) :=
    fun W1 W2 g cap tu h1 h2 h3 h4 => trans_any hg.1 hm hn hg.2.2 hg.2.1.2 h1 h2 h3 h4
  have i6 : Hid (∀ W u f, Il W u n f → Calls Tryd.prog 30 #[u] W fun e w' => ∃ u, e = .returned u ∧ w'.ownsRow W.heap.size 3 1 u n (ils (fun k => f (rvp m k)) n) ∧ Below W.heap.size W w') := fun W u f h => inOrd_any hm hn h
  generalize dS p back = S at *
  generalize trf (dmf p S (trn S (dW n p back) p)) n xs m = F at *
  generalize trn S (dW n p back) p = TT at *
  generalize dft xs n (dW n p back) (dB n p back) p = G at *
  obtain ⟨ao, cap, rfl, hcap, hc⟩ := hv
  clear hc hg hs hn
  go_enter Tryd.func16, Tryd.ntmps16
  go_wp2_with (first
    | (go_at_call 26; (with_reducible refine (i1).mono ?_); rintro e w' ⟨rfl, hw⟩; obtain rfl := hw.symm)
    | (go_at_call 15; (with_reducible refine (i2 _).mono ?_); rintro e w' ⟨rfl, hw⟩; obtain rfl := hw.symm)
    | (go_at_call 27; (with_reducible refine (i3).mono ?_); rintro e w1 ⟨u, rfl, hr1, hb1⟩; have hsh := hr1.2; rcases hsh with ⟨_, h0⟩ | ⟨g, cap1, cur, rfl, hbg, _⟩; (exfalso; omega); have R1 : Hid (w1.ownsRow w.heap.size 3 1 (.slice (some ⟨g, 0, none⟩) n cap1) n (ils xs n)) := hr1; have B1 : Hid (Below w.heap.size w w1) := hb1; have HG : Hid (w.heap.size ≤ g) := hbg; clear hr1 hb1 hbg)
    | (go_at_call 18; refine (i4.out _ B1.out).mono ?_; rintro e w2 ⟨tu, rfl, hr2, hb2⟩; have R2 : Hid (w2.ownsRow w1.heap.size 3 1 tu (n / 2) (ils TT (n / 2))) := hr2; have B2 : Hid (Below w1.heap.size w1 w2) := hb2; clear hr2 hb2)
    | (go_at_call 28; refine (i5.out _ _ _ _ _ R1.out R2.out B2.out HG.out).mono ?_; rintro e w3 ⟨rfl, hr3, hon3, he3⟩; have R3 : Hid (w3.ownsRow w.heap.size 3 1 (.slice (some ⟨g, 0, none⟩) n cap1) n (ils F n)) := hr3; have B3 : Hid (Below w.heap.size w w3) := Below.onl (bstep B1.out B2.out) hon3 HG.out (Nat.le_refl _); have E3 : Hid (∀ k, k < n → F (rvp m k) = G k) := he3; clear hr3 hon3 he3)
    | (go_at_call 30; refine (i6.out _ _ _ (il_of_own R3.out)).mono ?_; rintro e w4 ⟨u4, rfl, hr4, hb4⟩; have R4 : Hid (w4.ownsRow w.heap.size 3 1 u4 n (ils (fun k => F (rvp m k)) n)) := own_base hr4 B3.out.size; have B4 : Hid (Below w.heap.size w w4) := bstep B3.out hb4; clear hr4 hb4))
  go_ret2
  refine ⟨_, rfl, ?_, B4.out⟩
  rw [← ils_congr (f := fun k => F (rvp m k)) (g := G) E3.out]
  exact R4.out

set_option maxHeartbeats 2000000 in
theorem iDft_no {w : World} {v : Value} {n : Nat} {xs : Nat → Int} {p : Int} {back : Bool} (hs : Prs w) (hv : Il w v n xs) (hn : n ≤ 1048576) (hbad : ¬ GF n xs p) (zs : Nat → Int) :
    Calls Tryd.prog 16 #[v, .int .i64 p, .bool back] w fun e w' => Pst w w' e 0 zs false := by
  have i1 := iRow_any (p := p) hs hv hn
  have i2 := iWhl_any n
  obtain ⟨ao1, cap1, rfl, hcap1, hc1⟩ := hv
  clear hc1 hs
  by_cases hx : Prm p ∧ Rwp n xs p
  · rw [decide_eq_true hx] at i1
    have hy : ¬ Whl n := fun h => hbad ⟨hx.1, hx.2, h⟩
    rw [decide_eq_false hy] at i2
    clear hbad hx hy
    go_enter Tryd.func16, Tryd.ntmps16
    go_wp2_with (first | (go_at_call 26; (with_reducible refine (i1).mono ?_); rintro e w' ⟨rfl, hw⟩; obtain rfl := hw.symm) | (go_at_call 15; (with_reducible refine (i2 _).mono ?_); rintro e w' ⟨rfl, hw⟩; obtain rfl := hw.symm))
    go_ret2
    exact ⟨_, rfl, own_empty w 3 1, below_one _ _⟩
  · rw [decide_eq_false hx] at i1
    clear hbad hx
    go_enter Tryd.func16, Tryd.ntmps16
    go_wp2_with (first | (go_at_call 26; (with_reducible refine (i1).mono ?_); rintro e w' ⟨rfl, hw⟩; obtain rfl := hw.symm) | (go_at_call 15; (with_reducible refine (i2 _).mono ?_); rintro e w' ⟨rfl, hw⟩; obtain rfl := hw.symm))
    go_ret2
    exact ⟨_, rfl, own_empty w 3 1, below_one _ _⟩

end Go.Proofs.YtabdondefoldaaaDoor
