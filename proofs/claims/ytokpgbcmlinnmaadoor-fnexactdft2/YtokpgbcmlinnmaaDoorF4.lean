/- Dft: the program, and the law. -/
import Derived.Test.YtokpgbcmlinnmaaDoorF3
import Derived.Test.YtokpgbcmlinnmaaDoorR4
namespace Go.Proofs.YtokpgbcmlinnmaaDoor
open Go.RowKit

theorem lt_of_own {w : World} {B n g cap : Nat} {L : List Value} (h : w.ownsRow B 3 1 (.slice (some ⟨g, 0, none⟩) n cap) n L) : g < w.heap.size := (World.ownsRow.lt h g rfl).2

theorem trf_inv {mf : Int → Int → Nat → Int × Int} {n : Nat} {f : Nat → Int} {p : Int} {m : Nat} (hI : ∀ a b t, (0 ≤ (mf a b t).1 ∧ (mf a b t).1 < p) ∧ (0 ≤ (mf a b t).2 ∧ (mf a b t).2 < p)) (h0 : ∀ t, t < n → 0 ≤ f t ∧ f t < p) : ∀ t, t < n → 0 ≤ trf mf n f m t ∧ trf mf n f m t < p := by
  intro t ht
  cases m with
  | zero => exact h0 t ht
  | succ r =>
    show 0 ≤ nw mf (trf mf n f r) (n / 2 ^ (r + 1)) r t ∧ nw mf (trf mf n f r) (n / 2 ^ (r + 1)) r t < p
    unfold nw
    split
    · exact (hI _ _ _).1
    · exact (hI _ _ _).2

set_option maxHeartbeats 2000000 in
/-- The whole transform of a row of its own. -/
theorem trans_any {w w1 w2 : World} {n m g cap : Nat} {tu : Value} {p : Int} {back : Bool} {xs : Nat → Int} (hp : Prm p) (hm : m ≤ 8) (hn : n = 2 ^ m) (hw : Whl n) (hx : ∀ k, k < n → 0 ≤ xs k ∧ xs k ≤ p - 1)
    (hu : w1.ownsRow w.heap.size 3 1 (.slice (some ⟨g, 0, none⟩) n cap) n (ils xs n)) (ht : w2.ownsRow w1.heap.size 3 1 tu (n / 2) (ils (trn (dS p back) (dW n p back) p) (n / 2))) (hb : Below w1.heap.size w1 w2) (_ : w.heap.size ≤ g) :
    Calls Tryd.prog 37 #[.slice (some ⟨g, 0, none⟩) n cap, .func (.func 39) #[.agg #[.int .i64 p, .int .i64 (dS p back), tu]] #[]] w2 fun e w' => e = .returned (.tuple #[]) ∧
      w'.ownsRow w.heap.size 3 1 (.slice (some ⟨g, 0, none⟩) n cap) n (ils (trf (dmf p (dS p back) (trn (dS p back) (dW n p back) p)) n xs m) n) ∧ Onl g w2 w' ∧ (∀ k, k < n → trf (dmf p (dS p back) (trn (dS p back) (dW n p back) p)) n xs m (rvp m k) = dft xs n (dW n p back) (dB n p back) p k) := by
  have hpb := hp.bounds
  have hgl := lt_of_own hu
  have bS := dS_bounds hp back
  have hrow := own_below hu hb
  have key := trx_any (RV := .agg #[.int .i64 p, .int .i64 (dS p back), tu]) (mf := dmf p (dS p back) (trn (dS p back) (dW n p back) p)) (fun _ x => 0 ≤ x ∧ x < p) hm hn (fun W => len_pow hm hn W) hrow (fun t h => by have := hx t h; omega)
    (by
      intro W hW r a b t hr htt ha hb'
      rcases ht.2 with ⟨_, h0⟩ | ⟨gt, capt, cur, rfl, hbt, _, hcc, _⟩
      · exfalso; omega
      · have hgt := lt_of_own ht
        have hc := World.ownsRow.cellAt ht t (by omega)
        rw [ils_get htt] at hc
        have hc2 : W.cell? ⟨gt, 0 + t, none⟩ = some (.int .i64 (trn (dS p back) (dW n p back) p t)) := by
          rw [Nat.zero_add]
          exact (hW.cell hgt (by omega)).trans hc
        exact meet_any ha hb' bS (trn_bounds (by omega) bS t) (by omega) htt (Nat.lt_of_lt_of_le hgt hW.size) hc2)
    (by
      intro r a b t _ _ _ _
      exact ⟨⟨Int.emod_nonneg _ (by omega), Int.emod_lt_of_pos _ (by omega)⟩, ⟨Int.emod_nonneg _ (by omega), Int.emod_lt_of_pos _ (by omega)⟩⟩)
  refine key.mono ?_
  rintro e w' ⟨rfl, h1, h2⟩
  refine ⟨rfl, h1, h2, fun k hk => dft_whole hp hn hm hw ?_ hk⟩
  exact trf_inv (p := p) (f := xs) (fun a b t => by exact ⟨⟨Int.emod_nonneg _ (by omega), Int.emod_lt_of_pos _ (by omega)⟩, ⟨Int.emod_nonneg _ (by omega), Int.emod_lt_of_pos _ (by omega)⟩⟩) (fun t h => by have := hx t h; omega)

set_option maxHeartbeats 4000000 in
theorem iDft_yes {w : World} {v : Value} {n : Nat} {xs : Nat → Int} {p : Int} {back : Bool} (hs : Prs w) (hv : Il w v n xs) (hg : GF n xs p) :
    Calls Tryd.prog 16 #[v, .int .i64 p, .bool back] w fun e w' => Pst w w' e n (dft xs n (dW n p back) (dB n p back) p) true := by
  have hb := hg.2.2.bounds
  obtain ⟨m, hm, hn⟩ := hg.2.2.pow
  have i1 := iRow_any (p := p) hs hv (by omega)
  have i2 := iWhl_any n
  rw [decide_eq_true ⟨hg.1, hg.2.1⟩] at i1
  rw [decide_eq_true hg.2.2] at i2
  have i3 := clone_any hv (by omega) (by omega)
  have i4 : Hid (∀ W, Below w.heap.size w W → Calls Tryd.prog 38 #[.int .i64 n, .int .i64 p, .bool back] W fun e w' => ∃ u, e = .returned (.agg #[.int .i64 p, .int .i64 (dS p back), u]) ∧ w'.ownsRow W.heap.size 3 1 u (n / 2) (ils (trn (dS p back) (dW n p back) p) (n / 2)) ∧ Below W.heap.size W w') := fun W hW => turning_any (hs.below hW) hg.1 (by omega)
  have i5 : Hid (∀ W1 W2 g cap tu, W1.ownsRow w.heap.size 3 1 (.slice (some ⟨g, 0, none⟩) n cap) n (ils xs n) → W2.ownsRow W1.heap.size 3 1 tu (n / 2) (ils (trn (dS p back) (dW n p back) p) (n / 2)) → Below W1.heap.size W1 W2 → w.heap.size ≤ g → Calls Tryd.prog 37 #[.slice (some ⟨g, 0, none⟩) n cap, .func (.func 39) #[.agg #[.int .i64 p, .int .i64 (dS p back), tu]] #[]] W2 fun e w' => e = .returned (.tuple #[]) ∧
      w'.ownsRow w.heap.size 3 1 (.slice (some ⟨g, 0, none⟩) n cap) n (ils (trf (dmf p (dS p back) (trn (dS p back) (dW n p back) p)) n xs m) n) ∧ Onl g W2 w' ∧ (∀ k, k < n → trf (dmf p (dS p back) (trn (dS p back) (dW n p back) p)) n xs m (rvp m k) = dft xs n (dW n p back) (dB n p back) p k)) :=
    fun W1 W2 g cap tu h1 h2 h3 h4 => trans_any hg.1 hm hn hg.2.2 hg.2.1.2 h1 h2 h3 h4
  have i6 : Hid (∀ W u f, Il W u n f → Calls Tryd.prog 40 #[u] W fun e w' => ∃ u, e = .returned u ∧ w'.ownsRow W.heap.size 3 1 u n (ils (fun k => f (rvp m k)) n) ∧ Below W.heap.size W w') := fun W u f h => inOrd_any hm hn h
  generalize dS p back = S at *
  generalize trf (dmf p S (trn S (dW n p back) p)) n xs m = F at *
  generalize trn S (dW n p back) p = TT at *
  generalize dft xs n (dW n p back) (dB n p back) p = G at *
  obtain ⟨ao, cap, rfl, hcap, hc⟩ := hv
  clear hc hg hs hn
  go_enter Tryd.func16, Tryd.ntmps16
  go_wp2_with (first
    | (go_at_call 35; (with_reducible refine (i1).mono ?_); rintro e w' ⟨rfl, hw⟩; obtain rfl := hw.symm)
    | (go_at_call 33; (with_reducible refine (i2 _).mono ?_); rintro e w' ⟨rfl, hw⟩; obtain rfl := hw.symm)
    | (go_at_call 36; (with_reducible refine (i3).mono ?_); rintro e w1 ⟨u, rfl, hr1, hb1⟩; have hsh := hr1.2; rcases hsh with ⟨_, h0⟩ | ⟨g, cap1, cur, rfl, hbg, _⟩; (exfalso; omega); have R1 : Hid (w1.ownsRow w.heap.size 3 1 (.slice (some ⟨g, 0, none⟩) n cap1) n (ils xs n)) := hr1; have B1 : Hid (Below w.heap.size w w1) := hb1; have HG : Hid (w.heap.size ≤ g) := hbg; clear hr1 hb1 hbg)
    | (go_at_call 38; refine (i4.out _ B1.out).mono ?_; rintro e w2 ⟨tu, rfl, hr2, hb2⟩; have R2 : Hid (w2.ownsRow w1.heap.size 3 1 tu (n / 2) (ils TT (n / 2))) := hr2; have B2 : Hid (Below w1.heap.size w1 w2) := hb2; clear hr2 hb2)
    | (go_at_call 37; refine (i5.out _ _ _ _ _ R1.out R2.out B2.out HG.out).mono ?_; rintro e w3 ⟨rfl, hr3, hon3, he3⟩; have R3 : Hid (w3.ownsRow w.heap.size 3 1 (.slice (some ⟨g, 0, none⟩) n cap1) n (ils F n)) := hr3; have B3 : Hid (Below w.heap.size w w3) := Below.onl (bstep B1.out B2.out) hon3 HG.out (Nat.le_refl _); have E3 : Hid (∀ k, k < n → F (rvp m k) = G k) := he3; clear hr3 hon3 he3)
    | (go_at_call 40; refine (i6.out _ _ _ (il_of_own R3.out)).mono ?_; rintro e w4 ⟨u4, rfl, hr4, hb4⟩; have R4 : Hid (w4.ownsRow w.heap.size 3 1 u4 n (ils (fun k => F (rvp m k)) n)) := own_base hr4 B3.out.size; have B4 : Hid (Below w.heap.size w w4) := bstep B3.out hb4; clear hr4 hb4))
  go_ret2
  refine ⟨_, rfl, ?_, B4.out⟩
  rw [← ils_congr (f := fun k => F (rvp m k)) (g := G) E3.out]
  exact R4.out

set_option maxHeartbeats 2000000 in
theorem iDft_no {w : World} {v : Value} {n : Nat} {xs : Nat → Int} {p : Int} {back : Bool} (hs : Prs w) (hv : Il w v n xs) (hn : n ≤ 1048576) (hbad : ¬ GF n xs p) (zs : Nat → Int) :
    Calls Tryd.prog 16 #[v, .int .i64 p, .bool back] w fun e w' => Pst w w' e 0 zs false := by
  have i1 := iRow_any (p := p) hs hv hn
  have i2 := iWhl_any n
  obtain ⟨ao1, cap1, rfl, hcap1, hc1⟩ := hv
  clear hc1 hs
  by_cases hx : Prm p ∧ Rwp n xs p
  · rw [decide_eq_true hx] at i1
    have hy : ¬ Whl n := fun h => hbad ⟨hx.1, hx.2, h⟩
    rw [decide_eq_false hy] at i2
    clear hbad hx hy
    go_enter Tryd.func16, Tryd.ntmps16
    go_wp2_with (first | (go_at_call 35; (with_reducible refine (i1).mono ?_); rintro e w' ⟨rfl, hw⟩; obtain rfl := hw.symm) | (go_at_call 33; (with_reducible refine (i2 _).mono ?_); rintro e w' ⟨rfl, hw⟩; obtain rfl := hw.symm))
    go_ret2
    exact ⟨_, rfl, own_empty w 3 1, below_one _ _⟩
  · rw [decide_eq_false hx] at i1
    clear hbad hx
    go_enter Tryd.func16, Tryd.ntmps16
    go_wp2_with (first | (go_at_call 35; (with_reducible refine (i1).mono ?_); rintro e w' ⟨rfl, hw⟩; obtain rfl := hw.symm) | (go_at_call 33; (with_reducible refine (i2 _).mono ?_); rintro e w' ⟨rfl, hw⟩; obtain rfl := hw.symm))
    go_ret2
    exact ⟨_, rfl, own_empty w 3 1, below_one _ _⟩

set_option maxHeartbeats 2000000 in
theorem mark_from {w : World} {B g n cap : Nat} {f : Nat → Int} {K : Int} (ho : w.ownsRow B 3 1 (.slice (some ⟨g, 0, none⟩) n cap) n (ils f n)) (hn : n ≤ 1048576) (hK : 0 ≤ K ∧ K ≤ 1099511627776) :
    Calls Tryd.prog 18 #[.slice (some ⟨g, 0, none⟩) n cap, .int .i64 K] w fun e w' => e = .returned (.int .i64 (K + (n : Int))) ∧ w'.ownsRow B 3 1 (.slice (some ⟨g, 0, none⟩) n cap) n (ils (fun i => K + (i : Int)) n) ∧ Only g w w' := by
  have HO : Hid _ := ho
  clear ho
  go_enter Tryd.func18, Tryd.ntmps18
  go_wp2
  go_loopw [1, 5] (fun kk i wr => ∃ q : Nat, i = .int .i64 q ∧ kk = .int .i64 (K + (q : Int)) ∧ q ≤ n ∧ Hid ((∃ f', wr.ownsRow B 3 1 (.slice (some ⟨g, 0, none⟩) n cap) n (ils f' n) ∧ ∀ j, j < q → f' j = K + (j : Int)) ∧ Only g w wr)) (fun _ i _ => n - (intOf i).toNat)
  case atStart => exact ⟨0, rfl, by congr 1; omega, by omega, ⟨f, HO.out, fun i hi => by omega⟩, Only.refl _ _⟩
  case round =>
    obtain ⟨q, rfl, rfl, hq, hrel⟩ := hrel
    obtain ⟨⟨f', hf, hmk⟩, hon⟩ := hrel.out
    by_cases h1 : q < n
    · have d0 := World.ownsRow.cellAt hf q (by omega)
      rw [ils_get h1] at d0
      have z0 := World.ownsRow.frozenAt hf q
      have st := (World.ownsRow.stored hf q (.int .i64 (K + (q : Int)))).1
      rw [ils_put] at st
      have OP : Hid _ := st
      have ON : Hid _ := hon.put q (.int .i64 (K + (q : Int)))
      have HM : Hid _ := hmk
      clear hf hmk hon hrel st
      go_wp2
      go_roundw
      case rel =>
        refine ⟨q + 1, by go_num, by first | go_num | (congr 1; omega), by omega, ⟨_, OP.out, fun i hi => ?_⟩, ON.out⟩
        by_cases hik : i = q
        · subst hik; simp
        · simp only [if_neg hik]
          exact HM.out i (by omega)
      case measure => simp [intOf]; omega
    · obtain rfl : q = n := by omega
      rw [ils_congr hmk] at hf
      have HM : Hid _ := hf
      have ON : Hid _ := hon
      clear hf hmk hon hrel
      go_wp2
      go_ret
      exact ⟨rfl, HM.out, ON.out⟩

set_option maxHeartbeats 1000000 in
theorem mark_nilK (w : World) (K : Int) : Calls Tryd.prog 18 #[.slice none 0 0, .int .i64 K] w fun e w' => e = .returned (.int .i64 K) ∧ w' = w := by
  go_enter Tryd.func18, Tryd.ntmps18
  go_wp2
  go_loopw [1, 5] (fun kk i wr => i = .int .i64 0 ∧ kk = .int .i64 K ∧ wr = w) (fun _ _ _ => 0)
  case atStart => exact ⟨rfl, rfl, rfl⟩
  case round =>
    obtain ⟨rfl, rfl, rfl⟩ := hrel
    go_wp2
    go_ret
    exact ⟨rfl, rfl⟩

/-- Marked from K on. -/
theorem markedK {w : World} {B n : Nat} {v : Value} {f : Nat → Int} {K : Int} (h : w.ownsRow B 3 1 v n (ils f n)) (hB : B ≤ w.heap.size) (hn : n ≤ 1048576) (hK : 0 ≤ K ∧ K ≤ 1099511627776) :
    Calls Tryd.prog 18 #[v, .int .i64 K] w fun e w' => e = .returned (.int .i64 (K + (n : Int))) ∧ True ∧ ∃ g, B ≤ g ∧ (v.ownBlock = some g ∨ w' = w) ∧ Only g w w' := by
  rcases h.2 with ⟨rfl, rfl⟩ | ⟨g, cap, cur, rfl, hb, hg, _⟩
  · refine (mark_nilK w K).mono ?_
    rintro e w' ⟨rfl, rfl⟩
    exact ⟨by simp, trivial, w'.heap.size, hB, .inr rfl, Only.refl _ _⟩
  · refine (mark_from h hn hK).mono ?_
    rintro e w' ⟨rfl, h1, hon⟩
    exact ⟨rfl, trivial, g, hb, .inl rfl, hon⟩

set_option maxHeartbeats 4000000 in
theorem wdft_of {w : World} {v1 : Value} {n1 : Nat} {xs1 : Nat → Int} {p : Int} {back : Bool} (hv1 : Il w v1 n1 xs1) (hn1 : n1 ≤ 9223372036854775807) (N : Nat) (hN : N ≤ 1048576) (zs : Nat → Int) (ok : Bool)
    (hs : n1 ≤ 1048576 → ∀ W u1, Il W u1 n1 xs1 → Calls Tryd.prog 14 #[u1, .int .i64 p, .bool back] W fun e w' => Pst W w' e N zs ok)
    (hi : n1 ≤ 1048576 → ∀ W u1, Below w.heap.size w W → Il W u1 n1 xs1 → Calls Tryd.prog 16 #[u1, .int .i64 p, .bool back] W fun e w' => Pst W w' e N zs ok) :
    Calls Tryd.prog 6 #[v1, .int .i64 p, .bool back] w fun e w' => e = .returned (.bool true) ∧ Below w.heap.size w w' := by
  rcases Nat.lt_or_ge 1048576 n1 with h1 | h1
  · obtain ⟨ao1, cap1, rfl, hcap1, hc1⟩ := hv1
    clear hc1 hs hi
    go_enter Tryd.func6, Tryd.ntmps6
    go_wp2
    go_ret
    exact ⟨rfl, Below.refl _ _⟩
  have FV1 : Hid (Il w v1 n1 xs1) := hv1
  have HS : Hid (∀ W u1, Il W u1 n1 xs1 → Calls Tryd.prog 14 #[u1, .int .i64 p, .bool back] W fun e w' => Pst W w' e N zs ok) := hs h1
  have HI : Hid (∀ W u1, Below w.heap.size w W → Il W u1 n1 xs1 → Calls Tryd.prog 16 #[u1, .int .i64 p, .bool back] W fun e w' => Pst W w' e N zs ok) := hi h1
  obtain ⟨ao1, cap1, rfl, hcap1, hc1⟩ := hv1
  clear hc1 hs hi
  go_enter Tryd.func6, Tryd.ntmps6
  go_wp2_with (first
    | (go_at_call 15; (fail_if_success have := M1); refine (copy_own FV1.out h1).mono ?_; rintro e W1 ⟨hb1, a1, rfl, hf1, ho1⟩; have M1 : Hid True := trivial; have B_1 : Hid (Below w.heap.size w W1) := hb1; have Oa1_1 : Hid (W1.ownsRow w.heap.size 3 1 a1 n1 (ils xs1 n1)) := ho1; clear hb1 ho1 hf1)
    | (go_at_call 14; have Z := M1; (fail_if_success have := M2); refine (HS.out _ _ (il_of_own Oa1_1.out)).mono ?_; rintro e W2 ⟨u0, rfl, ho2, hb2⟩; have M2 : Hid True := trivial; have B_2 : Hid (Below w.heap.size w W2) := bstep B_1.out hb2; have Oa1_2 : Hid (W2.ownsRow w.heap.size 3 1 a1 n1 (ils xs1 n1)) := own_below Oa1_1.out hb2; have FW_2 : Hid (Il W2 u0 N zs) := il_of_own ho2; clear hb2 ho2)
    | (go_at_call 15; have Z := M2; (fail_if_success have := M3); refine (copy_own (Il.below FV1.out B_2.out) h1).mono ?_; rintro e W3 ⟨hb3, x1, rfl, hf3, ho3⟩; have M3 : Hid True := trivial; have B_3 : Hid (Below w.heap.size w W3) := bstep B_2.out hb3; have D_3 : Hid (Below W2.heap.size W2 W3) := hb3; have Ox1_3 : Hid (W3.ownsRow W2.heap.size 3 1 x1 n1 (ils xs1 n1)) := ho3; clear hb3 ho3 hf3)
    | (go_at_call 16; have Z := M3; (fail_if_success have := M4); refine (HI.out _ _ B_3.out (il_of_own Ox1_3.out)).mono ?_; rintro e W4 ⟨g0, rfl, ho4, hb4⟩; have M4 : Hid True := trivial; have B_4 : Hid (Below w.heap.size w W4) := bstep B_3.out hb4; have D_4 : Hid (Below W2.heap.size W2 W4) := bstep D_3.out hb4; have Ox1_4 : Hid (W4.ownsRow W2.heap.size 3 1 x1 n1 (ils xs1 n1)) := own_below Ox1_3.out hb4; have SG_4 : Hid (W3.heap.size ≤ W4.heap.size) := hb4.size; have OG_4 : Hid (W4.ownsRow W3.heap.size 3 1 g0 N (ils zs N)) := ho4; clear hb4 ho4)
    | (go_at_call 17; have Z := M4; (fail_if_success have := M5); refine (eq_yes (il_of_own OG_4.out) (Il.below FW_2.out D_4.out) hN).mono ?_; rintro e W5 ⟨rfl, hb5⟩; have M5 : Hid True := trivial; have B_5 : Hid (Below w.heap.size w W5) := bstep B_4.out hb5; have D_5 : Hid (Below W2.heap.size W2 W5) := bstep D_4.out hb5; have Ox1_5 : Hid (W5.ownsRow W2.heap.size 3 1 x1 n1 (ils xs1 n1)) := own_below Ox1_4.out hb5; have SG_5 : Hid (W3.heap.size ≤ W5.heap.size) := Nat.le_trans SG_4.out hb5.size; have OG_5 : Hid (W5.ownsRow W3.heap.size 3 1 g0 N (ils zs N)) := own_below OG_4.out hb5; clear hb5)
    | (go_at_call 15; have Z := M5; (fail_if_success have := M6); refine (copy_own (Il.below FV1.out B_5.out) h1).mono ?_; rintro e W6 ⟨hb6, y1, rfl, hf6, ho6⟩; have M6 : Hid True := trivial; have B_6 : Hid (Below w.heap.size w W6) := bstep B_5.out hb6; have D_6 : Hid (Below W2.heap.size W2 W6) := bstep D_5.out hb6; have Ox1_6 : Hid (W6.ownsRow W2.heap.size 3 1 x1 n1 (ils xs1 n1)) := own_below Ox1_5.out hb6; have SG_6 : Hid (W3.heap.size ≤ W6.heap.size) := Nat.le_trans SG_5.out hb6.size; have OG_6 : Hid (W6.ownsRow W3.heap.size 3 1 g0 N (ils zs N)) := own_below OG_5.out hb6; have Oy1_6 : Hid (W6.ownsRow W5.heap.size 3 1 y1 n1 (ils xs1 n1)) := ho6; clear hb6 ho6 hf6)
    | (go_at_call 17; have Z := M6; (fail_if_success have := M7); refine (eq_yes (il_of_own Ox1_6.out) (il_of_own Oy1_6.out) h1).mono ?_; rintro e W7 ⟨rfl, hb7⟩; have M7 : Hid True := trivial; have B_7 : Hid (Below w.heap.size w W7) := bstep B_6.out hb7; have D_7 : Hid (Below W2.heap.size W2 W7) := bstep D_6.out hb7; have Ox1_7 : Hid (W7.ownsRow W2.heap.size 3 1 x1 n1 (ils xs1 n1)) := own_below Ox1_6.out hb7; have SG_7 : Hid (W3.heap.size ≤ W7.heap.size) := Nat.le_trans SG_6.out hb7.size; have OG_7 : Hid (W7.ownsRow W3.heap.size 3 1 g0 N (ils zs N)) := own_below OG_6.out hb7; have Oy1_7 : Hid (W7.ownsRow W5.heap.size 3 1 y1 n1 (ils xs1 n1)) := own_below Oy1_6.out hb7; clear hb7)
    | (go_at_call 18; have Z := M7; (fail_if_success have := M8); refine (markedK (K := 1) (B := W2.heap.size) (n := n1) (v := x1) (f := xs1) Ox1_7.out D_7.out.size h1 (by omega)).mono ?_; rintro e W8 ⟨rfl, _, gx8, hg8, hor8, hon8⟩; have M8 : Hid True := trivial; have B_8 : Hid (Below w.heap.size w W8) := Below.only B_7.out hon8 (Nat.le_trans B_2.out.size hg8); have D_8 : Hid (Below W2.heap.size W2 W8) := Below.only D_7.out hon8 (hg8); have SG_8 : Hid (W3.heap.size ≤ W8.heap.size) := Nat.le_trans SG_7.out hon8.size; have OG_8 : Hid (W8.ownsRow W3.heap.size 3 1 g0 N (ils zs N)) := own_only' (w3 := W3) (e := 3) (s := 1) (v := g0) (n := N) (xs := ils zs N) (x := x1) (m := n1) (L := ils xs1 n1) (B3 := W2.heap.size) OG_7.out hon8 hor8 Ox1_3.out; clear hon8 hor8 hg8)
    | (go_at_call 17; have Z := M8; (fail_if_success have := M9); refine (eq_yes (il_of_own OG_8.out) (Il.below FW_2.out D_8.out) hN).mono ?_; rintro e W9 ⟨rfl, hb9⟩; have M9 : Hid True := trivial; have B_9 : Hid (Below w.heap.size w W9) := bstep B_8.out hb9; have D_9 : Hid (Below W2.heap.size W2 W9) := bstep D_8.out hb9; have SG_9 : Hid (W3.heap.size ≤ W9.heap.size) := Nat.le_trans SG_8.out hb9.size; have OG_9 : Hid (W9.ownsRow W3.heap.size 3 1 g0 N (ils zs N)) := own_below OG_8.out hb9; clear hb9)
    | (go_at_call 18; have Z := M9; (fail_if_success have := M10); refine (marked (B := W3.heap.size) (n := N) (v := g0) (f := zs) OG_9.out SG_9.out hN).mono ?_; rintro e W10 ⟨rfl, hmk10, gx10, hg10, hor10, hon10⟩; have M10 : Hid True := trivial; have B_10 : Hid (Below w.heap.size w W10) := Below.only B_9.out hon10 (Nat.le_trans B_3.out.size hg10); have D_10 : Hid (Below W2.heap.size W2 W10) := Below.only D_9.out hon10 (Nat.le_trans D_3.out.size hg10); have SG_10 : Hid (W3.heap.size ≤ W10.heap.size) := Nat.le_trans SG_9.out hon10.size; have MG_10 : Hid (W10.ownsRow W3.heap.size 3 1 g0 N (ils mks N)) := hmk10; clear hon10 hor10 hg10)
    | (go_at_call 19; have Z := M10; (fail_if_success have := M11); refine (held MG_10.out hN).mono ?_; rintro e w' ⟨rfl, hw⟩; obtain rfl := hw.symm; have M11 : Hid True := trivial)
    | (go_at_call 15; have Z := M11; (fail_if_success have := M12); refine (copy_own (Il.below FV1.out B_10.out) h1).mono ?_; rintro e W12 ⟨hb12, z1, rfl, hf12, ho12⟩; have M12 : Hid True := trivial; have B_12 : Hid (Below w.heap.size w W12) := bstep B_10.out hb12; have D_12 : Hid (Below W2.heap.size W2 W12) := bstep D_10.out hb12; have SG_12 : Hid (W3.heap.size ≤ W12.heap.size) := Nat.le_trans SG_10.out hb12.size; have MG_12 : Hid (W12.ownsRow W3.heap.size 3 1 g0 N (ils mks N)) := own_below MG_10.out hb12; have Oz1_12 : Hid (W12.ownsRow W10.heap.size 3 1 z1 n1 (ils xs1 n1)) := ho12; clear hb12 ho12 hf12)
    | (go_at_call 16; have Z := M12; (fail_if_success have := M13); refine (HI.out _ _ B_12.out (il_of_own Oz1_12.out)).mono ?_; rintro e W13 ⟨h0, rfl, ho13, hb13⟩; have M13 : Hid True := trivial; have B_13 : Hid (Below w.heap.size w W13) := bstep B_12.out hb13; have D_13 : Hid (Below W2.heap.size W2 W13) := bstep D_12.out hb13; have SG_13 : Hid (W3.heap.size ≤ W13.heap.size) := Nat.le_trans SG_12.out hb13.size; have MG_13 : Hid (W13.ownsRow W3.heap.size 3 1 g0 N (ils mks N)) := own_below MG_12.out hb13; have Oz1_13 : Hid (W13.ownsRow W10.heap.size 3 1 z1 n1 (ils xs1 n1)) := own_below Oz1_12.out hb13; have OH_13 : Hid (W13.ownsRow W12.heap.size 3 1 h0 N (ils zs N)) := ho13; clear hb13 ho13)
    | (go_at_call 17; have Z := M13; (fail_if_success have := M14); refine (eq_yes (il_of_own OH_13.out) (Il.below FW_2.out D_13.out) hN).mono ?_; rintro e W14 ⟨rfl, hb14⟩; have M14 : Hid True := trivial; have B_14 : Hid (Below w.heap.size w W14) := bstep B_13.out hb14; have D_14 : Hid (Below W2.heap.size W2 W14) := bstep D_13.out hb14; have SG_14 : Hid (W3.heap.size ≤ W14.heap.size) := Nat.le_trans SG_13.out hb14.size; have MG_14 : Hid (W14.ownsRow W3.heap.size 3 1 g0 N (ils mks N)) := own_below MG_13.out hb14; have Oz1_14 : Hid (W14.ownsRow W10.heap.size 3 1 z1 n1 (ils xs1 n1)) := own_below Oz1_13.out hb14; have OH_14 : Hid (W14.ownsRow W12.heap.size 3 1 h0 N (ils zs N)) := own_below OH_13.out hb14; clear hb14)
    | (go_at_call 19; have Z := M14; (fail_if_success have := M15); refine (held MG_14.out hN).mono ?_; rintro e w' ⟨rfl, hw⟩; obtain rfl := hw.symm; have M15 : Hid True := trivial))
  go_ret
  exact ⟨rfl, B_14.out⟩

theorem walk_dft {w : World} (hs : Prs w) {v1 : Value} {n1 : Nat} {xs1 : Nat → Int} (hv1 : Il w v1 n1 xs1) (hn1 : n1 ≤ 9223372036854775807) (p : Int) (back : Bool) : Calls Tryd.prog 6 #[v1, .int .i64 p, .bool back] w fun e w' => e = .returned (.bool true) ∧ Below w.heap.size w w' := by
  by_cases hg : GF n1 xs1 p
  · have hb := hg.2.2.bounds
    exact wdft_of hv1 hn1 n1 (by omega) (dft xs1 n1 (dW n1 p back) (dB n1 p back) p) true (fun h W u1 a => sDft_any a h n1 _ true (fun _ => ⟨rfl, rfl, rfl⟩) (fun h => absurd hg h)) (fun _ W u1 hW a => iDft_yes (hs.below hW) a hg)
  · exact wdft_of hv1 hn1 0 (by omega) (fun _ => 0) false (fun h W u1 a => sDft_any a h 0 _ false (fun h => absurd h hg) (fun _ => ⟨rfl, rfl⟩)) (fun h1 W u1 hW a => iDft_no (hs.below hW) a h1 hg _)
end Go.Proofs.YtokpgbcmlinnmaaDoor
