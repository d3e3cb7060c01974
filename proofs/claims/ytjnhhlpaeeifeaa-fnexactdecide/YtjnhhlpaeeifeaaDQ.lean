/- Decide: the document's. -/
import Derived.Test.YtjnhhlpaeeifeaaDP
import Derived.Test.YtjnhhlpaeeifeaaI1
namespace Go.Proofs.Ytjnhhlpaeeifeaa
open Go.RowKit

theorem ils_one (f : Nat → Int) (n : Nat) : ∀ u ∈ ils f n, u.oneCell' = true := by
  intro u hu
  simp only [ils, List.mem_map] at hu
  obtain ⟨i, _, rfl⟩ := hu
  rfl

/-- A whole row put behind another one, in a region that draws its order. -/
theorem wp_appo {w : World} {o : Oper} {a : Act} {K : Act → World → Prop} {Q : Exit → Act → World → Prop} (s x : Operand)
    (ho : o.op = .call { callee := .builtin .append, args := #[s, x], argTypes := #[24, 24] }) (base B2 : Nat) (v xv : Value) (n m : Nat) (xs : List Value) (ys : Nat → Int) (hs : a.eval s = v) (hx : a.eval x = xv)
    (hown : w.ownsRow base 3 1 v n xs) (hsrc : w.ownsRow B2 3 1 xv m (ils ys m)) (hm : 0 < m) (hnm : n + m ≤ 1048576) (hbase : base ≤ w.heap.size)
    (h : ∀ v' w', w'.ownsRow base 3 1 v' (n + m) (xs ++ ils ys m) → w.grownBy w' v.ownBlock → K (a.put o.dst v') w') : o.wp Try.prog a w K Q := by
  obtain ⟨i0, hi, hz0, hz1, hz2⟩ := info_parts Try.info3
  rcases hsrc.2 with ⟨rfl, rfl⟩ | ⟨g, cap, cur, rfl, hb, hg, hcap, _⟩
  · omega
  · exact wp_app w s x 24 ho base 3 i0 (.int .i64 0) 1 8 Try.underlying24 hi hz0 hz1 hz2 rfl (by decide) v n xs hs hown ⟨g, 0, none⟩ m cap (ils ys m) hx (by rw [ils_length, Nat.mul_one]) (hsrc.cells rfl) (ils_one _ _) (by unfold maxLen; omega) (by omega) hbase hm (fun v' w' h2 h3 _ => h v' w' h2 h3)

theorem ils_cat (N c : Nat) (f g : Nat → Int) : ils f N ++ ils g c = ils (cat N f g) (N + c) := by
  induction c with
  | zero =>
    rw [show ils g 0 = [] from rfl, List.append_nil, Nat.add_zero]
    exact ils_congr fun k hk => by unfold cat; rw [if_pos hk]
  | succ c ih =>
    rw [ils_snoc, ← List.append_assoc, ih, ← Nat.add_assoc, ils_snoc]
    congr 2
    unfold cat
    rw [if_neg (by omega), Nat.add_sub_cancel_left]

set_option maxHeartbeats 8000000 in
theorem sDec_good {w : World} {v : Value} {n h : Nat} {z : Nat → Int} (hv : Il2 w v n z) (hp : Pok n z) (hh : Hlf h) (hq : n * (2 * h) ≤ 1024) :
    Calls Try.prog 5 #[.int .i64 ((2 * h : Nat) : Int), v] w fun e w' => Pst w w' e (n * (2 * h)) (dcz h z) true := by
  have h4 : h ≤ 4 ∧ 1 ≤ h := by rcases hh with rfl | rfl | rfl | rfl <;> omega
  have HHH : Hid (Hlf h) := hh
  have HPK : Hid (Pok n z) := hp
  obtain ⟨wd, hwd⟩ : ∃ wd : Nat, wd = 2 * h := ⟨_, rfl⟩
  rw [← hwd] at hq ⊢
  have HWD : Hid (wd = 2 * h) := hwd
  have hwb : wd ≤ 8 ∧ 2 ≤ wd := by omega
  have e0 : (wd : Int) / 2 = (h : Int) := by omega
  have e1 : (wd : Int).tdiv 2 = (h : Int) := by rw [Int.tdiv_eq_ediv_of_nonneg (by omega)]; exact e0
  have hn : n ≤ 1024 := by have h9 := Nat.le_mul_of_pos_right n (show 0 < wd by omega); omega
  have i1 := sWid_any (wd : Int)
  rw [decide_eq_true (by show Wid _; unfold Wid; rcases hh with rfl | rfl | rfl | rfl <;> omega)] at i1
  obtain ⟨nw, hnw⟩ : ∃ nw : Nat, nw = n * wd := ⟨_, rfl⟩
  have e2 : (n : Int) * (wd : Int) = (nw : Int) := by rw [hnw]; exact (Int.natCast_mul n wd).symm
  have hnwb : nw ≤ 1024 := by omega
  have b1 : decide (1024 < nw) = false := decide_eq_false (by omega)
  have b2 : decide ((1024 : Int) < (nw : Int)) = false := decide_eq_false (by omega)
  have OW : Hid ((w.alloc (.cells #[] 3)).ownsRow w.heap.size 3 1 (.slice (some ⟨w.heap.size, 0, none⟩) 0 0) (0 * (2 * h)) (ils (dcz h z) (0 * (2 * h)))) := by rw [Nat.zero_mul]; exact own_empty w 3 1
  have BL : Hid (Below w.heap.size w (w.alloc (.cells #[] 3))) := below_one _ _
  have HNW : Hid (n * (2 * h) ≤ 1024) := by show n * (2 * h) ≤ 1024; rw [← hwd]; exact hq
  rw [show n * wd = n * (2 * h) by rw [hwd]]
  obtain ⟨ao, cap, rfl, hcap, hc⟩ := hv
  have HC : Hid (0 < n → ∃ b off, ao = some ⟨b, off, none⟩ ∧ b < w.heap.size ∧ ∀ k, k < n → w.cell? ⟨b, off + k * 2, none⟩ = some (.int .i64 (z (k * 2))) ∧ w.cell? ⟨b, off + k * 2 + 1, none⟩ = some (.int .i64 (z (k * 2 + 1)))) := hc
  clear hc hh hp hwd hq hnw
  go_enter Try.func5, Try.ntmps5
  go_wp2_with (first | (go_at_call 13; (with_reducible refine (i1 _).mono ?_); rintro e w' ⟨rfl, hw⟩; obtain rfl := hw.symm))
  clear i1
  generalize w.alloc (.cells #[] 3) = W at *
  go_loopw [6, 7] (fun o i wr => ∃ k : Nat, i = .int .i64 (k : Int) ∧ k ≤ n ∧ Hid (wr.ownsRow w.heap.size 3 1 o (k * (2 * h)) (ils (dcz h z) (k * (2 * h))) ∧ Below w.heap.size w wr ∧ ∀ j, j < k → Smp (z (j * 2)) ∧ Smp (z (j * 2 + 1)))) (fun _ i _ => n - (intOf i).toNat)
  case atStart => exact ⟨0, rfl, by omega, OW.out, BL.out, fun j hj => by omega⟩
  case round =>
    clear OW BL
    obtain ⟨k, rfl, hk, hrel⟩ := hrel
    by_cases h1 : k < n
    · obtain ⟨b, off, rfl, hlt, hcell⟩ := HC.out (by omega)
      obtain ⟨x, hx⟩ : ∃ x, x = z (k * 2) := ⟨_, rfl⟩
      obtain ⟨y, hy⟩ : ∃ y, y = z (k * 2 + 1) := ⟨_, rfl⟩
      have D0 : Hid (w.cell? ⟨b, off + k * 2, none⟩ = some (.int .i64 x)) := by show w.cell? _ = _; rw [hx]; exact (hcell k h1).1
      have D1 : Hid (w.cell? ⟨b, off + k * 2 + 1, none⟩ = some (.int .i64 y)) := by show w.cell? _ = _; rw [hy]; exact (hcell k h1).2
      have c0 := (hrel.out.2.1.cell (p := ⟨b, off + k * 2, none⟩) hlt).trans D0.out
      have c1 := (hrel.out.2.1.cell (p := ⟨b, off + k * 2 + 1, none⟩) hlt).trans D1.out
      have HX : Hid (x = z (k * 2) ∧ y = z (k * 2 + 1)) := ⟨hx, hy⟩
      have j1 := sSmp_any x
      have j2 := sSmp_any y
      have HE : Hid ((wr.alloc (.cells #[] 3)).ownsRow w.heap.size 3 1 (.slice (some ⟨wr.heap.size, 0, none⟩) 0 0) 0 (ils (dcz h z) 0) ∧ Below w.heap.size w (wr.alloc (.cells #[] 3))) := ⟨own_base (own_empty wr 3 1) hrel.out.2.1.size, bstep hrel.out.2.1 (below_one _ _)⟩
      have HR : Hid (wr.ownsRow w.heap.size 3 1 u6 (k * (2 * h)) (ils (dcz h z) (k * (2 * h))) ∧ Below w.heap.size w wr ∧ ∀ j, j < k → Smp (z (j * 2)) ∧ Smp (z (j * 2 + 1))) := hrel.out
      have hkw : k * (2 * h) + 2 * h ≤ 1024 := by
        have h9 := Nat.mul_le_mul_right (2 * h) (show k + 1 ≤ n by omega)
        rw [Nat.add_mul, Nat.one_mul] at h9
        exact Nat.le_trans h9 HNW.out
      clear hcell hx hy hrel
      by_cases hs : Smp x
      · rw [decide_eq_true hs] at j1
        by_cases ht : Smp y
        · rw [decide_eq_true ht] at j2
          have HJ2 : Hid (∀ j, j < k + 1 → Smp (z (j * 2)) ∧ Smp (z (j * 2 + 1))) := fun j hj => by
            by_cases h9 : j = k
            · subst h9; rw [← HX.out.1, ← HX.out.2]; exact ⟨hs, ht⟩
            · exact HR.out.2.2 j (by omega)
          have i4 := sBits_of HHH.out hs
          have i5 := sBits_of HHH.out ht
          obtain ⟨g1, hg1⟩ : ∃ g1, g1 = glv h x := ⟨_, rfl⟩
          obtain ⟨g2, hg2⟩ : ∃ g2, g2 = glv h y := ⟨_, rfl⟩
          rw [← hg1] at i4
          rw [← hg2] at i5
          have HG : Hid (g1 = glv h x ∧ g2 = glv h y) := ⟨hg1, hg2⟩
          obtain ⟨N1, hN1⟩ : ∃ N1 : Nat, N1 = k * (2 * h) := ⟨_, rfl⟩
          have hN1b : N1 + 2 * h ≤ 1024 := by omega
          have HN1 : Hid (N1 = k * (2 * h)) := hN1
          have HO0 : Hid (wr.drew.ownsRow w.heap.size 3 1 u6 N1 (ils (dcz h z) N1)) := by rw [hN1]; exact own_below HR.out.1 (Below.refl _ _).drew
          have l0 : Below w.heap.size w wr.drew := HR.out.2.1.drew
          clear hg1 hg2 hN1 hs ht HR HE hkw
          go_upto_region 9 with (first | (go_at_call 14; (with_reducible refine (j1 _).mono ?_); rintro e w' ⟨rfl, hw⟩; obtain rfl := hw.symm) | (go_at_call 14; (with_reducible refine (j2 _).mono ?_); rintro e w' ⟨rfl, hw⟩; obtain rfl := hw.symm))
          clear j1 j2
          refine wp_region_any (by kernel_rfl) ?_
          change wpAny _ _ _ _ _ _ _ (World.drew _)
          refine wpI_any (I := fun X => Below w.heap.size w X) _ _ _ _ ?_
          refine wpI_take (i := 0) (v := ?_) rfl (by kernel_rfl) (by kernel_rfl) (by kernel_rfl) (fun _ _ _ h => h) ⟨by rfl, ?_⟩ ?_
          rotate_left
          · intro X hI; go_simp; try go_bits
            try rw [if_pos (by omega)]
            try with_reducible rfl
          refine wpI_take (i := 1) (v := ?_) rfl (by kernel_rfl) (by kernel_rfl) (by kernel_rfl) (fun _ _ _ h => h) ⟨by rfl, ?_⟩ ?_
          rotate_left
          · intro X hI; go_simp; try go_bits
            try rw [if_pos (by omega)]
            try with_reducible rfl
          refine wpI_take (i := 2) (v := ?_) rfl (by kernel_rfl) (by kernel_rfl) (by kernel_rfl) (fun _ _ _ h => h) ⟨by rfl, ?_⟩ ?_
          rotate_left
          · intro X hI; go_simp; try go_bits
            try rw [if_pos (by omega)]
            try with_reducible rfl
          refine wpI_take (i := 3) (v := ?_) rfl (by kernel_rfl) (by kernel_rfl) (by kernel_rfl) (fun _ _ _ h => h) ⟨by rfl, ?_⟩ ?_
          rotate_left
          · intro X hI; go_simp; try go_bits
            try rw [if_pos (by omega)]
            try with_reducible rfl
          refine wpI_take (i := 4) (v := ?_) rfl (by kernel_rfl) (by kernel_rfl) (by kernel_rfl) (fun _ _ _ h => h) ⟨by rfl, ?_⟩ ?_
          rotate_left
          · intro X hI; go_simp; try go_bits
            try rw [if_pos (by omega)]
            try with_reducible rfl
          refine wpI_take (i := 5) (v := ?_) rfl (by kernel_rfl) (by kernel_rfl) (by kernel_rfl) (fun _ _ _ h => h) ⟨by rfl, ?_⟩ ?_
          rotate_left
          · intro X hI; go_simp; try go_bits
            try rw [if_pos (by omega)]
            try with_reducible rfl
          refine wpI_take (i := 6) (v := ?_) rfl (by kernel_rfl) (by kernel_rfl) (by kernel_rfl) (fun _ _ _ h => h) ⟨by rfl, ?_⟩ ?_
          rotate_left
          · intro X hI; go_simp; try go_bits
            try rw [if_pos (by omega)]
            try with_reducible rfl
          refine wpI_take (i := 7) (v := ?_) rfl (by kernel_rfl) (by kernel_rfl) (by kernel_rfl) (fun _ _ _ h => h) ⟨by rfl, ?_⟩ ?_
          rotate_left
          · intro X hI; have c0 := (hI.cell (p := ⟨b, off + k * 2, none⟩) hlt).trans D0.out; go_simp; try go_bits
            try rw [if_pos (by omega)]
            try with_reducible rfl
          refine wpI_take (i := 10) (v := ?_) rfl (by kernel_rfl) (by kernel_rfl) (by kernel_rfl) (fun _ _ _ h => h) ⟨by rfl, ?_⟩ ?_
          rotate_left
          · intro X hI; go_simp; try go_bits
            try rw [if_pos (by omega)]
            try with_reducible rfl
          refine wpI_take (i := 11) (v := ?_) rfl (by kernel_rfl) (by kernel_rfl) (by kernel_rfl) (fun _ _ _ h => h) ⟨by rfl, ?_⟩ ?_
          rotate_left
          · intro X hI; go_simp; try go_bits
            try rw [if_pos (by omega)]
            try with_reducible rfl
          refine wpI_take (i := 12) (v := ?_) rfl (by kernel_rfl) (by kernel_rfl) (by kernel_rfl) (fun _ _ _ h => h) ⟨by rfl, ?_⟩ ?_
          rotate_left
          · intro X hI; go_simp; try go_bits
            try rw [if_pos (by omega)]
            try with_reducible rfl
          refine wpI_take (i := 13) (v := ?_) rfl (by kernel_rfl) (by kernel_rfl) (by kernel_rfl) (fun _ _ _ h => h) ⟨by rfl, ?_⟩ ?_
          rotate_left
          · intro X hI; go_simp; try go_bits
            try rw [if_pos (by omega)]
            try with_reducible rfl
          refine wpI_take (i := 14) (v := ?_) rfl (by kernel_rfl) (by kernel_rfl) (by kernel_rfl) (fun _ _ _ h => h) ⟨by rfl, ?_⟩ ?_
          rotate_left
          · intro X hI; go_simp; try go_bits
            try rw [if_pos (by omega)]
            try with_reducible rfl
          refine wpI_take (i := 15) (v := ?_) rfl (by kernel_rfl) (by kernel_rfl) (by kernel_rfl) (fun _ _ _ h => h) ⟨by rfl, ?_⟩ ?_
          rotate_left
          · intro X hI; go_simp; try go_bits
            try rw [if_pos (by omega)]
            try with_reducible rfl
          refine wpI_take (i := 16) (v := ?_) rfl (by kernel_rfl) (by kernel_rfl) (by kernel_rfl) (fun _ _ _ h => h) ⟨by rfl, ?_⟩ ?_
          rotate_left
          · intro X hI; have c1 := (hI.cell (p := ⟨b, off + k * 2 + 1, none⟩) hlt).trans D1.out; go_simp; try go_bits
            try rw [if_pos (by omega)]
            try with_reducible rfl
          refine wpI_only (i := 8) rfl (by kernel_rfl) l0 (by rfl) ?_
          intro K hK
          go_simp
          go_wp2_with (go_at_call 15; (with_reducible refine (i4 _).mono ?_); rintro e x1 ⟨t1, rfl, ho, hb⟩; have OB1 : Hid (x1.ownsRow wr.drew.heap.size 3 1 t1 h (ils (bfn g1 h) h)) := ho; have HO1 : Hid (x1.ownsRow w.heap.size 3 1 u6 N1 (ils (dcz h z) N1)) := own_below HO0.out hb; have l1 : Below w.heap.size w x1 := bstep l0 hb; have LT1 : Hid (wr.drew.heap.size ≤ x1.heap.size) := hb.size; clear ho hb)
          refine wpI_only (i := 9) rfl (by kernel_rfl) l1 (by rfl) ?_
          intro K hK
          refine wp_appo _ _ rfl w.heap.size wr.drew.heap.size _ _ N1 h (ils (dcz h z) N1) (bfn g1 h) rfl rfl HO1.out OB1.out (by omega) (by omega) l1.size ?_
          intro t2 x2 ho hg
          have l2 : Below w.heap.size w x2 := grown_below l1 (Nat.le_refl _) HO1.out hg
          rw [ils_cat] at ho
          have HO2 : Hid (x2.ownsRow w.heap.size 3 1 t2 (N1 + h) (ils (dcz h z) (N1 + h))) := by rw [HN1.out, ← cat_x (x := x) (by omega) HX.out.1, ← HG.out.1, ← HN1.out]; exact ho
          clear ho hg
          refine hK _ _ ?_
          refine wpI_only (i := 17) rfl (by kernel_rfl) l2 (by rfl) ?_
          intro K hK
          go_simp
          go_wp2_with (go_at_call 15; (with_reducible refine (i5 _).mono ?_); rintro e x3 ⟨t3, rfl, ho, hb⟩; have OB3 : Hid (x3.ownsRow x2.heap.size 3 1 t3 h (ils (bfn g2 h) h)) := ho; have HO3 : Hid (x3.ownsRow w.heap.size 3 1 t2 (N1 + h) (ils (dcz h z) (N1 + h))) := own_below HO2.out hb; have l3 : Below w.heap.size w x3 := bstep l2 hb; clear ho hb)
          refine wpI_only (i := 18) rfl (by kernel_rfl) l3 (by rfl) ?_
          intro K hK
          refine wp_appo _ _ rfl w.heap.size x2.heap.size _ _ (N1 + h) h (ils (dcz h z) (N1 + h)) (bfn g2 h) rfl rfl HO3.out OB3.out (by omega) (by omega) l3.size ?_
          intro t4 x4 ho hg
          have l4 : Below w.heap.size w x4 := grown_below l3 (Nat.le_refl _) HO3.out hg
          rw [ils_cat] at ho
          have HO4 : Hid (x4.ownsRow w.heap.size 3 1 t4 ((k + 1) * (2 * h)) (ils (dcz h z) ((k + 1) * (2 * h)))) := by rw [← cat_y (y := y) (by omega) HX.out.2, ← HG.out.2, ← HN1.out, show (k + 1) * (2 * h) = N1 + h + h by rw [Nat.add_mul, Nat.one_mul, ← HN1.out]; omega]; exact ho
          clear ho hg
          refine hK _ _ ?_
          refine wpI_only (i := 19) rfl (by kernel_rfl) l4 (by rfl) ?_
          intro K hK
          go_simp
          try go_bits
          refine hK _ _ ?_
          refine wpI_done l4 (by kernel_rfl) ?_ _
          go_wp2
          go_roundw
          case rel => exact ⟨k + 1, by go_num, by omega, HO4.out, l4, HJ2.out⟩
          case measure => simp [intOf]; omega
        · rw [decide_eq_false ht] at j2
          exact absurd (HPK.out k h1).2 (by rw [← HX.out.2]; exact ht)
      · rw [decide_eq_false hs] at j1
        exact absurd (HPK.out k h1).1 (by rw [← HX.out.1]; exact hs)
    · obtain rfl : n = k := by omega
      go_wp2
      go_ret2
      exact ⟨_, rfl, hrel.out.1, hrel.out.2.1⟩

set_option maxHeartbeats 8000000 in
theorem sDec_tail {w : World} {v : Value} {n h : Nat} {z : Nat → Int} (hv : Il2 w v n z) (hp : ¬ Pok n z) (hh : Hlf h) (hq : n * (2 * h) ≤ 1024) (ys : Nat → Int) :
    Calls Try.prog 5 #[.int .i64 ((2 * h : Nat) : Int), v] w fun e w' => Pst w w' e 0 ys false := by
  have h4 : h ≤ 4 ∧ 1 ≤ h := by rcases hh with rfl | rfl | rfl | rfl <;> omega
  have HHH : Hid (Hlf h) := hh
  have HPK : Hid (¬ Pok n z) := hp
  obtain ⟨wd, hwd⟩ : ∃ wd : Nat, wd = 2 * h := ⟨_, rfl⟩
  rw [← hwd] at hq ⊢
  have HWD : Hid (wd = 2 * h) := hwd
  have hwb : wd ≤ 8 ∧ 2 ≤ wd := by omega
  have e0 : (wd : Int) / 2 = (h : Int) := by omega
  have e1 : (wd : Int).tdiv 2 = (h : Int) := by rw [Int.tdiv_eq_ediv_of_nonneg (by omega)]; exact e0
  have hn : n ≤ 1024 := by have h9 := Nat.le_mul_of_pos_right n (show 0 < wd by omega); omega
  have i1 := sWid_any (wd : Int)
  rw [decide_eq_true (by show Wid _; unfold Wid; rcases hh with rfl | rfl | rfl | rfl <;> omega)] at i1
  obtain ⟨nw, hnw⟩ : ∃ nw : Nat, nw = n * wd := ⟨_, rfl⟩
  have e2 : (n : Int) * (wd : Int) = (nw : Int) := by rw [hnw]; exact (Int.natCast_mul n wd).symm
  have hnwb : nw ≤ 1024 := by omega
  have b1 : decide (1024 < nw) = false := decide_eq_false (by omega)
  have b2 : decide ((1024 : Int) < (nw : Int)) = false := decide_eq_false (by omega)
  have OW : Hid ((w.alloc (.cells #[] 3)).ownsRow w.heap.size 3 1 (.slice (some ⟨w.heap.size, 0, none⟩) 0 0) (0 * (2 * h)) (ils (dcz h z) (0 * (2 * h)))) := by rw [Nat.zero_mul]; exact own_empty w 3 1
  have BL : Hid (Below w.heap.size w (w.alloc (.cells #[] 3))) := below_one _ _
  have HNW : Hid (n * (2 * h) ≤ 1024) := by show n * (2 * h) ≤ 1024; rw [← hwd]; exact hq
  skip
  obtain ⟨ao, cap, rfl, hcap, hc⟩ := hv
  have HC : Hid (0 < n → ∃ b off, ao = some ⟨b, off, none⟩ ∧ b < w.heap.size ∧ ∀ k, k < n → w.cell? ⟨b, off + k * 2, none⟩ = some (.int .i64 (z (k * 2))) ∧ w.cell? ⟨b, off + k * 2 + 1, none⟩ = some (.int .i64 (z (k * 2 + 1)))) := hc
  clear hc hh hp hwd hq hnw
  go_enter Try.func5, Try.ntmps5
  go_wp2_with (first | (go_at_call 13; (with_reducible refine (i1 _).mono ?_); rintro e w' ⟨rfl, hw⟩; obtain rfl := hw.symm))
  clear i1
  generalize w.alloc (.cells #[] 3) = W at *
  go_loopw [6, 7] (fun o i wr => ∃ k : Nat, i = .int .i64 (k : Int) ∧ k ≤ n ∧ Hid (wr.ownsRow w.heap.size 3 1 o (k * (2 * h)) (ils (dcz h z) (k * (2 * h))) ∧ Below w.heap.size w wr ∧ ∀ j, j < k → Smp (z (j * 2)) ∧ Smp (z (j * 2 + 1)))) (fun _ i _ => n - (intOf i).toNat)
  case atStart => exact ⟨0, rfl, by omega, OW.out, BL.out, fun j hj => by omega⟩
  case round =>
    clear OW BL
    obtain ⟨k, rfl, hk, hrel⟩ := hrel
    by_cases h1 : k < n
    · obtain ⟨b, off, rfl, hlt, hcell⟩ := HC.out (by omega)
      obtain ⟨x, hx⟩ : ∃ x, x = z (k * 2) := ⟨_, rfl⟩
      obtain ⟨y, hy⟩ : ∃ y, y = z (k * 2 + 1) := ⟨_, rfl⟩
      have D0 : Hid (w.cell? ⟨b, off + k * 2, none⟩ = some (.int .i64 x)) := by show w.cell? _ = _; rw [hx]; exact (hcell k h1).1
      have D1 : Hid (w.cell? ⟨b, off + k * 2 + 1, none⟩ = some (.int .i64 y)) := by show w.cell? _ = _; rw [hy]; exact (hcell k h1).2
      have c0 := (hrel.out.2.1.cell (p := ⟨b, off + k * 2, none⟩) hlt).trans D0.out
      have c1 := (hrel.out.2.1.cell (p := ⟨b, off + k * 2 + 1, none⟩) hlt).trans D1.out
      have HX : Hid (x = z (k * 2) ∧ y = z (k * 2 + 1)) := ⟨hx, hy⟩
      have j1 := sSmp_any x
      have j2 := sSmp_any y
      have HE : Hid ((wr.alloc (.cells #[] 3)).ownsRow w.heap.size 3 1 (.slice (some ⟨wr.heap.size, 0, none⟩) 0 0) 0 (ils ys 0) ∧ Below w.heap.size w (wr.alloc (.cells #[] 3))) := ⟨own_base (own_empty wr 3 1) hrel.out.2.1.size, bstep hrel.out.2.1 (below_one _ _)⟩
      have HR : Hid (wr.ownsRow w.heap.size 3 1 u6 (k * (2 * h)) (ils (dcz h z) (k * (2 * h))) ∧ Below w.heap.size w wr ∧ ∀ j, j < k → Smp (z (j * 2)) ∧ Smp (z (j * 2 + 1))) := hrel.out
      have hkw : k * (2 * h) + 2 * h ≤ 1024 := by
        have h9 := Nat.mul_le_mul_right (2 * h) (show k + 1 ≤ n by omega)
        rw [Nat.add_mul, Nat.one_mul] at h9
        exact Nat.le_trans h9 HNW.out
      clear hcell hx hy hrel
      by_cases hs : Smp x
      · rw [decide_eq_true hs] at j1
        by_cases ht : Smp y
        · rw [decide_eq_true ht] at j2
          have HJ2 : Hid (∀ j, j < k + 1 → Smp (z (j * 2)) ∧ Smp (z (j * 2 + 1))) := fun j hj => by
            by_cases h9 : j = k
            · subst h9; rw [← HX.out.1, ← HX.out.2]; exact ⟨hs, ht⟩
            · exact HR.out.2.2 j (by omega)
          have i4 := sBits_of HHH.out hs
          have i5 := sBits_of HHH.out ht
          obtain ⟨g1, hg1⟩ : ∃ g1, g1 = glv h x := ⟨_, rfl⟩
          obtain ⟨g2, hg2⟩ : ∃ g2, g2 = glv h y := ⟨_, rfl⟩
          rw [← hg1] at i4
          rw [← hg2] at i5
          have HG : Hid (g1 = glv h x ∧ g2 = glv h y) := ⟨hg1, hg2⟩
          obtain ⟨N1, hN1⟩ : ∃ N1 : Nat, N1 = k * (2 * h) := ⟨_, rfl⟩
          have hN1b : N1 + 2 * h ≤ 1024 := by omega
          have HN1 : Hid (N1 = k * (2 * h)) := hN1
          have HO0 : Hid (wr.drew.ownsRow w.heap.size 3 1 u6 N1 (ils (dcz h z) N1)) := by rw [hN1]; exact own_below HR.out.1 (Below.refl _ _).drew
          have l0 : Below w.heap.size w wr.drew := HR.out.2.1.drew
          clear hg1 hg2 hN1 hs ht HR HE hkw
          go_upto_region 9 with (first | (go_at_call 14; (with_reducible refine (j1 _).mono ?_); rintro e w' ⟨rfl, hw⟩; obtain rfl := hw.symm) | (go_at_call 14; (with_reducible refine (j2 _).mono ?_); rintro e w' ⟨rfl, hw⟩; obtain rfl := hw.symm))
          clear j1 j2
          refine wp_region_any (by kernel_rfl) ?_
          change wpAny _ _ _ _ _ _ _ (World.drew _)
          refine wpI_any (I := fun X => Below w.heap.size w X) _ _ _ _ ?_
          refine wpI_take (i := 0) (v := ?_) rfl (by kernel_rfl) (by kernel_rfl) (by kernel_rfl) (fun _ _ _ h => h) ⟨by rfl, ?_⟩ ?_
          rotate_left
          · intro X hI; go_simp; try go_bits
            try rw [if_pos (by omega)]
            try with_reducible rfl
          refine wpI_take (i := 1) (v := ?_) rfl (by kernel_rfl) (by kernel_rfl) (by kernel_rfl) (fun _ _ _ h => h) ⟨by rfl, ?_⟩ ?_
          rotate_left
          · intro X hI; go_simp; try go_bits
            try rw [if_pos (by omega)]
            try with_reducible rfl
          refine wpI_take (i := 2) (v := ?_) rfl (by kernel_rfl) (by kernel_rfl) (by kernel_rfl) (fun _ _ _ h => h) ⟨by rfl, ?_⟩ ?_
          rotate_left
          · intro X hI; go_simp; try go_bits
            try rw [if_pos (by omega)]
            try with_reducible rfl
          refine wpI_take (i := 3) (v := ?_) rfl (by kernel_rfl) (by kernel_rfl) (by kernel_rfl) (fun _ _ _ h => h) ⟨by rfl, ?_⟩ ?_
          rotate_left
          · intro X hI; go_simp; try go_bits
            try rw [if_pos (by omega)]
            try with_reducible rfl
          refine wpI_take (i := 4) (v := ?_) rfl (by kernel_rfl) (by kernel_rfl) (by kernel_rfl) (fun _ _ _ h => h) ⟨by rfl, ?_⟩ ?_
          rotate_left
          · intro X hI; go_simp; try go_bits
            try rw [if_pos (by omega)]
            try with_reducible rfl
          refine wpI_take (i := 5) (v := ?_) rfl (by kernel_rfl) (by kernel_rfl) (by kernel_rfl) (fun _ _ _ h => h) ⟨by rfl, ?_⟩ ?_
          rotate_left
          · intro X hI; go_simp; try go_bits
            try rw [if_pos (by omega)]
            try with_reducible rfl
          refine wpI_take (i := 6) (v := ?_) rfl (by kernel_rfl) (by kernel_rfl) (by kernel_rfl) (fun _ _ _ h => h) ⟨by rfl, ?_⟩ ?_
          rotate_left
          · intro X hI; go_simp; try go_bits
            try rw [if_pos (by omega)]
            try with_reducible rfl
          refine wpI_take (i := 7) (v := ?_) rfl (by kernel_rfl) (by kernel_rfl) (by kernel_rfl) (fun _ _ _ h => h) ⟨by rfl, ?_⟩ ?_
          rotate_left
          · intro X hI; have c0 := (hI.cell (p := ⟨b, off + k * 2, none⟩) hlt).trans D0.out; go_simp; try go_bits
            try rw [if_pos (by omega)]
            try with_reducible rfl
          refine wpI_take (i := 10) (v := ?_) rfl (by kernel_rfl) (by kernel_rfl) (by kernel_rfl) (fun _ _ _ h => h) ⟨by rfl, ?_⟩ ?_
          rotate_left
          · intro X hI; go_simp; try go_bits
            try rw [if_pos (by omega)]
            try with_reducible rfl
          refine wpI_take (i := 11) (v := ?_) rfl (by kernel_rfl) (by kernel_rfl) (by kernel_rfl) (fun _ _ _ h => h) ⟨by rfl, ?_⟩ ?_
          rotate_left
          · intro X hI; go_simp; try go_bits
            try rw [if_pos (by omega)]
            try with_reducible rfl
          refine wpI_take (i := 12) (v := ?_) rfl (by kernel_rfl) (by kernel_rfl) (by kernel_rfl) (fun _ _ _ h => h) ⟨by rfl, ?_⟩ ?_
          rotate_left
          · intro X hI; go_simp; try go_bits
            try rw [if_pos (by omega)]
            try with_reducible rfl
          refine wpI_take (i := 13) (v := ?_) rfl (by kernel_rfl) (by kernel_rfl) (by kernel_rfl) (fun _ _ _ h => h) ⟨by rfl, ?_⟩ ?_
          rotate_left
          · intro X hI; go_simp; try go_bits
            try rw [if_pos (by omega)]
            try with_reducible rfl
          refine wpI_take (i := 14) (v := ?_) rfl (by kernel_rfl) (by kernel_rfl) (by kernel_rfl) (fun _ _ _ h => h) ⟨by rfl, ?_⟩ ?_
          rotate_left
          · intro X hI; go_simp; try go_bits
            try rw [if_pos (by omega)]
            try with_reducible rfl
          refine wpI_take (i := 15) (v := ?_) rfl (by kernel_rfl) (by kernel_rfl) (by kernel_rfl) (fun _ _ _ h => h) ⟨by rfl, ?_⟩ ?_
          rotate_left
          · intro X hI; go_simp; try go_bits
            try rw [if_pos (by omega)]
            try with_reducible rfl
          refine wpI_take (i := 16) (v := ?_) rfl (by kernel_rfl) (by kernel_rfl) (by kernel_rfl) (fun _ _ _ h => h) ⟨by rfl, ?_⟩ ?_
          rotate_left
          · intro X hI; have c1 := (hI.cell (p := ⟨b, off + k * 2 + 1, none⟩) hlt).trans D1.out; go_simp; try go_bits
            try rw [if_pos (by omega)]
            try with_reducible rfl
          refine wpI_only (i := 8) rfl (by kernel_rfl) l0 (by rfl) ?_
          intro K hK
          go_simp
          go_wp2_with (go_at_call 15; (with_reducible refine (i4 _).mono ?_); rintro e x1 ⟨t1, rfl, ho, hb⟩; have OB1 : Hid (x1.ownsRow wr.drew.heap.size 3 1 t1 h (ils (bfn g1 h) h)) := ho; have HO1 : Hid (x1.ownsRow w.heap.size 3 1 u6 N1 (ils (dcz h z) N1)) := own_below HO0.out hb; have l1 : Below w.heap.size w x1 := bstep l0 hb; have LT1 : Hid (wr.drew.heap.size ≤ x1.heap.size) := hb.size; clear ho hb)
          refine wpI_only (i := 9) rfl (by kernel_rfl) l1 (by rfl) ?_
          intro K hK
          refine wp_appo _ _ rfl w.heap.size wr.drew.heap.size _ _ N1 h (ils (dcz h z) N1) (bfn g1 h) rfl rfl HO1.out OB1.out (by omega) (by omega) l1.size ?_
          intro t2 x2 ho hg
          have l2 : Below w.heap.size w x2 := grown_below l1 (Nat.le_refl _) HO1.out hg
          rw [ils_cat] at ho
          have HO2 : Hid (x2.ownsRow w.heap.size 3 1 t2 (N1 + h) (ils (dcz h z) (N1 + h))) := by rw [HN1.out, ← cat_x (x := x) (by omega) HX.out.1, ← HG.out.1, ← HN1.out]; exact ho
          clear ho hg
          refine hK _ _ ?_
          refine wpI_only (i := 17) rfl (by kernel_rfl) l2 (by rfl) ?_
          intro K hK
          go_simp
          go_wp2_with (go_at_call 15; (with_reducible refine (i5 _).mono ?_); rintro e x3 ⟨t3, rfl, ho, hb⟩; have OB3 : Hid (x3.ownsRow x2.heap.size 3 1 t3 h (ils (bfn g2 h) h)) := ho; have HO3 : Hid (x3.ownsRow w.heap.size 3 1 t2 (N1 + h) (ils (dcz h z) (N1 + h))) := own_below HO2.out hb; have l3 : Below w.heap.size w x3 := bstep l2 hb; clear ho hb)
          refine wpI_only (i := 18) rfl (by kernel_rfl) l3 (by rfl) ?_
          intro K hK
          refine wp_appo _ _ rfl w.heap.size x2.heap.size _ _ (N1 + h) h (ils (dcz h z) (N1 + h)) (bfn g2 h) rfl rfl HO3.out OB3.out (by omega) (by omega) l3.size ?_
          intro t4 x4 ho hg
          have l4 : Below w.heap.size w x4 := grown_below l3 (Nat.le_refl _) HO3.out hg
          rw [ils_cat] at ho
          have HO4 : Hid (x4.ownsRow w.heap.size 3 1 t4 ((k + 1) * (2 * h)) (ils (dcz h z) ((k + 1) * (2 * h)))) := by rw [← cat_y (y := y) (by omega) HX.out.2, ← HG.out.2, ← HN1.out, show (k + 1) * (2 * h) = N1 + h + h by rw [Nat.add_mul, Nat.one_mul, ← HN1.out]; omega]; exact ho
          clear ho hg
          refine hK _ _ ?_
          refine wpI_only (i := 19) rfl (by kernel_rfl) l4 (by rfl) ?_
          intro K hK
          go_simp
          try go_bits
          refine hK _ _ ?_
          refine wpI_done l4 (by kernel_rfl) ?_ _
          go_wp2
          go_roundw
          case rel => exact ⟨k + 1, by go_num, by omega, HO4.out, l4, HJ2.out⟩
          case measure => simp [intOf]; omega
        · rw [decide_eq_false ht] at j2
          clear hs ht HR
          go_wp2_with (first | (go_at_call 14; (with_reducible refine (j1 _).mono ?_); rintro e w' ⟨rfl, hw⟩; obtain rfl := hw.symm) | (go_at_call 14; (with_reducible refine (j2 _).mono ?_); rintro e w' ⟨rfl, hw⟩; obtain rfl := hw.symm))
          go_ret2
          exact ⟨_, rfl, HE.out⟩
      · rw [decide_eq_false hs] at j1
        clear hs j2 HR
        go_wp2_with (first | (go_at_call 14; (with_reducible refine (j1 _).mono ?_); rintro e w' ⟨rfl, hw⟩; obtain rfl := hw.symm))
        go_ret2
        exact ⟨_, rfl, HE.out⟩
    · obtain rfl : n = k := by omega
      exact absurd hrel.out.2.2 HPK.out

set_option maxHeartbeats 4000000 in
theorem sDec_bad {w : World} {v : Value} {n : Nat} {z : Nat → Int} {x : Int} (hv : Il2 w v n z) (hn : n ≤ 1048576) (h : ¬ GDc n z x) (ys : Nat → Int) :
    Calls Try.prog 5 #[.int .i64 x, v] w fun e w' => Pst w w' e 0 ys false := by
  by_cases c1 : Wid x
  · by_cases c2 : (n : Int) * x ≤ 1024
    · have c3 : ¬ Pok n z := fun h9 => h ⟨c1, c2, h9⟩
      obtain ⟨q, rfl⟩ : ∃ q : Nat, x = ((2 * q : Nat) : Int) := ⟨(x / 2).toNat, by rcases c1 with h9 | h9 | h9 | h9 <;> omega⟩
      have hh : Hlf q := by unfold Wid at c1; unfold Hlf; omega
      rw [← Int.natCast_mul] at c2
      exact sDec_tail hv c3 hh (by omega) ys
    · have i1 := sWid_any x
      rw [decide_eq_true c1] at i1
      obtain ⟨wd, rfl⟩ : ∃ wd : Nat, x = (wd : Int) := ⟨x.toNat, by rcases c1 with h9 | h9 | h9 | h9 <;> omega⟩
      have hwb : wd ≤ 8 ∧ 2 ≤ wd := by rcases c1 with h9 | h9 | h9 | h9 <;> omega
      obtain ⟨nw, hnw⟩ : ∃ nw : Nat, nw = n * wd := ⟨_, rfl⟩
      have e2 : (n : Int) * (wd : Int) = (nw : Int) := by rw [hnw]; exact (Int.natCast_mul n wd).symm
      rw [e2] at c2
      have hnwb : nw ≤ 8388608 := by rw [hnw]; exact Nat.mul_le_mul hn hwb.1
      have OW : Hid ((w.alloc (.cells #[] 3)).ownsRow w.heap.size 3 1 (.slice (some ⟨w.heap.size, 0, none⟩) 0 0) 0 (ils ys 0)) := own_empty w 3 1
      have BL : Hid (Below w.heap.size w (w.alloc (.cells #[] 3))) := below_one _ _
      obtain ⟨ao, cap, rfl, hcap, hc⟩ := hv
      clear hc h c1 hnw
      go_enter Try.func5, Try.ntmps5
      go_wp2_with (first | (go_at_call 13; (with_reducible refine (i1 _).mono ?_); rintro e w' ⟨rfl, hw⟩; obtain rfl := hw.symm))
      go_ret2
      exact ⟨_, rfl, OW.out, BL.out⟩
  · have i1 := sWid_any x
    rw [decide_eq_false c1] at i1
    have OW : Hid ((w.alloc (.cells #[] 3)).ownsRow w.heap.size 3 1 (.slice (some ⟨w.heap.size, 0, none⟩) 0 0) 0 (ils ys 0)) := own_empty w 3 1
    have BL : Hid (Below w.heap.size w (w.alloc (.cells #[] 3))) := below_one _ _
    obtain ⟨ao, cap, rfl, hcap, hc⟩ := hv
    clear hc h c1
    go_enter Try.func5, Try.ntmps5
    go_wp2_with (first | (go_at_call 13; (with_reducible refine (i1 _).mono ?_); rintro e w' ⟨rfl, hw⟩; obtain rfl := hw.symm))
    go_ret2
    exact ⟨_, rfl, OW.out, BL.out⟩
end Go.Proofs.Ytjnhhlpaeeifeaa
