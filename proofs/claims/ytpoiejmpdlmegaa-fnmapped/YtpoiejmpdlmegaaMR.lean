/- Map: the document's. -/
import Derived.Test.YtpoiejmpdlmegaaMQ
import Derived.Test.YtpoiejmpdlmegaaAW
namespace Go.Proofs.Ytpoiejmpdlmegaa
open Go.RowKit

def lenOf : Value → Nat
  | .slice _ n _ => n
  | _ => 0

theorem mod_end {n Q k wd : Nat} (_ : 0 < wd) (h1 : n ≤ k) (h2 : k ≤ Q) (h3 : Q < n + wd) (h4 : Q % wd = 0) (h5 : k % wd = 0) : k = Q := by
  have e1 := Nat.div_add_mod k wd
  have e2 := Nat.div_add_mod Q wd
  rw [h5] at e1
  rw [h4] at e2
  rcases Nat.lt_or_ge (k / wd) (Q / wd) with h | h
  · have h6 := Nat.mul_le_mul_left wd (show k / wd + 1 ≤ Q / wd from h)
    rw [Nat.mul_add, Nat.mul_one] at h6
    omega
  · have h6 := Nat.mul_le_mul_left wd h
    omega

theorem ty_ap {w : World} {B B2 s s2 n m : Nat} {e e2 : TypeId} {u v : Value} {xs ys : List Value} (hu : w.ownsRow B e s u n xs) (hv : w.ownsRow B2 e2 s2 v m ys) (he : e ≠ e2) : Apart u v := by
  rcases hu.2 with ⟨rfl, _⟩ | ⟨g, c, cur, rfl, _, hg, _⟩
  · exact .inl rfl
  · refine .inr (fun h => ?_)
    rcases hv.2 with ⟨rfl, _⟩ | ⟨g2, c2, cur2, rfl, _, hg2, _⟩
    · cases h
    · have h2 : g = g2 := by simpa [Value.ownBlock] using h
      subst h2
      rw [hg] at hg2
      injection hg2 with h3
      injection h3 with h4 h5
      exact he h5

theorem lvl_cut {n h : Nat} {xs : Nat → Int} (f : Nat) : lvl h (fun j => pad n xs (f + j)) 0 h = lvl n xs f h := by
  unfold lvl
  rw [nba_cut f h (Nat.le_refl _)]

theorem cut_il {w : World} {B g Q c m h : Nat} {f : Nat → Int} (ho : w.ownsRow B 3 1 (.slice (some ⟨g, 0, none⟩) Q c) Q (ils f Q)) (hm : m + h ≤ Q) (hc : Q ≤ c) : Il w (.slice (some ⟨g, m, none⟩) h (c - m)) h (fun j => f (m + j)) := by
  refine ⟨_, _, rfl, by omega, fun h0 => ⟨g, m, rfl, ?_, fun k hk => ?_⟩⟩
  · exact World.block_lt_of_cell? _ _ ((ho.cellAt 0 (by omega)).trans (ils_get (by omega)))
  · rw [ho.cellAt (m + k) (by omega), ils_get (by omega)]

set_option maxHeartbeats 8000000 in
theorem sMap_good {w : World} {v : Value} {n h q : Nat} {xs : Nat → Int} (hv : Il w v n xs) (hb : Bts n xs) (hh : Hlf h) (hq : q = (n + 2 * h - 1) / (2 * h)) :
    Calls Try.prog 7 #[.int .i64 ((2 * h : Nat) : Int), v] w fun e w' => Ppk w w' e q (mpz n xs h) true := by
  obtain ⟨j0, hj, hy0, hy1, hy2⟩ := info_parts Try.info3
  obtain ⟨i0, hi, hz0, hz1, hz2⟩ := info_parts Try.info31
  have h5 := hb.1
  have h4 : h ≤ 4 ∧ 1 ≤ h := by rcases hh with rfl | rfl | rfl | rfl <;> omega
  have HBT : Hid (Bts n xs) := hb
  have HHH : Hid (Hlf h) := hh
  obtain ⟨wd, hwd⟩ : ∃ wd : Nat, wd = 2 * h := ⟨_, rfl⟩
  rw [← hwd] at hq ⊢
  have i1 := sBits_any (hv.below (below_one w (.cells #[] 31))) (by omega)
  rw [decide_eq_true hb] at i1
  have i2 := sWid_any (wd : Int)
  rw [decide_eq_true (by show Wid _; unfold Wid; rcases hh with rfl | rfl | rfl | rfl <;> omega)] at i2
  obtain ⟨Q, hQ⟩ : ∃ Q : Nat, Q = q * wd := ⟨_, rfl⟩
  have hq1 := Nat.div_add_mod (n + wd - 1) wd
  have hq2 := Nat.mod_lt (n + wd - 1) (show 0 < wd by omega)
  rw [← hq, Nat.mul_comm wd q, ← hQ] at hq1
  have hQ1 : n ≤ Q := by omega
  have hQ2 : Q < n + wd := by omega
  have HQM : Hid (Q % wd = 0) := by show Q % wd = 0; rw [hQ]; exact Nat.mul_mod_left _ _
  have HQQ : Hid (Q = q * wd) := hQ
  have hq3 : q ≤ 2000 := by have h9 := Nat.le_mul_of_pos_right q (show 0 < wd by omega); omega
  have e0 : (wd : Int) / 2 = (h : Int) := by omega
  have e1 : (wd : Int).tdiv 2 = (h : Int) := by rw [Int.tdiv_eq_ediv_of_nonneg (by omega)]; exact e0
  have e2 : ¬ ((wd : Int) = 0) := by omega
  have HWD : Hid (wd = 2 * h) := hwd
  have hwb : wd ≤ 8 ∧ 2 ≤ wd := by omega
  have hwh : h < wd ∧ wd - h = h := by omega
  have OW : Hid (((w.alloc (.cells #[] 31)).alloc (.cells #[] 3)).ownsRow w.heap.size 31 2 (.slice (some ⟨w.heap.size, 0, none⟩) 0 0) 0 (ils (mpz n xs h) (0 * 2))) := own_below (own_empty w 31 2) (below_one _ _)
  have OA : Hid (((w.alloc (.cells #[] 31)).alloc (.cells #[] 3)).ownsRow w.heap.size 3 1 (.slice (some ⟨(w.alloc (.cells #[] 31)).heap.size, 0, none⟩) 0 0) 0 []) := own_base (own_empty (w.alloc (.cells #[] 31)) 3 1) (below_one _ _).size
  have BL : Hid (Below w.heap.size w ((w.alloc (.cells #[] 31)).alloc (.cells #[] 3))) := bstep (below_one _ _) (below_one _ _)
  have HV : Hid (Il ((w.alloc (.cells #[] 31)).alloc (.cells #[] 3)) v n xs) := hv.below BL.out
  have hsz : (w.alloc (.cells #[] 31)).heap.size = w.heap.size + 1 := Array.size_push _
  rw [hsz] at OA
  obtain ⟨ao, cap, rfl, hcap, hc⟩ := hv
  clear hc hb hq hh hwd hq1 hq2 hQ
  go_enter Try.func7, Try.ntmps7
  go_wp2_with (first | (go_at_call 17; (with_reducible refine (i1).mono ?_); rintro e w' ⟨rfl, hw⟩; obtain rfl := hw.symm) | (go_at_call 18; (with_reducible refine (i2 _).mono ?_); rintro e w' ⟨rfl, hw⟩; obtain rfl := hw.symm) | (at_builtin; refine wpList_appi rfl _ _ rfl w.heap.size _ _ 0 n [] xs rfl rfl OA.out HV.out (by omega) BL.out.size ?_))
  intro v' w2 ho hg
  try rw [Nat.zero_add, List.nil_append] at ho
  have HA : Hid (w2.ownsRow w.heap.size 3 1 v' n (ils (pad n xs) n)) := by
    have h9 : ils (pad n xs) n = ils xs n := ils_congr fun k hk => by unfold pad; rw [if_pos hk]
    rw [h9]; exact ho
  have HB : Hid (Below w.heap.size w w2) := grown_below BL.out (Nat.le_refl _) OA.out hg
  have HOW : Hid (w2.ownsRow w.heap.size 31 2 (.slice (some ⟨w.heap.size, 0, none⟩) 0 0) 0 (ils (mpz n xs h) (0 * 2))) := own_grown OW.out hg (.inr (fun h9 => by simp [Value.ownBlock] at h9))
  have HAP : Hid (Apart v' (.slice (some ⟨w.heap.size, 0, none⟩) 0 0)) := ty_ap HA.out HOW.out (by decide)
  clear i1 i2 hg OW BL HV OA ho hsz
  obtain ⟨al, cl, rfl⟩ := own_slice HA.out
  go_wp2
  go_loopw [7] (fun o wr => ∃ (k : Nat) (al : Option Addr) (cl : Nat), o = .slice al k cl ∧ n ≤ k ∧ k ≤ Q ∧ Hid (wr.ownsRow w.heap.size 3 1 (.slice al k cl) k (ils (pad n xs) k) ∧ Below w.heap.size w wr ∧ wr.ownsRow w.heap.size 31 2 (.slice (some ⟨w.heap.size, 0, none⟩) 0 0) 0 (ils (mpz n xs h) (0 * 2)) ∧ Apart (.slice (some ⟨w.heap.size, 0, none⟩) 0 0) (.slice al k cl))) (fun o _ => Q - lenOf o)
  case atStart => exact ⟨n, al, cl, rfl, Nat.le_refl _, hQ1, HA.out, HB.out, HOW.out, apart_symm HAP.out⟩
  case round =>
    clear HA HB HAP HOW
    obtain ⟨k, al, cl, rfl, hk0, hk, hrel⟩ := hrel
    obtain ⟨r, hr⟩ : ∃ r : Nat, r = k % wd := ⟨_, rfl⟩
    have f0 : (k : Int) % (wd : Int) = (r : Int) := by rw [hr]; exact (Int.natCast_emod k wd).symm
    have f1 : (k : Int).tmod (wd : Int) = (r : Int) := by rw [Int.tmod_eq_emod_of_nonneg (by omega)]; exact f0
    by_cases h1 : r = 0
    · have hkQ : k = Q := mod_end (by omega) hk0 hk hQ2 HQM.out (by rw [← hr]; exact h1)
      subst hkQ
      subst h1
      clear hr
      have HS : Hid (wr.ownsRow w.heap.size 3 1 (.slice al k cl) k (ils (pad n xs) k) ∧ Below w.heap.size w wr ∧ wr.ownsRow w.heap.size 31 2 (.slice (some ⟨w.heap.size, 0, none⟩) 0 0) 0 (ils (mpz n xs h) (0 * 2)) ∧ Apart (.slice al k cl) (.slice (some ⟨w.heap.size, 0, none⟩) 0 0)) := ⟨hrel.out.1, hrel.out.2.1, hrel.out.2.2.1, apart_symm hrel.out.2.2.2⟩
      clear hrel
      go_wp2
      go_loopw [6, 9] (fun o i w3 => ∃ k2 m : Nat, i = .int .i64 (m : Int) ∧ k2 ≤ q ∧ m ≤ k ∧ Hid (m = k2 * wd ∧ w3.ownsRow w.heap.size 31 2 o k2 (ils (mpz n xs h) (k2 * 2)) ∧ Below w.heap.size w w3 ∧ w3.ownsRow w.heap.size 3 1 (.slice al k cl) k (ils (pad n xs) k))) (fun _ i _ => k - (intOf i).toNat)
      case atStart => exact ⟨0, 0, rfl, by omega, by omega, by omega, HS.out.2.2.1, HS.out.2.1, HS.out.1⟩
      case round =>
        rename World => w3
        clear HS
        obtain ⟨k2, m, rfl, hk2, hmk, hrel⟩ := hrel
        by_cases h2 : k2 < q
        · have hmm := hrel.out.1
          have hmQ : m + wd ≤ k := by
            have h9 := Nat.mul_le_mul_right wd (show k2 + 1 ≤ q by omega)
            rw [Nat.add_mul, Nat.one_mul, ← hmm, ← HQQ.out] at h9
            exact h9
          obtain ⟨ga, hal, hcl⟩ : ∃ ga, al = some ⟨ga, 0, none⟩ ∧ k ≤ cl := by
            rcases hrel.out.2.2.2.2 with ⟨h9, _⟩ | ⟨g, c, cur, h9, _, _, h10, _⟩
            · injection h9 with _ h11 _; omega
            · injection h9 with h11 _ h12; exact ⟨g, h11, by omega⟩
          subst hal
          have HNX : Hid (m + wd = (k2 + 1) * wd) := by show m + wd = (k2 + 1) * wd; rw [Nat.add_mul, Nat.one_mul, ← hmm]
          obtain ⟨m1, hm1⟩ : ∃ m1 : Nat, m1 = m + h := ⟨_, rfl⟩
          obtain ⟨m2, hm2⟩ : ∃ m2 : Nat, m2 = m + wd := ⟨_, rfl⟩
          have f0 : (m : Int) + (h : Int) = (m1 : Int) := by omega
          have f1 : (m : Int) + (wd : Int) = (m2 : Int) := by omega
          have f2 : (m1 : Int) - (m : Int) = (h : Int) := by omega
          have f3 : (m2 : Int) - (m1 : Int) = (h : Int) := by omega
          have f4 : m1 - m = h := by omega
          have f5 : m2 - m1 = h := by omega
          have DA : w3.drew.ownsRow w.heap.size 3 1 (.slice (some ⟨ga, 0, none⟩) k cl) k (ils (pad n xs) k) := own_below hrel.out.2.2.2 (Below.refl _ _).drew
          have i4 := sLev_any (cut_il (m := m) (h := h) DA (by omega) hcl) (fun j _ => pad_bit HBT.out.2 _) HHH.out
          have i5 := sLev_any (cut_il (m := m1) (h := h) DA (by omega) hcl) (fun j _ => pad_bit HBT.out.2 _) HHH.out
          rw [lvl_cut] at i4 i5
          obtain ⟨x, hx⟩ : ∃ x, x = lvl n xs m h := ⟨_, rfl⟩
          obtain ⟨y, hy⟩ : ∃ y, y = lvl n xs m1 h := ⟨_, rfl⟩
          rw [← hx] at i4
          rw [← hy] at i5
          have hxx : x = lvl n xs (k2 * (2 * h)) h := by rw [hx, hmm, HWD.out]
          have hyy : y = lvl n xs (k2 * (2 * h) + h) h := by rw [hy, hm1, hmm, HWD.out]
          have HX : Hid (x = lvl n xs (k2 * (2 * h)) h ∧ y = lvl n xs (k2 * (2 * h) + h) h) := ⟨hxx, hyy⟩
          have hb3 : Below w3.heap.size w3 (w3.alloc (.cells #[.int .i64 x, .int .i64 y] 31)).drew := (below_one w3 _).drew
          have HO3 : Hid ((w3.alloc (.cells #[.int .i64 x, .int .i64 y] 31)).drew.ownsRow w.heap.size 31 2 u6 k2 (ils (mpz n xs h) (k2 * 2))) := own_below hrel.out.2.1 hb3
          have HB3 : Hid (Below w.heap.size w (w3.alloc (.cells #[.int .i64 x, .int .i64 y] 31)).drew) := bstep hrel.out.2.2.1 hb3
          have HA3 : Hid ((w3.alloc (.cells #[.int .i64 x, .int .i64 y] 31)).drew.ownsRow w.heap.size 3 1 (.slice (some ⟨ga, 0, none⟩) k cl) k (ils (pad n xs) k)) := own_below hrel.out.2.2.2 hb3
          have HM1 : Hid (m1 = m + h ∧ m2 = m + wd) := ⟨hm1, hm2⟩
          have hm1b : m < m1 ∧ m1 < m2 ∧ m2 ≤ k := by omega
          clear hx hy hxx hyy hb3 hrel hmm DA hm1 hm2
          go_upto_region 11 with fail
          refine wp_region_any (by kernel_rfl) ?_
          change wpAny _ _ _ _ _ _ _ (World.drew _)
          refine wpI_any (I := fun X => True) _ _ _ _ ?_
          refine wpI_take (i := 0) (v := ?_) rfl (by kernel_rfl) (by kernel_rfl) (by kernel_rfl) (fun _ _ _ h => h) ⟨by rfl, ?_⟩ ?_
          rotate_left
          · intro X hI; go_simp; try go_bits
            try rw [if_pos (by omega)]
            try with_reducible rfl
          refine wpI_take (i := 1) (v := ?_) rfl (by kernel_rfl) (by kernel_rfl) (by kernel_rfl) (fun _ _ _ h => h) ⟨by rfl, ?_⟩ ?_
          rotate_left
          · intro X hI; go_simp; try go_bits
            try rw [if_pos (by omega)]
            try with_reducible rfl
          refine wpI_take (i := 2) (v := ?_) rfl (by kernel_rfl) (by kernel_rfl) (by kernel_rfl) (fun _ _ _ h => h) ⟨by rfl, ?_⟩ ?_
          rotate_left
          · intro X hI; go_simp; try go_bits
            try rw [if_pos (by omega)]
            try with_reducible rfl
          refine wpI_take (i := 3) (v := ?_) rfl (by kernel_rfl) (by kernel_rfl) (by kernel_rfl) (fun _ _ _ h => h) ⟨by rfl, ?_⟩ ?_
          rotate_left
          · intro X hI; go_simp; try go_bits
            try rw [if_pos (by omega)]
            try with_reducible rfl
          refine wpI_take (i := 4) (v := ?_) rfl (by kernel_rfl) (by kernel_rfl) (by kernel_rfl) (fun _ _ _ h => h) ⟨by rfl, ?_⟩ ?_
          rotate_left
          · intro X hI; go_simp; try go_bits
            try rw [if_pos (by omega)]
            try with_reducible rfl
          refine wpI_take (i := 5) (v := ?_) rfl (by kernel_rfl) (by kernel_rfl) (by kernel_rfl) (fun _ _ _ h => h) ⟨by rfl, ?_⟩ ?_
          rotate_left
          · intro X hI; go_simp; try go_bits
            try rw [if_pos (by omega)]
            try with_reducible rfl
          refine wpI_take (i := 6) (v := .slice (some ⟨ga, m, none⟩) h (cl - m)) rfl (by kernel_rfl) (by kernel_rfl) (by kernel_rfl) (fun _ _ _ h => h) ⟨by rfl, ?_⟩ ?_
          · intro X hI; go_simp
            rw [if_pos (show m ≤ m1 by omega), if_neg (show ¬ cl = m by omega), if_pos (show m1 ≤ cl by omega)]
          refine wpI_take (i := 8) (v := ?_) rfl (by kernel_rfl) (by kernel_rfl) (by kernel_rfl) (fun _ _ _ h => h) ⟨by rfl, ?_⟩ ?_
          rotate_left
          · intro X hI; go_simp; try go_bits
            try rw [if_pos (by omega)]
            try with_reducible rfl
          refine wpI_take (i := 9) (v := ?_) rfl (by kernel_rfl) (by kernel_rfl) (by kernel_rfl) (fun _ _ _ h => h) ⟨by rfl, ?_⟩ ?_
          rotate_left
          · intro X hI; go_simp; try go_bits
            try rw [if_pos (by omega)]
            try with_reducible rfl
          refine wpI_take (i := 10) (v := ?_) rfl (by kernel_rfl) (by kernel_rfl) (by kernel_rfl) (fun _ _ _ h => h) ⟨by rfl, ?_⟩ ?_
          rotate_left
          · intro X hI; go_simp; try go_bits
            try rw [if_pos (by omega)]
            try with_reducible rfl
          refine wpI_take (i := 11) (v := ?_) rfl (by kernel_rfl) (by kernel_rfl) (by kernel_rfl) (fun _ _ _ h => h) ⟨by rfl, ?_⟩ ?_
          rotate_left
          · intro X hI; go_simp; try go_bits
            try rw [if_pos (by omega)]
            try with_reducible rfl
          refine wpI_take (i := 12) (v := ?_) rfl (by kernel_rfl) (by kernel_rfl) (by kernel_rfl) (fun _ _ _ h => h) ⟨by rfl, ?_⟩ ?_
          rotate_left
          · intro X hI; go_simp; try go_bits
            try rw [if_pos (by omega)]
            try with_reducible rfl
          refine wpI_take (i := 13) (v := ?_) rfl (by kernel_rfl) (by kernel_rfl) (by kernel_rfl) (fun _ _ _ h => h) ⟨by rfl, ?_⟩ ?_
          rotate_left
          · intro X hI; go_simp; try go_bits
            try rw [if_pos (by omega)]
            try with_reducible rfl
          refine wpI_take (i := 14) (v := ?_) rfl (by kernel_rfl) (by kernel_rfl) (by kernel_rfl) (fun _ _ _ h => h) ⟨by rfl, ?_⟩ ?_
          rotate_left
          · intro X hI; go_simp; try go_bits
            try rw [if_pos (by omega)]
            try with_reducible rfl
          refine wpI_take (i := 15) (v := .slice (some ⟨ga, m1, none⟩) h (cl - m1)) rfl (by kernel_rfl) (by kernel_rfl) (by kernel_rfl) (fun _ _ _ h => h) ⟨by rfl, ?_⟩ ?_
          · intro X hI; go_simp
            rw [if_pos (show m1 ≤ m2 by omega), if_neg (show ¬ cl = m1 by omega), if_pos (show m2 ≤ cl by omega)]
          refine wpI_only (i := 7) rfl (by kernel_rfl) trivial (by rfl) ?_
          intro K hK
          go_simp
          go_wp2_with (go_at_call 19; (with_reducible refine i4.mono ?_); rintro e w' ⟨rfl, hw⟩; obtain rfl := hw.symm)
          refine wpI_only (i := 16) rfl (by kernel_rfl) trivial (by rfl) ?_
          intro K hK
          go_simp
          go_wp2_with (go_at_call 19; (with_reducible refine i5.mono ?_); rintro e w' ⟨rfl, hw⟩; obtain rfl := hw.symm)
          refine wpI_take (i := 17) (v := ?_) rfl (by kernel_rfl) (by kernel_rfl) (by kernel_rfl) (fun _ _ _ h => h) ⟨by rfl, ?_⟩ ?_
          rotate_left
          · intro X hI; go_simp; try go_bits
            try rw [if_pos (by omega)]
            try with_reducible rfl
          refine wpI_only (i := 18) rfl (by kernel_rfl) trivial (by rfl) ?_
          intro K hK
          go_simp
          try go_bits
          refine hK _ _ ?_
          refine wpI_only (i := 19) rfl (by kernel_rfl) trivial (by rfl) ?_
          intro K hK
          refine wp_app _ _ _ 27 rfl w.heap.size 31 i0 (.agg #[.int .i64 0, .int .i64 0]) 2 16 Try.underlying27 hi hz0 hz1 hz2 rfl (by decide) _ _ _ rfl HO3.out ⟨w3.heap.size, 0, none⟩ 1 1 [.int .i64 x, .int .i64 y] rfl rfl (fun j u h => two_new w3 _ _ 31 j u h) (by simp [Value.oneCell']) (by unfold maxLen; omega) (by omega) HB3.out.size (by decide) ?_
          intro v' w4 hown' hgrow hwh
          have HB4 : Hid (Below w.heap.size w w4) := grown_below HB3.out (Nat.le_refl _) HO3.out hgrow
          rw [mpz_snoc n xs h k2 HX.out.1 HX.out.2] at hown'
          have HO4 : Hid (w4.ownsRow w.heap.size 31 2 v' (k2 + 1) (ils (mpz n xs h) ((k2 + 1) * 2))) := hown'
          have HA4 : Hid (w4.ownsRow w.heap.size 3 1 (.slice (some ⟨ga, 0, none⟩) k cl) k (ils (pad n xs) k)) := own_grown HA3.out hgrow (ty_ap HA3.out HO3.out (by decide))
          clear hown' hgrow hwh
          refine hK _ _ ?_
          refine wpI_only (i := 20) rfl (by kernel_rfl) trivial (by rfl) ?_
          intro K hK
          go_simp
          try go_bits
          refine hK _ _ ?_
          refine wpI_done trivial (by kernel_rfl) ?_ _
          go_wp2
          go_roundw
          case rel => exact ⟨k2 + 1, m2, rfl, by omega, by omega, HM1.out.2.trans HNX.out, HO4.out, HB4.out, HA4.out⟩
          case measure => simp [intOf]; omega
        · obtain rfl : q = k2 := by omega
          have hmk2 : m = k := by rw [hrel.out.1]; exact HQQ.out.symm
          subst hmk2
          go_wp2
          go_ret2
          exact ⟨_, rfl, hrel.out.2.1, hrel.out.2.2.1⟩
    · have b0 : ((r : Int) != 0) = true := by simp; omega
      have hlt : k < Q := by
        rcases Nat.lt_or_ge k Q with h9 | h9
        · exact h9
        · obtain rfl : k = Q := by omega
          exact absurd (hr.trans HQM.out) h1
      clear hr
      have HZ : Hid ((0 : Int) = pad n xs k) := by show (0 : Int) = pad n xs k; unfold pad; rw [if_neg (by omega)]
      have hb3 := below_one wr (.cells #[.int .i64 0] 3)
      have HO3 := own_below hrel.out.1 hb3
      have HB3 := bstep hrel.out.2.1 hb3
      have HP3 := own_below hrel.out.2.2.1 hb3
      have HQ3 : Hid ((wr.alloc (.cells #[.int .i64 0] 3)).ownsRow w.heap.size 31 2 (.slice (some ⟨w.heap.size, 0, none⟩) 0 0) 0 (ils (mpz n xs h) (0 * 2)) ∧ Apart (.slice (some ⟨w.heap.size, 0, none⟩) 0 0) (.slice al k cl)) := ⟨HP3, hrel.out.2.2.2⟩
      clear hb3 hrel HP3
      go_wp2_with (first | (at_builtin; refine wpList_app _ rfl _ _ 24 rfl w.heap.size 3 j0 (.int .i64 0) 1 8 Try.underlying24 hj hy0 hy1 hy2 rfl (by decide) _ _ _ rfl HO3 ⟨wr.heap.size, 0, none⟩ 1 1 [.int .i64 0] rfl rfl (one_new _ _ _) (by simp [Value.oneCell']) (by unfold maxLen; omega) (by omega) HB3.size (by omega) ?_))
      intro v' w4 hown' hgrow hwh2
      have HB4 : Hid (Below w.heap.size w w4) := grown_below HB3 (Nat.le_refl _) HO3 hgrow
      rw [show Value.int .i64 0 = .int .i64 (pad n xs k) from congrArg _ HZ.out, ← ils_snoc (pad n xs) k] at hown'
      have HO4 : Hid (w4.ownsRow w.heap.size 3 1 v' (k + 1) (ils (pad n xs) (k + 1))) := hown'
      have HP4 : Hid (w4.ownsRow w.heap.size 31 2 (.slice (some ⟨w.heap.size, 0, none⟩) 0 0) 0 (ils (mpz n xs h) (0 * 2)) ∧ Apart (.slice (some ⟨w.heap.size, 0, none⟩) 0 0) v') := ⟨own_grown HQ3.out.1 hgrow HQ3.out.2, apart_app HQ3.out.1 HQ3.out.2 (hwh2.imp id (fun x => x.1.trans (by rw [World.size_alloc])))⟩
      clear hown' hgrow HB3 HO3 HQ3 hwh2
      obtain ⟨al', cl', rfl⟩ := own_slice HO4.out
      go_wp2
      go_roundw
      case rel => exact ⟨k + 1, _, _, rfl, by omega, by omega, HO4.out, HB4.out, HP4.out⟩
      case measure => simp [lenOf]; omega
end Go.Proofs.Ytpoiejmpdlmegaa
