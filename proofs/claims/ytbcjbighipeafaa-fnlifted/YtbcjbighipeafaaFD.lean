/- Unlift: the model. -/
import Derived.Test.YtbcjbighipeafaaFC
namespace Go.Proofs.Ytbcjbighipeafaa
open Go.RowKit

theorem own_cut {w : World} {B n m cap : Nat} {ao : Option Addr} {xs : Nat → Int} (h : w.ownsRow B 3 1 (.slice ao n cap) n (ils xs n)) (hm : m ≤ n) : w.ownsRow B 3 1 (.slice ao m cap) m (ils xs m) := by
  refine ⟨by rw [ils_length, Nat.mul_one], ?_⟩
  rcases h.2 with ⟨h', h0⟩ | ⟨g, c, cur, h', hb, hg, hnc, hcm, hcs, ht⟩
  · injection h' with e1 e2 e3
    subst e1 e3
    obtain rfl : m = 0 := by omega
    exact .inl ⟨rfl, rfl⟩
  · injection h' with e1 e2 e3
    subst e1 e3
    refine .inr ⟨g, cap, cur, rfl, hb, hg, by omega, hcm, hcs, ?_⟩
    have : (ils xs n).take m = ils xs m := by
      apply List.ext_getElem?
      intro i
      by_cases hi : i < m
      · rw [List.getElem?_take_of_lt hi, ils_get (by omega), ils_get hi]
      · rw [List.getElem?_eq_none (by rw [List.length_take]; omega), List.getElem?_eq_none (by rw [ils_length]; omega)]
    rw [← this, ← ht, List.take_take]
    congr 1
    omega

theorem lw_with {kind : Int} {n J : Nat} {xs : Nat → Int} (h : Wth 8000000000 n xs) (hJ : ∀ j, j < J → 1 < lnt n j) : ∀ t, t ≤ J → Wth (5 ^ t * 8000000000) (lnt n (J - t)) (lw kind n J xs t)
  | 0, _ => fun i hi => by
    have := h i (Nat.lt_of_lt_of_le hi (lnt_le n _))
    simp only [lw]
    omega
  | t + 1, ht => fun i hi => by
    have ih := lw_with (kind := kind) h hJ t (by omega)
    have hp : (1 : Int) ≤ 5 ^ t := Int.pow_pos (by decide)
    have e1 : lnt n (J - t) = (lnt n (J - 1 - t) + 1) / 2 := by
      rw [show J - t = (J - 1 - t) + 1 by omega]
      rfl
    have e2 : J - (t + 1) = J - 1 - t := by omega
    rw [e2] at hi
    have hl := lnt_le n (J - 1 - t)
    have h1 := bck_with (kind := kind) (M := 5 ^ t * 8000000000) (by omega) ih (m := lnt n (J - 1 - t) - lnt n (J - t)) (hs := fun i => xs (lnt n (J - t) + i)) (fun k hk => by have := h (lnt n (J - t) + k) (by omega); show -(5 ^ t * 8000000000) ≤ xs (lnt n (J - t) + k) ∧ xs (lnt n (J - t) + k) ≤ 5 ^ t * 8000000000; constructor <;> omega) (by omega) (by omega) i (by omega)
    have e3 : (5 : Int) ^ (t + 1) * 8000000000 = 5 * (5 ^ t * 8000000000) := by rw [Int.pow_succ]; grind
    rw [e3]
    exact h1

theorem lw_bound {kind : Int} {n J t : Nat} {xs : Nat → Int} (h : Wth 8000000000 n xs) (hJ : ∀ j, j < J → 1 < lnt n j) (ht : t ≤ J) (h8 : t < 8) : Wth 1000000000000000 (lnt n (J - t)) (lw kind n J xs t) := fun i hi => by
  have h1 := lw_with (kind := kind) h hJ t ht i hi
  have h2 : (5 : Int) ^ t * 8000000000 ≤ 1000000000000000 := by
    have : t = 0 ∨ t = 1 ∨ t = 2 ∨ t = 3 ∨ t = 4 ∨ t = 5 ∨ t = 6 ∨ t = 7 := by omega
    rcases this with rfl | rfl | rfl | rfl | rfl | rfl | rfl | rfl <;> decide
  omega

set_option maxRecDepth 20000 in
set_option maxHeartbeats 8000000 in
theorem sUnlift_ok {w : World} {v : Value} {n L J B : Nat} {xs : Nat → Int} {kind : Int} (g : Gu kind n xs L) (hJ : Stp n L J) (hv : w.ownsRow B 3 1 v n (ils xs n)) :
    Calls Try.prog 14 #[.int .i64 kind, v, .int .i64 L] w fun e w' => Pst w w' e n (lw kind n J xs J) true := by
  obtain ⟨i0, hi, hz0, hz1, hz2⟩ := info_parts Try.info3
  have hn := g.s
  have hL := g.l
  have i1 := sKind_any kind
  rw [decide_eq_true g.k] at i1
  have i2 := sWide_any (il_of_own hv) (by omega)
  rw [decide_eq_true g.x] at i2
  have i3 := in_any (L : Int) 0 8
  rw [decide_eq_true (by omega)] at i3
  have HG : Hid (Gu kind n xs L) := g
  have HJ : Hid (Stp n L J) := hJ
  have HV : Hid (w.ownsRow B 3 1 v n (ils xs n)) := hv
  have OS : Hid ((w.alloc (.cells #[.int .i64 n] 3)).ownsRow w.heap.size 3 1 (.slice (some ⟨w.heap.size, 0, none⟩) 1 1) 1 (ils (fun j => (lnt n j : Int)) 1)) := by
    have h := World.ownsRow_lit (base := w.heap.size) (e := 3) (size := 1) w #[.int .i64 n] 1 (Nat.le_refl _) (by unfold maxLen; omega) (by rfl)
    exact h
  clear g hJ
  obtain ⟨ao, cap, hvv, hcap, hc⟩ := il_of_own hv
  clear hc hv
  subst hvv
  go_enter Try.func14, Try.ntmps14
  go_wp2_with (first
    | (go_at_call 31; (with_reducible refine (i1 _).mono ?_); rintro e w' ⟨rfl, hw⟩; obtain rfl := hw.symm)
    | (go_at_call 33; (with_reducible refine i2.mono ?_); rintro e w' ⟨rfl, hw⟩; obtain rfl := hw.symm)
    | (go_at_call 32; (with_reducible refine (i3 _).mono ?_); rintro e w' ⟨rfl, hw⟩; obtain rfl := hw.symm))
  clear i1 i2 i3
  go_loopw [8, 9] (fun o i wr => ∃ q : Nat, i = .int .i64 q ∧ q ≤ L ∧ Hid (wr.ownsRow w.heap.size 3 1 o (q + 1) (ils (fun j => (lnt n j : Int)) (q + 1)) ∧ (∀ j, j < q → 1 < lnt n j) ∧ Below w.heap.size w wr)) (fun _ i _ => L - (intOf i).toNat)
  case atStart => exact ⟨0, rfl, by omega, OS.out, fun j hj => by omega, below_one _ _⟩
  case round =>
    obtain ⟨q, rfl, hq, hrel⟩ := hrel
    have O1 : Hid (wr.ownsRow w.heap.size 3 1 u8 (q + 1) (ils (fun j => (lnt n j : Int)) (q + 1))) := hrel.out.1
    have A1 : Hid (∀ j, j < q → 1 < lnt n j) := hrel.out.2.1
    have B1 : Hid (Below w.heap.size w wr) := hrel.out.2.2
    clear hrel
    obtain ⟨gs, cs, hgs, hcs⟩ : ∃ gu cu, u8 = .slice (some ⟨gu, 0, none⟩) (q + 1) cu ∧ q + 1 ≤ cu := by
      rcases O1.out.2 with ⟨_, h⟩ | ⟨gu, cu, cur, hu, _, _, hcu, _⟩
      · omega
      · exact ⟨gu, cu, hu, hcu⟩
    subst hgs
    have d0 := World.ownsRow.cellAt O1.out q (by omega)
    rw [ils_get (by omega)] at d0
    have hl := lnt_le n q
    by_cases hcq : q < L ∧ 1 < lnt n q
    · obtain ⟨hqL, hq1⟩ := hcq
      have E : Hid (((lnt n q : Int) + 1) / 2 = (lnt n (q + 1) : Int)) := by show ((lnt n q : Int) + 1) / 2 = ((lnt n q + 1) / 2 : Nat); omega
      have A2 : Hid (∀ j, j < q + 1 → 1 < lnt n j) := fun j hj => by
        by_cases h : j = q
        · subst h; exact hq1
        · exact A1.out j (by omega)
      generalize lnt n q = a at d0 hl hq1 E
      have bx := below_one wr (.cells #[.int .i64 (((a : Int) + 1) / 2)] 3)
      have O3 : Hid ((wr.alloc (.cells #[.int .i64 (((a : Int) + 1) / 2)] 3)).ownsRow w.heap.size 3 1 (.slice (some ⟨gs, 0, none⟩) (q + 1) cs) (q + 1) (ils (fun j => (lnt n j : Int)) (q + 1))) := own_below O1.out bx
      have B3 : Hid (Below w.heap.size w (wr.alloc (.cells #[.int .i64 (((a : Int) + 1) / 2)] 3))) := bstep B1.out bx
      clear bx
      go_wp2_with (first | (at_builtin; refine wpList_app _ rfl _ _ 24 rfl w.heap.size 3 i0 (.int .i64 0) 1 8 Try.underlying24 hi hz0 hz1 hz2 rfl (by decide) _ _ _ rfl O3.out ⟨wr.heap.size, 0, none⟩ 1 1 [.int .i64 (((a : Int) + 1) / 2)] rfl rfl (one_new _ _ _) (by simp [Value.oneCell']) (by unfold maxLen; omega) (by omega) B3.out.size (by decide) ?_))
      intro v' w4 hown' hgrow hkeep
      rw [E.out, ← ils_snoc (fun j => (lnt n j : Int))] at hown'
      have O4 : Hid (w4.ownsRow w.heap.size 3 1 v' (q + 1 + 1) (ils (fun j => (lnt n j : Int)) (q + 1 + 1))) := hown'
      have B4 : Hid (Below w.heap.size w w4) := grown_below B3.out (Nat.le_refl _) O3.out hgrow
      clear hown' hgrow hkeep O3 B3
      go_wp2
      go_roundw
      case rel => exact ⟨q + 1, by go_num, by omega, O4.out, A2.out, B4.out⟩
      case measure => simp [intOf]; omega
    · have hST : Stp n L q := ⟨hq, A1.out, by omega⟩
      obtain rfl : q = J := hST.uniq HJ.out
      have hq8 : q ≤ 8 := by omega
      have HV1 : Hid (wr.ownsRow B 3 1 (.slice ao n cap) n (ils xs n)) := own_below HV.out B1.out
      have OC : Hid ((wr.alloc (.cells #[] 3)).ownsRow B 3 1 (.slice ao (lnt n q) cap) (lnt n q) (ils xs (lnt n q))) := own_below (own_cut HV1.out hl) (below_one _ _)
      have OE : Hid ((wr.alloc (.cells #[] 3)).ownsRow wr.heap.size 3 1 (.slice (some ⟨wr.heap.size, 0, none⟩) 0 0) 0 (ils xs 0)) := own_empty wr 3 1
      have BE : Hid (Below wr.heap.size wr (wr.alloc (.cells #[] 3))) := below_one _ _
      obtain ⟨A, hA⟩ : ∃ A, lnt n q = A := ⟨_, rfl⟩
      rw [hA] at OC hl d0
      have HA : Hid (lnt n q = A) := hA
      clear hA
      by_cases hqL : q < L
      · have hA1 : A ≤ 1 := by have := HA.out; omega
        go_upto_region 8 with fail
        have dA : (wr.alloc (.cells #[] 3)).cell? ⟨gs, q, none⟩ = some (.int .i64 (A : Int)) := (BE.out.cell (World.block_lt_of_cell? _ _ d0)).trans d0
        have eq1 : ((q : Int) + 1 - 1) = (q : Int) := by omega
        have hAc : A ≤ cap := by omega
        have SZ : Hid (∀ j, j < q + 1 → wr.cell? ⟨gs, j, none⟩ = some (.int .i64 (lnt n j : Int))) := fun j hj => by
          have := World.ownsRow.cellAt O1.out j (by omega)
          rw [ils_get hj] at this
          exact this
        have gslt : gs < wr.heap.size := World.block_lt_of_cell? _ _ d0
        go_wp2_with (first | (at_builtin; refine wpList_appo rfl _ _ rfl wr.heap.size B _ _ _ _ _ _ rfl rfl OE.out OC.out (by omega) BE.out.size ?_))
        intro v2 w2 ho2 hg2
        have O2 : Hid (w2.ownsRow wr.heap.size 3 1 v2 A (ils xs A)) := ho2
        have B2 : Hid (Below wr.heap.size wr w2) := grown_below BE.out (Nat.le_refl _) OE.out hg2
        clear ho2 hg2 OE OC BE dA O1 d0
        go_wp2
        generalize wr = W1 at *
        go_loopw [10, 11] (fun o i W_ => ∃ t : Nat, i = .int .i64 ((q : Int) - 1 - (t : Int)) ∧ t ≤ q ∧ Hid (W_.ownsRow W1.heap.size 3 1 o (lnt n (q - t)) (ils (lw kind n q xs t) (lnt n (q - t))) ∧ Below W1.heap.size W1 W_)) (fun _ i _ => (intOf i + 1).toNat)
        case atStart => exact ⟨0, by simp; omega, by omega, by rw [Nat.sub_zero, HA.out]; exact O2.out, B2.out⟩
        case round =>
          obtain ⟨t, rfl, ht, hrel⟩ := hrel
          by_cases htq : t < q
          · obtain ⟨i, hi0⟩ : ∃ i : Nat, (q : Int) - 1 - (t : Int) = (i : Int) := ⟨q - 1 - t, by omega⟩
            have hi1 : q - t = i + 1 := by omega
            have hi2 : q - (t + 1) = i := by omega
            have hi3 : q - 1 - t = i := by omega
            have hiq : i < q := by omega
            have HI : Hid ((q : Int) - 1 - (t : Int) = (i : Int)) := hi0
            rw [hi0]
            have hO := hrel.out.1
            rw [hi1] at hO
            have c1 : wr.cell? ⟨gs, i + 1, none⟩ = some (.int .i64 (lnt n (i + 1) : Int)) := (hrel.out.2.cell (p := ⟨gs, i + 1, none⟩) gslt).trans (SZ.out (i + 1) (by omega))
            have c2 : wr.cell? ⟨gs, i, none⟩ = some (.int .i64 (lnt n i : Int)) := (hrel.out.2.cell (p := ⟨gs, i, none⟩) gslt).trans (SZ.out i (by omega))
            have hs1 := A1.out i hiq
            have hs2 := lnt_le n i
            have hae : lnt n (i + 1) = (lnt n i + 1) / 2 := rfl
            have hlb := lw_bound (kind := kind) HG.out.x A1.out (Nat.le_of_lt htq) (by omega)
            rw [hi1] at hlb
            have HLW : Hid (ils (bck kind (lnt n (i + 1)) (lnt n i - lnt n (i + 1)) (lw kind n q xs t) (fun j => xs (lnt n (i + 1) + j))) (lnt n i) = ils (lw kind n q xs (t + 1)) (lnt n (q - (t + 1)))) := by
              rw [hi2]
              show _ = ils (bck kind (lnt n (q - t)) (lnt n (q - 1 - t) - lnt n (q - t)) (lw kind n q xs t) (fun i => xs (lnt n (q - t) + i))) _
              rw [hi1, hi3]
            have HLE : Hid (lnt n (q - (t + 1)) = lnt n i) := by show lnt n (q - (t + 1)) = lnt n i; rw [hi2]
            have HVr := ((il_of_own HV1.out).below hrel.out.2).below (Below.refl _ _).drew
            have HLr := (il_of_own hO).below (Below.refl wr.heap.size wr).drew
            have BW : Hid (Below W1.heap.size W1 wr) := hrel.out.2
            clear hrel
            obtain ⟨b, hb⟩ := own_some' HV1.out (by omega)
            rw [hb] at HVr
            obtain ⟨la, lc, hu10, hlc, _⟩ := il_of_own hO
            subst hu10
            clear hO
            generalize lnt n (i + 1) = a at c1 hae hlb HLW HLr hlc
            generalize lnt n i = s at c2 hae hs1 hs2 HLW HLE
            have hac : a ≤ s := by omega
            have hba : s - a ≤ a := by omega
            have hab : a ≤ s - a + 1 := by omega
            have hasum : a + (s - a) ≤ 1048576 := by omega
            clear hae
            have i5 := sBack_any HG.out.k HLr (il_hi (il_lo HVr hs2) (p := a) hac) hba hab hasum (M := 1000000000000000) (by omega) (by omega) hlb (fun j hj => by have := HG.out.x (a + j) (by omega); show -1000000000000000 ≤ xs (a + j) ∧ xs (a + j) ≤ 1000000000000000; omega)
            simp only [Nat.zero_add] at i5
            rw [hb]
            have l0 : wr.drew.cell? ⟨gs, i + 1, none⟩ = some (.int .i64 (a : Int)) ∧ wr.drew.cell? ⟨gs, i, none⟩ = some (.int .i64 (s : Int)) := ⟨c1, c2⟩
            have hsc : s ≤ cap := by omega
            clear HVr HLr hlb
            go_upto_region 12 with fail
            refine wp_region_any (by kernel_rfl) ?_
            change wpAny _ _ _ _ _ _ _ (World.drew _)
            refine wpI_any (I := fun X => X.cell? ⟨gs, i + 1, none⟩ = some (.int .i64 (a : Int)) ∧ X.cell? ⟨gs, i, none⟩ = some (.int .i64 (s : Int))) _ _ _ _ ?_
            refine wpI_take (i := 0) (v := ?_) rfl (by kernel_rfl) (by kernel_rfl) (by kernel_rfl) (fun _ _ _ h => h) ⟨by rfl, ?_⟩ ?_
            rotate_left
            · intro X hI; go_simp; try go_bits
              try rw [if_pos (by omega)]
              try with_reducible rfl
            refine wpI_take (i := 1) (v := ?_) rfl (by kernel_rfl) (by kernel_rfl) (by kernel_rfl) (fun _ _ _ h => h) ⟨by rfl, ?_⟩ ?_
            rotate_left
            · intro X hI; go_simp; try go_bits
              try rw [if_pos (by omega)]
              try with_reducible rfl
            refine wpI_take (i := 2) (v := ?_) rfl (by kernel_rfl) (by kernel_rfl) (by kernel_rfl) (fun _ _ _ h => h) ⟨by rfl, ?_⟩ ?_
            rotate_left
            · intro X hI; go_simp; try go_bits
              try rw [if_pos (by omega)]
              try with_reducible rfl
            refine wpI_take (i := 3) (v := ?_) rfl (by kernel_rfl) (by kernel_rfl) (by kernel_rfl) (fun _ _ _ h => h) ⟨by rfl, ?_⟩ ?_
            rotate_left
            · intro X hI; go_simp; try go_bits
              try rw [if_pos (by omega)]
              try with_reducible rfl
            refine wpI_take (i := 4) (v := ?_) rfl (by kernel_rfl) (by kernel_rfl) (by kernel_rfl) (fun _ _ _ h => h) ⟨by rfl, ?_⟩ ?_
            rotate_left
            · intro X hI; go_simp; try go_bits
              try rw [if_pos (by omega)]
              try with_reducible rfl
            refine wpI_take (i := 5) (v := ?_) rfl (by kernel_rfl) (by kernel_rfl) (by kernel_rfl) (fun _ _ _ h => h) ⟨by rfl, ?_⟩ ?_
            rotate_left
            · intro X hI; go_simp; try go_bits
              try rw [if_pos (by omega)]
              try with_reducible rfl
            refine wpI_take (i := 6) (v := ?_) rfl (by kernel_rfl) (by kernel_rfl) (by kernel_rfl) (fun _ _ _ h => h) ⟨by rfl, ?_⟩ ?_
            rotate_left
            · intro X hI; go_simp; try go_bits
              try rw [if_pos (by omega)]
              try with_reducible rfl
            refine wpI_take (i := 7) (v := ?_) rfl (by kernel_rfl) (by kernel_rfl) (by kernel_rfl) (fun _ _ _ h => h) ⟨by rfl, ?_⟩ ?_
            rotate_left
            · intro X hI; obtain ⟨q1, q2⟩ := hI; go_simp; try go_bits
              try rw [if_pos (by omega)]
              try with_reducible rfl
            refine wpI_take (i := 8) (v := ?_) rfl (by kernel_rfl) (by kernel_rfl) (by kernel_rfl) (fun _ _ _ h => h) ⟨by rfl, ?_⟩ ?_
            rotate_left
            · intro X hI; go_simp; try go_bits
              try rw [if_pos (by omega)]
              try with_reducible rfl
            refine wpI_take (i := 9) (v := ?_) rfl (by kernel_rfl) (by kernel_rfl) (by kernel_rfl) (fun _ _ _ h => h) ⟨by rfl, ?_⟩ ?_
            rotate_left
            · intro X hI; go_simp; try go_bits
              try rw [if_pos (by omega)]
              try with_reducible rfl
            refine wpI_take (i := 10) (v := ?_) rfl (by kernel_rfl) (by kernel_rfl) (by kernel_rfl) (fun _ _ _ h => h) ⟨by rfl, ?_⟩ ?_
            rotate_left
            · intro X hI; go_simp; try go_bits
              try rw [if_pos (by omega)]
              try with_reducible rfl
            refine wpI_take (i := 11) (v := ?_) rfl (by kernel_rfl) (by kernel_rfl) (by kernel_rfl) (fun _ _ _ h => h) ⟨by rfl, ?_⟩ ?_
            rotate_left
            · intro X hI; obtain ⟨q1, q2⟩ := hI; go_simp; try go_bits
              try rw [if_pos (by omega)]
              try with_reducible rfl
            refine wpI_take (i := 12) (v := ?_) rfl (by kernel_rfl) (by kernel_rfl) (by kernel_rfl) (fun _ _ _ h => h) ⟨by rfl, ?_⟩ ?_
            rotate_left
            · intro X hI; go_simp; try go_bits
              try rw [if_pos (by omega)]
              try with_reducible rfl
            refine wpI_only (i := 13) rfl (by kernel_rfl) l0 (by rfl) ?_
            intro K hK
            go_simp
            generalize (if cap = a then some (⟨b, 0, none⟩ : Addr) else some ⟨b, a, none⟩) = hvv at i5 ⊢
            go_wp2_with (go_at_call 34; (with_reducible refine i5.mono ?_); rintro e X1 ⟨u, rfl, ho, hb1⟩; have hb2 : Below wr.heap.size wr X1 := (Below.refl _ _).drew.trans hb1; have l1 : X1.cell? ⟨gs, i + 1, none⟩ = some (.int .i64 (a : Int)) ∧ X1.cell? ⟨gs, i, none⟩ = some (.int .i64 (s : Int)) := ⟨(hb2.cell (World.block_lt_of_cell? _ _ c1)).trans c1, (hb2.cell (World.block_lt_of_cell? _ _ c2)).trans c2⟩; rw [show a + (s - a) = s by omega, HLW.out] at ho; have O6 : Hid (X1.ownsRow W1.heap.size 3 1 u (lnt n (q - (t + 1))) (ils (lw kind n q xs (t + 1)) (lnt n (q - (t + 1))))) := (by show World.ownsRow _ _ 3 1 u (lnt n (q - (t + 1))) (ils (lw kind n q xs (t + 1)) (lnt n (q - (t + 1)))); have h9 := own_base ho BW.out.size; rw [HLE.out] at h9 ⊢; exact h9); have B6 : Hid (Below W1.heap.size W1 X1) := bstep BW.out hb2; clear ho hb1 hb2)
            refine wpI_only (i := 14) rfl (by kernel_rfl) l1 (by rfl) ?_
            intro K hK
            go_simp
            try go_bits
            refine hK _ _ ?_
            refine wpI_done l1 (by kernel_rfl) ?_ _
            clear l0 l1 i5 c1 c2
            go_wp2
            go_roundw
            case rel => exact ⟨t + 1, by have := HI.out; simp; omega, by omega, O6.out, B6.out⟩
            case measure => simp [intOf]
          · obtain rfl : q = t := by omega
            have hO := hrel.out.1
            rw [Nat.sub_self, show lnt n 0 = n from rfl] at hO
            have O7 : Hid (wr.ownsRow W1.heap.size 3 1 u10 n (ils (lw kind n q xs q) n)) := hO
            have B7 : Hid (Below w.heap.size w wr) := bstep B1.out hrel.out.2
            have S7 : w.heap.size ≤ W1.heap.size := B1.out.size
            clear hO hrel
            rw [show (q : Int) - 1 - (q : Int) = -1 by omega]
            go_wp2
            go_ret2
            exact ⟨_, rfl, own_base O7.out S7, B7.out⟩
      · go_upto_region 8 with fail
        have dA : (wr.alloc (.cells #[] 3)).cell? ⟨gs, q, none⟩ = some (.int .i64 (A : Int)) := (BE.out.cell (World.block_lt_of_cell? _ _ d0)).trans d0
        have eq1 : ((q : Int) + 1 - 1) = (q : Int) := by omega
        have hAc : A ≤ cap := by omega
        have SZ : Hid (∀ j, j < q + 1 → wr.cell? ⟨gs, j, none⟩ = some (.int .i64 (lnt n j : Int))) := fun j hj => by
          have := World.ownsRow.cellAt O1.out j (by omega)
          rw [ils_get hj] at this
          exact this
        have gslt : gs < wr.heap.size := World.block_lt_of_cell? _ _ d0
        go_wp2_with (first | (at_builtin; refine wpList_appo rfl _ _ rfl wr.heap.size B _ _ _ _ _ _ rfl rfl OE.out OC.out (by omega) BE.out.size ?_))
        intro v2 w2 ho2 hg2
        have O2 : Hid (w2.ownsRow wr.heap.size 3 1 v2 A (ils xs A)) := ho2
        have B2 : Hid (Below wr.heap.size wr w2) := grown_below BE.out (Nat.le_refl _) OE.out hg2
        clear ho2 hg2 OE OC BE dA O1 d0
        go_wp2
        generalize wr = W1 at *
        go_loopw [10, 11] (fun o i W_ => ∃ t : Nat, i = .int .i64 ((q : Int) - 1 - (t : Int)) ∧ t ≤ q ∧ Hid (W_.ownsRow W1.heap.size 3 1 o (lnt n (q - t)) (ils (lw kind n q xs t) (lnt n (q - t))) ∧ Below W1.heap.size W1 W_)) (fun _ i _ => (intOf i + 1).toNat)
        case atStart => exact ⟨0, by simp; omega, by omega, by rw [Nat.sub_zero, HA.out]; exact O2.out, B2.out⟩
        case round =>
          obtain ⟨t, rfl, ht, hrel⟩ := hrel
          by_cases htq : t < q
          · obtain ⟨i, hi0⟩ : ∃ i : Nat, (q : Int) - 1 - (t : Int) = (i : Int) := ⟨q - 1 - t, by omega⟩
            have hi1 : q - t = i + 1 := by omega
            have hi2 : q - (t + 1) = i := by omega
            have hi3 : q - 1 - t = i := by omega
            have hiq : i < q := by omega
            have HI : Hid ((q : Int) - 1 - (t : Int) = (i : Int)) := hi0
            rw [hi0]
            have hO := hrel.out.1
            rw [hi1] at hO
            have c1 : wr.cell? ⟨gs, i + 1, none⟩ = some (.int .i64 (lnt n (i + 1) : Int)) := (hrel.out.2.cell (p := ⟨gs, i + 1, none⟩) gslt).trans (SZ.out (i + 1) (by omega))
            have c2 : wr.cell? ⟨gs, i, none⟩ = some (.int .i64 (lnt n i : Int)) := (hrel.out.2.cell (p := ⟨gs, i, none⟩) gslt).trans (SZ.out i (by omega))
            have hs1 := A1.out i hiq
            have hs2 := lnt_le n i
            have hae : lnt n (i + 1) = (lnt n i + 1) / 2 := rfl
            have hlb := lw_bound (kind := kind) HG.out.x A1.out (Nat.le_of_lt htq) (by omega)
            rw [hi1] at hlb
            have HLW : Hid (ils (bck kind (lnt n (i + 1)) (lnt n i - lnt n (i + 1)) (lw kind n q xs t) (fun j => xs (lnt n (i + 1) + j))) (lnt n i) = ils (lw kind n q xs (t + 1)) (lnt n (q - (t + 1)))) := by
              rw [hi2]
              show _ = ils (bck kind (lnt n (q - t)) (lnt n (q - 1 - t) - lnt n (q - t)) (lw kind n q xs t) (fun i => xs (lnt n (q - t) + i))) _
              rw [hi1, hi3]
            have HLE : Hid (lnt n (q - (t + 1)) = lnt n i) := by show lnt n (q - (t + 1)) = lnt n i; rw [hi2]
            have HVr := ((il_of_own HV1.out).below hrel.out.2).below (Below.refl _ _).drew
            have HLr := (il_of_own hO).below (Below.refl wr.heap.size wr).drew
            have BW : Hid (Below W1.heap.size W1 wr) := hrel.out.2
            clear hrel
            obtain ⟨b, hb⟩ := own_some' HV1.out (by omega)
            rw [hb] at HVr
            obtain ⟨la, lc, hu10, hlc, _⟩ := il_of_own hO
            subst hu10
            clear hO
            generalize lnt n (i + 1) = a at c1 hae hlb HLW HLr hlc
            generalize lnt n i = s at c2 hae hs1 hs2 HLW HLE
            have hac : a ≤ s := by omega
            have hba : s - a ≤ a := by omega
            have hab : a ≤ s - a + 1 := by omega
            have hasum : a + (s - a) ≤ 1048576 := by omega
            clear hae
            have i5 := sBack_any HG.out.k HLr (il_hi (il_lo HVr hs2) (p := a) hac) hba hab hasum (M := 1000000000000000) (by omega) (by omega) hlb (fun j hj => by have := HG.out.x (a + j) (by omega); show -1000000000000000 ≤ xs (a + j) ∧ xs (a + j) ≤ 1000000000000000; omega)
            simp only [Nat.zero_add] at i5
            rw [hb]
            have l0 : wr.drew.cell? ⟨gs, i + 1, none⟩ = some (.int .i64 (a : Int)) ∧ wr.drew.cell? ⟨gs, i, none⟩ = some (.int .i64 (s : Int)) := ⟨c1, c2⟩
            have hsc : s ≤ cap := by omega
            clear HVr HLr hlb
            go_upto_region 12 with fail
            refine wp_region_any (by kernel_rfl) ?_
            change wpAny _ _ _ _ _ _ _ (World.drew _)
            refine wpI_any (I := fun X => X.cell? ⟨gs, i + 1, none⟩ = some (.int .i64 (a : Int)) ∧ X.cell? ⟨gs, i, none⟩ = some (.int .i64 (s : Int))) _ _ _ _ ?_
            refine wpI_take (i := 0) (v := ?_) rfl (by kernel_rfl) (by kernel_rfl) (by kernel_rfl) (fun _ _ _ h => h) ⟨by rfl, ?_⟩ ?_
            rotate_left
            · intro X hI; go_simp; try go_bits
              try rw [if_pos (by omega)]
              try with_reducible rfl
            refine wpI_take (i := 1) (v := ?_) rfl (by kernel_rfl) (by kernel_rfl) (by kernel_rfl) (fun _ _ _ h => h) ⟨by rfl, ?_⟩ ?_
            rotate_left
            · intro X hI; go_simp; try go_bits
              try rw [if_pos (by omega)]
              try with_reducible rfl
            refine wpI_take (i := 2) (v := ?_) rfl (by kernel_rfl) (by kernel_rfl) (by kernel_rfl) (fun _ _ _ h => h) ⟨by rfl, ?_⟩ ?_
            rotate_left
            · intro X hI; go_simp; try go_bits
              try rw [if_pos (by omega)]
              try with_reducible rfl
            refine wpI_take (i := 3) (v := ?_) rfl (by kernel_rfl) (by kernel_rfl) (by kernel_rfl) (fun _ _ _ h => h) ⟨by rfl, ?_⟩ ?_
            rotate_left
            · intro X hI; go_simp; try go_bits
              try rw [if_pos (by omega)]
              try with_reducible rfl
            refine wpI_take (i := 4) (v := ?_) rfl (by kernel_rfl) (by kernel_rfl) (by kernel_rfl) (fun _ _ _ h => h) ⟨by rfl, ?_⟩ ?_
            rotate_left
            · intro X hI; go_simp; try go_bits
              try rw [if_pos (by omega)]
              try with_reducible rfl
            refine wpI_take (i := 5) (v := ?_) rfl (by kernel_rfl) (by kernel_rfl) (by kernel_rfl) (fun _ _ _ h => h) ⟨by rfl, ?_⟩ ?_
            rotate_left
            · intro X hI; go_simp; try go_bits
              try rw [if_pos (by omega)]
              try with_reducible rfl
            refine wpI_take (i := 6) (v := ?_) rfl (by kernel_rfl) (by kernel_rfl) (by kernel_rfl) (fun _ _ _ h => h) ⟨by rfl, ?_⟩ ?_
            rotate_left
            · intro X hI; go_simp; try go_bits
              try rw [if_pos (by omega)]
              try with_reducible rfl
            refine wpI_take (i := 7) (v := ?_) rfl (by kernel_rfl) (by kernel_rfl) (by kernel_rfl) (fun _ _ _ h => h) ⟨by rfl, ?_⟩ ?_
            rotate_left
            · intro X hI; obtain ⟨q1, q2⟩ := hI; go_simp; try go_bits
              try rw [if_pos (by omega)]
              try with_reducible rfl
            refine wpI_take (i := 8) (v := ?_) rfl (by kernel_rfl) (by kernel_rfl) (by kernel_rfl) (fun _ _ _ h => h) ⟨by rfl, ?_⟩ ?_
            rotate_left
            · intro X hI; go_simp; try go_bits
              try rw [if_pos (by omega)]
              try with_reducible rfl
            refine wpI_take (i := 9) (v := ?_) rfl (by kernel_rfl) (by kernel_rfl) (by kernel_rfl) (fun _ _ _ h => h) ⟨by rfl, ?_⟩ ?_
            rotate_left
            · intro X hI; go_simp; try go_bits
              try rw [if_pos (by omega)]
              try with_reducible rfl
            refine wpI_take (i := 10) (v := ?_) rfl (by kernel_rfl) (by kernel_rfl) (by kernel_rfl) (fun _ _ _ h => h) ⟨by rfl, ?_⟩ ?_
            rotate_left
            · intro X hI; go_simp; try go_bits
              try rw [if_pos (by omega)]
              try with_reducible rfl
            refine wpI_take (i := 11) (v := ?_) rfl (by kernel_rfl) (by kernel_rfl) (by kernel_rfl) (fun _ _ _ h => h) ⟨by rfl, ?_⟩ ?_
            rotate_left
            · intro X hI; obtain ⟨q1, q2⟩ := hI; go_simp; try go_bits
              try rw [if_pos (by omega)]
              try with_reducible rfl
            refine wpI_take (i := 12) (v := ?_) rfl (by kernel_rfl) (by kernel_rfl) (by kernel_rfl) (fun _ _ _ h => h) ⟨by rfl, ?_⟩ ?_
            rotate_left
            · intro X hI; go_simp; try go_bits
              try rw [if_pos (by omega)]
              try with_reducible rfl
            refine wpI_only (i := 13) rfl (by kernel_rfl) l0 (by rfl) ?_
            intro K hK
            go_simp
            generalize (if cap = a then some (⟨b, 0, none⟩ : Addr) else some ⟨b, a, none⟩) = hvv at i5 ⊢
            go_wp2_with (go_at_call 34; (with_reducible refine i5.mono ?_); rintro e X1 ⟨u, rfl, ho, hb1⟩; have hb2 : Below wr.heap.size wr X1 := (Below.refl _ _).drew.trans hb1; have l1 : X1.cell? ⟨gs, i + 1, none⟩ = some (.int .i64 (a : Int)) ∧ X1.cell? ⟨gs, i, none⟩ = some (.int .i64 (s : Int)) := ⟨(hb2.cell (World.block_lt_of_cell? _ _ c1)).trans c1, (hb2.cell (World.block_lt_of_cell? _ _ c2)).trans c2⟩; rw [show a + (s - a) = s by omega, HLW.out] at ho; have O6 : Hid (X1.ownsRow W1.heap.size 3 1 u (lnt n (q - (t + 1))) (ils (lw kind n q xs (t + 1)) (lnt n (q - (t + 1))))) := (by show World.ownsRow _ _ 3 1 u (lnt n (q - (t + 1))) (ils (lw kind n q xs (t + 1)) (lnt n (q - (t + 1)))); have h9 := own_base ho BW.out.size; rw [HLE.out] at h9 ⊢; exact h9); have B6 : Hid (Below W1.heap.size W1 X1) := bstep BW.out hb2; clear ho hb1 hb2)
            refine wpI_only (i := 14) rfl (by kernel_rfl) l1 (by rfl) ?_
            intro K hK
            go_simp
            try go_bits
            refine hK _ _ ?_
            refine wpI_done l1 (by kernel_rfl) ?_ _
            clear l0 l1 i5 c1 c2
            go_wp2
            go_roundw
            case rel => exact ⟨t + 1, by have := HI.out; simp; omega, by omega, O6.out, B6.out⟩
            case measure => simp [intOf]
          · obtain rfl : q = t := by omega
            have hO := hrel.out.1
            rw [Nat.sub_self, show lnt n 0 = n from rfl] at hO
            have O7 : Hid (wr.ownsRow W1.heap.size 3 1 u10 n (ils (lw kind n q xs q) n)) := hO
            have B7 : Hid (Below w.heap.size w wr) := bstep B1.out hrel.out.2
            have S7 : w.heap.size ≤ W1.heap.size := B1.out.size
            clear hO hrel
            rw [show (q : Int) - 1 - (q : Int) = -1 by omega]
            go_wp2
            go_ret2
            exact ⟨_, rfl, own_base O7.out S7, B7.out⟩
end Go.Proofs.Ytbcjbighipeafaa
