/- A row transformed by halves: the program. -/
import Derived.Test.YtabdondefoldaaaDoorL1
import Derived.BigRegion
import Derived.Test.YtabdondefoldaaaDoorI1
import Derived.Test.YtabdondefoldaaaDoorP1
namespace Go.Proofs.YtabdondefoldaaaDoor
open Go.RowKit

theorem half_facts2 {n m r : Nat} (hm : m ≤ 8) (hn : n = 2 ^ m) (hr : r < m) : (∀ t, t < n → t % (2 * (n / 2 ^ (r + 1))) < n / 2 ^ (r + 1) → t + n / 2 ^ (r + 1) < n) ∧ (∀ t, t < n → t % (n / 2 ^ (r + 1)) * 2 ^ r < n / 2) := by
  subst hn
  have : m = 1 ∨ m = 2 ∨ m = 3 ∨ m = 4 ∨ m = 5 ∨ m = 6 ∨ m = 7 ∨ m = 8 := by omega
  rcases this with rfl | rfl | rfl | rfl | rfl | rfl | rfl | rfl
  all_goals
    have : r = 0 ∨ r = 1 ∨ r = 2 ∨ r = 3 ∨ r = 4 ∨ r = 5 ∨ r = 6 ∨ r = 7 := by omega
    rcases this with rfl | rfl | rfl | rfl | rfl | rfl | rfl | rfl <;> first | omega | (refine ⟨?_, ?_⟩ <;> simp only [Nat.reducePow, Nat.reduceDiv, Nat.reduceAdd, Nat.reduceMul] <;> omega)

theorem Only.drew {g : Nat} {w w' : World} (h : Only g w w') : Only g w w'.drew := ⟨h.os, h.tape, h.output, h.size, h.block⟩

theorem own_drew {w : World} {B s n : Nat} {e : TypeId} {v : Value} {xs : List Value} (h : w.ownsRow B e s v n xs) : w.drew.ownsRow B e s v n xs := h

theorem w64 {n : Int} (h0 : -9223372036854775808 ≤ n) (h1 : n ≤ 9223372036854775807) : wrap64 n = n := by unfold wrap64; omega

theorem shr_half {n m r : Nat} (_ : m ≤ 8) (_ : n = 2 ^ m) (_ : r < m) : (n : Int) / 2 ^ (r + 1) = ((n / 2 ^ (r + 1) : Nat) : Int) := by
  rw [Int.natCast_ediv, Int.natCast_pow]
  rfl

set_option maxHeartbeats 4000000 in
theorem trf_any {w : World} {B g n cap m : Nat} {RV : Value} {f : Nat → Int} {mf : Int → Int → Nat → Int × Int} (Inv : Nat → Int → Prop) (hm : m ≤ 8) (hn : n = 2 ^ m)
    (hL : ∀ W, Calls Tryd.prog 31 #[.int .u64 n] W fun e w' => e = .returned (.int .i64 (m + 1)) ∧ w' = W)
    (hrow : w.ownsRow B 3 1 (.slice (some ⟨g, 0, none⟩) n cap) n (ils f n)) (h0 : ∀ t, t < n → Inv 0 (f t))
    (HM : ∀ W, Only g w W → ∀ (r : Nat) (a b : Int) (t : Nat), r < m → t < n / 2 → Inv r a → Inv r b → Calls Tryd.prog 29 #[RV, .int .i64 a, .int .i64 b, .int .i64 t] W fun e w' => e = .returned (.tuple #[.int .i64 (mf a b t).1, .int .i64 (mf a b t).2]) ∧ w' = W)
    (hmf : ∀ (r : Nat) (a b : Int) (t : Nat), r < m → t < n / 2 → Inv r a → Inv r b → Inv (r + 1) (mf a b t).1 ∧ Inv (r + 1) (mf a b t).2) :
    Calls Tryd.prog 28 #[.slice (some ⟨g, 0, none⟩) n cap, .func (.func 29) #[RV] #[]] w fun e w' => e = .returned (.tuple #[]) ∧ w'.ownsRow B 3 1 (.slice (some ⟨g, 0, none⟩) n cap) n (ils (trf mf n f m) n) ∧ Only g w w' := by
  have hn256 : 1 ≤ n ∧ n ≤ 256 := by
    rw [hn]
    exact ⟨Nat.one_le_two_pow, by calc 2 ^ m ≤ 2 ^ 8 := Nat.pow_le_pow_right (by omega) hm
      _ = 256 := rfl⟩
  have HF : Hid (∀ r, r < m → Hlf (n / 2 ^ (r + 1)) ∧ (∀ t, t < n → pidx (n / 2 ^ (r + 1)) t < n / 2) ∧ (∀ k, k < n / 2 → pat (n / 2 ^ (r + 1)) k + n / 2 ^ (r + 1) < n ∧ k % (n / 2 ^ (r + 1)) * 2 ^ r < n / 2)) := fun r hr => half_facts hm hn hr
  have HH : Hid _ := HM
  have HG : Hid _ := hmf
  have HR : Hid (w.ownsRow B 3 1 (.slice (some ⟨g, 0, none⟩) n cap) n (ils f n)) := hrow
  have H0 : Hid (∀ t, t < n → Inv 0 (f t)) := h0
  have HN : Hid (n = 2 ^ m) := hn
  clear HM hmf hrow h0 hn
  go_enter Tryd.func28, Tryd.ntmps28
  go_wp2_with (go_at_call 31; refine (hL _).mono ?_; rintro e w' ⟨rfl, hw⟩; obtain rfl := hw.symm)
  go_loopw [4, 5, 6, 7, 13] (fun _ _ _ _ rv wr => ∃ r : Nat, rv = .int .i64 r ∧ r ≤ m ∧ Hid (wr.ownsRow B 3 1 (.slice (some ⟨g, 0, none⟩) n cap) n (ils (trf mf n f r) n) ∧ Only g w wr ∧ ∀ t, t < n → Inv r (trf mf n f r t))) (fun _ _ _ _ rv _ => m - (intOf rv).toNat)
  case atStart => exact ⟨0, rfl, by omega, HR.out, Only.refl _ _, H0.out⟩
  case round =>
    obtain ⟨r, rfl, hr, hrel⟩ := hrel
    have hrel_ := hrel
    by_cases h1 : r < m
    · obtain ⟨hHlf, hP, hA⟩ := HF.out r h1
      obtain ⟨h, hh⟩ : ∃ h, h = n / 2 ^ (r + 1) := ⟨_, rfl⟩
      have eh : (n : Int) / 2 ^ (r + 1) = (h : Int) := by rw [hh]; exact shr_half hm HN.out h1
      obtain ⟨c, hc⟩ : ∃ c, c = n / 2 := ⟨_, rfl⟩
      have ec : (n : Int) / 2 = (c : Int) := by rw [hc]; omega
      rw [← hh, ← hc] at hP hA
      rw [← hh] at hHlf
      have hh0 : 1 ≤ h ∧ h ≤ 128 := by rcases hHlf with h | h | h | h | h | h | h | h <;> omega
      have HX : Hid (Hlf h ∧ (∀ t, t < n → pidx h t < c) ∧ ∀ k, k < c → pat h k + h < n ∧ k % h * 2 ^ r < c) := ⟨hHlf, hP, hA⟩
      have HHH : Hid (h = n / 2 ^ (r + 1)) := hh
      have HC2 : Hid (c = n / 2) := hc
      clear hHlf hP hA hh hc
      go_wp2
      clear eh ec
      go_loopw [6, 7, 24] (fun _ _ kv wr2 => ∃ k : Nat, kv = .int .i64 k ∧ k ≤ c ∧ Hid (wr2.ownsRow B 3 1 (.slice (some ⟨g, 0, none⟩) n cap) n (ils (pst mf (trf mf n f r) h r k) n) ∧ Only g w wr2)) (fun _ _ kv _ => c - (intOf kv).toNat)
      case atStart => exact ⟨0, rfl, by omega, by rw [pst_zero]; exact hrel_.out.1, hrel_.out.2.1⟩
      case round =>
        obtain ⟨k, rfl, hk, hrel⟩ := hrel
        obtain ⟨hrow, hon⟩ := hrel.out
        by_cases h2 : k < c
        · obtain ⟨hHlf, hP, hA⟩ := HX.out
          obtain ⟨ha1, ha2⟩ := hA k h2
          obtain ⟨a, ea0⟩ : ∃ a, a = k % h := ⟨_, rfl⟩
          obtain ⟨q, eq0⟩ : ∃ q, q = k / h := ⟨_, rfl⟩
          obtain ⟨qh, eqh⟩ : ∃ qh, qh = q * h := ⟨_, rfl⟩
          obtain ⟨P, eP⟩ : ∃ P, P = pat h k := ⟨_, rfl⟩
          obtain ⟨Q, eQ⟩ : ∃ Q, Q = P + h := ⟨_, rfl⟩
          obtain ⟨t, et⟩ : ∃ t, t = a * 2 ^ r := ⟨_, rfl⟩
          have f1 : (k : Int) % (h : Int) = (a : Int) := by rw [ea0]; exact (Int.natCast_emod _ _).symm
          have f2 : (k : Int) / (h : Int) = (q : Int) := by rw [eq0]; exact (Int.natCast_ediv _ _).symm
          have f3 : (q : Int) * (h : Int) = (qh : Int) := by rw [eqh]; exact (Int.natCast_mul _ _).symm
          have hPa : P = a + qh * 2 := by rw [eP, ea0, eqh, eq0]; rfl
          have f4 : (a : Int) + (qh : Int) * 2 = (P : Int) := by omega
          have f5 : (P : Int) + (h : Int) = (Q : Int) := by omega
          have f6 : (a : Int) * 2 ^ r = (t : Int) := by rw [et, Int.natCast_mul, Int.natCast_pow]; rfl
          rw [← ea0, ← et] at ha2
          rw [← eP, ← eQ] at ha1
          have hcc : c ≤ 128 := by have := HC2.out; omega
          have HQ : Hid (q ≤ 256) := by show q ≤ 256; rw [eq0]; exact Nat.le_trans (Nat.div_le_self _ _) (by omega)
          have b1 : qh ≤ 256 ∧ P < n ∧ Q < n ∧ t < 128 ∧ a < h := ⟨by omega, by omega, by omega, by omega, by rw [ea0]; exact Nat.mod_lt _ (by omega)⟩
          have hPQ : P ≠ Q := by omega
          have ho := pst_old (mf := mf) (f := trf mf n f r) (r := r) (k := k) hHlf
          rw [← eP, ← eQ] at ho
          have st := pst_step (mf := mf) (f := trf mf n f r) (r := r) (k := k) hHlf
          rw [← eP, ← eQ, ← ea0, ← et] at st
          have hI := hrel_.out.2.2
          obtain ⟨X, hX⟩ : ∃ X, X = trf mf n f r P := ⟨_, rfl⟩
          obtain ⟨Y, hY⟩ : ∃ Y, Y = trf mf n f r Q := ⟨_, rfl⟩
          have iX : Inv r X := by rw [hX]; exact hI P b1.2.1
          have iY : Inv r Y := by rw [hY]; exact hI Q b1.2.2.1
          rw [← hX, ← hY] at st ho
          have hcall : Hid (∀ W, Only g w W → Calls Tryd.prog 29 #[RV, .int .i64 X, .int .i64 Y, .int .i64 t] W fun e w' => e = .returned (.tuple #[.int .i64 (mf X Y t).1, .int .i64 (mf X Y t).2]) ∧ w' = W) := fun W hW => HH.out W hW r X Y t h1 (by have := HC2.out; omega) iX iY
          obtain ⟨X2, hX2⟩ : ∃ X2, X2 = (mf X Y t).1 := ⟨_, rfl⟩
          obtain ⟨Y2, hY2⟩ : ∃ Y2, Y2 = (mf X Y t).2 := ⟨_, rfl⟩
          rw [← hX2, ← hY2] at st hcall
          have hfz1 := hrow.frozenAt P
          have hce1 := hrow.cellAt P (by omega)
          rw [ils_get b1.2.1, ho.1] at hce1
          have hfz2 := hrow.frozenAt Q
          have hce2 := hrow.cellAt Q (by omega)
          rw [ils_get b1.2.2.1, ho.2] at hce2
          have hst1 := (hrow.stored P (.int .i64 X2)).1
          rw [ils_put] at hst1
          have hce3 := hst1.cellAt Q (by omega)
          have hfz3 := hst1.frozenAt Q
          rw [ils_get b1.2.2.1, if_neg (fun e => hPQ e.symm), ho.2] at hce3
          have hst2 := (hst1.stored Q (.int .i64 Y2)).1
          rw [ils_put, st] at hst2
          have HS : Hid _ := hst2
          have HO2 : Hid _ := (hon.put P (.int .i64 X2)).put Q (.int .i64 Y2)
          have ON0 : Hid (Only g w wr) := hon
          have EE : Hid (wrap64 ((a : Int) + wrap64 (wrap64 (wrap64 (q : Int) * (h : Int)) * 2)) = (P : Int)) := by
            have hq := HQ.out
            show wrap64 ((a : Int) + wrap64 (wrap64 (wrap64 (q : Int) * (h : Int)) * 2)) = (P : Int)
            rw [w64 (n := (q : Int)) (by omega) (by omega), f3, w64 (n := (qh : Int)) (by omega) (by omega), w64 (n := (qh : Int) * 2) (by omega) (by omega), f4, w64 (n := (P : Int)) (by omega) (by omega)]
          clear hst1 hst2 st ho hrow hon hrel hX hY iX iY hI hA hP ha1 ha2 hPa eP eQ et ea0 eq0 eqh hX2 hY2 hHlf
          go_wp2
          go_region
          rw [EE.out]
          clear EE f2 f3 f4 HQ
          have hPn : P < n := b1.2.1
          have hQn : Q < n := b1.2.2.1
          have hne : ¬ (h = 0) := by omega
          have f1' : Int.tmod (k : Int) (h : Int) = (a : Int) := by rw [Int.tmod_eq_emod_of_nonneg (by omega)]; exact f1
          go_wp2
          refine wp_region_any (by kernel_rfl) ?_
          change wpAny _ _ _ _ _ _ _ (World.drew _)
          refine wpI_any (I := fun _ => True) _ _ _ _ ?_
          refine wpI_take (i := 0) (v := ?_) rfl (by kernel_rfl) (by kernel_rfl) (by kernel_rfl) (fun _ _ _ h => h) ⟨by rfl, ?_⟩ ?_
          rotate_left
          · intro X _; go_simp; with_reducible rfl
          refine wpI_take (i := 1) (v := ?_) rfl (by kernel_rfl) (by kernel_rfl) (by kernel_rfl) (fun _ _ _ h => h) ⟨by rfl, ?_⟩ ?_
          rotate_left
          · intro X _; go_simp; with_reducible rfl
          refine wpI_take (i := 2) (v := ?_) rfl (by kernel_rfl) (by kernel_rfl) (by kernel_rfl) (fun _ _ _ h => h) ⟨by rfl, ?_⟩ ?_
          rotate_left
          · intro X _; go_simp; with_reducible rfl
          refine wpI_take (i := 3) (v := ?_) rfl (by kernel_rfl) (by kernel_rfl) (by kernel_rfl) (fun _ _ _ h => h) ⟨by rfl, ?_⟩ ?_
          rotate_left
          · intro X _; go_simp; with_reducible rfl
          refine wpI_take (i := 4) (v := ?_) rfl (by kernel_rfl) (by kernel_rfl) (by kernel_rfl) (fun _ _ _ h => h) ⟨by rfl, ?_⟩ ?_
          rotate_left
          · intro X _; go_simp; with_reducible rfl
          refine wpI_take (i := 5) (v := .int .i64 (Q : Int)) rfl (by kernel_rfl) (by kernel_rfl) (by kernel_rfl) (fun _ _ _ h => h) ⟨by rfl, ?_⟩ ?_
          · intro X _; go_simp; exact iw (by omega) (by omega)
          refine wpI_take (i := 6) (v := ?_) rfl (by kernel_rfl) (by kernel_rfl) (by kernel_rfl) (fun _ _ _ h => h) ⟨by rfl, ?_⟩ ?_
          rotate_left
          · intro X _; go_simp; with_reducible rfl
          refine wpI_take (i := 7) (v := ?_) rfl (by kernel_rfl) (by kernel_rfl) (by kernel_rfl) (fun _ _ _ h => h) ⟨by rfl, ?_⟩ ?_
          rotate_left
          · intro X _; go_simp; with_reducible rfl
          refine wpI_take (i := 8) (v := ?_) rfl (by kernel_rfl) (by kernel_rfl) (by kernel_rfl) (fun _ _ _ h => h) ⟨by rfl, ?_⟩ ?_
          rotate_left
          · intro X _; go_simp; with_reducible rfl
          refine wpI_take (i := 9) (v := ?_) rfl (by kernel_rfl) (by kernel_rfl) (by kernel_rfl) (fun _ _ _ h => h) ⟨by rfl, ?_⟩ ?_
          rotate_left
          · intro X _; go_simp; with_reducible rfl
          refine wpI_take (i := 11) (v := ?_) rfl (by kernel_rfl) (by kernel_rfl) (by kernel_rfl) (fun _ _ _ h => h) ⟨by rfl, ?_⟩ ?_
          rotate_left
          · intro X _; go_simp; with_reducible rfl
          refine wpI_take (i := 12) (v := ?_) rfl (by kernel_rfl) (by kernel_rfl) (by kernel_rfl) (fun _ _ _ h => h) ⟨by rfl, ?_⟩ ?_
          rotate_left
          · intro X _; go_simp; with_reducible rfl
          refine wpI_take (i := 13) (v := ?_) rfl (by kernel_rfl) (by kernel_rfl) (by kernel_rfl) (fun _ _ _ h => h) ⟨by rfl, ?_⟩ ?_
          rotate_left
          · intro X _; go_simp; with_reducible rfl
          refine wpI_take (i := 14) (v := .int .i64 (Q : Int)) rfl (by kernel_rfl) (by kernel_rfl) (by kernel_rfl) (fun _ _ _ h => h) ⟨by rfl, ?_⟩ ?_
          · intro X _; go_simp; exact iw (by omega) (by omega)
          refine wpI_take (i := 15) (v := ?_) rfl (by kernel_rfl) (by kernel_rfl) (by kernel_rfl) (fun _ _ _ h => h) ⟨by rfl, ?_⟩ ?_
          rotate_left
          · intro X _; go_simp; with_reducible rfl
          refine wpI_take (i := 17) (v := ?_) rfl (by kernel_rfl) (by kernel_rfl) (by kernel_rfl) (fun _ _ _ h => h) ⟨by rfl, ?_⟩ ?_
          rotate_left
          · intro X _; go_simp; with_reducible rfl
          refine wpI_take (i := 18) (v := ?_) rfl (by kernel_rfl) (by kernel_rfl) (by kernel_rfl) (fun _ _ _ h => h) ⟨by rfl, ?_⟩ ?_
          rotate_left
          · intro X _; go_simp; with_reducible rfl
          refine wpI_take (i := 19) (v := .int .i64 (a : Int)) rfl (by kernel_rfl) (by kernel_rfl) (by kernel_rfl) (fun _ _ _ h => h) ⟨by rfl, ?_⟩ ?_
          · intro X _; go_simp
          refine wpI_take (i := 20) (v := ?_) rfl (by kernel_rfl) (by kernel_rfl) (by kernel_rfl) (fun _ _ _ h => h) ⟨by rfl, ?_⟩ ?_
          rotate_left
          · intro X _; go_simp; with_reducible rfl
          refine wpI_take (i := 21) (v := .int .i64 (t : Int)) rfl (by kernel_rfl) (by kernel_rfl) (by kernel_rfl) (fun _ _ _ h => h) ⟨by rfl, ?_⟩ ?_
          · intro X _; go_simp; exact iw (by omega) (by omega)
          refine wpI_two (i := 10) (j := 16) rfl rfl (by kernel_rfl) trivial (by rfl) (by rfl) ?_ ?_
          · intro K hK
            go_simp
            refine hK _ _ ?_
            refine wpI_only (i := 16) rfl (by kernel_rfl) trivial (by rfl) ?_
            intro K hK
            go_simp
            refine hK _ _ ?_
            refine wpI_only (i := 22) rfl (by kernel_rfl) trivial (by rfl) ?_
            intro K hK
            go_simp
            go_wp2_with (go_at_call 29; refine (hcall.out _ (by first | exact ON0.out.drew.drew | exact ON0.out.drew)).mono ?_; rintro e w' ⟨rfl, hw⟩; obtain rfl := hw.symm)
            refine wpI_take (i := 23) (v := ?_) rfl (by kernel_rfl) (by kernel_rfl) (by kernel_rfl) (fun _ _ _ h => h) ⟨by rfl, ?_⟩ ?_
            rotate_left
            · intro X _; go_simp; with_reducible rfl
            refine wpI_take (i := 24) (v := ?_) rfl (by kernel_rfl) (by kernel_rfl) (by kernel_rfl) (fun _ _ _ h => h) ⟨by rfl, ?_⟩ ?_
            rotate_left
            · intro X _; go_simp; with_reducible rfl
            refine wpI_take (i := 25) (v := ?_) rfl (by kernel_rfl) (by kernel_rfl) (by kernel_rfl) (fun _ _ _ h => h) ⟨by rfl, ?_⟩ ?_
            rotate_left
            · intro X _; go_simp; with_reducible rfl
            refine wpI_take (i := 26) (v := ?_) rfl (by kernel_rfl) (by kernel_rfl) (by kernel_rfl) (fun _ _ _ h => h) ⟨by rfl, ?_⟩ ?_
            rotate_left
            · intro X _; go_simp; with_reducible rfl
            refine wpI_only (i := 27) rfl (by kernel_rfl) trivial (by rfl) ?_
            intro K hK
            go_simp
            refine hK _ _ ?_
            refine wpI_take (i := 28) (v := ?_) rfl (by kernel_rfl) (by kernel_rfl) (by kernel_rfl) (fun _ _ _ h => h) ⟨by rfl, ?_⟩ ?_
            rotate_left
            · intro X _; go_simp; with_reducible rfl
            refine wpI_only (i := 29) rfl (by kernel_rfl) trivial (by rfl) ?_
            intro K hK
            go_simp
            refine hK _ _ ?_
            refine wpI_done trivial (by kernel_rfl) ?_ _
            go_wp2
            go_roundw
            case rel => exact ⟨k + 1, by go_num, by omega, HS.out, ⟨HO2.out.os, HO2.out.tape, HO2.out.output, HO2.out.size, HO2.out.block⟩⟩
            case measure => simp [intOf]; omega
          · intro K hK
            go_simp
            refine hK _ _ ?_
            refine wpI_only (i := 10) rfl (by kernel_rfl) trivial (by rfl) ?_
            intro K hK
            go_simp
            refine hK _ _ ?_
            refine wpI_only (i := 22) rfl (by kernel_rfl) trivial (by rfl) ?_
            intro K hK
            go_simp
            go_wp2_with (go_at_call 29; refine (hcall.out _ (by first | exact ON0.out.drew.drew | exact ON0.out.drew)).mono ?_; rintro e w' ⟨rfl, hw⟩; obtain rfl := hw.symm)
            refine wpI_take (i := 23) (v := ?_) rfl (by kernel_rfl) (by kernel_rfl) (by kernel_rfl) (fun _ _ _ h => h) ⟨by rfl, ?_⟩ ?_
            rotate_left
            · intro X _; go_simp; with_reducible rfl
            refine wpI_take (i := 24) (v := ?_) rfl (by kernel_rfl) (by kernel_rfl) (by kernel_rfl) (fun _ _ _ h => h) ⟨by rfl, ?_⟩ ?_
            rotate_left
            · intro X _; go_simp; with_reducible rfl
            refine wpI_take (i := 25) (v := ?_) rfl (by kernel_rfl) (by kernel_rfl) (by kernel_rfl) (fun _ _ _ h => h) ⟨by rfl, ?_⟩ ?_
            rotate_left
            · intro X _; go_simp; with_reducible rfl
            refine wpI_take (i := 26) (v := ?_) rfl (by kernel_rfl) (by kernel_rfl) (by kernel_rfl) (fun _ _ _ h => h) ⟨by rfl, ?_⟩ ?_
            rotate_left
            · intro X _; go_simp; with_reducible rfl
            refine wpI_only (i := 27) rfl (by kernel_rfl) trivial (by rfl) ?_
            intro K hK
            go_simp
            refine hK _ _ ?_
            refine wpI_take (i := 28) (v := ?_) rfl (by kernel_rfl) (by kernel_rfl) (by kernel_rfl) (fun _ _ _ h => h) ⟨by rfl, ?_⟩ ?_
            rotate_left
            · intro X _; go_simp; with_reducible rfl
            refine wpI_only (i := 29) rfl (by kernel_rfl) trivial (by rfl) ?_
            intro K hK
            go_simp
            refine hK _ _ ?_
            refine wpI_done trivial (by kernel_rfl) ?_ _
            go_wp2
            go_roundw
            case rel => exact ⟨k + 1, by go_num, by omega, HS.out, ⟨HO2.out.os, HO2.out.tape, HO2.out.output, HO2.out.size, HO2.out.block⟩⟩
            case measure => simp [intOf]; omega
        · obtain rfl : k = c := by omega
          have HR2 : Hid _ := hrow
          have HO2 : Hid _ := hon
          clear hrow hon hrel
          go_wp2
          go_roundw
          case rel =>
            have e1 : trf mf n f (r + 1) = nw mf (trf mf n f r) h r := by rw [HHH.out]; rfl
            have e2 : ∀ t, t < n → pst mf (trf mf n f r) h r k t = trf mf n f (r + 1) t := fun t ht => by
              rw [e1]
              unfold pst
              rw [if_pos (HX.out.2.1 t ht)]
            refine ⟨r + 1, by go_num, by omega, by rw [← ils_congr e2]; exact HR2.out, HO2.out, fun t ht => ?_⟩
            rw [e1]
            have hn2 := half_facts2 hm HN.out h1
            rw [← HHH.out, ← HC2.out] at hn2
            have hI := hrel_.out.2.2
            unfold nw
            split
            · rename_i hlt
              exact (HG.out r _ _ _ h1 (by have := hn2.2 t ht; have := HC2.out; omega) (hI t ht) (hI (t + h) (hn2.1 t ht hlt))).1
            · exact (HG.out r _ _ _ h1 (by have := hn2.2 t ht; have := HC2.out; omega) (hI (t - h) (by omega)) (hI t ht)).2
          case measure => simp [intOf]; omega
    · obtain rfl : r = m := by omega
      go_wp2
      go_end0
      exact ⟨rfl, hrel.out.1, hrel.out.2.1⟩
end Go.Proofs.YtabdondefoldaaaDoor
