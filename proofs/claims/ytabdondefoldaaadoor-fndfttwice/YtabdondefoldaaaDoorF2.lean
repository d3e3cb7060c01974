/- The unit's powers. -/
import Derived.Test.YtabdondefoldaaaDoorF1
namespace Go.Proofs.YtabdondefoldaaaDoor
open Go.RowKit

/-- The share. -/
def dS (p : Int) (back : Bool) : Int := if back = true then ivV 2 p else 1
/-- The turns. -/
def trn (sh W p : Int) : Nat → Int
  | 0 => sh
  | t + 1 => trn sh W p t * W % p

theorem trn_bounds {sh W p : Int} (hp : 1 ≤ p) (hs : 0 ≤ sh ∧ sh < p) : ∀ t, 0 ≤ trn sh W p t ∧ trn sh W p t < p
  | 0 => hs
  | t + 1 => ⟨Int.emod_nonneg _ (by omega), Int.emod_lt_of_pos _ (by omega)⟩

theorem dS_bounds {p : Int} (hp : Prm p) (back : Bool) : 0 ≤ dS p back ∧ dS p back < p := by
  have := hp.bounds
  unfold dS
  split
  · exact ivV_bounds hp
  · omega

set_option maxHeartbeats 4000000 in
theorem turning_any {w : World} {n : Nat} {p : Int} {back : Bool} (hs : Prs w) (hp : Prm p) (hn : 1 ≤ n ∧ n ≤ 256) :
    Calls Tryd.prog 18 #[.int .i64 n, .int .i64 p, .bool back] w fun e w' => ∃ u, e = .returned (.agg #[.int .i64 p, .int .i64 (dS p back), u]) ∧ w'.ownsRow w.heap.size 3 1 u (n / 2) (ils (trn (dS p back) (dW n p back) p) (n / 2)) ∧ Below w.heap.size w w' := by
  obtain ⟨i0, hi, hz0, hz1, hz2⟩ := info_parts Tryd.info3
  have hpb := hp.bounds
  have i1 : Hid (∀ W, Below w.heap.size w W → Calls Tryd.prog 32 #[.int .i64 n, .int .i64 p] W fun e w' => e = .returned (.int .i64 (unV n p)) ∧ w' = W) := fun W hW => iUnit_any n p (hs.below hW)
  have i2 : Hid (∀ W, Below w.heap.size w W → Calls Tryd.prog 33 #[.int .i64 (unV n p), .int .i64 p] W fun e w' => e = .returned (.int .i64 (ivV (unV n p) p)) ∧ w' = W) := fun W hW => iInv_any _ p (hs.below hW)
  have i3 : Hid (∀ W, Below w.heap.size w W → Calls Tryd.prog 33 #[.int .i64 2, .int .i64 p] W fun e w' => e = .returned (.int .i64 (ivV 2 p)) ∧ w' = W) := fun W hW => iInv_any 2 p (hs.below hW)
  have bU := unV_bounds (n := n) hp
  have bW := dW_bounds (n := n) hp back
  have bS := dS_bounds hp back
  have HT : Hid (∀ t, 0 ≤ trn (dS p back) (dW n p back) p t ∧ trn (dS p back) (dW n p back) p t < p) := fun t => trn_bounds (by omega) bS t
  clear hs hp
  cases back
  · have e1 : dW n p false = unV n p := rfl
    have e2 : dS p false = 1 := rfl
    rw [e1, e2] at HT ⊢
    generalize unV n p = U at *
    clear i2 i3 e1 e2 bW bS
    obtain ⟨c, hc⟩ : ∃ c, c = n / 2 := ⟨_, rfl⟩
    have ec : (n : Int) / 2 = (c : Int) := by omega
    have hc2 : c ≤ 128 := by omega
    rw [← hc]
    clear hc
    have hsz0 : (w.alloc (.cells #[.int .i64 0, .int .i64 0, .slice none 0 0] 44)).heap.size = w.heap.size + 1 := by simp
    have HSZ : Hid (w.heap.size + 1 ≤ (w.alloc (.cells #[.int .i64 0, .int .i64 0, .slice none 0 0] 44)).heap.size) := Nat.le_of_eq hsz0.symm
    have HCS : Hid ((w.alloc (.cells #[.int .i64 0, .int .i64 0, .slice none 0 0] 44)).cell? ⟨w.heap.size, 0, none⟩ = some (.int .i64 0) ∧ (w.alloc (.cells #[.int .i64 0, .int .i64 0, .slice none 0 0] 44)).cell? ⟨w.heap.size, 1, none⟩ = some (.int .i64 0) ∧ (w.alloc (.cells #[.int .i64 0, .int .i64 0, .slice none 0 0] 44)).cell? ⟨w.heap.size, 2, none⟩ = some (.slice none 0 0) ∧ (w.alloc (.cells #[.int .i64 0, .int .i64 0, .slice none 0 0] 44)).frozen? ⟨w.heap.size, 0, none⟩ = false ∧ (w.alloc (.cells #[.int .i64 0, .int .i64 0, .slice none 0 0] 44)).frozen? ⟨w.heap.size, 1, none⟩ = false ∧ (w.alloc (.cells #[.int .i64 0, .int .i64 0, .slice none 0 0] 44)).frozen? ⟨w.heap.size, 2, none⟩ = false) :=
      ⟨by simp, by simp, by simp, by simp, by simp, by simp⟩
    have HO0 : Hid (((w.alloc (.cells #[.int .i64 0, .int .i64 0, .slice none 0 0] 44)).alloc (.cells #[] 3)).ownsRow (w.heap.size + 1) 3 1 (.slice (some ⟨w.heap.size + 1, 0, none⟩) 0 0) 0 []) := by
      have := own_empty (w.alloc (.cells #[.int .i64 0, .int .i64 0, .slice none 0 0] 44)) 3 1
      rw [hsz0] at this
      exact this
    have HB0 : Hid (Below (w.heap.size + 1) (w.alloc (.cells #[.int .i64 0, .int .i64 0, .slice none 0 0] 44)) ((w.alloc (.cells #[.int .i64 0, .int .i64 0, .slice none 0 0] 44)).alloc (.cells #[] 3))) := by
      have := below_one (w.alloc (.cells #[.int .i64 0, .int .i64 0, .slice none 0 0] 44)) (.cells #[] 3)
      rw [hsz0] at this
      exact this
    have HW0 : Hid (Below w.heap.size w (w.alloc (.cells #[.int .i64 0, .int .i64 0, .slice none 0 0] 44))) := below_one _ _
    clear hsz0
    go_enter Tryd.func18, Tryd.ntmps18
    go_wp2_with (go_at_call 32; refine (i1.out _ HW0.out).mono ?_; rintro e w' ⟨rfl, hw⟩; obtain rfl := hw.symm)
    go_loopw [9, 10, 24] (fun o tv kv wr => ∃ k : Nat, kv = .int .i64 k ∧ tv = .int .i64 (trn 1 U p k) ∧ k ≤ c ∧ Hid (wr.ownsRow (w.heap.size + 1) 3 1 o k (ils (trn 1 U p) k) ∧ Below (w.heap.size + 1) (w.alloc (.cells #[.int .i64 0, .int .i64 0, .slice none 0 0] 44)) wr)) (fun _ _ kv _ => c - (intOf kv).toNat)
    case atStart => exact ⟨0, rfl, rfl, by omega, HO0.out, HB0.out⟩
    case round =>
      obtain ⟨k, rfl, rfl, hk, hrel⟩ := hrel
      by_cases h1 : k < c
      · have bt := HT.out k
        have m1 := mul_lt (a := trn 1 U p k) (b := U) (p := p) bt.1 bt.2 bU.1 bU.2 hpb.2
        have e5 : trn 1 U p k * U % p = trn 1 U p (k + 1) := rfl
        obtain ⟨S, hS⟩ : ∃ S, S = trn 1 U p k := ⟨_, rfl⟩
        have hb3 := below_one wr (.cells #[.int .i64 S] 3)
        have HO3 := own_below hrel.out.1 hb3
        have HB3 : Below (w.heap.size + 1) (w.alloc (.cells #[.int .i64 0, .int .i64 0, .slice none 0 0] 44)) (wr.alloc (.cells #[.int .i64 S] 3)) := hrel.out.2.trans (hb3.mono (Nat.le_trans HSZ.out hrel.out.2.size))
        have HSS : Hid (S = trn 1 U p k) := hS
        rw [← hS] at m1 e5 ⊢
        clear hb3 hS
        go_wp2_with (at_builtin; refine wpList_append_own _ rfl _ _ 29 rfl (w.heap.size + 1) 3 i0 (.int .i64 0) 1 8 Tryd.underlying29 hi hz0 hz1 hz2 rfl (by decide) _ _ _ rfl HO3 ⟨wr.heap.size, 0, none⟩ 1 1 [.int .i64 S] rfl rfl (one_new _ _ _) (by simp [Value.oneCell']) (by unfold maxLen; omega) (by omega) (Nat.le_trans HSZ.out HB3.size) ?_)
        intro v' w4 hown' hgrow _
        have HB4 : Hid _ := grown_below HB3 HSZ.out HO3 hgrow
        rw [HSS.out, ← ils_snoc (trn 1 U p) k] at hown'
        have HO4 : Hid _ := hown'
        clear hown' hgrow HB3 HO3
        go_wp2
        go_roundw
        case rel => exact ⟨k + 1, by go_num, by first | rfl | rw [e5], by omega, HO4.out, HB4.out⟩
        case measure => simp [intOf]; omega
      · obtain rfl : k = c := by omega
        have r0 : wr.cell? ⟨w.heap.size, 0, none⟩ = some (.int .i64 0) := (hrel.out.2.cell (p := ⟨w.heap.size, 0, none⟩) (by show w.heap.size < w.heap.size + 1; omega)).trans HCS.out.1
        have r1 : wr.cell? ⟨w.heap.size, 1, none⟩ = some (.int .i64 0) := (hrel.out.2.cell (p := ⟨w.heap.size, 1, none⟩) (by show w.heap.size < w.heap.size + 1; omega)).trans HCS.out.2.1
        have r2 : wr.cell? ⟨w.heap.size, 2, none⟩ = some (.slice none 0 0) := (hrel.out.2.cell (p := ⟨w.heap.size, 2, none⟩) (by show w.heap.size < w.heap.size + 1; omega)).trans HCS.out.2.2.1
        have z0 : wr.frozen? ⟨w.heap.size, 0, none⟩ = false := (hrel.out.2.frozen (p := ⟨w.heap.size, 0, none⟩) (by show w.heap.size < w.heap.size + 1; omega)).trans HCS.out.2.2.2.1
        have z1 : wr.frozen? ⟨w.heap.size, 1, none⟩ = false := (hrel.out.2.frozen (p := ⟨w.heap.size, 1, none⟩) (by show w.heap.size < w.heap.size + 1; omega)).trans HCS.out.2.2.2.2.1
        have z2 : wr.frozen? ⟨w.heap.size, 2, none⟩ = false := (hrel.out.2.frozen (p := ⟨w.heap.size, 2, none⟩) (by show w.heap.size < w.heap.size + 1; omega)).trans HCS.out.2.2.2.2.2
        have HF : Hid (∀ s, (wr.ownsRow (w.heap.size + 1) 3 1 s k (ils (trn 1 U p) k)) → ((((wr.setCell ⟨w.heap.size, 0, none⟩ (.int .i64 p)).setCell ⟨w.heap.size, 1, none⟩ (.int .i64 1)).setCell ⟨w.heap.size, 2, none⟩ s).ownsRow w.heap.size 3 1 s k (ils (trn 1 U p) k)) ∧ Below w.heap.size w (((wr.setCell ⟨w.heap.size, 0, none⟩ (.int .i64 p)).setCell ⟨w.heap.size, 1, none⟩ (.int .i64 1)).setCell ⟨w.heap.size, 2, none⟩ s)) := by
          intro s hs
          have on := (((Only.refl w.heap.size wr).put 0 (.int .i64 p)).put 1 (.int .i64 1)).put 2 s
          refine ⟨own_base (own_only hs on (by omega)) (by omega), ?_⟩
          exact Below.only ((HW0.out).trans (hrel.out.2.mono (by omega))) on (Nat.le_refl _)
        rcases hrel.out.1.2 with ⟨h9, _⟩ | ⟨g9, cap9, cur9, h9, _⟩
        · have HH := HF.out _ hrel.out.1
          subst h9
          have HHH : Hid _ := HH
          clear HH hrel
          go_wp2
          refine bodyPost_ret (v := .agg #[.int .i64 p, .int .i64 1, .slice none 0 0]) (by simp [results, Tryd.results18, go_sem, r0, r1, r2]) rfl ⟨_, rfl, HHH.out.1, HHH.out.2⟩
        · have HH := HF.out _ hrel.out.1
          subst h9
          have HHH : Hid _ := HH
          clear HH hrel
          go_wp2
          refine bodyPost_ret (v := .agg #[.int .i64 p, .int .i64 1, .slice (some ⟨g9, 0, none⟩) k cap9]) (by simp [results, Tryd.results18, go_sem, r0, r1, r2]) rfl ⟨_, rfl, HHH.out.1, HHH.out.2⟩
  · have e1 : dW n p true = ivV (unV n p) p := rfl
    have e2 : dS p true = ivV 2 p := rfl
    rw [e1, e2] at HT ⊢
    rw [e1] at bW
    rw [e2] at bS
    clear e1 e2
    generalize ivV (unV n p) p = U at *
    generalize unV n p = U0 at *
    generalize ivV 2 p = SH at *
    obtain ⟨c, hc⟩ : ∃ c, c = n / 2 := ⟨_, rfl⟩
    have ec : (n : Int) / 2 = (c : Int) := by omega
    have hc2 : c ≤ 128 := by omega
    rw [← hc]
    clear hc
    have hsz0 : (w.alloc (.cells #[.int .i64 0, .int .i64 0, .slice none 0 0] 44)).heap.size = w.heap.size + 1 := by simp
    have HSZ : Hid (w.heap.size + 1 ≤ (w.alloc (.cells #[.int .i64 0, .int .i64 0, .slice none 0 0] 44)).heap.size) := Nat.le_of_eq hsz0.symm
    have HCS : Hid ((w.alloc (.cells #[.int .i64 0, .int .i64 0, .slice none 0 0] 44)).cell? ⟨w.heap.size, 0, none⟩ = some (.int .i64 0) ∧ (w.alloc (.cells #[.int .i64 0, .int .i64 0, .slice none 0 0] 44)).cell? ⟨w.heap.size, 1, none⟩ = some (.int .i64 0) ∧ (w.alloc (.cells #[.int .i64 0, .int .i64 0, .slice none 0 0] 44)).cell? ⟨w.heap.size, 2, none⟩ = some (.slice none 0 0) ∧ (w.alloc (.cells #[.int .i64 0, .int .i64 0, .slice none 0 0] 44)).frozen? ⟨w.heap.size, 0, none⟩ = false ∧ (w.alloc (.cells #[.int .i64 0, .int .i64 0, .slice none 0 0] 44)).frozen? ⟨w.heap.size, 1, none⟩ = false ∧ (w.alloc (.cells #[.int .i64 0, .int .i64 0, .slice none 0 0] 44)).frozen? ⟨w.heap.size, 2, none⟩ = false) :=
      ⟨by simp, by simp, by simp, by simp, by simp, by simp⟩
    have HO0 : Hid (((w.alloc (.cells #[.int .i64 0, .int .i64 0, .slice none 0 0] 44)).alloc (.cells #[] 3)).ownsRow (w.heap.size + 1) 3 1 (.slice (some ⟨w.heap.size + 1, 0, none⟩) 0 0) 0 []) := by
      have := own_empty (w.alloc (.cells #[.int .i64 0, .int .i64 0, .slice none 0 0] 44)) 3 1
      rw [hsz0] at this
      exact this
    have HB0 : Hid (Below (w.heap.size + 1) (w.alloc (.cells #[.int .i64 0, .int .i64 0, .slice none 0 0] 44)) ((w.alloc (.cells #[.int .i64 0, .int .i64 0, .slice none 0 0] 44)).alloc (.cells #[] 3))) := by
      have := below_one (w.alloc (.cells #[.int .i64 0, .int .i64 0, .slice none 0 0] 44)) (.cells #[] 3)
      rw [hsz0] at this
      exact this
    have HW0 : Hid (Below w.heap.size w (w.alloc (.cells #[.int .i64 0, .int .i64 0, .slice none 0 0] 44))) := below_one _ _
    clear hsz0
    go_enter Tryd.func18, Tryd.ntmps18
    go_wp2_with (first | (go_at_call 32; refine (i1.out _ HW0.out).mono ?_; rintro e w' ⟨rfl, hw⟩; obtain rfl := hw.symm) | (go_at_call 33; (with_reducible refine (i2.out _ HW0.out).mono ?_); rintro e w' ⟨rfl, hw⟩; obtain rfl := hw.symm) | (go_at_call 33; (with_reducible refine (i3.out _ HW0.out).mono ?_); rintro e w' ⟨rfl, hw⟩; obtain rfl := hw.symm))
    go_loopw [9, 10, 24] (fun o tv kv wr => ∃ k : Nat, kv = .int .i64 k ∧ tv = .int .i64 (trn SH U p k) ∧ k ≤ c ∧ Hid (wr.ownsRow (w.heap.size + 1) 3 1 o k (ils (trn SH U p) k) ∧ Below (w.heap.size + 1) (w.alloc (.cells #[.int .i64 0, .int .i64 0, .slice none 0 0] 44)) wr)) (fun _ _ kv _ => c - (intOf kv).toNat)
    case atStart => exact ⟨0, rfl, rfl, by omega, HO0.out, HB0.out⟩
    case round =>
      obtain ⟨k, rfl, rfl, hk, hrel⟩ := hrel
      by_cases h1 : k < c
      · have bt := HT.out k
        have m1 := mul_lt (a := trn SH U p k) (b := U) (p := p) bt.1 bt.2 bW.1 bW.2 hpb.2
        have e5 : trn SH U p k * U % p = trn SH U p (k + 1) := rfl
        obtain ⟨S, hS⟩ : ∃ S, S = trn SH U p k := ⟨_, rfl⟩
        have hb3 := below_one wr (.cells #[.int .i64 S] 3)
        have HO3 := own_below hrel.out.1 hb3
        have HB3 : Below (w.heap.size + 1) (w.alloc (.cells #[.int .i64 0, .int .i64 0, .slice none 0 0] 44)) (wr.alloc (.cells #[.int .i64 S] 3)) := hrel.out.2.trans (hb3.mono (Nat.le_trans HSZ.out hrel.out.2.size))
        have HSS : Hid (S = trn SH U p k) := hS
        rw [← hS] at m1 e5 ⊢
        clear hb3 hS
        go_wp2_with (at_builtin; refine wpList_append_own _ rfl _ _ 29 rfl (w.heap.size + 1) 3 i0 (.int .i64 0) 1 8 Tryd.underlying29 hi hz0 hz1 hz2 rfl (by decide) _ _ _ rfl HO3 ⟨wr.heap.size, 0, none⟩ 1 1 [.int .i64 S] rfl rfl (one_new _ _ _) (by simp [Value.oneCell']) (by unfold maxLen; omega) (by omega) (Nat.le_trans HSZ.out HB3.size) ?_)
        intro v' w4 hown' hgrow _
        have HB4 : Hid _ := grown_below HB3 HSZ.out HO3 hgrow
        rw [HSS.out, ← ils_snoc (trn SH U p) k] at hown'
        have HO4 : Hid _ := hown'
        clear hown' hgrow HB3 HO3
        go_wp2
        go_roundw
        case rel => exact ⟨k + 1, by go_num, by first | rfl | rw [e5], by omega, HO4.out, HB4.out⟩
        case measure => simp [intOf]; omega
      · obtain rfl : k = c := by omega
        have r0 : wr.cell? ⟨w.heap.size, 0, none⟩ = some (.int .i64 0) := (hrel.out.2.cell (p := ⟨w.heap.size, 0, none⟩) (by show w.heap.size < w.heap.size + 1; omega)).trans HCS.out.1
        have r1 : wr.cell? ⟨w.heap.size, 1, none⟩ = some (.int .i64 0) := (hrel.out.2.cell (p := ⟨w.heap.size, 1, none⟩) (by show w.heap.size < w.heap.size + 1; omega)).trans HCS.out.2.1
        have r2 : wr.cell? ⟨w.heap.size, 2, none⟩ = some (.slice none 0 0) := (hrel.out.2.cell (p := ⟨w.heap.size, 2, none⟩) (by show w.heap.size < w.heap.size + 1; omega)).trans HCS.out.2.2.1
        have z0 : wr.frozen? ⟨w.heap.size, 0, none⟩ = false := (hrel.out.2.frozen (p := ⟨w.heap.size, 0, none⟩) (by show w.heap.size < w.heap.size + 1; omega)).trans HCS.out.2.2.2.1
        have z1 : wr.frozen? ⟨w.heap.size, 1, none⟩ = false := (hrel.out.2.frozen (p := ⟨w.heap.size, 1, none⟩) (by show w.heap.size < w.heap.size + 1; omega)).trans HCS.out.2.2.2.2.1
        have z2 : wr.frozen? ⟨w.heap.size, 2, none⟩ = false := (hrel.out.2.frozen (p := ⟨w.heap.size, 2, none⟩) (by show w.heap.size < w.heap.size + 1; omega)).trans HCS.out.2.2.2.2.2
        have HF : Hid (∀ s, (wr.ownsRow (w.heap.size + 1) 3 1 s k (ils (trn SH U p) k)) → ((((wr.setCell ⟨w.heap.size, 0, none⟩ (.int .i64 p)).setCell ⟨w.heap.size, 1, none⟩ (.int .i64 SH)).setCell ⟨w.heap.size, 2, none⟩ s).ownsRow w.heap.size 3 1 s k (ils (trn SH U p) k)) ∧ Below w.heap.size w (((wr.setCell ⟨w.heap.size, 0, none⟩ (.int .i64 p)).setCell ⟨w.heap.size, 1, none⟩ (.int .i64 SH)).setCell ⟨w.heap.size, 2, none⟩ s)) := by
          intro s hs
          have on := (((Only.refl w.heap.size wr).put 0 (.int .i64 p)).put 1 (.int .i64 SH)).put 2 s
          refine ⟨own_base (own_only hs on (by omega)) (by omega), ?_⟩
          exact Below.only ((HW0.out).trans (hrel.out.2.mono (by omega))) on (Nat.le_refl _)
        rcases hrel.out.1.2 with ⟨h9, _⟩ | ⟨g9, cap9, cur9, h9, _⟩
        · have HH := HF.out _ hrel.out.1
          subst h9
          have HHH : Hid _ := HH
          clear HH hrel
          go_wp2
          refine bodyPost_ret (v := .agg #[.int .i64 p, .int .i64 SH, .slice none 0 0]) (by simp [results, Tryd.results18, go_sem, r0, r1, r2]) rfl ⟨_, rfl, HHH.out.1, HHH.out.2⟩
        · have HH := HF.out _ hrel.out.1
          subst h9
          have HHH : Hid _ := HH
          clear HH hrel
          go_wp2
          refine bodyPost_ret (v := .agg #[.int .i64 p, .int .i64 SH, .slice (some ⟨g9, 0, none⟩) k cap9]) (by simp [results, Tryd.results18, go_sem, r0, r1, r2]) rfl ⟨_, rfl, HHH.out.1, HHH.out.2⟩
end Go.Proofs.YtabdondefoldaaaDoor
