/- Rates: a signal between two samples, both sides. -/
import Derived.Test.YtpgoagomhcfinaaUM
namespace Go.Proofs.Ytpgoagomhcfinaa
open Go.RowKit

set_option maxHeartbeats 1000000 in
theorem sound_any {w : World} {v : Value} {n : Nat} {xs : Nat → Int} (hv : Il w v n xs) (hn : n ≤ 1048576) {i : Int} (h : i < n) (h0 : -4000000000000000000 ≤ i) : Calls Try.prog 28 #[v, .int .i64 i] w fun e w' => e = .returned (.int .i64 (spt n xs i)) ∧ w' = w := by
  by_cases hi : 0 ≤ i
  · obtain ⟨k, rfl⟩ : ∃ k : Nat, i = (k : Int) := ⟨i.toNat, by omega⟩
    have e : xs k = spt n xs (k : Int) := by unfold spt; rw [if_pos ⟨hi, h⟩]; rfl
    obtain ⟨ao, cap, rfl, hcap, hc⟩ := hv
    obtain ⟨b, off, rfl, hlt, hcell⟩ := hc (by omega)
    have c := hcell k (by omega)
    rw [e] at c
    generalize spt n xs (k : Int) = z at c e
    clear hcell e hc
    go_enter Try.func28, Try.ntmps28
    go_wp2
    go_ret
    exact ⟨rfl, rfl⟩
  · have e : spt n xs i = 0 := by unfold spt; rw [if_neg (fun h => hi h.1)]
    rw [e]
    obtain ⟨ao, cap, rfl, hcap, hc⟩ := hv
    clear hc e
    go_enter Try.func28, Try.ntmps28
    go_wp2
    go_ret
    exact ⟨rfl, rfl⟩

theorem at_le {t den : Int} {n : Nat} (hd : 1 ≤ den) (h : t ≤ den * ((n : Int) - 1)) : t / den < n ∧ (t % den ≠ 0 → t / den + 1 < n) := by
  have e := Int.mul_ediv_add_emod t den
  have r0 := Int.emod_nonneg t (show den ≠ 0 by omega)
  have r1 := Int.emod_lt_of_pos t (show 0 < den by omega)
  have h1 : t / den ≤ (n : Int) - 1 := Int.ediv_le_of_le_mul (by omega) (by rw [Int.mul_comm]; exact h)
  refine ⟨by omega, fun h2 => ?_⟩
  by_cases h3 : t / den = (n : Int) - 1
  · rw [h3] at e
    omega
  · omega

theorem atV_zero {n : Nat} {xs : Nat → Int} {t den : Int} (h : t % den = 0) : atV n xs t den = spt n xs (t / den) := by unfold atV; rw [if_pos h]

theorem atV_more {n : Nat} {xs : Nat → Int} {t den : Int} (h : t % den ≠ 0) : atV n xs t den = rdV (spt n xs (t / den) * (den - t % den) + spt n xs (t / den + 1) * (t % den)) den := by unfold atV; rw [if_neg h]

theorem ret_i {x y : Int} {w w' : World} (h : x = y) (hw : Below w.heap.size w w') : Ending.returned (.int .i64 x) = Ending.returned (.int .i64 y) ∧ Below w.heap.size w w' := ⟨by rw [h], hw⟩

/-- The program's, where the quotient and what is left are named. -/
theorem betw_of {w : World} {v : Value} {n : Nat} {xs : Nat → Int} (hv : Il w v n xs) (hn : n ≤ 512) (hs : ∀ k, k < n → Smp (xs k)) {t den q r : Int} (ht : -1000000000 ≤ t ∧ t ≤ 1000000000) (hd : 1 ≤ den ∧ den ≤ 1000000) (hq : q = t / den) (hr : r = t % den) (hl : t ≤ den * ((n : Int) - 1)) :
    (r = 0 → ∀ W, Below w.heap.size w W → Calls Try.prog 28 #[v, .int .i64 q] W fun e w' => e = .returned (.int .i64 (atV n xs t den)) ∧ w' = W) ∧ (r ≠ 0 → ∃ A B, Smp A ∧ Smp B ∧ rdV (A * (den - r) + B * r) den = atV n xs t den ∧ ∀ W, Below w.heap.size w W → (Calls Try.prog 28 #[v, .int .i64 q] W fun e w' => e = .returned (.int .i64 A) ∧ w' = W) ∧ (Calls Try.prog 28 #[v, .int .i64 (q + 1)] W fun e w' => e = .returned (.int .i64 B) ∧ w' = W)) := by
  have hqb := ediv_bounds hd.1 ht.1 ht.2 (by decide)
  have ha := at_le hd.1 hl
  subst hq hr
  refine ⟨fun h W hW => ?_, fun h => ⟨spt n xs (t / den), spt n xs (t / den + 1), spt_smp hs _, spt_smp hs _, (atV_more h).symm, fun W hW => ⟨?_, ?_⟩⟩⟩
  · rw [atV_zero h]
    exact sound_any (hv.below hW) (by omega) ha.1 (by omega)
  · exact sound_any (hv.below hW) (by omega) ha.1 (by omega)
  · exact sound_any (hv.below hW) (by omega) (ha.2 h) (by omega)

set_option maxHeartbeats 4000000 in
theorem betw_any {w : World} {v : Value} {n : Nat} {xs : Nat → Int} (hv : Il w v n xs) (hn : n ≤ 512) (hs : ∀ k, k < n → Smp (xs k)) {t den : Int} (ht : -1000000000 ≤ t ∧ t ≤ 1000000000) (hd : 1 ≤ den ∧ den ≤ 1000000) (hl : t ≤ den * ((n : Int) - 1)) :
    Calls Try.prog 20 #[v, .int .i64 t, .int .i64 den] w fun e w' => e = .returned (.int .i64 (atV n xs t den)) ∧ Below w.heap.size w w' := by
  have t0 := tdiv_bounds hd.1 ht.1 ht.2 (by decide)
  have t1 := Int.tmod_lt_of_pos t (show 0 < den by omega)
  have t2 := Int.lt_tmod_of_pos t (show 0 < den by omega)
  by_cases hneg : t.tmod den < 0
  · have e := tdiv_neg hd.1 hneg
    obtain ⟨g1, g2⟩ := betw_of hv hn hs ht hd e.1 e.2 hl
    have hr0 : t.tmod den + den ≠ 0 := by omega
    obtain ⟨A, B, sA, sB, eq, g3⟩ := g2 hr0
    have p1 := mul_in (a := A) (b := den - (t.tmod den + den)) (A := 1000000000) (B := 1000000) (by omega) (by omega) (by omega)
    have p2 := mul_in (a := B) (b := t.tmod den + den) (A := 1000000000) (B := 1000000) (by omega) (by omega) (by omega)
    have i3 := iRound_any (A * (den - (t.tmod den + den)) + B * (t.tmod den + den)) den
    rw [eq] at i3
    have G3 : Hid (∀ W, Below w.heap.size w W → (Calls Try.prog 28 #[v, .int .i64 (t.tdiv den - 1)] W fun e w' => e = .returned (.int .i64 A) ∧ w' = W) ∧ (Calls Try.prog 28 #[v, .int .i64 (t.tdiv den - 1 + 1)] W fun e w' => e = .returned (.int .i64 B) ∧ w' = W)) := g3
    have G4 : Hid (∀ W, Below w.heap.size w W → Calls Try.prog 28 #[v, .int .i64 (t.tdiv den)] W fun e w' => e = .returned (.int .i64 B) ∧ w' = W) := fun W hW => (by have := (g3 W hW).2; rwa [Int.sub_add_cancel] at this)
    generalize atV n xs t den = Z at i3 eq ⊢
    clear g1 g2 g3 eq e
    obtain ⟨ao, cap, rfl, hcap, hc⟩ := hv
    clear hc
    go_enter Try.func20, Try.ntmps20
    go_wp2_with (first
      | (go_at_call 28; (with_reducible refine ((G3.out _ (by first | exact Below.refl _ _ | exact below_drewN (Below.refl _ _) _)).1).mono ?_); rintro e w' ⟨rfl, hw⟩; obtain rfl := hw.symm)
      | (go_at_call 28; (with_reducible refine ((G3.out _ (by first | exact Below.refl _ _ | exact below_drewN (Below.refl _ _) _)).2).mono ?_); rintro e w' ⟨rfl, hw⟩; obtain rfl := hw.symm)
      | (go_at_call 28; (with_reducible refine (G4.out _ (by first | exact Below.refl _ _ | exact below_drewN (Below.refl _ _) _)).mono ?_); rintro e w' ⟨rfl, hw⟩; obtain rfl := hw.symm)
      | (go_at_call 29; (with_reducible refine (i3 _).mono ?_); rintro e w' ⟨rfl, hb⟩; have HB : Hid (Below w.heap.size w w') := bstep (below_drewN (Below.refl _ _) _) hb; clear hb)
      | go_quiet (fail))
    go_ret
    exact ⟨rfl, HB.out⟩
  · have e := tdiv_pos hd.1 hneg
    obtain ⟨g1, g2⟩ := betw_of hv hn hs ht hd e.1 e.2 hl
    by_cases hr0 : t.tmod den = 0
    · have G1 : Hid (∀ W, Below w.heap.size w W → Calls Try.prog 28 #[v, .int .i64 (t.tdiv den)] W fun e w' => e = .returned (.int .i64 (atV n xs t den)) ∧ w' = W) := g1 hr0
      generalize atV n xs t den = Z at G1 ⊢
      clear g1 g2 e
      obtain ⟨ao, cap, rfl, hcap, hc⟩ := hv
      clear hc
      go_enter Try.func20, Try.ntmps20
      go_wp2_with (first
        | (go_at_call 28; (with_reducible refine (G1.out _ (by first | exact Below.refl _ _ | exact below_drewN (Below.refl _ _) _)).mono ?_); rintro e w' ⟨rfl, hw⟩; obtain rfl := hw.symm)
        | go_quiet (fail))
      go_ret
      exact ⟨rfl, below_drewN (Below.refl _ _) _⟩
    · obtain ⟨A, B, sA, sB, eq, g3⟩ := g2 hr0
      have p1 := mul_in (a := A) (b := den - t.tmod den) (A := 1000000000) (B := 1000000) (by omega) (by omega) (by omega)
      have p2 := mul_in (a := B) (b := t.tmod den) (A := 1000000000) (B := 1000000) (by omega) (by omega) (by omega)
      have i3 := iRound_any (A * (den - t.tmod den) + B * t.tmod den) den
      rw [eq] at i3
      have G3 : Hid (∀ W, Below w.heap.size w W → (Calls Try.prog 28 #[v, .int .i64 (t.tdiv den)] W fun e w' => e = .returned (.int .i64 A) ∧ w' = W) ∧ (Calls Try.prog 28 #[v, .int .i64 (t.tdiv den + 1)] W fun e w' => e = .returned (.int .i64 B) ∧ w' = W)) := g3
      generalize atV n xs t den = Z at i3 eq ⊢
      clear g1 g2 g3 eq e
      obtain ⟨ao, cap, rfl, hcap, hc⟩ := hv
      clear hc
      go_enter Try.func20, Try.ntmps20
      go_wp2_with (first
        | (go_at_call 28; (with_reducible refine ((G3.out _ (by first | exact Below.refl _ _ | exact below_drewN (Below.refl _ _) _)).1).mono ?_); rintro e w' ⟨rfl, hw⟩; obtain rfl := hw.symm)
        | (go_at_call 28; (with_reducible refine ((G3.out _ (by first | exact Below.refl _ _ | exact below_drewN (Below.refl _ _) _)).2).mono ?_); rintro e w' ⟨rfl, hw⟩; obtain rfl := hw.symm)
        | (go_at_call 29; (with_reducible refine (i3 _).mono ?_); rintro e w' ⟨rfl, hb⟩; have HB : Hid (Below w.heap.size w w') := bstep (below_drewN (Below.refl _ _) _) hb; clear hb)
        | go_quiet (fail))
      go_ret
      exact ⟨rfl, HB.out⟩

end Go.Proofs.Ytpgoagomhcfinaa
