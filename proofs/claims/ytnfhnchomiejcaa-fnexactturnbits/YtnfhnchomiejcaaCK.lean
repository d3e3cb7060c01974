/- Checks, of the program. -/
import Derived.Test.YtnfhnchomiejcaaBP
import Derived.Test.YtnfhnchomiejcaaRS
import Derived.Test.YtnfhnchomiejcaaBT
namespace Go.Proofs.Ytnfhnchomiejcaa
open Go.RowKit

abbrev Chk (m : Nat) (Y : Nat → Int) (n : Int) : Prop := (2 ≤ m ∧ m ≤ 16) ∧ Plc m Y n
/-- Checks of n bits. -/
abbrev Cks (M : Nat) (ms : Nat → Nat) (X : Nat → Nat → Int) (n : Int) : Prop := ((1 ≤ n ∧ n ≤ 128) ∧ M ≤ 64) ∧ ∀ k, k < M → Chk (ms k) (X k) n

noncomputable def yb (p : Prop) : Bool := @decide p (Classical.propDecidable p)
theorem yb_yes {p : Prop} (h : p) : yb p = true := by unfold yb; exact @decide_eq_true p (Classical.propDecidable p) h
theorem yb_no {p : Prop} (h : ¬ p) : yb p = false := by unfold yb; exact @decide_eq_false p (Classical.propDecidable p) h

/-- The place ahead. -/
def ahd (Y : Nat → Int) : Nat → Int
  | 0 => -1
  | k + 1 => Y k

theorem ahd_ge {k : Nat} {Y : Nat → Int} {n : Int} (h : Plc k Y n) : -1 ≤ ahd Y k := by
  cases k with
  | zero => exact Int.le_refl _
  | succ k =>
    have := h.lim k (by omega)
    show -1 ≤ Y k
    omega

theorem plc_next {k : Nat} {Y : Nat → Int} {n : Int} (h : Plc k Y n) (h1 : ahd Y k < Y k) (h2 : Y k < n) : Plc (k + 1) Y n := by
  have hg := ahd_ge h
  refine ⟨fun j hj => ?_, fun j hj => ?_⟩
  · by_cases e : j = k
    · subst e; omega
    · exact h.lim j (by omega)
  · by_cases e : j + 1 = k
    · subst e; exact h1
    · exact h.asc j (by omega)

theorem plc_bad {k m : Nat} {Y : Nat → Int} {n : Int} (hk : k < m) (h : ¬ (ahd Y k < Y k ∧ Y k < n)) : ¬ Plc m Y n := by
  intro hp
  apply h
  refine ⟨?_, (hp.lim k hk).2⟩
  cases k with
  | zero =>
    have := (hp.lim 0 hk).1
    show -1 < Y 0
    omega
  | succ k => exact hp.asc k hk

theorem plc_zero (Y : Nat → Int) (n : Int) : Plc 0 Y n := ⟨fun k hk => by omega, fun k hk => by omega⟩

theorem retb {x y : Bool} {w w' : World} (h : x = y) (hw : w' = w) : Ending.returned (.bool x) = Ending.returned (.bool y) ∧ w' = w := ⟨by rw [h], hw⟩

set_option maxHeartbeats 1000000 in
theorem places_any {w : World} {v : Value} {m : Nat} {Y : Nat → Int} {n : Int} (hv : Il w v m Y) (hm : m ≤ 1048576) : Calls Try.prog 52 #[v, .int .i64 n] w fun e w' => e = .returned (.bool (yb (Plc m Y n))) ∧ w' = w := by
  obtain ⟨ao, cap, rfl, hcap, hc⟩ := hv
  have HC : Hid (0 < m → ∃ b off, ao = some ⟨b, off, none⟩ ∧ b < w.heap.size ∧ ∀ k, k < m → w.cell? ⟨b, off + k, none⟩ = some (.int .i64 (Y k))) := hc
  clear hc
  obtain ⟨d, hd⟩ : ∃ d, d = yb (Plc m Y n) := ⟨_, rfl⟩
  rw [← hd]
  have HD : Hid (d = yb (Plc m Y n)) := hd
  clear hd
  go_enter Try.func52, Try.ntmps52
  go_wp2
  go_loopw [5, 7, 10] (fun h _ i wr => ∃ (k : Nat) (a : Int), i = .int .i64 k ∧ h = .int .i64 a ∧ k ≤ m ∧ wr = w ∧ Hid (a = ahd Y k ∧ Plc k Y n)) (fun _ _ i _ => m - (intOf i).toNat)
  case atStart => exact ⟨0, -1, rfl, rfl, by omega, rfl, rfl, plc_zero _ _⟩
  case round =>
    obtain ⟨k, a, rfl, rfl, hk, rfl, hal⟩ := hrel
    by_cases h1 : k < m
    · obtain ⟨b, off, rfl, hlt, hcell⟩ := HC.out (by omega)
      have c := hcell k h1
      clear hcell
      obtain ⟨x, hx⟩ : ∃ x, x = Y k := ⟨_, rfl⟩
      rw [← hx] at c
      have HX : Hid (x = Y k) := hx
      clear hx
      by_cases g1 : a < x
      · by_cases g2 : x < n
        · have HP : Hid (Plc (k + 1) Y n) := plc_next hal.out.2 (by rw [← hal.out.1, ← HX.out]; exact g1) (by rw [← HX.out]; exact g2)
          go_wp2
          go_roundw
          case rel => exact ⟨k + 1, _, by go_num, rfl, by omega, by trivial, HX.out, HP.out⟩
          case measure => simp [intOf]; omega
        · have HP : Hid (¬ Plc m Y n) := plc_bad h1 (fun q => g2 (by rw [HX.out]; exact q.2))
          go_wp2
          go_ret
          exact retb (by rw [HD.out]; exact (yb_no HP.out).symm) rfl
      · have HP : Hid (¬ Plc m Y n) := plc_bad h1 (fun q => g1 (by rw [HX.out, hal.out.1]; exact q.1))
        go_wp2
        go_ret
        exact retb (by rw [HD.out]; exact (yb_no HP.out).symm) rfl
    · obtain rfl : k = m := by omega
      go_wp2
      go_ret
      exact retb (by rw [HD.out]; exact (yb_yes hal.out.2).symm) rfl

set_option maxHeartbeats 1000000 in
theorem isCheck_any {w : World} {v : Value} {m : Nat} {Y : Nat → Int} {n : Int} (hv : Il w v m Y) (hm : m ≤ 1048576) : Calls Try.prog 39 #[v, .int .i64 n] w fun e w' => e = .returned (.bool (yb (Chk m Y n))) ∧ w' = w := by
  have i1 := places_any (n := n) hv hm
  obtain ⟨ao, cap, rfl, hcap, hc⟩ := hv
  clear hc
  by_cases h1 : 2 ≤ m
  · by_cases h2 : m ≤ 16
    · have e : yb (Chk m Y n) = yb (Plc m Y n) := by
        by_cases hp : Plc m Y n
        · rw [yb_yes hp, yb_yes ⟨⟨h1, h2⟩, hp⟩]
        · rw [yb_no hp, yb_no (fun q => hp q.2)]
      rw [e]
      clear e
      have d1 : decide ((2 : Int) ≤ (m : Int)) = true := by simp; omega
      have d2 : decide ((m : Int) ≤ 16) = true := by simp; omega
      generalize yb (Plc m Y n) = d at *
      go_enter Try.func39, Try.ntmps39
      go_wp2_with (go_at_call 52; refine i1.mono ?_; rintro e w' ⟨rfl, hw⟩; obtain rfl := hw.symm)
      go_ret
      exact ⟨rfl, rfl⟩
    · rw [yb_no (fun q => h2 q.1.2)]
      clear i1
      have d1 : decide ((2 : Int) ≤ (m : Int)) = true := by simp; omega
      have d2 : decide ((m : Int) ≤ 16) = false := by simp; omega
      go_enter Try.func39, Try.ntmps39
      go_wp2
      go_ret
      exact ⟨rfl, rfl⟩
  · rw [yb_no (fun q => h1 q.1.1)]
    clear i1
    have d1 : decide ((2 : Int) ≤ (m : Int)) = false := by simp; omega
    go_enter Try.func39, Try.ntmps39
    go_wp2
    go_ret
    exact ⟨rfl, rfl⟩

set_option maxHeartbeats 1000000 in
theorem iChecks_any {w : World} {v : Value} {M : Nat} {ms : Nat → Nat} {X : Nat → Nat → Int} {n : Int} (hv : Ipp w v M ms X) (hM : M ≤ 1048576) (hms : ∀ k, k < M → ms k ≤ 1048576) : Calls Try.prog 18 #[v, .int .i64 n] w fun e w' => e = .returned (.bool (yb (Cks M ms X n))) ∧ w' = w := by
  obtain ⟨ao, cap, rfl, hcap, hc⟩ := hv
  have HC : Hid (0 < M → ∃ b off, ∃ R : Nat → Value, ao = some ⟨b, off, none⟩ ∧ b < w.heap.size ∧ ∀ k, k < M → w.cell? ⟨b, off + k, none⟩ = some (R k) ∧ Il w (R k) (ms k) (X k)) := hc
  have HMS : Hid (∀ k, k < M → ms k ≤ 1048576) := hms
  clear hc hms
  obtain ⟨d, hd⟩ : ∃ d, d = yb (Cks M ms X n) := ⟨_, rfl⟩
  rw [← hd]
  have HD : Hid (d = yb (Cks M ms X n)) := hd
  clear hd
  by_cases g1 : 1 ≤ n
  · by_cases g2 : n ≤ 128
    · by_cases g3 : M ≤ 64
      · have d3 : decide ((64 : Int) < (M : Int)) = false := by simp; omega
        go_enter Try.func18, Try.ntmps18
        go_wp2
        go_loopw [6, 20] (fun _ i wr => ∃ k : Nat, i = .int .i64 k ∧ k ≤ M ∧ wr = w ∧ Hid (∀ j, j < k → Chk (ms j) (X j) n)) (fun _ i _ => M - (intOf i).toNat)
        case atStart => exact ⟨0, rfl, by omega, rfl, fun j hj => by omega⟩
        case round =>
          obtain ⟨k, rfl, hk, rfl, hal⟩ := hrel
          by_cases h1 : k < M
          · obtain ⟨b, off, R, rfl, hlt, hcell⟩ := HC.out (by omega)
            obtain ⟨c, hil⟩ := hcell k h1
            have i1 := isCheck_any (n := n) hil (HMS.out k h1)
            clear hcell hil
            by_cases hs : Chk (ms k) (X k) n
            · rw [yb_yes hs] at i1
              have HS : Hid (Chk (ms k) (X k) n) := hs
              clear hs
              generalize R k = r at *
              go_wp2_with (go_at_call 39; refine i1.mono ?_; rintro e w' ⟨rfl, hw⟩; obtain rfl := hw.symm)
              go_roundw
              case rel =>
                refine ⟨k + 1, by go_num, by omega, by trivial, fun j hj => ?_⟩
                by_cases hjk : j = k
                · subst hjk; exact HS.out
                · exact hal.out j (by omega)
              case measure => simp [intOf]; omega
            · rw [yb_no hs] at i1
              have HS : Hid (¬ Chk (ms k) (X k) n) := hs
              clear hs
              generalize R k = r at *
              go_wp2_with (go_at_call 39; refine i1.mono ?_; rintro e w' ⟨rfl, hw⟩; obtain rfl := hw.symm)
              go_ret
              exact retb (by rw [HD.out]; exact (yb_no (fun q => HS.out (q.2 k h1))).symm) rfl
          · obtain rfl : k = M := by omega
            go_wp2
            go_ret
            exact retb (by rw [HD.out]; exact (yb_yes ⟨⟨⟨g1, g2⟩, g3⟩, hal.out⟩).symm) rfl
      · have d3 : decide ((64 : Int) < (M : Int)) = true := by simp; omega
        go_enter Try.func18, Try.ntmps18
        go_wp2
        go_ret
        exact retb (by rw [HD.out]; exact (yb_no (fun q => g3 q.1.2)).symm) rfl
    · go_enter Try.func18, Try.ntmps18
      go_wp2
      go_ret
      exact retb (by rw [HD.out]; exact (yb_no (fun q => by have := q.1.1.2; omega)).symm) rfl
  · go_enter Try.func18, Try.ntmps18
    go_wp2
    go_ret
    exact retb (by rw [HD.out]; exact (yb_no (fun q => by have := q.1.1.1; omega)).symm) rfl

theorem retbb {x y : Bool} {w w' : World} (h : x = y) (hw : Below w.heap.size w w') : Ending.returned (.bool x) = Ending.returned (.bool y) ∧ Below w.heap.size w w' := ⟨by rw [h], hw⟩
end Go.Proofs.Ytnfhnchomiejcaa
