/- Lift2: what is a plane. -/
import Derived.Test.YtjpkoladmeeidaaRT
import Derived.Test.YtjpkoladmeeidaaBT
namespace Go.Proofs.Ytjpkoladmeeidaa
open Go.RowKit

/-- Rows of one length, at most 64 of each, all numbers within M. -/
def Pln (M : Int) (n : Nat) (ms : Nat → Nat) (X : Nat → Nat → Int) : Prop := n ≤ 64 ∧ ∀ k, k < n → ms k = ms 0 ∧ ms k ≤ 64 ∧ Wth M (ms k) (X k)

theorem drewN_add (w : World) (m M : Nat) : (w.drewN m).drewN M = w.drewN (m + M) := by
  cases w
  simp [World.drewN, Nat.add_assoc]

theorem ipp_drewN {w : World} {v : Value} {n : Nat} {ms : Nat → Nat} {X : Nat → Nat → Int} (h : Ipp w v n ms X) (m : Nat) : Ipp (w.drewN m) v n ms X := h.below (below_drewN (Below.refl _ _) m)

set_option maxHeartbeats 1000000 in
theorem sWide9 {w : World} {v : Value} {n : Nat} {xs : Nat → Int} (hv : Il w v n xs) (hn : n ≤ 1048576) : Calls Try.prog 33 #[v, .int .i64 1000000000] w fun e w' => e = .returned (.bool (decide (Wth 1000000000 n xs))) ∧ w' = w := by
  obtain ⟨ao, cap, rfl, hcap, hc⟩ := hv
  have HC : Hid (0 < n → ∃ b off, ao = some ⟨b, off, none⟩ ∧ b < w.heap.size ∧ ∀ k, k < n → w.cell? ⟨b, off + k, none⟩ = some (.int .i64 (xs k))) := hc
  clear hc
  obtain ⟨d, hd⟩ : ∃ d, d = decide (Wth 1000000000 n xs) := ⟨_, rfl⟩
  rw [← hd]
  have HD : Hid _ := hd
  clear hd
  go_enter Try.func33, Try.ntmps33
  go_wp2
  go_loopw [5] (fun i wr => ∃ k : Nat, i = .int .i64 k ∧ k ≤ n ∧ wr = w ∧ Hid (∀ j, j < k → -1000000000 ≤ xs j ∧ xs j ≤ 1000000000)) (fun i _ => n - (intOf i).toNat)
  case atStart => exact ⟨0, rfl, by omega, rfl, fun j hj => by omega⟩
  case round =>
    obtain ⟨k, rfl, hk, rfl, hal⟩ := hrel
    by_cases h1 : k < n
    · obtain ⟨b, off, rfl, hlt, hcell⟩ := HC.out (by omega)
      have c := hcell k h1
      clear hcell
      have i1 := in_any (xs k) (-1000000000) 1000000000
      by_cases hs : -1000000000 ≤ xs k ∧ xs k ≤ 1000000000
      · have HS : Hid _ := hs
        rw [decide_eq_true hs] at i1
        clear hs
        go_wp2_with (first | (go_at_call 32; (with_reducible refine (i1 _).mono ?_); rintro e w' ⟨rfl, hw⟩; obtain rfl := hw.symm))
        go_roundw
        case rel =>
          refine ⟨k + 1, by go_num, by omega, by trivial, fun j hj => ?_⟩
          by_cases hjk : j = k
          · subst hjk; exact HS.out
          · exact hal.out j (by omega)
        case measure => simp [intOf]; omega
      · have HS : Hid _ := hs
        rw [decide_eq_false hs] at i1
        clear hs
        go_wp2_with (first | (go_at_call 32; (with_reducible refine (i1 _).mono ?_); rintro e w' ⟨rfl, hw⟩; obtain rfl := hw.symm))
        go_ret
        exact ⟨congrArg (fun z => Ending.returned (.bool z)) (by rw [HD.out]; exact (decide_eq_false (fun h => HS.out (h k h1))).symm), rfl⟩
    · obtain rfl : k = n := by omega
      go_wp2
      go_ret
      exact ⟨congrArg (fun z => Ending.returned (.bool z)) (by rw [HD.out]; exact (decide_eq_true hal.out).symm), rfl⟩

set_option maxRecDepth 20000 in
set_option maxHeartbeats 4000000 in
theorem sRows8 {w : World} {v : Value} {n : Nat} {ms : Nat → Nat} {X : Nat → Nat → Int} (hv : Ipp w v n ms X) (hn : n ≤ 1048576) (hms : ∀ k, k < n → ms k ≤ 1048576) :
    Calls Try.prog 21 #[v, .int .i64 8000000000] w fun e w' => (∃ d, e = .returned (.bool d) ∧ (d = true ↔ Pln 8000000000 n ms X)) ∧ ∃ m, w' = w.drewN m := by
  have HV : Hid (∀ m, Ipp (w.drewN m) v n ms X) := fun m => ipp_drewN hv m
  obtain ⟨ao, cap, rfl, hcap, hc⟩ := hv
  have HC : Hid (0 < n → ∃ b off, ∃ R : Nat → Value, ao = some ⟨b, off, none⟩ ∧ b < w.heap.size ∧ ∀ k, k < n → w.cell? ⟨b, off + k, none⟩ = some (R k) ∧ Il w (R k) (ms k) (X k)) := hc
  have HMS : Hid (∀ k, k < n → ms k ≤ 1048576) := hms
  clear hc hms
  by_cases h64 : n ≤ 64
  · go_enter Try.func21, Try.ntmps21
    go_wp2
    go_loopw [5] (fun i wr => ∃ k : Nat, i = .int .i64 k ∧ k ≤ n ∧ Hid ((∃ m, wr = w.drewN m) ∧ ∀ j, j < k → ms j = ms 0 ∧ ms j ≤ 64 ∧ Wth 8000000000 (ms j) (X j))) (fun i _ => n - (intOf i).toNat)
    case atStart => exact ⟨0, rfl, by omega, ⟨0, rfl⟩, fun j hj => by omega⟩
    case round =>
      obtain ⟨k, rfl, hk, hrel⟩ := hrel
      obtain ⟨⟨m, rfl⟩, hal⟩ := hrel.out
      clear hrel
      have HAL : Hid (∀ j, j < k → ms j = ms 0 ∧ ms j ≤ 64 ∧ Wth 8000000000 (ms j) (X j)) := hal
      clear hal
      by_cases h1 : k < n
      · obtain ⟨b, off, R, rfl, hlt, hcell⟩ := HC.out (by omega)
        obtain ⟨c0, hfp⟩ := hcell k h1
        obtain ⟨c00, hfp0⟩ := hcell 0 (by omega)
        have mk := HMS.out k h1
        have mk0 := HMS.out 0 (by omega)
        obtain ⟨qa, qc, hq, hqc, hqq⟩ := hfp
        obtain ⟨qa0, qc0, hq0, hqc0, _⟩ := hfp0
        have c : (w.drewN m).cell? ⟨b, off + k, none⟩ = some (.slice qa (ms k) qc) := by rw [← hq]; exact c0
        have d : (w.drewN m).cell? ⟨b, off, none⟩ = some (.slice qa0 (ms 0) qc0) := by rw [← hq0]; exact c00
        have HI : Hid (Il (w.drewN m) (.slice qa (ms k) qc) (ms k) (X k)) := il_drewN ⟨qa, qc, rfl, hqc, hqq⟩ m
        have i1 : ∀ W : World, Il W (.slice qa (ms k) qc) (ms k) (X k) → Calls Try.prog 33 #[.slice qa (ms k) qc, .int .i64 8000000000] W fun e w' => e = .returned (.bool (decide (Wth 8000000000 (ms k) (X k)))) ∧ w' = W := fun W h => sWide_any h mk
        have HEQ : Hid (∀ M, (w.drewN m).drewN M = w.drewN (m + M)) := fun M => drewN_add w m M
        clear c0 c00 hcell hq hq0 hqq
        obtain ⟨W, hWW⟩ : ∃ W, W = w.drewN m := ⟨_, rfl⟩
        rw [← hWW] at c d HI HEQ ⊢
        clear hWW
        have n0 : 0 < n := by omega
        have n0' : (0 : Int) < n := by omega
        by_cases he : ms k = ms 0
        · have HE : Hid (ms k = ms 0) := he
          rw [he] at c HI i1 mk
          clear he
          by_cases hl : ms 0 ≤ 64
          · have hl' : decide ((64 : Int) < (ms 0 : Int)) = false := decide_eq_false (by omega)
            by_cases hw : Wth 8000000000 (ms 0) (X k)
            · have HWT : Hid (Wth 8000000000 (ms 0) (X k)) := hw
              rw [decide_eq_true hw] at i1
              clear hw
              go_wp2_with (go_quiet ((go_at_call 33; with_reducible exact Calls.quiet_of_same (i1 _ (il_drewN HI.out _)))))
              go_roundw
              case rel =>
                refine ⟨k + 1, by go_num, by omega, ⟨_, HEQ.out _⟩, fun j hj => ?_⟩
                by_cases hjk : j = k
                · subst hjk; exact ⟨HE.out, by rw [HE.out]; exact hl, by rw [HE.out]; exact HWT.out⟩
                · exact HAL.out j (by omega)
              case measure => simp [intOf]; omega
            · have HWT : Hid (¬ Wth 8000000000 (ms 0) (X k)) := hw
              rw [decide_eq_false hw] at i1
              clear hw
              go_wp2_with (go_quiet ((go_at_call 33; with_reducible exact Calls.quiet_of_same (i1 _ (il_drewN HI.out _)))))
              go_ret
              exact ⟨⟨_, rfl, by simp; intro h; have := (h.2 k h1).2.2; rw [HE.out] at this; exact HWT.out this⟩, _, HEQ.out _⟩
          · have hl' : decide ((64 : Int) < (ms 0 : Int)) = true := decide_eq_true (by omega)
            go_wp2_with (go_quiet (fail))
            go_ret
            exact ⟨⟨_, rfl, by simp; intro h; have := (h.2 k h1).2.1; rw [HE.out] at this; omega⟩, _, HEQ.out _⟩
        · have he' : ¬ ((ms k : Int) = (ms 0 : Int)) := by omega
          go_wp2_with (go_quiet (fail))
          go_ret
          exact ⟨⟨_, rfl, by simp; intro h; exact he (h.2 k h1).1⟩, _, HEQ.out _⟩
      · obtain rfl : n = k := by omega
        go_wp2
        go_ret
        exact ⟨⟨_, rfl, by simp; exact ⟨h64, HAL.out⟩⟩, _, rfl⟩
  · go_enter Try.func21, Try.ntmps21
    go_wp2
    go_ret
    exact ⟨⟨_, rfl, by simp [Pln, h64]⟩, 0, rfl⟩

set_option maxRecDepth 20000 in
set_option maxHeartbeats 4000000 in
theorem sRows9 {w : World} {v : Value} {n : Nat} {ms : Nat → Nat} {X : Nat → Nat → Int} (hv : Ipp w v n ms X) (hn : n ≤ 1048576) (hms : ∀ k, k < n → ms k ≤ 1048576) :
    Calls Try.prog 21 #[v, .int .i64 1000000000] w fun e w' => (∃ d, e = .returned (.bool d) ∧ (d = true ↔ Pln 1000000000 n ms X)) ∧ ∃ m, w' = w.drewN m := by
  have HV : Hid (∀ m, Ipp (w.drewN m) v n ms X) := fun m => ipp_drewN hv m
  obtain ⟨ao, cap, rfl, hcap, hc⟩ := hv
  have HC : Hid (0 < n → ∃ b off, ∃ R : Nat → Value, ao = some ⟨b, off, none⟩ ∧ b < w.heap.size ∧ ∀ k, k < n → w.cell? ⟨b, off + k, none⟩ = some (R k) ∧ Il w (R k) (ms k) (X k)) := hc
  have HMS : Hid (∀ k, k < n → ms k ≤ 1048576) := hms
  clear hc hms
  by_cases h64 : n ≤ 64
  · go_enter Try.func21, Try.ntmps21
    go_wp2
    go_loopw [5] (fun i wr => ∃ k : Nat, i = .int .i64 k ∧ k ≤ n ∧ Hid ((∃ m, wr = w.drewN m) ∧ ∀ j, j < k → ms j = ms 0 ∧ ms j ≤ 64 ∧ Wth 1000000000 (ms j) (X j))) (fun i _ => n - (intOf i).toNat)
    case atStart => exact ⟨0, rfl, by omega, ⟨0, rfl⟩, fun j hj => by omega⟩
    case round =>
      obtain ⟨k, rfl, hk, hrel⟩ := hrel
      obtain ⟨⟨m, rfl⟩, hal⟩ := hrel.out
      clear hrel
      have HAL : Hid (∀ j, j < k → ms j = ms 0 ∧ ms j ≤ 64 ∧ Wth 1000000000 (ms j) (X j)) := hal
      clear hal
      by_cases h1 : k < n
      · obtain ⟨b, off, R, rfl, hlt, hcell⟩ := HC.out (by omega)
        obtain ⟨c0, hfp⟩ := hcell k h1
        obtain ⟨c00, hfp0⟩ := hcell 0 (by omega)
        have mk := HMS.out k h1
        have mk0 := HMS.out 0 (by omega)
        obtain ⟨qa, qc, hq, hqc, hqq⟩ := hfp
        obtain ⟨qa0, qc0, hq0, hqc0, _⟩ := hfp0
        have c : (w.drewN m).cell? ⟨b, off + k, none⟩ = some (.slice qa (ms k) qc) := by rw [← hq]; exact c0
        have d : (w.drewN m).cell? ⟨b, off, none⟩ = some (.slice qa0 (ms 0) qc0) := by rw [← hq0]; exact c00
        have HI : Hid (Il (w.drewN m) (.slice qa (ms k) qc) (ms k) (X k)) := il_drewN ⟨qa, qc, rfl, hqc, hqq⟩ m
        have i1 : ∀ W : World, Il W (.slice qa (ms k) qc) (ms k) (X k) → Calls Try.prog 33 #[.slice qa (ms k) qc, .int .i64 1000000000] W fun e w' => e = .returned (.bool (decide (Wth 1000000000 (ms k) (X k)))) ∧ w' = W := fun W h => sWide9 h mk
        have HEQ : Hid (∀ M, (w.drewN m).drewN M = w.drewN (m + M)) := fun M => drewN_add w m M
        clear c0 c00 hcell hq hq0 hqq
        obtain ⟨W, hWW⟩ : ∃ W, W = w.drewN m := ⟨_, rfl⟩
        rw [← hWW] at c d HI HEQ ⊢
        clear hWW
        have n0 : 0 < n := by omega
        have n0' : (0 : Int) < n := by omega
        by_cases he : ms k = ms 0
        · have HE : Hid (ms k = ms 0) := he
          rw [he] at c HI i1 mk
          clear he
          by_cases hl : ms 0 ≤ 64
          · have hl' : decide ((64 : Int) < (ms 0 : Int)) = false := decide_eq_false (by omega)
            by_cases hw : Wth 1000000000 (ms 0) (X k)
            · have HWT : Hid (Wth 1000000000 (ms 0) (X k)) := hw
              rw [decide_eq_true hw] at i1
              clear hw
              go_wp2_with (go_quiet ((go_at_call 33; with_reducible exact Calls.quiet_of_same (i1 _ (il_drewN HI.out _)))))
              go_roundw
              case rel =>
                refine ⟨k + 1, by go_num, by omega, ⟨_, HEQ.out _⟩, fun j hj => ?_⟩
                by_cases hjk : j = k
                · subst hjk; exact ⟨HE.out, by rw [HE.out]; exact hl, by rw [HE.out]; exact HWT.out⟩
                · exact HAL.out j (by omega)
              case measure => simp [intOf]; omega
            · have HWT : Hid (¬ Wth 1000000000 (ms 0) (X k)) := hw
              rw [decide_eq_false hw] at i1
              clear hw
              go_wp2_with (go_quiet ((go_at_call 33; with_reducible exact Calls.quiet_of_same (i1 _ (il_drewN HI.out _)))))
              go_ret
              exact ⟨⟨_, rfl, by simp; intro h; have := (h.2 k h1).2.2; rw [HE.out] at this; exact HWT.out this⟩, _, HEQ.out _⟩
          · have hl' : decide ((64 : Int) < (ms 0 : Int)) = true := decide_eq_true (by omega)
            go_wp2_with (go_quiet (fail))
            go_ret
            exact ⟨⟨_, rfl, by simp; intro h; have := (h.2 k h1).2.1; rw [HE.out] at this; omega⟩, _, HEQ.out _⟩
        · have he' : ¬ ((ms k : Int) = (ms 0 : Int)) := by omega
          go_wp2_with (go_quiet (fail))
          go_ret
          exact ⟨⟨_, rfl, by simp; intro h; exact he (h.2 k h1).1⟩, _, HEQ.out _⟩
      · obtain rfl : n = k := by omega
        go_wp2
        go_ret
        exact ⟨⟨_, rfl, by simp; exact ⟨h64, HAL.out⟩⟩, _, rfl⟩
  · go_enter Try.func21, Try.ntmps21
    go_wp2
    go_ret
    exact ⟨⟨_, rfl, by simp [Pln, h64]⟩, 0, rfl⟩

end Go.Proofs.Ytjpkoladmeeidaa
