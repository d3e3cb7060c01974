/- Lift2: what the program takes for a plane. -/
import Derived.Test.YtjpkoladmeeidaaRU
namespace Go.Proofs.Ytjpkoladmeeidaa
open Go.RowKit

theorem iS9_any (x : Int) (w : World) : Calls Try.prog 16 #[.int .i64 x] w fun e w' => e = .returned (.bool (decide (-1000000000 ≤ x ∧ x ≤ 1000000000))) ∧ w' = w := iSmp_any x w

set_option maxRecDepth 20000 in
set_option maxHeartbeats 4000000 in
theorem iPl9 {w : World} {v : Value} {n : Nat} {ms : Nat → Nat} {X : Nat → Nat → Int} (hv : Ipp w v n ms X) (hn : n ≤ 1048576) (hms : ∀ k, k < n → ms k ≤ 1048576) :
    Calls Try.prog 15 #[v, .func (.func 16) #[] #[]] w fun e w' => (∃ d, e = .returned (.bool d) ∧ (d = true ↔ Pln 1000000000 n ms X)) ∧ w' = w := by
  obtain ⟨ao, cap, rfl, hcap, hc⟩ := hv
  have HC : Hid (0 < n → ∃ b off, ∃ R : Nat → Value, ao = some ⟨b, off, none⟩ ∧ b < w.heap.size ∧ ∀ k, k < n → w.cell? ⟨b, off + k, none⟩ = some (R k) ∧ Il w (R k) (ms k) (X k)) := hc
  have HMS : Hid (∀ k, k < n → ms k ≤ 1048576) := hms
  clear hc hms
  by_cases h64 : n ≤ 64
  · go_enter Try.func15, Try.ntmps15
    go_wp2
    go_loopw [14] (fun i wr => ∃ k : Nat, i = .int .i64 k ∧ k ≤ n ∧ wr = w ∧ Hid (∀ j, j < k → ms j = ms 0 ∧ ms j ≤ 64 ∧ Wth 1000000000 (ms j) (X j))) (fun i _ => n - (intOf i).toNat)
    case atStart => exact ⟨0, rfl, by omega, rfl, fun j hj => by omega⟩
    case round =>
      obtain ⟨k, rfl, hk, rfl, HAL⟩ := hrel
      by_cases h1 : k < n
      · obtain ⟨b, off, R, rfl, hlt, hcell⟩ := HC.out (by omega)
        obtain ⟨c0, hfp⟩ := hcell k h1
        obtain ⟨c00, hfp0⟩ := hcell 0 (by omega)
        have mk := HMS.out k h1
        have mk0 := HMS.out 0 (by omega)
        obtain ⟨qa, qc, hq, hqc, hqq⟩ := hfp
        obtain ⟨qa0, qc0, hq0, hqc0, _⟩ := hfp0
        have c : wr.cell? ⟨b, off + k, none⟩ = some (.slice qa (ms k) qc) := by rw [← hq]; exact c0
        have d : wr.cell? ⟨b, off, none⟩ = some (.slice qa0 (ms 0) qc0) := by rw [← hq0]; exact c00
        have HQ : Hid (0 < ms k → ∃ b off, qa = some ⟨b, off, none⟩ ∧ b < wr.heap.size ∧ ∀ j, j < ms k → wr.cell? ⟨b, off + j, none⟩ = some (.int .i64 (X k j))) := hqq
        clear c0 c00 hcell hq hq0 hqq
        have n0 : 0 < n := by omega
        have n0' : (0 : Int) < n := by omega
        by_cases he : ms k = ms 0
        · have HE : Hid (ms k = ms 0) := he
          rw [he] at c mk HQ hqc
          clear he
          by_cases hl : ms 0 ≤ 64
          · have hl' : decide ((64 : Int) < (ms 0 : Int)) = false := decide_eq_false (by omega)
            go_wp2
            go_loopw [32] (fun i wr' => ∃ q : Nat, i = .int .i64 q ∧ q ≤ ms 0 ∧ wr' = wr ∧ Hid (∀ j, j < q → -1000000000 ≤ X k j ∧ X k j ≤ 1000000000)) (fun i _ => ms 0 - (intOf i).toNat)
            case atStart => exact ⟨0, rfl, by omega, rfl, fun j hj => by omega⟩
            case round =>
              obtain ⟨q, rfl, hq1, hw3, hal⟩ := hrel
              subst hw3
              by_cases h2 : q < ms 0
              · obtain ⟨b2, off2, rfl, hlt2, hcell2⟩ := HQ.out (by omega)
                have c2 := hcell2 q h2
                clear hcell2
                have i1 := iS9_any (X k q)
                by_cases hs : -1000000000 ≤ X k q ∧ X k q ≤ 1000000000
                · have HS : Hid (-1000000000 ≤ X k q ∧ X k q ≤ 1000000000) := hs
                  rw [decide_eq_true hs] at i1
                  clear hs
                  go_wp2_with (first | (go_at_call 16; (with_reducible refine (i1 _).mono ?_); rintro e w' ⟨rfl, hw⟩; obtain rfl := hw.symm))
                  go_roundw
                  case rel =>
                    refine ⟨q + 1, by go_num, by omega, by trivial, fun j hj => ?_⟩
                    by_cases hjk : j = q
                    · subst hjk; exact HS.out
                    · exact hal.out j (by omega)
                  case measure => simp [intOf]; omega
                · have HS : Hid (¬ (-1000000000 ≤ X k q ∧ X k q ≤ 1000000000)) := hs
                  rw [decide_eq_false hs] at i1
                  clear hs
                  go_wp2_with (first | (go_at_call 16; (with_reducible refine (i1 _).mono ?_); rintro e w' ⟨rfl, hw⟩; obtain rfl := hw.symm))
                  go_ret
                  exact ⟨⟨_, rfl, by simp; intro h; have := (h.2 k h1).2.2; rw [HE.out] at this; exact HS.out (this q h2)⟩, rfl⟩
              · have e2 : q = ms 0 := by omega
                have HWT : Hid (Wth 1000000000 (ms 0) (X k)) := fun j hj => hal.out j (by omega)
                clear hal
                rw [e2]
                go_wp2
                go_roundw
                case rel =>
                  refine ⟨k + 1, by go_num, by omega, by trivial, fun j hj => ?_⟩
                  by_cases hjk : j = k
                  · subst hjk; exact ⟨HE.out, by rw [HE.out]; exact hl, by rw [HE.out]; exact HWT.out⟩
                  · exact HAL.out j (by omega)
                case measure => simp [intOf]; omega
          · have hl' : decide ((64 : Int) < (ms 0 : Int)) = true := decide_eq_true (by omega)
            go_wp2
            go_ret
            exact ⟨⟨_, rfl, by simp; intro h; have := (h.2 k h1).2.1; rw [HE.out] at this; omega⟩, rfl⟩
        · have he' : ¬ ((ms k : Int) = (ms 0 : Int)) := by omega
          by_cases hl : ms k ≤ 64
          · have hl' : decide ((64 : Int) < (ms k : Int)) = false := decide_eq_false (by omega)
            go_wp2
            go_ret
            exact ⟨⟨_, rfl, by simp; intro h; exact he (h.2 k h1).1⟩, rfl⟩
          · have hl' : decide ((64 : Int) < (ms k : Int)) = true := decide_eq_true (by omega)
            go_wp2
            go_ret
            exact ⟨⟨_, rfl, by simp; intro h; exact he (h.2 k h1).1⟩, rfl⟩
      · obtain rfl : n = k := by omega
        go_wp2
        go_ret
        exact ⟨⟨_, rfl, by simp; exact ⟨h64, HAL.out⟩⟩, rfl⟩
  · go_enter Try.func15, Try.ntmps15
    go_wp2
    go_ret
    exact ⟨⟨_, rfl, by simp [Pln, h64]⟩, rfl⟩

set_option maxRecDepth 20000 in
set_option maxHeartbeats 4000000 in
theorem iPl8 {w : World} {v : Value} {n : Nat} {ms : Nat → Nat} {X : Nat → Nat → Int} (hv : Ipp w v n ms X) (hn : n ≤ 1048576) (hms : ∀ k, k < n → ms k ≤ 1048576) :
    Calls Try.prog 15 #[v, .func (.func 25) #[] #[]] w fun e w' => (∃ d, e = .returned (.bool d) ∧ (d = true ↔ Pln 8000000000 n ms X)) ∧ w' = w := by
  obtain ⟨ao, cap, rfl, hcap, hc⟩ := hv
  have HC : Hid (0 < n → ∃ b off, ∃ R : Nat → Value, ao = some ⟨b, off, none⟩ ∧ b < w.heap.size ∧ ∀ k, k < n → w.cell? ⟨b, off + k, none⟩ = some (R k) ∧ Il w (R k) (ms k) (X k)) := hc
  have HMS : Hid (∀ k, k < n → ms k ≤ 1048576) := hms
  clear hc hms
  by_cases h64 : n ≤ 64
  · go_enter Try.func15, Try.ntmps15
    go_wp2
    go_loopw [14] (fun i wr => ∃ k : Nat, i = .int .i64 k ∧ k ≤ n ∧ wr = w ∧ Hid (∀ j, j < k → ms j = ms 0 ∧ ms j ≤ 64 ∧ Wth 8000000000 (ms j) (X j))) (fun i _ => n - (intOf i).toNat)
    case atStart => exact ⟨0, rfl, by omega, rfl, fun j hj => by omega⟩
    case round =>
      obtain ⟨k, rfl, hk, rfl, HAL⟩ := hrel
      by_cases h1 : k < n
      · obtain ⟨b, off, R, rfl, hlt, hcell⟩ := HC.out (by omega)
        obtain ⟨c0, hfp⟩ := hcell k h1
        obtain ⟨c00, hfp0⟩ := hcell 0 (by omega)
        have mk := HMS.out k h1
        have mk0 := HMS.out 0 (by omega)
        obtain ⟨qa, qc, hq, hqc, hqq⟩ := hfp
        obtain ⟨qa0, qc0, hq0, hqc0, _⟩ := hfp0
        have c : wr.cell? ⟨b, off + k, none⟩ = some (.slice qa (ms k) qc) := by rw [← hq]; exact c0
        have d : wr.cell? ⟨b, off, none⟩ = some (.slice qa0 (ms 0) qc0) := by rw [← hq0]; exact c00
        have HQ : Hid (0 < ms k → ∃ b off, qa = some ⟨b, off, none⟩ ∧ b < wr.heap.size ∧ ∀ j, j < ms k → wr.cell? ⟨b, off + j, none⟩ = some (.int .i64 (X k j))) := hqq
        clear c0 c00 hcell hq hq0 hqq
        have n0 : 0 < n := by omega
        have n0' : (0 : Int) < n := by omega
        by_cases he : ms k = ms 0
        · have HE : Hid (ms k = ms 0) := he
          rw [he] at c mk HQ hqc
          clear he
          by_cases hl : ms 0 ≤ 64
          · have hl' : decide ((64 : Int) < (ms 0 : Int)) = false := decide_eq_false (by omega)
            go_wp2
            go_loopw [32] (fun i wr' => ∃ q : Nat, i = .int .i64 q ∧ q ≤ ms 0 ∧ wr' = wr ∧ Hid (∀ j, j < q → -8000000000 ≤ X k j ∧ X k j ≤ 8000000000)) (fun i _ => ms 0 - (intOf i).toNat)
            case atStart => exact ⟨0, rfl, by omega, rfl, fun j hj => by omega⟩
            case round =>
              obtain ⟨q, rfl, hq1, hw3, hal⟩ := hrel
              subst hw3
              by_cases h2 : q < ms 0
              · obtain ⟨b2, off2, rfl, hlt2, hcell2⟩ := HQ.out (by omega)
                have c2 := hcell2 q h2
                clear hcell2
                have i1 := iLft_any (X k q)
                by_cases hs : -8000000000 ≤ X k q ∧ X k q ≤ 8000000000
                · have HS : Hid (-8000000000 ≤ X k q ∧ X k q ≤ 8000000000) := hs
                  rw [decide_eq_true hs] at i1
                  clear hs
                  go_wp2_with (first | (go_at_call 25; (with_reducible refine (i1 _).mono ?_); rintro e w' ⟨rfl, hw⟩; obtain rfl := hw.symm))
                  go_roundw
                  case rel =>
                    refine ⟨q + 1, by go_num, by omega, by trivial, fun j hj => ?_⟩
                    by_cases hjk : j = q
                    · subst hjk; exact HS.out
                    · exact hal.out j (by omega)
                  case measure => simp [intOf]; omega
                · have HS : Hid (¬ (-8000000000 ≤ X k q ∧ X k q ≤ 8000000000)) := hs
                  rw [decide_eq_false hs] at i1
                  clear hs
                  go_wp2_with (first | (go_at_call 25; (with_reducible refine (i1 _).mono ?_); rintro e w' ⟨rfl, hw⟩; obtain rfl := hw.symm))
                  go_ret
                  exact ⟨⟨_, rfl, by simp; intro h; have := (h.2 k h1).2.2; rw [HE.out] at this; exact HS.out (this q h2)⟩, rfl⟩
              · have e2 : q = ms 0 := by omega
                have HWT : Hid (Wth 8000000000 (ms 0) (X k)) := fun j hj => hal.out j (by omega)
                clear hal
                rw [e2]
                go_wp2
                go_roundw
                case rel =>
                  refine ⟨k + 1, by go_num, by omega, by trivial, fun j hj => ?_⟩
                  by_cases hjk : j = k
                  · subst hjk; exact ⟨HE.out, by rw [HE.out]; exact hl, by rw [HE.out]; exact HWT.out⟩
                  · exact HAL.out j (by omega)
                case measure => simp [intOf]; omega
          · have hl' : decide ((64 : Int) < (ms 0 : Int)) = true := decide_eq_true (by omega)
            go_wp2
            go_ret
            exact ⟨⟨_, rfl, by simp; intro h; have := (h.2 k h1).2.1; rw [HE.out] at this; omega⟩, rfl⟩
        · have he' : ¬ ((ms k : Int) = (ms 0 : Int)) := by omega
          by_cases hl : ms k ≤ 64
          · have hl' : decide ((64 : Int) < (ms k : Int)) = false := decide_eq_false (by omega)
            go_wp2
            go_ret
            exact ⟨⟨_, rfl, by simp; intro h; exact he (h.2 k h1).1⟩, rfl⟩
          · have hl' : decide ((64 : Int) < (ms k : Int)) = true := decide_eq_true (by omega)
            go_wp2
            go_ret
            exact ⟨⟨_, rfl, by simp; intro h; exact he (h.2 k h1).1⟩, rfl⟩
      · obtain rfl : n = k := by omega
        go_wp2
        go_ret
        exact ⟨⟨_, rfl, by simp; exact ⟨h64, HAL.out⟩⟩, rfl⟩
  · go_enter Try.func15, Try.ntmps15
    go_wp2
    go_ret
    exact ⟨⟨_, rfl, by simp [Pln, h64]⟩, rfl⟩

end Go.Proofs.Ytjpkoladmeeidaa
