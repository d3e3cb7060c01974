/- Lists of words that are handed on: wrong arguments and NaNs, on the model's side. -/
import Derived.Test.YtfodpnbhcdkmnaaDoorV1
import Derived.Test.YtfodpnbhcdkmnaaDoorR2
namespace Go.Proofs.YtfodpnbhcdkmnaaDoor
open Go.RowKit

/-- The slice holds the n words xs. -/
def Lu (w : World) (v : Value) (n : Nat) (xs : Nat → Int) : Prop := ∃ g cap, v = .slice (some ⟨g, 0, none⟩) n cap ∧ g < w.heap.size ∧ ∀ k, k < n → w.cell? ⟨g, k, none⟩ = some (.int .u64 (xs k))

theorem Lu.below {w w' : World} {v : Value} {n : Nat} {xs : Nat → Int} (h : Lu w v n xs) (hb : Below w.heap.size w w') : Lu w' v n xs := by
  obtain ⟨g, cap, rfl, hg, hc⟩ := h
  exact ⟨g, cap, rfl, Nat.lt_of_lt_of_le hg hb.size, fun k hk => (hb.cell (p := ⟨g, k, none⟩) hg).trans (hc k hk)⟩

/-- Whether one of the first n says so. -/
def anyB (b : Nat → Bool) : Nat → Bool
  | 0 => false
  | n + 1 => anyB b n || b n

/-- Whether all of the first n say so. -/
def allB (b : Nat → Bool) : Nat → Bool
  | 0 => true
  | n + 1 => allB b n && b n

/-- The flag that one of the first n raises. -/
def fgB (b : Nat → Bool) : Nat → Int
  | 0 => 0
  | n + 1 => bif b n then 16 else fgB b n

theorem allB_no {b : Nat → Bool} {n k : Nat} (hk : k < n) (h : b k = false) : allB b n = false := by
  induction n with
  | zero => omega
  | succ n ih =>
    by_cases e : k = n
    · subst e; simp [allB, h]
    · simp [allB, ih (by omega)]

set_option maxHeartbeats 1000000 in
theorem args_any {w : World} {v : Value} {n : Nat} {xs : Nat → Int} (hv : Lu w v n xs) (hn : n ≤ 1000) (f mode : Int) (ar : Nat → Bool) (mo : Bool)
    (har : ∀ k, k < n → ∀ w, Calls Tryd.prog 45 #[.int .i64 f, .int .u64 (xs k)] w fun e w' => e = .returned (.bool (ar k)) ∧ w' = w) (hmo : ∀ w, Calls Tryd.prog 23 #[.int .i64 mode] w fun e w' => e = .returned (.bool mo) ∧ w' = w) :
    Calls Tryd.prog 33 #[.int .i64 f, .int .i64 mode, v] w fun e w' => e = .returned (.bool (allB ar n && mo)) ∧ w' = w := by
  obtain ⟨g, cap, rfl, hg, hc⟩ := hv
  have HC : Hid (∀ k, k < n → w.cell? ⟨g, k, none⟩ = some (.int .u64 (xs k))) := hc
  have HA : Hid _ := har
  clear hc har
  go_enter Tryd.func33, Tryd.ntmps33
  go_wp2
  go_loop [7] (fun i => ∃ k : Nat, i = .int .i64 k ∧ k ≤ n ∧ allB ar k = true) (fun i => n - (intOf i).toNat)
  case atStart => exact ⟨0, rfl, by omega, rfl⟩
  case round =>
    obtain ⟨k, rfl, hk, hall⟩ := hrel
    by_cases h1 : k < n
    · have c := HC.out k h1
      have h := HA.out k h1
      have HAL : Hid (allB ar k = true) := hall
      clear hall
      cases hb : ar k
      · rw [hb] at h
        have e : Hid (allB ar n = false) := allB_no h1 hb
        go_wp2_with (go_at_call 45; refine (h _).mono ?_; rintro e w' ⟨rfl, hw⟩; obtain rfl := hw.symm)
        go_ret
        refine ⟨?_, rfl⟩
        rw [e.out]
        rfl
      · rw [hb] at h
        have HB : Hid (ar k = true) := hb
        clear hb
        go_wp2_with (go_at_call 45; refine (h _).mono ?_; rintro e w' ⟨rfl, hw⟩; obtain rfl := hw.symm)
        go_round
        case rel => exact ⟨k + 1, by go_num, by omega, by simp [allB, HAL.out, HB.out]⟩
        case measure => simp [intOf]; omega
    · obtain rfl : k = n := by omega
      have HAL : Hid (allB ar k = true) := hall
      clear hall
      go_wp2_with (go_at_call 23; refine (hmo _).mono ?_; rintro e w' ⟨rfl, hw⟩; obtain rfl := hw.symm)
      go_ret
      refine ⟨?_, rfl⟩
      rw [HAL.out]
      rfl

set_option maxHeartbeats 2000000 in
theorem nans_any {w : World} {v : Value} {n : Nat} {xs : Nat → Int} (hv : Lu w v n xs) (hn : n ≤ 1000) (f pl : Int) (K E M : Nat → Int) (nb sg : Nat → Bool)
    (hu : ∀ k, k < n → ∀ w, Calls Tryd.prog 35 #[.int .i64 f, .int .u64 (xs k)] w fun e w' => e = .returned (.agg #[.int .i64 (K k), .bool (nb k), .int .i64 (E k), .int .u64 (M k)]) ∧ Below w.heap.size w w')
    (hs : ∀ k, k < n → ∀ w, Calls Tryd.prog 46 #[.int .i64 f, .int .u64 (xs k)] w fun e w' => e = .returned (.bool (sg k)) ∧ Below w.heap.size w w')
    (hp : ∀ w, Calls Tryd.prog 27 #[.int .i64 f] w fun e w' => e = .returned (.int .u64 pl) ∧ w' = w) :
    Calls Tryd.prog 34 #[.int .i64 f, v] w fun e w' => e = .returned (.tuple #[.int .u64 pl, .int .i64 (fgB sg n), .bool (anyB (fun k => K k == 3) n)]) ∧ Below w.heap.size w w' := by
  obtain ⟨g, cap, rfl, hg, hc⟩ := hv
  have HC : Hid (∀ k, k < n → w.cell? ⟨g, k, none⟩ = some (.int .u64 (xs k))) := hc
  have HU : Hid _ := hu
  have HS : Hid _ := hs
  clear hc hu hs
  go_enter Tryd.func34, Tryd.ntmps34
  go_wp2
  go_loopw [7, 8, 9] (fun b fl i wr => ∃ k : Nat, i = .int .i64 k ∧ k ≤ n ∧ b = .bool (anyB (fun k => K k == 3) k) ∧ fl = .int .i64 (fgB sg k) ∧ Hid (Below w.heap.size w wr)) (fun _ _ i _ => n - (intOf i).toNat)
  case atStart => exact ⟨0, rfl, by omega, rfl, rfl, Below.refl _ _⟩
  case round =>
    obtain ⟨k, rfl, hk, rfl, rfl, hbl⟩ := hrel
    by_cases h1 : k < n
    · have c : wr.cell? ⟨g, k, none⟩ = some (.int .u64 (xs k)) := (hbl.out.cell (p := ⟨g, k, none⟩) hg).trans (HC.out k h1)
      have h := HU.out k h1
      have h2 := HS.out k h1
      have hfl := fun w => fld24 (K k) (E k) (M k) (nb k) w
      have c2 : ∀ W, Below wr.heap.size wr W → W.cell? ⟨g, k, none⟩ = some (.int .u64 (xs k)) := fun W hW => (hW.cell (p := ⟨g, k, none⟩) (Nat.lt_of_lt_of_le hg hbl.out.size)).trans c
      have HC2 : Hid _ := c2
      have HN : Hid (anyB (fun k => K k == 3) (k + 1) = (anyB (fun k => K k == 3) k || (K k == 3))) := rfl
      have HG : Hid (fgB sg (k + 1) = bif sg k then 16 else fgB sg k) := rfl
      clear c2
      generalize anyB (fun k => K k == 3) k = an at *
      generalize fgB sg k = asg at *
      cases an
      · cases hsg : sg k
        · rw [hsg] at h2
          go_wp2_with (first | (go_at_call 35; refine (h _).mono ?_; rintro e w1 ⟨rfl, hb1⟩; have c3 := HC2.out _ hb1) | (go_at_call 46; refine (h2 _).mono ?_; rintro e w2 ⟨rfl, hb2⟩))
          go_roundw
          case rel => exact ⟨k + 1, by go_num, by omega, by rw [HN.out]; simp, by rw [HG.out, hsg]; rfl, bstep (bstep hbl.out hb1) hb2⟩
          case measure => simp [intOf]; omega
        · rw [hsg] at h2
          go_wp2_with (first | (go_at_call 35; refine (h _).mono ?_; rintro e w1 ⟨rfl, hb1⟩; have c3 := HC2.out _ hb1) | (go_at_call 46; refine (h2 _).mono ?_; rintro e w2 ⟨rfl, hb2⟩))
          go_roundw
          case rel => exact ⟨k + 1, by go_num, by omega, by rw [HN.out]; simp, by rw [HG.out, hsg]; rfl, bstep (bstep hbl.out hb1) hb2⟩
          case measure => simp [intOf]; omega
      · cases hsg : sg k
        · rw [hsg] at h2
          go_wp2_with (go_at_call 46; refine (h2 _).mono ?_; rintro e w2 ⟨rfl, hb2⟩)
          go_roundw
          case rel => exact ⟨k + 1, by go_num, by omega, by rw [HN.out]; simp, by rw [HG.out, hsg]; rfl, bstep hbl.out hb2⟩
          case measure => simp [intOf]; omega
        · rw [hsg] at h2
          go_wp2_with (go_at_call 46; refine (h2 _).mono ?_; rintro e w2 ⟨rfl, hb2⟩)
          go_roundw
          case rel => exact ⟨k + 1, by go_num, by omega, by rw [HN.out]; simp, by rw [HG.out, hsg]; rfl, bstep hbl.out hb2⟩
          case measure => simp [intOf]; omega
    · obtain rfl : k = n := by omega
      go_wp2_with (go_at_call 27; refine (hp _).mono ?_; rintro e w' ⟨rfl, hw⟩; obtain rfl := hw.symm)
      go_ret3
      exact ⟨rfl, hbl.out⟩
end Go.Proofs.YtfodpnbhcdkmnaaDoor
