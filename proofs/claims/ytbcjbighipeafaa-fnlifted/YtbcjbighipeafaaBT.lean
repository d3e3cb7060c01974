/- LiftBack: both sides. -/
import Derived.Test.YtbcjbighipeafaaBS
import Derived.Test.YtbcjbighipeafaaBB
import Derived.Test.YtbcjbighipeafaaBC
import Derived.Test.YtbcjbighipeafaaLJ
namespace Go.Proofs.Ytbcjbighipeafaa
open Go.RowKit

theorem iBack_any {w : World} {v1 v2 : Value} {n m : Nat} {lo hs : Nat → Int} {kind M : Int} (hk : Knd kind) (hv1 : Il w v1 n lo) (hv2 : Il w v2 m hs) (hmn : m ≤ n) (hnm : n ≤ m + 1) (hn : n + m ≤ 1048576) (hM4 : 4 ≤ M) (hM : M ≤ 1000000000000000) (hl : Wth M n lo) (hh : Wth M m hs) :
    Calls Try.prog 27 #[.int .i64 kind, v1, v2] w fun e w' => P1 w w' e (n + m) (bck kind n m lo hs) := by
  have hcases : kind = 1 ∨ kind = 2 ∨ kind = 3 := by omega
  rcases hcases with rfl | rfl | rfl
  · exact iBack_1 hv1 hv2 hmn hnm hn hM4 hM hl hh
  · exact iBack_2 hv1 hv2 hmn hnm hn hM4 hM hl hh
  · exact iBack_3 hv1 hv2 hmn hnm hn hM4 hM hl hh

theorem iLft_any (x : Int) (w : World) : Calls Try.prog 42 #[.int .i64 x] w fun e w' => e = .returned (.bool (decide (-8000000000 ≤ x ∧ x ≤ 8000000000))) ∧ w' = w := by
  go_enter Try.func42, Try.ntmps42
  by_cases h : -8000000000 ≤ x
  · by_cases h1 : x ≤ 8000000000
    · go_wp2
      go_ret
      exact ⟨by simp [h, h1], rfl⟩
    · go_wp2
      go_ret
      exact ⟨by simp [h1], rfl⟩
  · go_wp2
    go_ret
    exact ⟨by simp; omega, rfl⟩

set_option maxHeartbeats 1000000 in
theorem sWide_any {w : World} {v : Value} {n : Nat} {xs : Nat → Int} (hv : Il w v n xs) (hn : n ≤ 1048576) : Calls Try.prog 33 #[v, .int .i64 8000000000] w fun e w' => e = .returned (.bool (decide (Wth 8000000000 n xs))) ∧ w' = w := by
  obtain ⟨ao, cap, rfl, hcap, hc⟩ := hv
  have HC : Hid (0 < n → ∃ b off, ao = some ⟨b, off, none⟩ ∧ b < w.heap.size ∧ ∀ k, k < n → w.cell? ⟨b, off + k, none⟩ = some (.int .i64 (xs k))) := hc
  clear hc
  obtain ⟨d, hd⟩ : ∃ d, d = decide (Wth 8000000000 n xs) := ⟨_, rfl⟩
  rw [← hd]
  have HD : Hid _ := hd
  clear hd
  go_enter Try.func33, Try.ntmps33
  go_wp2
  go_loopw [5] (fun i wr => ∃ k : Nat, i = .int .i64 k ∧ k ≤ n ∧ wr = w ∧ Hid (∀ j, j < k → -8000000000 ≤ xs j ∧ xs j ≤ 8000000000)) (fun i _ => n - (intOf i).toNat)
  case atStart => exact ⟨0, rfl, by omega, rfl, fun j hj => by omega⟩
  case round =>
    obtain ⟨k, rfl, hk, rfl, hal⟩ := hrel
    by_cases h1 : k < n
    · obtain ⟨b, off, rfl, hlt, hcell⟩ := HC.out (by omega)
      have c := hcell k h1
      clear hcell
      have i1 := in_any (xs k) (-8000000000) 8000000000
      by_cases hs : -8000000000 ≤ xs k ∧ xs k ≤ 8000000000
      · have HS : Hid _ := hs
        rw [decide_eq_true hs] at i1
        clear hs
        go_wp2_with (first | (go_at_call 32; (with_reducible refine (i1 _).mono ?_); rintro e w' ⟨rfl, hw⟩; obtain rfl := hw.symm))
        go_roundw
        case rel =>
          refine ⟨k + 1, by go_num, by omega, by trivial, fun j hj => ?_⟩
          by_cases hjk : j = k
          · subst hjk; exact HS.out
          · exact hal.out j (by omega)
        case measure => simp [intOf]; omega
      · have HS : Hid _ := hs
        rw [decide_eq_false hs] at i1
        clear hs
        go_wp2_with (first | (go_at_call 32; (with_reducible refine (i1 _).mono ?_); rintro e w' ⟨rfl, hw⟩; obtain rfl := hw.symm))
        go_ret
        exact ⟨congrArg (fun z => Ending.returned (.bool z)) (by rw [HD.out]; exact (decide_eq_false (fun h => HS.out (h k h1))).symm), rfl⟩
    · obtain rfl : k = n := by omega
      go_wp2
      go_ret
      exact ⟨congrArg (fun z => Ending.returned (.bool z)) (by rw [HD.out]; exact (decide_eq_true hal.out).symm), rfl⟩

set_option maxHeartbeats 1000000 in
theorem iWide_any {w : World} {v : Value} {n : Nat} {xs : Nat → Int} (hv : Il w v n xs) (hn : n ≤ 1048576) : Calls Try.prog 26 #[v] w fun e w' => e = .returned (.bool (decide (Wth 8000000000 n xs))) ∧ w' = w := by
  obtain ⟨ao, cap, rfl, hcap, hc⟩ := hv
  have HC : Hid (0 < n → ∃ b off, ao = some ⟨b, off, none⟩ ∧ b < w.heap.size ∧ ∀ k, k < n → w.cell? ⟨b, off + k, none⟩ = some (.int .i64 (xs k))) := hc
  clear hc
  obtain ⟨d, hd⟩ : ∃ d, d = decide (Wth 8000000000 n xs) := ⟨_, rfl⟩
  rw [← hd]
  have HD : Hid _ := hd
  clear hd
  go_enter Try.func26, Try.ntmps26
  go_wp2
  go_loopw [4, 7] (fun _ i wr => ∃ k : Nat, i = .int .i64 k ∧ k ≤ n ∧ wr = w ∧ Hid (∀ j, j < k → -8000000000 ≤ xs j ∧ xs j ≤ 8000000000)) (fun _ i _ => n - (intOf i).toNat)
  case atStart => exact ⟨0, rfl, by omega, rfl, fun j hj => by omega⟩
  case round =>
    obtain ⟨k, rfl, hk, rfl, hal⟩ := hrel
    by_cases h1 : k < n
    · obtain ⟨b, off, rfl, hlt, hcell⟩ := HC.out (by omega)
      have c := hcell k h1
      clear hcell
      have i1 := iLft_any (xs k)
      by_cases hs : -8000000000 ≤ xs k ∧ xs k ≤ 8000000000
      · have HS : Hid _ := hs
        rw [decide_eq_true hs] at i1
        clear hs
        go_wp2_with (first | (go_at_call 42; (with_reducible refine (i1 _).mono ?_); rintro e w' ⟨rfl, hw⟩; obtain rfl := hw.symm))
        go_roundw
        case rel =>
          refine ⟨k + 1, by go_num, by omega, by trivial, fun j hj => ?_⟩
          by_cases hjk : j = k
          · subst hjk; exact HS.out
          · exact hal.out j (by omega)
        case measure => simp [intOf]; omega
      · have HS : Hid _ := hs
        rw [decide_eq_false hs] at i1
        clear hs
        go_wp2_with (first | (go_at_call 42; (with_reducible refine (i1 _).mono ?_); rintro e w' ⟨rfl, hw⟩; obtain rfl := hw.symm))
        go_ret
        exact ⟨congrArg (fun z => Ending.returned (.bool z)) (by rw [HD.out]; exact (decide_eq_false (fun h => HS.out (h k h1))).symm), rfl⟩
    · obtain rfl : k = n := by omega
      go_wp2
      go_ret
      exact ⟨congrArg (fun z => Ending.returned (.bool z)) (by rw [HD.out]; exact (decide_eq_true hal.out).symm), rfl⟩

/-- Good for LiftBack. -/
structure Gb (kind : Int) (n m : Nat) (lo hs : Nat → Int) : Prop where
  k : Knd kind
  mn : m ≤ n
  nm : n ≤ m + 1
  s : n + m ≤ 512
  l : Wth 8000000000 n lo
  h : Wth 8000000000 m hs

set_option maxHeartbeats 4000000 in
theorem sLb_good {w : World} {v1 v2 : Value} {n m : Nat} {lo hs : Nat → Int} {kind : Int} (hv1 : Il w v1 n lo) (hv2 : Il w v2 m hs) (g : Gb kind n m lo hs) :
    Calls Try.prog 11 #[.int .i64 kind, v1, v2] w fun e w' => Pst w w' e (n + m) (bck kind n m lo hs) true := by
  have hs1 := g.s
  have hmn := g.mn
  have hnm := g.nm
  have i1 := sKind_any kind
  rw [decide_eq_true g.k] at i1
  have i2 := in_any ((n : Int) - (m : Int)) 0 1
  rw [decide_eq_true (by omega)] at i2
  have i3 := sWide_any hv1 (by omega)
  rw [decide_eq_true g.l] at i3
  have i4 := sWide_any hv2 (by omega)
  rw [decide_eq_true g.h] at i4
  have i5 := sBack_any g.k hv1 hv2 hmn hnm (by omega) (M := 8000000000) (by omega) (by omega) g.l g.h
  obtain ⟨ao, cap, rfl, hcap, hc⟩ := hv1
  obtain ⟨ho, hcp, rfl, hcap2, hc2⟩ := hv2
  clear hc hc2 g
  go_enter Try.func11, Try.ntmps11
  go_wp2_with (first
      | (go_at_call 31; (with_reducible refine (i1 _).mono ?_); rintro e w' ⟨rfl, hw⟩; obtain rfl := hw.symm)
      | (go_at_call 32; (with_reducible refine (i2 _).mono ?_); rintro e w' ⟨rfl, hw⟩; obtain rfl := hw.symm)
      | (go_at_call 33; (with_reducible refine i3.mono ?_); rintro e w' ⟨rfl, hw⟩; obtain rfl := hw.symm)
      | (go_at_call 33; (with_reducible refine i4.mono ?_); rintro e w' ⟨rfl, hw⟩; obtain rfl := hw.symm)
      | (go_at_call 34; (with_reducible refine i5.mono ?_); rintro e w1 ⟨u0, rfl, h1, h4⟩; have H1 : Hid _ := h1; clear h1))
  go_ret2
  exact ⟨_, rfl, H1.out, h4⟩

set_option maxHeartbeats 8000000 in
theorem sLb_bad {w : World} {v1 v2 : Value} {n m : Nat} {lo hs : Nat → Int} {kind : Int} (hv1 : Il w v1 n lo) (hv2 : Il w v2 m hs) (bn : n ≤ 1048576) (bm : m ≤ 1048576) (g : ¬ Gb kind n m lo hs) (ys : Nat → Int) :
    Calls Try.prog 11 #[.int .i64 kind, v1, v2] w fun e w' => Pst w w' e 0 ys false := by
  have i1 := sKind_any kind
  have i3 := sWide_any hv1 bn
  have i4 := sWide_any hv2 bm
  obtain ⟨ao, cap, rfl, hcap, hc⟩ := hv1
  obtain ⟨ho, hcp, rfl, hcap2, hc2⟩ := hv2
  clear hc hc2
  by_cases hk : Knd kind
  · rw [decide_eq_true hk] at i1
    have i2 := in_any ((n : Int) - (m : Int)) 0 1
    by_cases h2 : 0 ≤ (n : Int) - (m : Int) ∧ (n : Int) - (m : Int) ≤ 1
    · rw [decide_eq_true h2] at i2
      by_cases h3 : n + m ≤ 512
      · by_cases h4 : Wth 8000000000 n lo
        · rw [decide_eq_true h4] at i3
          rw [decide_eq_false (fun h5 => g ⟨hk, by omega, by omega, h3, h4, h5⟩)] at i4
          clear g h4 h2 hk
          go_enter Try.func11, Try.ntmps11
          go_wp2_with (first | (go_at_call 31; (with_reducible refine (i1 _).mono ?_); rintro e w' ⟨rfl, hw⟩; obtain rfl := hw.symm) | (go_at_call 32; (with_reducible refine (i2 _).mono ?_); rintro e w' ⟨rfl, hw⟩; obtain rfl := hw.symm) | (go_at_call 33; (with_reducible refine i3.mono ?_); rintro e w' ⟨rfl, hw⟩; obtain rfl := hw.symm) | (go_at_call 33; (with_reducible refine i4.mono ?_); rintro e w' ⟨rfl, hw⟩; obtain rfl := hw.symm))
          go_ret2
          exact ⟨_, rfl, own_empty w 3 1, below_one _ _⟩
        · rw [decide_eq_false h4] at i3
          clear g h4 i4 h2 hk
          go_enter Try.func11, Try.ntmps11
          go_wp2_with (first | (go_at_call 31; (with_reducible refine (i1 _).mono ?_); rintro e w' ⟨rfl, hw⟩; obtain rfl := hw.symm) | (go_at_call 32; (with_reducible refine (i2 _).mono ?_); rintro e w' ⟨rfl, hw⟩; obtain rfl := hw.symm) | (go_at_call 33; (with_reducible refine i3.mono ?_); rintro e w' ⟨rfl, hw⟩; obtain rfl := hw.symm))
          go_ret2
          exact ⟨_, rfl, own_empty w 3 1, below_one _ _⟩
      · clear g i3 i4 h2 hk
        go_enter Try.func11, Try.ntmps11
        go_wp2_with (first | (go_at_call 31; (with_reducible refine (i1 _).mono ?_); rintro e w' ⟨rfl, hw⟩; obtain rfl := hw.symm) | (go_at_call 32; (with_reducible refine (i2 _).mono ?_); rintro e w' ⟨rfl, hw⟩; obtain rfl := hw.symm))
        go_ret2
        exact ⟨_, rfl, own_empty w 3 1, below_one _ _⟩
    · rw [decide_eq_false h2] at i2
      clear g i3 i4 h2 hk
      go_enter Try.func11, Try.ntmps11
      go_wp2_with (first | (go_at_call 31; (with_reducible refine (i1 _).mono ?_); rintro e w' ⟨rfl, hw⟩; obtain rfl := hw.symm) | (go_at_call 32; (with_reducible refine (i2 _).mono ?_); rintro e w' ⟨rfl, hw⟩; obtain rfl := hw.symm))
      go_ret2
      exact ⟨_, rfl, own_empty w 3 1, below_one _ _⟩
  · rw [decide_eq_false hk] at i1
    clear g i3 i4 hk
    go_enter Try.func11, Try.ntmps11
    go_wp2_with (first | (go_at_call 31; (with_reducible refine (i1 _).mono ?_); rintro e w' ⟨rfl, hw⟩; obtain rfl := hw.symm))
    go_ret2
    exact ⟨_, rfl, own_empty w 3 1, below_one _ _⟩

set_option maxHeartbeats 4000000 in
theorem iLb_good {w : World} {v1 v2 : Value} {n m : Nat} {lo hs : Nat → Int} {kind : Int} (hv1 : Il w v1 n lo) (hv2 : Il w v2 m hs) (g : Gb kind n m lo hs) :
    Calls Try.prog 9 #[.int .i64 kind, v1, v2] w fun e w' => Pst w w' e (n + m) (bck kind n m lo hs) true := by
  have hs1 := g.s
  have hmn := g.mn
  have hnm := g.nm
  have i1 := iKind_any kind
  rw [decide_eq_true g.k] at i1
  obtain ⟨q, hq⟩ : ∃ q : Nat, (n : Int) + (m : Int) = (q : Int) := ⟨n + m, by omega⟩
  have i2 := fun W => lowOf_any (w := W) (n := q) (p := n) (by omega) (by omega)
  have i3 := iWide_any hv1 (by omega)
  rw [decide_eq_true g.l] at i3
  have i4 := iWide_any hv2 (by omega)
  rw [decide_eq_true g.h] at i4
  have i5 := iBack_any g.k hv1 hv2 hmn hnm (by omega) (M := 8000000000) (by omega) (by omega) g.l g.h
  obtain ⟨ao, cap, rfl, hcap, hc⟩ := hv1
  obtain ⟨ho, hcp, rfl, hcap2, hc2⟩ := hv2
  clear hc hc2 g
  go_enter Try.func9, Try.ntmps9
  go_wp2_with (first
      | (go_at_call 22; (with_reducible refine (i1 _).mono ?_); rintro e w' ⟨rfl, hw⟩; obtain rfl := hw.symm)
      | (go_at_call 25; (with_reducible refine (i2 _).mono ?_); rintro e w' ⟨rfl, hw⟩; obtain rfl := hw.symm)
      | (go_at_call 26; (with_reducible refine i3.mono ?_); rintro e w' ⟨rfl, hw⟩; obtain rfl := hw.symm)
      | (go_at_call 26; (with_reducible refine i4.mono ?_); rintro e w' ⟨rfl, hw⟩; obtain rfl := hw.symm)
      | (go_at_call 27; (with_reducible refine i5.mono ?_); rintro e w1 ⟨u0, rfl, h1, h4⟩; have H1 : Hid _ := h1; clear h1))
  go_ret2
  exact ⟨_, rfl, H1.out, h4⟩

set_option maxHeartbeats 8000000 in
theorem iLb_bad {w : World} {v1 v2 : Value} {n m : Nat} {lo hs : Nat → Int} {kind : Int} (hv1 : Il w v1 n lo) (hv2 : Il w v2 m hs) (bn : n ≤ 1048576) (bm : m ≤ 1048576) (g : ¬ Gb kind n m lo hs) (ys : Nat → Int) :
    Calls Try.prog 9 #[.int .i64 kind, v1, v2] w fun e w' => Pst w w' e 0 ys false := by
  have i1 := iKind_any kind
  have i3 := iWide_any hv1 bn
  have i4 := iWide_any hv2 bm
  obtain ⟨ao, cap, rfl, hcap, hc⟩ := hv1
  obtain ⟨ho, hcp, rfl, hcap2, hc2⟩ := hv2
  clear hc hc2
  by_cases hk : Knd kind
  · rw [decide_eq_true hk] at i1
    obtain ⟨q, hq⟩ : ∃ q : Nat, (n : Int) + (m : Int) = (q : Int) := ⟨n + m, by omega⟩
    by_cases h3 : q ≤ 512
    · obtain ⟨p, hp⟩ : ∃ p, p = (q + 1) / 2 := ⟨_, rfl⟩
      have i2 := fun W => lowOf_any (w := W) (n := q) (p := p) (by omega) hp
      by_cases h2 : n = p
      · obtain rfl := h2
        by_cases h4 : Wth 8000000000 n lo
        · rw [decide_eq_true h4] at i3
          rw [decide_eq_false (fun h5 => g ⟨hk, by omega, by omega, by omega, h4, h5⟩)] at i4
          clear g h4 hk hp
          go_enter Try.func9, Try.ntmps9
          go_wp2_with (first | (go_at_call 22; (with_reducible refine (i1 _).mono ?_); rintro e w' ⟨rfl, hw⟩; obtain rfl := hw.symm) | (go_at_call 25; (with_reducible refine (i2 _).mono ?_); rintro e w' ⟨rfl, hw⟩; obtain rfl := hw.symm) | (go_at_call 26; (with_reducible refine i3.mono ?_); rintro e w' ⟨rfl, hw⟩; obtain rfl := hw.symm) | (go_at_call 26; (with_reducible refine i4.mono ?_); rintro e w' ⟨rfl, hw⟩; obtain rfl := hw.symm))
          go_ret2
          exact ⟨_, rfl, own_empty w 3 1, below_one _ _⟩
        · rw [decide_eq_false h4] at i3
          clear g h4 i4 hk hp
          go_enter Try.func9, Try.ntmps9
          go_wp2_with (first | (go_at_call 22; (with_reducible refine (i1 _).mono ?_); rintro e w' ⟨rfl, hw⟩; obtain rfl := hw.symm) | (go_at_call 25; (with_reducible refine (i2 _).mono ?_); rintro e w' ⟨rfl, hw⟩; obtain rfl := hw.symm) | (go_at_call 26; (with_reducible refine i3.mono ?_); rintro e w' ⟨rfl, hw⟩; obtain rfl := hw.symm))
          go_ret2
          exact ⟨_, rfl, own_empty w 3 1, below_one _ _⟩
      · clear g i3 i4 hk hp
        go_enter Try.func9, Try.ntmps9
        go_wp2_with (first | (go_at_call 22; (with_reducible refine (i1 _).mono ?_); rintro e w' ⟨rfl, hw⟩; obtain rfl := hw.symm) | (go_at_call 25; (with_reducible refine (i2 _).mono ?_); rintro e w' ⟨rfl, hw⟩; obtain rfl := hw.symm))
        go_ret2
        exact ⟨_, rfl, own_empty w 3 1, below_one _ _⟩
    · clear g i3 i4 hk
      go_enter Try.func9, Try.ntmps9
      go_wp2_with (first | (go_at_call 22; (with_reducible refine (i1 _).mono ?_); rintro e w' ⟨rfl, hw⟩; obtain rfl := hw.symm))
      go_ret2
      exact ⟨_, rfl, own_empty w 3 1, below_one _ _⟩
  · rw [decide_eq_false hk] at i1
    clear g i3 i4 hk
    go_enter Try.func9, Try.ntmps9
    go_wp2_with (first | (go_at_call 22; (with_reducible refine (i1 _).mono ?_); rintro e w' ⟨rfl, hw⟩; obtain rfl := hw.symm))
    go_ret2
    exact ⟨_, rfl, own_empty w 3 1, below_one _ _⟩

end Go.Proofs.Ytbcjbighipeafaa
