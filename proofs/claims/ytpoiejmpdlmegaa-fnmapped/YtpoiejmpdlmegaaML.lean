/- Widths and levels: both sides. -/
import Derived.Test.YtpoiejmpdlmegaaMM
namespace Go.Proofs.Ytpoiejmpdlmegaa
open Go.RowKit

theorem pieces_any {n r q : Nat} (hn : n ≤ 1048576) (h0 : 1 ≤ r) (hr : r ≤ 1048576) (hq : q = (n + r - 1) / r) (w : World) : Calls Try.prog 15 #[.int .i64 (n : Int), .int .i64 (r : Int)] w fun e w' => e = .returned (.int .i64 (q : Int)) ∧ w' = w := by
  obtain ⟨s, hs⟩ : ∃ s : Nat, s = n + r - 1 := ⟨_, rfl⟩
  have e0 : (n : Int) + (r : Int) - 1 = (s : Int) := by omega
  have e1 : (s : Int) / (r : Int) = (q : Int) := by rw [hq, ← hs]; exact (Int.natCast_ediv s r).symm
  have e2 : (s : Int).tdiv (r : Int) = (q : Int) := by rw [Int.tdiv_eq_ediv_of_nonneg (by omega)]; exact e1
  have e3 : ¬ ((r : Int) = 0) := by omega
  have hqs : q ≤ s := by rw [hq, ← hs]; exact Nat.div_le_self _ _
  clear hq hs
  go_enter Try.func15, Try.ntmps15
  go_wp2
  go_ret
  exact ⟨rfl, rfl⟩

theorem sWid_any (x : Int) (w : World) : Calls Try.prog 18 #[.int .i64 x] w fun e w' => e = .returned (.bool (decide (Wid x))) ∧ w' = w := by
  obtain ⟨d, hd⟩ : ∃ d, d = decide (Wid x) := ⟨_, rfl⟩
  rw [← hd]
  have HD : Hid _ := hd
  clear hd
  by_cases h2 : x = 2
  · subst h2
    go_enter Try.func18, Try.ntmps18
    go_wp2
    go_ret
    exact ⟨congrArg (fun z => Ending.returned (.bool z)) (by rw [HD.out]; rfl), rfl⟩
  · have b2 : (x == 2) = false := by simpa using h2
    by_cases h4 : x = 4
    · subst h4
      go_enter Try.func18, Try.ntmps18
      go_wp2
      go_ret
      exact ⟨congrArg (fun z => Ending.returned (.bool z)) (by rw [HD.out]; rfl), rfl⟩
    · have b4 : (x == 4) = false := by simpa using h4
      by_cases h6 : x = 6
      · subst h6
        go_enter Try.func18, Try.ntmps18
        go_wp2
        go_ret
        exact ⟨congrArg (fun z => Ending.returned (.bool z)) (by rw [HD.out]; rfl), rfl⟩
      · have b6 : (x == 6) = false := by simpa using h6
        by_cases h8 : x = 8
        · subst h8
          go_enter Try.func18, Try.ntmps18
          go_wp2
          go_ret
          exact ⟨congrArg (fun z => Ending.returned (.bool z)) (by rw [HD.out]; rfl), rfl⟩
        · have b8 : (x == 8) = false := by simpa using h8
          have HN : Hid (¬ Wid x) := by rintro (h | h | h | h) <;> omega
          clear h2 h4 h6 h8
          go_enter Try.func18, Try.ntmps18
          go_wp2
          go_ret
          exact ⟨congrArg (fun z => Ending.returned (.bool z)) (by rw [HD.out]; exact (decide_eq_false HN.out).symm), rfl⟩

theorem iWid_any (x : Int) (w : World) : Calls Try.prog 14 #[.int .i64 x] w fun e w' => e = .returned (.bool (decide (Wid x))) ∧ w' = w := by
  obtain ⟨d, hd⟩ : ∃ d, d = decide (Wid x) := ⟨_, rfl⟩
  rw [← hd]
  have HD : Hid _ := hd
  clear hd
  by_cases h2 : 2 ≤ x
  · by_cases h8 : x ≤ 8
    · obtain ⟨r, hr⟩ : ∃ r, r = x % 2 := ⟨_, rfl⟩
      have e0 : x % 2 = r := hr.symm
      have e1 : x.tmod 2 = r := by rw [Int.tmod_eq_emod_of_nonneg (by omega)]; exact e0
      by_cases h0 : r = 0
      · have HY : Hid (Wid x) := by show Wid x; unfold Wid; omega
        subst h0
        clear hr
        go_enter Try.func14, Try.ntmps14
        go_wp2
        go_ret
        exact ⟨congrArg (fun z => Ending.returned (.bool z)) (by rw [HD.out]; exact (decide_eq_true HY.out).symm), rfl⟩
      · have HY : Hid (¬ Wid x) := by show ¬ Wid x; unfold Wid; omega
        have b0 : (r == 0) = false := by simpa using h0
        clear hr
        go_enter Try.func14, Try.ntmps14
        go_wp2
        go_ret
        exact ⟨congrArg (fun z => Ending.returned (.bool z)) (by rw [HD.out]; exact (decide_eq_false HY.out).symm), rfl⟩
    · have HY : Hid (¬ Wid x) := by show ¬ Wid x; unfold Wid; omega
      go_enter Try.func14, Try.ntmps14
      go_wp2
      go_ret
      exact ⟨congrArg (fun z => Ending.returned (.bool z)) (by rw [HD.out]; exact (decide_eq_false HY.out).symm), rfl⟩
  · have HY : Hid (¬ Wid x) := by show ¬ Wid x; unfold Wid; omega
    go_enter Try.func14, Try.ntmps14
    go_wp2
    go_ret
    exact ⟨congrArg (fun z => Ending.returned (.bool z)) (by rw [HD.out]; exact (decide_eq_false HY.out).symm), rfl⟩

theorem top_any {h : Nat} (hh : Hlf h) (w : World) : Calls Try.prog 31 #[.int .i64 (h : Int)] w fun e w' => e = .returned (.int .i64 (2 ^ h - 1)) ∧ w' = w := by
  rcases hh with rfl | rfl | rfl | rfl
  · go_enter Try.func31, Try.ntmps31
    go_wp2
    go_ret
    exact ⟨rfl, rfl⟩
  · go_enter Try.func31, Try.ntmps31
    go_wp2
    go_ret
    exact ⟨rfl, rfl⟩
  · go_enter Try.func31, Try.ntmps31
    go_wp2
    go_ret
    exact ⟨rfl, rfl⟩
  · go_enter Try.func31, Try.ntmps31
    go_wp2
    go_ret
    exact ⟨rfl, rfl⟩

set_option maxHeartbeats 2000000 in
theorem number_any {w : World} {v : Value} {n f c : Nat} {xs : Nat → Int} (hv : Il w v n xs) (h : Bts n xs) (hf : f ≤ 1048576) (hc8 : c ≤ 8) :
    Calls Try.prog 30 #[v, .int .i64 (f : Int), .int .i64 (c : Int)] w fun e w' => e = .returned (.int .i64 ((nba n xs f c : Nat) : Int)) ∧ w' = w := by
  have h5 := h.1
  have HBT : Hid (∀ k, k < n → Bit (xs k)) := h.2
  obtain ⟨z, hz⟩ : ∃ z : Nat, z = nba n xs f c := ⟨_, rfl⟩
  have HZ : Hid (z = nba n xs f c) := hz
  rw [← hz]
  obtain ⟨ao, cap, rfl, hcap, hc⟩ := hv
  have HC : Hid (0 < n → ∃ b off, ao = some ⟨b, off, none⟩ ∧ b < w.heap.size ∧ ∀ k, k < n → w.cell? ⟨b, off + k, none⟩ = some (.int .i64 (xs k))) := hc
  clear hc h hz
  go_enter Try.func30, Try.ntmps30
  go_wp2
  go_loopw [7, 8, 10] (fun a _ i wr => ∃ k q : Nat, i = .int .i64 (k : Int) ∧ a = .int .i64 (q : Int) ∧ k ≤ c ∧ q < 256 ∧ wr = w ∧ Hid (q = nba n xs f k)) (fun _ _ i _ => c - (intOf i).toNat)
  case atStart => exact ⟨0, 0, rfl, rfl, by omega, by omega, rfl, rfl⟩
  case round =>
    obtain ⟨k, q, rfl, rfl, hk, hq, rfl, hrel⟩ := hrel
    by_cases h1 : k < c
    · have hlt2 : nba n xs f (k + 1) < 2 ^ (k + 1) := nba_lt HBT.out f (k + 1)
      have hp : (2 : Nat) ^ (k + 1) ≤ 2 ^ 8 := Nat.pow_le_pow_right (by omega) (by omega)
      by_cases h2 : f + k < n
      · obtain ⟨b, off, rfl, hlt, hcell⟩ := HC.out (by omega)
        have c0 := hcell (f + k) h2
        rw [nb_eq HBT.out h2] at c0
        obtain ⟨y, hy⟩ : ∃ y : Nat, y = nb xs (f + k) := ⟨_, rfl⟩
        rw [← hy] at c0
        have hn1 : nba n xs f (k + 1) = q * 2 + y := by rw [nba, if_pos h2, ← hrel.out, hy]
        have hyb : y ≤ 1 := by rw [hy]; exact nb_le HBT.out h2
        have HN : Hid (q * 2 + y = nba n xs f (k + 1)) := hn1.symm
        rw [hn1] at hlt2
        obtain ⟨m, hm⟩ : ∃ m : Nat, m = f + k := ⟨_, rfl⟩
        have e0 : (f : Int) + (k : Int) = (m : Int) := by omega
        rw [← hm] at c0 h2
        clear hcell hrel hn1 hy hm
        go_wp2
        go_roundw
        case rel => exact ⟨k + 1, q * 2 + y, by go_num, by go_num, by omega, by omega, by trivial, HN.out⟩
        case measure => simp [intOf]; omega
      · have hn1 : nba n xs f (k + 1) = q * 2 := by rw [nba, if_neg h2, ← hrel.out, Nat.add_zero]
        have HN : Hid (q * 2 = nba n xs f (k + 1)) := hn1.symm
        rw [hn1] at hlt2
        clear hrel hn1
        go_wp2
        go_roundw
        case rel => exact ⟨k + 1, q * 2, by go_num, by go_num, by omega, by omega, by trivial, HN.out⟩
        case measure => simp [intOf]; omega
    · obtain rfl : c = k := by omega
      have hqz : q = z := by rw [HZ.out]; exact hrel.out
      subst hqz
      go_wp2
      go_ret
      exact ⟨rfl, rfl⟩

set_option maxHeartbeats 2000000 in
theorem place_any {w : World} {v : Value} {n f h : Nat} {xs : Nat → Int} (hv : Il w v n xs) (hb : Bts n xs) (hf : f ≤ 1048576) (hh : Hlf h) :
    Calls Try.prog 16 #[v, .int .i64 (f : Int), .int .i64 (h : Int)] w fun e w' => e = .returned (.int .i64 (lvl n xs f h)) ∧ w' = w := by
  have h4 : h ≤ 4 := by rcases hh with rfl | rfl | rfl | rfl <;> omega
  have i1 := number_any hv hb hf (show h ≤ 8 by omega)
  have hp := (hlf_pow hh).1
  have hlt := nba_lt hb.2 f h
  have hul := ung_lt (n := nba n xs f h) (k := h) hlt
  obtain ⟨z, hz⟩ : ∃ z, z = lvl n xs f h := ⟨_, rfl⟩
  have i2 := iUng_yes (n := nba n xs f h) (by omega)
  have i3 := top_any hh
  unfold lvl at hz
  rw [show lvl n xs f h = z from hz.symm ▸ rfl]
  obtain ⟨q, hq⟩ : ∃ q : Nat, q = nba n xs f h := ⟨_, rfl⟩
  rw [← hq] at i1 i2 hul hz
  obtain ⟨u, hu⟩ : ∃ u : Nat, u = ung q := ⟨_, rfl⟩
  rw [← hu] at i2 hul hz
  obtain ⟨p, hp2⟩ : ∃ p : Int, p = 2 ^ h - 1 := ⟨_, rfl⟩
  have hpb : 0 ≤ p ∧ p ≤ 15 := by
    rw [hp2]
    rcases hh with rfl | rfl | rfl | rfl <;> decide
  rw [← hp2] at i3 hz
  have e0 : 2 * (u : Int) - p = z := hz.symm
  clear hz hq hu hp2 hlt hv hb hh
  go_enter Try.func16, Try.ntmps16
  go_wp2_with (first | (go_at_call 30; (with_reducible refine (i1).mono ?_); rintro e w' ⟨rfl, hw⟩; obtain rfl := hw.symm) | (go_at_call 29; (with_reducible refine (i2 _).mono ?_); rintro e w' ⟨rfl, hw⟩; obtain rfl := hw.symm) | (go_at_call 31; (with_reducible refine (i3 _).mono ?_); rintro e w' ⟨rfl, hw⟩; obtain rfl := hw.symm))
  go_ret
  exact ⟨rfl, rfl⟩

set_option maxHeartbeats 2000000 in
theorem sLev_any {w : World} {v : Value} {h : Nat} {ys : Nat → Int} (hv : Il w v h ys) (hb : ∀ k, k < h → Bit (ys k)) (hh : Hlf h) :
    Calls Try.prog 19 #[v] w fun e w' => e = .returned (.int .i64 (lvl h ys 0 h)) ∧ w' = w := by
  have h4 : h ≤ 4 := by rcases hh with rfl | rfl | rfl | rfl <;> omega
  have hp := (hlf_pow hh).1
  have hlt := nba_lt hb 0 h
  have hul := ung_lt (n := nba h ys 0 h) (k := h) hlt
  have i2 := sUng_yes (n := nba h ys 0 h) (by omega)
  obtain ⟨z, hz⟩ : ∃ z, z = lvl h ys 0 h := ⟨_, rfl⟩
  rw [← hz]
  unfold lvl at hz
  obtain ⟨q, hq⟩ : ∃ q : Nat, q = nba h ys 0 h := ⟨_, rfl⟩
  have HQ : Hid (q = nba h ys 0 h) := hq
  rw [← hq] at i2 hul hz hlt
  obtain ⟨u, hu⟩ : ∃ u : Nat, u = ung q := ⟨_, rfl⟩
  rw [← hu] at i2 hul hz
  obtain ⟨p, hp2⟩ : ∃ p : Int, p = 2 ^ h - 1 := ⟨_, rfl⟩
  have hpb : 0 ≤ p ∧ p ≤ 15 := by
    rw [hp2]
    rcases hh with rfl | rfl | rfl | rfl <;> decide
  have e1 : (2 : Int) ^ h = p + 1 := by rw [hp2]; omega
  have e2 : IntKind.u64.wrap (h : Int) = (h : Int) := by rw [IntKind.wrap_u64]; omega
  rw [← hp2] at hz
  have e0 : 2 * (u : Int) - p = z := hz.symm
  have HBT : Hid (∀ k, k < h → Bit (ys k)) := hb
  obtain ⟨ao, cap, rfl, hcap, hc⟩ := hv
  have HC : Hid (0 < h → ∃ b off, ao = some ⟨b, off, none⟩ ∧ b < w.heap.size ∧ ∀ k, k < h → w.cell? ⟨b, off + k, none⟩ = some (.int .i64 (ys k))) := hc
  clear hz hq hu hp2 hc hb hh
  go_enter Try.func19, Try.ntmps19
  go_wp2
  go_loopw [3, 4] (fun a i wr => ∃ k m : Nat, i = .int .i64 (k : Int) ∧ a = .int .i64 (m : Int) ∧ k ≤ h ∧ m < 16 ∧ wr = w ∧ Hid (m = nba h ys 0 k)) (fun _ i _ => h - (intOf i).toNat)
  case atStart => exact ⟨0, 0, rfl, rfl, by omega, by omega, rfl, rfl⟩
  case round =>
    obtain ⟨k, m, rfl, rfl, hk, hm, rfl, hrel⟩ := hrel
    by_cases h1 : k < h
    · obtain ⟨b, off, rfl, hlt2, hcell⟩ := HC.out (by omega)
      have c0 := hcell k h1
      rw [nb_eq HBT.out h1] at c0
      obtain ⟨y, hy⟩ : ∃ y : Nat, y = nb ys k := ⟨_, rfl⟩
      rw [← hy] at c0
      have hyb : y ≤ 1 := by rw [hy]; exact nb_le HBT.out h1
      have hn1 : nba h ys 0 (k + 1) = m * 2 + y := by rw [nba, Nat.zero_add, if_pos h1, ← hrel.out, hy]
      have hlt3 := nba_lt HBT.out 0 (k + 1)
      have hp3 : (2 : Nat) ^ (k + 1) ≤ 2 ^ 4 := Nat.pow_le_pow_right (by omega) (by omega)
      rw [hn1] at hlt3
      have HN : Hid (m * 2 + y = nba h ys 0 (k + 1)) := hn1.symm
      clear hcell hrel hn1 hy
      go_wp2
      go_roundw
      case rel => exact ⟨k + 1, m * 2 + y, by go_num, by first | go_num | (congr 1; omega), by omega, by omega, by trivial, HN.out⟩
      case measure => simp [intOf]; omega
    · obtain rfl : h = k := by omega
      obtain rfl : q = m := by rw [HQ.out]; exact hrel.out.symm
      go_wp2_with (first | (go_at_call 33; (with_reducible refine (i2 _).mono ?_); rintro e w' ⟨rfl, hw⟩; obtain rfl := hw.symm))
      go_ret
      exact ⟨rfl, rfl⟩
end Go.Proofs.Ytpoiejmpdlmegaa
