/- MM ML. -/
import Derived.Test.YtpjpkkgcnnmljaaPA
import Derived.Test.YtpjpkkgcnnmljaaBT
import Derived.Test.YtpjpkkgcnnmljaaGY
import Derived.Test.YtpjpkkgcnnmljaaPA
namespace Go.Proofs.Ytpjpkkgcnnmljaa
open Go.RowKit

/-- A level's place. -/
def lvl (n : Nat) (xs : Nat → Int) (f h : Nat) : Int := 2 * ((ung (nba n xs f h) : Nat) : Int) - (2 ^ h - 1)

/-- The points, number by number. -/
def mpz (n : Nat) (xs : Nat → Int) (h : Nat) (i : Nat) : Int := if i % 2 = 0 then lvl n xs (i / 2 * (2 * h)) h else lvl n xs (i / 2 * (2 * h) + h) h

theorem mpz_0 (n : Nat) (xs : Nat → Int) (h k : Nat) : mpz n xs h (k * 2) = lvl n xs (k * (2 * h)) h := by
  unfold mpz
  rw [if_pos (by omega), show k * 2 / 2 = k by omega]

theorem mpz_1 (n : Nat) (xs : Nat → Int) (h k : Nat) : mpz n xs h (k * 2 + 1) = lvl n xs (k * (2 * h) + h) h := by
  unfold mpz
  rw [if_neg (by omega), show (k * 2 + 1) / 2 = k by omega]

theorem mpz_snoc (n : Nat) (xs : Nat → Int) (h k : Nat) {x y : Int} (hx : x = lvl n xs (k * (2 * h)) h) (hy : y = lvl n xs (k * (2 * h) + h) h) : ils (mpz n xs h) (k * 2) ++ [.int .i64 x, .int .i64 y] = ils (mpz n xs h) ((k + 1) * 2) := by
  rw [show (k + 1) * 2 = k * 2 + 1 + 1 by omega, ils_snoc, ils_snoc, mpz_0, mpz_1, ← hx, ← hy, List.append_assoc]
  rfl

/-- Half a width. -/
abbrev Hlf (h : Nat) : Prop := h = 1 ∨ h = 2 ∨ h = 3 ∨ h = 4
/-- A width. -/
abbrev Wid (x : Int) : Prop := x = 2 ∨ x = 4 ∨ x = 6 ∨ x = 8

theorem hlf_pow {h : Nat} (hh : Hlf h) : (2 : Nat) ^ h ≤ 16 ∧ (2 : Nat) ≤ 2 ^ h := by
  rcases hh with rfl | rfl | rfl | rfl <;> decide

theorem two_new (w : World) (a b : Value) (t : TypeId) : ∀ j u, [a, b][j]? = some u → (w.alloc (.cells #[a, b] t)).cell? ((⟨w.heap.size, 0, none⟩ : Addr).add j) = some u := by
  intro j u h
  match j, h with
  | 0, h => simp at h; subst h; simp [Addr.add]
  | 1, h => simp at h; subst h; simp [Addr.add]
  | n + 2, h => simp at h

/-- The bits, filled with noughts. -/
def pad (n : Nat) (xs : Nat → Int) (i : Nat) : Int := if i < n then xs i else 0

theorem pad_bit {n : Nat} {xs : Nat → Int} (h : ∀ k, k < n → Bit (xs k)) (i : Nat) : Bit (pad n xs i) := by
  unfold pad
  split
  · exact h _ (by assumption)
  · exact .inl rfl

theorem nba_cut {n h : Nat} {xs : Nat → Int} (f c : Nat) (hc : c ≤ h) : nba h (fun j => pad n xs (f + j)) 0 c = nba n xs f c := by
  induction c with
  | zero => rfl
  | succ c ih =>
    rw [nba, nba, ih (by omega), if_pos (by omega)]
    congr 1
    rw [Nat.zero_add]
    show (if f + c < n then xs (f + c) else 0).toNat = if f + c < n then (xs (f + c)).toNat else 0
    by_cases h1 : f + c < n
    · rw [if_pos h1, if_pos h1]
    · rw [if_neg h1, if_neg h1]; rfl
end Go.Proofs.Ytpjpkkgcnnmljaa

namespace Go.Proofs.Ytpjpkkgcnnmljaa
open Go.RowKit

theorem sWid_any (x : Int) (w : World) : Calls Try.prog 30 #[.int .i64 x] w fun e w' => e = .returned (.bool (decide (Wid x))) ∧ w' = w := by
  obtain ⟨d, hd⟩ : ∃ d, d = decide (Wid x) := ⟨_, rfl⟩
  rw [← hd]
  have HD : Hid _ := hd
  clear hd
  by_cases h2 : x = 2
  · subst h2
    go_enter Try.func30, Try.ntmps30
    go_wp2
    go_ret
    exact ⟨congrArg (fun z => Ending.returned (.bool z)) (by rw [HD.out]; rfl), rfl⟩
  · have b2 : (x == 2) = false := by simpa using h2
    by_cases h4 : x = 4
    · subst h4
      go_enter Try.func30, Try.ntmps30
      go_wp2
      go_ret
      exact ⟨congrArg (fun z => Ending.returned (.bool z)) (by rw [HD.out]; rfl), rfl⟩
    · have b4 : (x == 4) = false := by simpa using h4
      by_cases h6 : x = 6
      · subst h6
        go_enter Try.func30, Try.ntmps30
        go_wp2
        go_ret
        exact ⟨congrArg (fun z => Ending.returned (.bool z)) (by rw [HD.out]; rfl), rfl⟩
      · have b6 : (x == 6) = false := by simpa using h6
        by_cases h8 : x = 8
        · subst h8
          go_enter Try.func30, Try.ntmps30
          go_wp2
          go_ret
          exact ⟨congrArg (fun z => Ending.returned (.bool z)) (by rw [HD.out]; rfl), rfl⟩
        · have b8 : (x == 8) = false := by simpa using h8
          have HN : Hid (¬ Wid x) := by rintro (h | h | h | h) <;> omega
          clear h2 h4 h6 h8
          go_enter Try.func30, Try.ntmps30
          go_wp2
          go_ret
          exact ⟨congrArg (fun z => Ending.returned (.bool z)) (by rw [HD.out]; exact (decide_eq_false HN.out).symm), rfl⟩

theorem iWid_any (x : Int) (w : World) : Calls Try.prog 37 #[.int .i64 x] w fun e w' => e = .returned (.bool (decide (Wid x))) ∧ w' = w := by
  obtain ⟨d, hd⟩ : ∃ d, d = decide (Wid x) := ⟨_, rfl⟩
  rw [← hd]
  have HD : Hid _ := hd
  clear hd
  by_cases h2 : 2 ≤ x
  · by_cases h8 : x ≤ 8
    · obtain ⟨r, hr⟩ : ∃ r, r = x % 2 := ⟨_, rfl⟩
      have e0 : x % 2 = r := hr.symm
      have e1 : x.tmod 2 = r := by rw [Int.tmod_eq_emod_of_nonneg (by omega)]; exact e0
      by_cases h0 : r = 0
      · have HY : Hid (Wid x) := by show Wid x; unfold Wid; omega
        subst h0
        clear hr
        go_enter Try.func37, Try.ntmps37
        go_wp2
        go_ret
        exact ⟨congrArg (fun z => Ending.returned (.bool z)) (by rw [HD.out]; exact (decide_eq_true HY.out).symm), rfl⟩
      · have HY : Hid (¬ Wid x) := by show ¬ Wid x; unfold Wid; omega
        have b0 : (r == 0) = false := by simpa using h0
        clear hr
        go_enter Try.func37, Try.ntmps37
        go_wp2
        go_ret
        exact ⟨congrArg (fun z => Ending.returned (.bool z)) (by rw [HD.out]; exact (decide_eq_false HY.out).symm), rfl⟩
    · have HY : Hid (¬ Wid x) := by show ¬ Wid x; unfold Wid; omega
      go_enter Try.func37, Try.ntmps37
      go_wp2
      go_ret
      exact ⟨congrArg (fun z => Ending.returned (.bool z)) (by rw [HD.out]; exact (decide_eq_false HY.out).symm), rfl⟩
  · have HY : Hid (¬ Wid x) := by show ¬ Wid x; unfold Wid; omega
    go_enter Try.func37, Try.ntmps37
    go_wp2
    go_ret
    exact ⟨congrArg (fun z => Ending.returned (.bool z)) (by rw [HD.out]; exact (decide_eq_false HY.out).symm), rfl⟩

theorem top_any {h : Nat} (hh : Hlf h) (w : World) : Calls Try.prog 60 #[.int .i64 (h : Int)] w fun e w' => e = .returned (.int .i64 (2 ^ h - 1)) ∧ w' = w := by
  rcases hh with rfl | rfl | rfl | rfl
  · go_enter Try.func60, Try.ntmps60
    go_wp2
    go_ret
    exact ⟨rfl, rfl⟩
  · go_enter Try.func60, Try.ntmps60
    go_wp2
    go_ret
    exact ⟨rfl, rfl⟩
  · go_enter Try.func60, Try.ntmps60
    go_wp2
    go_ret
    exact ⟨rfl, rfl⟩
  · go_enter Try.func60, Try.ntmps60
    go_wp2
    go_ret
    exact ⟨rfl, rfl⟩

set_option maxHeartbeats 2000000 in
theorem place_any {w : World} {v : Value} {n f h : Nat} {xs : Nat → Int} (hv : Il w v n xs) (hb : Bts n xs) (hf : f ≤ 1048576) (hh : Hlf h) :
    Calls Try.prog 54 #[v, .int .i64 (f : Int), .int .i64 (h : Int)] w fun e w' => e = .returned (.int .i64 (lvl n xs f h)) ∧ w' = w := by
  have h4 : h ≤ 4 := by rcases hh with rfl | rfl | rfl | rfl <;> omega
  have i1 := number_any hv hb hf (show h ≤ 8 by omega)
  have hp := (hlf_pow hh).1
  have hlt := nba_lt hb.2 f h
  have hul := ung_lt (n := nba n xs f h) (k := h) hlt
  obtain ⟨z, hz⟩ : ∃ z, z = lvl n xs f h := ⟨_, rfl⟩
  have i2 := iUng_yes (n := nba n xs f h) (by omega)
  have i3 := top_any hh
  unfold lvl at hz
  rw [show lvl n xs f h = z from hz.symm ▸ rfl]
  obtain ⟨q, hq⟩ : ∃ q : Nat, q = nba n xs f h := ⟨_, rfl⟩
  rw [← hq] at i1 i2 hul hz
  obtain ⟨u, hu⟩ : ∃ u : Nat, u = ung q := ⟨_, rfl⟩
  rw [← hu] at i2 hul hz
  obtain ⟨p, hp2⟩ : ∃ p : Int, p = 2 ^ h - 1 := ⟨_, rfl⟩
  have hpb : 0 ≤ p ∧ p ≤ 15 := by
    rw [hp2]
    rcases hh with rfl | rfl | rfl | rfl <;> decide
  rw [← hp2] at i3 hz
  have e0 : 2 * (u : Int) - p = z := hz.symm
  clear hz hq hu hp2 hlt hv hb hh
  go_enter Try.func54, Try.ntmps54
  go_wp2_with (first | (go_at_call 59; (with_reducible refine (i1).mono ?_); rintro e w' ⟨rfl, hw⟩; obtain rfl := hw.symm) | (go_at_call 58; (with_reducible refine (i2 _).mono ?_); rintro e w' ⟨rfl, hw⟩; obtain rfl := hw.symm) | (go_at_call 60; (with_reducible refine (i3 _).mono ?_); rintro e w' ⟨rfl, hw⟩; obtain rfl := hw.symm))
  go_ret
  exact ⟨rfl, rfl⟩

set_option maxHeartbeats 2000000 in
theorem sLev_any {w : World} {v : Value} {h : Nat} {ys : Nat → Int} (hv : Il w v h ys) (hb : ∀ k, k < h → Bit (ys k)) (hh : Hlf h) :
    Calls Try.prog 36 #[v] w fun e w' => e = .returned (.int .i64 (lvl h ys 0 h)) ∧ w' = w := by
  have h4 : h ≤ 4 := by rcases hh with rfl | rfl | rfl | rfl <;> omega
  have hp := (hlf_pow hh).1
  have hlt := nba_lt hb 0 h
  have hul := ung_lt (n := nba h ys 0 h) (k := h) hlt
  have i2 := sUng_yes (n := nba h ys 0 h) (by omega)
  obtain ⟨z, hz⟩ : ∃ z, z = lvl h ys 0 h := ⟨_, rfl⟩
  rw [← hz]
  unfold lvl at hz
  obtain ⟨q, hq⟩ : ∃ q : Nat, q = nba h ys 0 h := ⟨_, rfl⟩
  have HQ : Hid (q = nba h ys 0 h) := hq
  rw [← hq] at i2 hul hz hlt
  obtain ⟨u, hu⟩ : ∃ u : Nat, u = ung q := ⟨_, rfl⟩
  rw [← hu] at i2 hul hz
  obtain ⟨p, hp2⟩ : ∃ p : Int, p = 2 ^ h - 1 := ⟨_, rfl⟩
  have hpb : 0 ≤ p ∧ p ≤ 15 := by
    rw [hp2]
    rcases hh with rfl | rfl | rfl | rfl <;> decide
  have e1 : (2 : Int) ^ h = p + 1 := by rw [hp2]; omega
  have e2 : IntKind.u64.wrap (h : Int) = (h : Int) := by rw [IntKind.wrap_u64]; omega
  rw [← hp2] at hz
  have e0 : 2 * (u : Int) - p = z := hz.symm
  have HBT : Hid (∀ k, k < h → Bit (ys k)) := hb
  obtain ⟨ao, cap, rfl, hcap, hc⟩ := hv
  have HC : Hid (0 < h → ∃ b off, ao = some ⟨b, off, none⟩ ∧ b < w.heap.size ∧ ∀ k, k < h → w.cell? ⟨b, off + k, none⟩ = some (.int .i64 (ys k))) := hc
  clear hz hq hu hp2 hc hb hh
  go_enter Try.func36, Try.ntmps36
  go_wp2
  go_loopw [3, 4] (fun a i wr => ∃ k m : Nat, i = .int .i64 (k : Int) ∧ a = .int .i64 (m : Int) ∧ k ≤ h ∧ m < 16 ∧ wr = w ∧ Hid (m = nba h ys 0 k)) (fun _ i _ => h - (intOf i).toNat)
  case atStart => exact ⟨0, 0, rfl, rfl, by omega, by omega, rfl, rfl⟩
  case round =>
    obtain ⟨k, m, rfl, rfl, hk, hm, rfl, hrel⟩ := hrel
    by_cases h1 : k < h
    · obtain ⟨b, off, rfl, hlt2, hcell⟩ := HC.out (by omega)
      have c0 := hcell k h1
      rw [nb_eq HBT.out h1] at c0
      obtain ⟨y, hy⟩ : ∃ y : Nat, y = nbt ys k := ⟨_, rfl⟩
      rw [← hy] at c0
      have hyb : y ≤ 1 := by rw [hy]; exact nb_le HBT.out h1
      have hn1 : nba h ys 0 (k + 1) = m * 2 + y := by rw [nba, Nat.zero_add, if_pos h1, ← hrel.out, hy]
      have hlt3 := nba_lt HBT.out 0 (k + 1)
      have hp3 : (2 : Nat) ^ (k + 1) ≤ 2 ^ 4 := Nat.pow_le_pow_right (by omega) (by omega)
      rw [hn1] at hlt3
      have HN : Hid (m * 2 + y = nba h ys 0 (k + 1)) := hn1.symm
      clear hcell hrel hn1 hy
      go_wp2
      go_roundw
      case rel => exact ⟨k + 1, m * 2 + y, by go_num, by first | go_num | (congr 1; omega), by omega, by omega, by trivial, HN.out⟩
      case measure => simp [intOf]; omega
    · obtain rfl : h = k := by omega
      obtain rfl : q = m := by rw [HQ.out]; exact hrel.out.symm
      go_wp2_with (first | (go_at_call 45; (with_reducible refine (i2 _).mono ?_); rintro e w' ⟨rfl, hw⟩; obtain rfl := hw.symm))
      go_ret
      exact ⟨rfl, rfl⟩
end Go.Proofs.Ytpjpkkgcnnmljaa
