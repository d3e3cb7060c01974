/- FnDrifted: in plain numbers. -/
import Derived.Test.YtpgoagomhcfinaaUF
import Derived.Test.YtpgoagomhcfinaaUC
import Derived.Test.YtpgoagomhcfinaaVF
namespace Go.Proofs.Ytpgoagomhcfinaa
open Go.RowKit

set_option maxHeartbeats 1000000 in
theorem same_yes {w : World} {u v : Value} {n : Nat} {xs ys : Nat → Int} (hu : Il w u n xs) (hv : Il w v n ys) (hn : n ≤ 1048576) (he : ∀ k, k < n → xs k = ys k) : Calls Try.prog 11 #[u, v] w fun e w' => e = .returned (.bool true) ∧ Below w.heap.size w w' := by
  obtain ⟨ao, cap, rfl, hcap, hc⟩ := hu
  obtain ⟨ao2, cap2, rfl, hcap2, hc2⟩ := hv
  have HC : Hid (0 < n → ∃ b off, ao = some ⟨b, off, none⟩ ∧ b < w.heap.size ∧ ∀ k, k < n → w.cell? ⟨b, off + k, none⟩ = some (.int .i64 (xs k))) := hc
  have HC2 : Hid (0 < n → ∃ b off, ao2 = some ⟨b, off, none⟩ ∧ b < w.heap.size ∧ ∀ k, k < n → w.cell? ⟨b, off + k, none⟩ = some (.int .i64 (ys k))) := hc2
  have HE : Hid (∀ k, k < n → xs k = ys k) := he
  clear hc hc2 he
  go_enter Try.func11, Try.ntmps11
  go_wp2
  go_loopw [5] (fun i wr => ∃ k : Nat, i = .int .i64 k ∧ k ≤ n ∧ Hid (Below w.heap.size w wr)) (fun i _ => n - (intOf i).toNat)
  case atStart => exact ⟨0, rfl, by omega, Below.refl _ _⟩
  case round =>
    obtain ⟨k, rfl, hk, hrel⟩ := hrel
    by_cases h1 : k < n
    · obtain ⟨b, off, rfl, hlt, hcell⟩ := HC.out (by omega)
      obtain ⟨b2, off2, rfl, hlt2, hcell2⟩ := HC2.out (by omega)
      have c := (hrel.out.cell (p := ⟨b, off + k, none⟩) hlt).trans (hcell k h1)
      have c2 := (hrel.out.cell (p := ⟨b2, off2 + k, none⟩) hlt2).trans (hcell2 k h1)
      rw [← HE.out k h1] at c2
      clear hcell hcell2
      go_wp2_with (go_quiet (fail))
      go_roundw
      case rel => exact ⟨k + 1, by go_num, by omega, by first | exact hrel.out | exact below_drewN hrel.out _⟩
      case measure => simp [intOf]; omega
    · obtain rfl : k = n := by omega
      go_wp2
      go_ret
      exact ⟨rfl, hrel.out⟩

theorem at_0 {w : World} {a : Option Addr} {n cap : Nat} (hr : Row w a n) (hn : n ≤ 1048576) : Calls Try.prog 7 #[.slice a n cap, .int .i64 0] w fun e w' => ∃ m : Int, (0 ≤ m ∧ m ≤ 255) ∧ e = .returned (.int .i64 m) ∧ w' = w := by
  by_cases h : 0 < n
  · obtain ⟨b, off, z, rfl, hb, hc, hz0, hz1⟩ := hr 0 h
    clear hr hb
    rw [Nat.add_zero] at hc
    go_enter Try.func7, Try.ntmps7
    go_wp2
    go_ret
    exact ⟨z, by omega, rfl, rfl⟩
  · clear hr
    obtain rfl : n = 0 := by omega
    go_enter Try.func7, Try.ntmps7
    go_wp2
    go_ret
    exact ⟨0, by omega, by first | rfl | simp, rfl⟩

theorem at_1 {w : World} {a : Option Addr} {n cap : Nat} (hr : Row w a n) (hn : n ≤ 1048576) : Calls Try.prog 7 #[.slice a n cap, .int .i64 1] w fun e w' => ∃ m : Int, (0 ≤ m ∧ m ≤ 255) ∧ e = .returned (.int .i64 m) ∧ w' = w := by
  by_cases h : 1 < n
  · obtain ⟨b, off, z, rfl, hb, hc, hz0, hz1⟩ := hr 1 h
    clear hr hb
    go_enter Try.func7, Try.ntmps7
    go_wp2
    go_ret
    exact ⟨z, by omega, rfl, rfl⟩
  · clear hr
    go_enter Try.func7, Try.ntmps7
    go_wp2
    go_ret
    exact ⟨(7 + (n : Int)) % 256, by omega, by first | rfl | simp, rfl⟩

theorem dN_fit {n m j : Nat} (hm : 0 < m) : j < dN n m 0 ↔ m * j < n := by
  unfold dN
  rw [Nat.lt_div_iff_mul_lt hm]
  rw [Nat.mul_comm]
  omega

theorem fit_iff {n b j : Nat} {d : Int} (hd : 1 ≤ d) : 0 + (b : Int) * d * (j : Int) ≤ d * ((n : Int) - 1) ↔ b * j < n := by
  have e : (b : Int) * d * (j : Int) = d * ((b * j : Nat) : Int) := by
    rw [Int.natCast_mul, Int.mul_comm (b : Int) d, Int.mul_assoc]
  rw [e, Int.zero_add]
  constructor
  · intro h
    have := Int.le_of_mul_le_mul_left h (show 0 < d by omega)
    omega
  · intro h
    exact Int.mul_le_mul_of_nonneg_left (by omega) (by omega)

theorem spt_in {n k : Nat} {xs : Nat → Int} (h : k < n) : spt n xs (k : Int) = xs k := by
  unfold spt
  rw [if_pos ⟨by omega, by omega⟩]
  rfl

theorem atV_whole {n : Nat} {xs : Nat → Int} {d : Int} (q : Int) (hd : 1 ≤ d) : atV n xs (q * d) d = spt n xs q := by
  rw [atV_zero (Int.mul_emod_left q d), Int.mul_ediv_cancel _ (by omega)]

/-- Drifting by whole samples thins. -/
theorem drift_thin {n b : Nat} {xs : Nat → Int} {d : Int} (hb : 0 < b) (hd : 1 ≤ d) {j : Nat} (h : j < dN n b 0) : drF n xs ((b : Int) * d) d 0 j = thF b 0 xs j := by
  have h1 := (dN_fit hb).1 h
  have e : 0 + (b : Int) * d * (j : Int) = ((b * j : Nat) : Int) * d := by
    rw [Int.natCast_mul, Int.zero_add, Int.mul_assoc, Int.mul_comm d, ← Int.mul_assoc]
  show atV n xs (0 + (b : Int) * d * (j : Int)) d = xs (0 + b * j)
  rw [e, atV_whole _ hd, spt_in h1, Nat.zero_add]

theorem delay_early {n l : Nat} {xs : Nat → Int} {d : Int} (hd : 1 ≤ d) {i : Nat} (h : i < l) : dlF n xs ((l : Int) * d) d i = 0 := by
  show atV n xs ((i : Int) * d - (l : Int) * d) d = 0
  rw [← Int.sub_mul, atV_whole _ hd]
  unfold spt
  rw [if_neg (by omega)]

theorem delay_late {n l : Nat} {xs : Nat → Int} {d : Int} (hd : 1 ≤ d) {i : Nat} (h : l ≤ i) (hi : i < n) : dlF n xs ((l : Int) * d) d i = xs (i - l) := by
  show atV n xs ((i : Int) * d - (l : Int) * d) d = xs (i - l)
  rw [← Int.sub_mul, atV_whole _ hd, show (i : Int) - (l : Int) = ((i - l : Nat) : Int) by omega, spt_in (by omega)]

/-- The lists that are typed out. -/
def lit469 (i : Nat) : Int := if i = 0 then 4 else if i = 1 then 6 else 9
def lit10 (i : Nat) : Int := if i = 0 then 0 else 10
def lit510 (i : Nat) : Int := if i = 0 then 0 else if i = 1 then 5 else 10

theorem lit469_il (w : World) : Il (w.alloc (.cells #[.int .i64 4, .int .i64 6, .int .i64 9] 3)) (.slice (some ⟨w.heap.size, 0, none⟩) 3 3) 3 lit469 := by
  refine ⟨_, _, rfl, Nat.le_refl _, fun _ => ⟨_, _, rfl, by simp, fun k hk => ?_⟩⟩
  match k, hk with
  | 0, _ => simp [lit469]
  | 1, _ => simp [lit469]
  | 2, _ => simp [lit469]

theorem lit10_il (w : World) : Il (w.alloc (.cells #[.int .i64 0, .int .i64 10] 3)) (.slice (some ⟨w.heap.size, 0, none⟩) 2 2) 2 lit10 := by
  refine ⟨_, _, rfl, Nat.le_refl _, fun _ => ⟨_, _, rfl, by simp, fun k hk => ?_⟩⟩
  match k, hk with
  | 0, _ => simp [lit10]
  | 1, _ => simp [lit10]

theorem lit510_il (w : World) : Il (w.alloc (.cells #[.int .i64 0, .int .i64 5, .int .i64 10] 3)) (.slice (some ⟨w.heap.size, 0, none⟩) 3 3) 3 lit510 := by
  refine ⟨_, _, rfl, Nat.le_refl _, fun _ => ⟨_, _, rfl, by simp, fun k hk => ?_⟩⟩
  match k, hk with
  | 0, _ => simp [lit510]
  | 1, _ => simp [lit510]
  | 2, _ => simp [lit510]

theorem lit469_sig : Sig 3 lit469 := ⟨by decide, fun k hk => by match k, hk with | 0, _ => decide | 1, _ => decide | 2, _ => decide⟩

theorem lit10_half : ∀ k, k < 3 → drF 2 lit10 1 2 0 k = lit510 k := fun k hk => by match k, hk with | 0, _ => decide | 1, _ => decide | 2, _ => decide

theorem half_x (w : World) : Calls Try.prog 8 #[.slice (some ⟨w.heap.size, 0, none⟩) 2 2, .int .i64 1, .int .i64 2, .int .i64 0] (w.alloc (.cells #[.int .i64 0, .int .i64 10] 3)) fun e w' => Pst (w.alloc (.cells #[.int .i64 0, .int .i64 10] 3)) w' e 3 (drF 2 lit10 1 2 0) true :=
  iDrift_run (lit10_il w) ⟨⟨by decide, fun k hk => by match k, hk with | 0, _ => decide | 1, _ => decide⟩, by decide, by decide, by decide, by decide⟩ (by decide) (fun j hj => by match j, hj with | 0, _ => decide | 1, _ => decide | 2, _ => decide) (by decide)

theorem dn_first {W : World} {u : Value} {n m : Nat} {xs : Nat → Int} (hu : Il W u n xs) (h : Sig n xs) (hm : Rte (m : Int)) : Calls Try.prog 9 #[u, .int .i64 (m : Int), .int .i64 0] W fun e w' => Pst W w' e (dN n m 0) (thF m 0 xs) true := iDown_good (p := 0) hu ⟨h, hm, by omega, by omega⟩

theorem dr_x {W : World} {u : Value} {n b : Nat} {xs : Nat → Int} {d : Int} (hu : Il W u n xs) (h : Sig n xs) (hb : 1 ≤ b ∧ b ≤ 16) (hd : 1 ≤ d ∧ d ≤ 1000) : Calls Try.prog 8 #[u, .int .i64 ((b : Int) * d), .int .i64 d, .int .i64 0] W fun e w' => Pst W w' e (dN n b 0) (drF n xs ((b : Int) * d) d 0) true := by
  have h5 := h.1
  have hb0 : 0 < b := by omega
  have p1 := mul_in (a := (b : Int)) (b := d) (A := 16) (B := 1000) (by omega) (by omega) (by omega)
  have p2 := Int.mul_pos (show 0 < (b : Int) by omega) (show 0 < d by omega)
  have hK := dN_le n b 0 hb0
  exact iDrift_run hu ⟨h, ⟨by omega, by omega⟩, ⟨by omega, by omega⟩, by omega, by omega⟩ (by omega) (fun j hj => (fit_iff hd.1).2 ((dN_fit hb0).1 hj)) (fun hh => absurd ((dN_fit hb0).2 ((fit_iff hd.1).1 hh)) (Nat.lt_irrefl _))

theorem dl_x {W : World} {u : Value} {n l : Nat} {xs : Nat → Int} {d : Int} (hu : Il W u n xs) (h : Sig n xs) (hl : l ≤ 8) (hd : 1 ≤ d ∧ d ≤ 1000) : Calls Try.prog 10 #[u, .int .i64 ((l : Int) * d), .int .i64 d] W fun e w' => Pst W w' e n (dlF n xs ((l : Int) * d) d) true := by
  have p1 := mul_in (a := (l : Int)) (b := d) (A := 8) (B := 1000) (by omega) (by omega) (by omega)
  have p2 := Int.mul_nonneg (show 0 ≤ (l : Int) by omega) (show 0 ≤ d by omega)
  exact iDelay_good hu ⟨h, ⟨by omega, by omega⟩, by omega, by omega⟩
end Go.Proofs.Ytpgoagomhcfinaa
