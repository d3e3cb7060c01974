/- FnUpDown: the draws. -/
import Derived.Test.YtpgfmlpddbdkiaaUC
import Derived.Test.YtpgfmlpddbdkiaaD4
namespace Go.Proofs.Ytpgfmlpddbdkiaa
open Go.RowKit

set_option maxHeartbeats 1000000 in
theorem same_yes {w : World} {u v : Value} {n : Nat} {xs ys : Nat → Int} (hu : Il w u n xs) (hv : Il w v n ys) (hn : n ≤ 1048576) (he : ∀ k, k < n → xs k = ys k) : Calls Try.prog 8 #[u, v] w fun e w' => e = .returned (.bool true) ∧ Below w.heap.size w w' := by
  obtain ⟨ao, cap, rfl, hcap, hc⟩ := hu
  obtain ⟨ao2, cap2, rfl, hcap2, hc2⟩ := hv
  have HC : Hid (0 < n → ∃ b off, ao = some ⟨b, off, none⟩ ∧ b < w.heap.size ∧ ∀ k, k < n → w.cell? ⟨b, off + k, none⟩ = some (.int .i64 (xs k))) := hc
  have HC2 : Hid (0 < n → ∃ b off, ao2 = some ⟨b, off, none⟩ ∧ b < w.heap.size ∧ ∀ k, k < n → w.cell? ⟨b, off + k, none⟩ = some (.int .i64 (ys k))) := hc2
  have HE : Hid (∀ k, k < n → xs k = ys k) := he
  clear hc hc2 he
  go_enter Try.func8, Try.ntmps8
  go_wp2
  go_loopw [5] (fun i wr => ∃ k : Nat, i = .int .i64 k ∧ k ≤ n ∧ Hid (Below w.heap.size w wr)) (fun i _ => n - (intOf i).toNat)
  case atStart => exact ⟨0, rfl, by omega, Below.refl _ _⟩
  case round =>
    obtain ⟨k, rfl, hk, hrel⟩ := hrel
    by_cases h1 : k < n
    · obtain ⟨b, off, rfl, hlt, hcell⟩ := HC.out (by omega)
      obtain ⟨b2, off2, rfl, hlt2, hcell2⟩ := HC2.out (by omega)
      have c := (hrel.out.cell (p := ⟨b, off + k, none⟩) hlt).trans (hcell k h1)
      have c2 := (hrel.out.cell (p := ⟨b2, off2 + k, none⟩) hlt2).trans (hcell2 k h1)
      rw [← HE.out k h1] at c2
      clear hcell hcell2
      go_wp2_with (go_quiet (fail))
      go_roundw
      case rel => exact ⟨k + 1, by go_num, by omega, by first | exact hrel.out | exact below_drewN hrel.out _⟩
      case measure => simp [intOf]; omega
    · obtain rfl : k = n := by omega
      go_wp2
      go_ret
      exact ⟨rfl, hrel.out⟩

theorem dby_x {w : World} {c : Nat} {a : Option Addr} {len cap : Nat} (h : Cu w c a len cap) :
    Calls Try.prog 13 #[.pointer (some ⟨c, 0, none⟩)] w fun e w' => ∃ k : Int, e = .returned (.int .i64 k) ∧ Cu w' c a len cap ∧ Keep c w w' := by
  have i1 := pick_lit [1, 2, 3, 4, 5, 7, 16, 17, 0] (by decide) (by decide) h
  clear h
  go_enter Try.func13, Try.ntmps13
  go_wp2_with (first
    | (go_at_call 23; refine i1.mono ?_; rintro e w4 ⟨lv, rfl, hc, hk⟩; have HC : Hid (Cu w4 c a len cap ∧ Keep c w w4) := ⟨hc, hk⟩; clear hc hk))
  go_ret
  exact ⟨_, rfl, HC.out.1, HC.out.2⟩

theorem dup_x {w : World} {a : Option Addr} {len cap : Nat} (hr : Row w a len) (hl : len ≤ 1048576) :
    Calls Try.prog 5 #[.slice a len cap] w fun e w' => ∃ (u : Value) (k : Int), e = .returned (.tuple #[u, .int .i64 k]) ∧ Hid ((∃ n ys, n ≤ 513 ∧ Il w' u n ys) ∧ Below w.heap.size w w') := by
  have HR : Hid (Row w a len) := hr
  clear hr
  obtain ⟨c, hcd⟩ : ∃ c, w.heap.size = c := ⟨_, rfl⟩
  have HN : Hid (Calls Try.prog 10 #[.slice a len cap] w fun e w' => e = .returned (.pointer (some ⟨c, 0, none⟩)) ∧ Cu w' c a len cap ∧ Below w.heap.size w w') := by have := new_x (cap := cap) HR.out (by omega); rw [← hcd]; exact this
  have HCD : Hid (w.heap.size ≤ c) := Nat.le_of_eq hcd
  clear hcd
  go_enter Try.func5, Try.ntmps5
  go_wp2_with (first
    | (go_at_call 10; refine HN.out.mono ?_; rintro e w1 ⟨rfl, hc, hb⟩; have HC1 : Hid (Cu w1 c a len cap) := hc; have B1 : Hid (Below w.heap.size w w1) := hb; clear hc hb)
    | (go_at_call 12; refine (size_x a len cap 40 hl).mono ?_; rintro e w' ⟨z, rfl, hz5, _, hz6, hw⟩; obtain rfl := hw.symm; have hz7 := hz6 (by omega); clear hz6)
    | (go_at_call 11; refine (dany_x HC1.out z (by omega)).mono ?_; rintro e w3 ⟨v, n, ys, rfl, hn, hI, hc, hk⟩; have F3 : Hid (n ≤ 513 ∧ w3.ownsRow w1.heap.size 3 1 v n (ils ys n)) := ⟨hn, hI⟩; have L2 : Hid (c < w1.heap.size) := HC1.out.lt; have K3 : Hid (Keep c w1 w3) := hk; have i20 := dby_x hc; clear hc hk hI hn)
    | (go_at_call 13; refine i20.mono ?_; rintro e w4 ⟨lv, rfl, hc, hk⟩; have B4 : Hid (Below w.heap.size w w4) := Below.keep B1.out (K3.out.trans hk) HCD.out; have F4 : Hid (∃ n ys, n ≤ 513 ∧ Il w4 v n ys) := ⟨n, ys, F3.out.1, il_of_own (own_keep F3.out.2 hk L2.out)⟩; clear hc hk))
  go_ret2
  exact ⟨_, _, rfl, F4.out, B4.out⟩

theorem iU_any {W : World} {u : Value} {n : Nat} {k : Int} {ys : Nat → Int} (hu : Il W u n ys) (hn : n ≤ 513) : Calls Try.prog 6 #[u, .int .i64 k] W fun e w' => ∃ v N zs, e = .returned (.tuple #[v, .bool (decide (GUp n ys k))]) ∧ Il w' v N zs ∧ Below W.heap.size W w' ∧ (GUp n ys k → ∃ m : Nat, k = m ∧ N = n * m ∧ zs = upF m ys) ∧ (¬ GUp n ys k → N = 0) := by
  by_cases h : GUp n ys k
  · obtain ⟨m, rfl⟩ : ∃ m : Nat, k = (m : Int) := ⟨k.toNat, by have := h.2.1.1; omega⟩
    rw [decide_eq_true h]
    refine (iUp_good hu h rfl).mono ?_
    rintro e w' ⟨v, rfl, h1, h2⟩
    exact ⟨v, _, _, rfl, il_of_own h1, h2, fun _ => ⟨m, rfl, rfl, rfl⟩, fun h' => absurd h h'⟩
  · rw [decide_eq_false h]
    refine (iUp_bad hu (by omega) h (fun _ => 0)).mono ?_
    rintro e w' ⟨v, rfl, h1, h2⟩
    exact ⟨v, _, _, rfl, il_of_own h1, h2, fun h' => absurd h' h, fun _ => rfl⟩

theorem sU_any {W : World} {u : Value} {n : Nat} {k : Int} {ys : Nat → Int} (hu : Il W u n ys) (hn : n ≤ 513) : Calls Try.prog 7 #[u, .int .i64 k] W fun e w' => ∃ v, e = .returned (.tuple #[v, .bool (decide (GUp n ys k))]) ∧ Below W.heap.size W w' := by
  by_cases h : GUp n ys k
  · obtain ⟨m, rfl⟩ : ∃ m : Nat, k = (m : Int) := ⟨k.toNat, by have := h.2.1.1; omega⟩
    rw [decide_eq_true h]
    refine (sUp_good hu h rfl).mono ?_
    rintro e w' ⟨v, rfl, h1, h2⟩
    exact ⟨v, rfl, h2⟩
  · rw [decide_eq_false h]
    refine (sUp_bad hu (by omega) h (fun _ => 0)).mono ?_
    rintro e w' ⟨v, rfl, h1, h2⟩
    exact ⟨v, rfl, h2⟩

/-- The lists that are typed out. -/
def lit3 (_ : Nat) : Int := 3
def lit30 (i : Nat) : Int := if i = 0 then 3 else 0

theorem lit3_il (w : World) : Il (w.alloc (.cells #[.int .i64 3] 3)) (.slice (some ⟨w.heap.size, 0, none⟩) 1 1) 1 lit3 := by
  refine ⟨_, _, rfl, Nat.le_refl _, fun _ => ⟨_, _, rfl, by simp, fun k hk => ?_⟩⟩
  match k, hk with
  | 0, _ => simp [lit3]

theorem lit30_il (w : World) : Il (w.alloc (.cells #[.int .i64 3, .int .i64 0] 3)) (.slice (some ⟨w.heap.size, 0, none⟩) 2 2) 2 lit30 := by
  refine ⟨_, _, rfl, Nat.le_refl _, fun _ => ⟨_, _, rfl, by simp, fun k hk => ?_⟩⟩
  match k, hk with
  | 0, _ => simp [lit30]
  | 1, _ => simp [lit30]

theorem lit3_good : GUp 1 lit3 ((2 : Nat) : Int) := ⟨⟨by decide, fun k _ => by unfold lit3; decide⟩, by decide, by decide⟩

theorem lit3_up : ∀ k, k < 2 → upF 2 lit3 k = lit30 k := fun k hk => by match k, hk with | 0, _ => decide | 1, _ => decide

theorem up_lit (w : World) : Calls Try.prog 6 #[.slice (some ⟨w.heap.size, 0, none⟩) 1 1, .int .i64 2] (w.alloc (.cells #[.int .i64 3] 3)) fun e w' => Pst (w.alloc (.cells #[.int .i64 3] 3)) w' e 2 (upF 2 lit3) true := iUp_good (m := 2) (M := 2) (lit3_il w) lit3_good rfl

/-- Thinned again it is itself. -/
theorem down_up {n m : Nat} (ys : Nat → Int) (hm : 0 < m) : dN (n * m) m 0 = n ∧ ∀ j, thF m 0 (upF m ys) j = ys j := by
  refine ⟨dN_of hm (by rw [Nat.mul_comm]; omega) (by rw [Nat.mul_comm n]; omega), fun j => ?_⟩
  show upF m ys (0 + m * j) = ys j
  rw [Nat.zero_add, Nat.mul_comm]
  exact upF_at hm ys

theorem down_last {n m : Nat} (ys : Nat → Int) (hm : 1 < m) : dN (n * m) m (m - 1) = n ∧ ∀ j, thF m (m - 1) (upF m ys) j = 0 := by
  refine ⟨dN_of (by omega) (by rw [Nat.mul_comm n]; omega) (by rw [Nat.mul_comm n]; omega), fun j => ?_⟩
  show upF m ys (m - 1 + m * j) = 0
  rw [Nat.add_comm, Nat.mul_comm]
  exact upF_off (by omega) (by omega) ys

theorem dn_first {W : World} {u : Value} {n m : Nat} {xs : Nat → Int} (hu : Il W u n xs) (h : Sig n xs) (hm : Rte (m : Int)) : Calls Try.prog 9 #[u, .int .i64 (m : Int), .int .i64 0] W fun e w' => Pst W w' e (dN n m 0) (thF m 0 xs) true := iDown_good (p := 0) hu ⟨h, hm, by omega, by omega⟩

theorem dn_last {W : World} {u : Value} {n m : Nat} {xs : Nat → Int} (hu : Il W u n xs) (h : Sig n xs) (hm : Rte (m : Int)) : Calls Try.prog 9 #[u, .int .i64 (m : Int), .int .i64 ((m : Int) - 1)] W fun e w' => Pst W w' e (dN n m (m - 1)) (thF m (m - 1) xs) true := by
  have e : (m : Int) - 1 = ((m - 1 : Nat) : Int) := by omega
  rw [e]
  exact iDown_good hu ⟨h, hm, by omega, by omega⟩

theorem upF_sig {n m : Nat} {ys : Nat → Int} (h : Sig n ys) (hm : 0 < m) (hM : n * m ≤ 512) : Sig (n * m) (upF m ys) := by
  refine ⟨hM, fun j hj => ?_⟩
  unfold upF
  by_cases h0 : j % m = 0
  · rw [if_pos h0]; exact h.2 _ ((Nat.div_lt_iff_lt_mul hm).2 hj)
  · rw [if_neg h0]; exact ⟨by omega, by omega⟩
end Go.Proofs.Ytpgfmlpddbdkiaa
