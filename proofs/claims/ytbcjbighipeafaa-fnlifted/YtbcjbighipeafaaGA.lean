/- Lifted: plain numbers; lists that are the same; what is drawn. -/
import Derived.Test.YtbcjbighipeafaaFE
import Derived.Test.YtbcjbighipeafaaD4
namespace Go.Proofs.Ytbcjbighipeafaa
open Go.RowKit

/-- What was lifted comes back. -/
theorem ubk_lft (kind : Int) (n : Nat) (xs : Nat → Int) {k : Nat} (hk : k < n) : ubk kind n (lft kind n xs) k = xs k := by
  have hh : ∀ i, i < n / 2 → (fun i => lft kind n xs ((n + 1) / 2 + i)) i = hiL kind n xs i := fun i hi => by
    show lft kind n xs ((n + 1) / 2 + i) = _
    unfold lft
    rw [if_neg (by omega), Nat.add_sub_cancel_left]
  have hb : ∀ i, i < (n + 1) / 2 → bev kind (n / 2) (lft kind n xs) (fun i => lft kind n xs ((n + 1) / 2 + i)) i = evs xs i := fun i hi => by
    unfold bev
    rw [md_congr hh]
    unfold lft
    rw [if_pos hi]
    unfold loL
    omega
  unfold ubk bck
  by_cases h2 : k % 2 = 0
  · rw [if_pos h2, hb _ (by omega)]
    unfold evs
    congr 1
    omega
  · rw [if_neg h2, gs_congr hb (by omega), hh _ (by omega)]
    unfold hiL
    rw [show 2 * (k / 2) + 1 = k by omega]
    omega


theorem ubk_congr {kind : Int} {n : Nat} {f g : Nat → Int} (h : ∀ k, k < n → f k = g k) {k : Nat} (hk : k < n) : ubk kind n f k = ubk kind n g k := by
  unfold ubk
  exact bck_congr (fun k hk => h k (by omega)) (fun k hk => h _ (by omega)) (by omega) (by omega) (by omega)

/-- One level there and back. -/
theorem st1_stL (kind : Int) (n : Nat) (xs : Nat → Int) (j : Nat) : st1 kind (lnt n j) (stL kind n xs (j + 1)) = stL kind n xs j := by
  funext i
  unfold st1
  by_cases h : i < lnt n j
  · rw [if_pos h, ubk_congr (g := lft kind (lnt n j) (stL kind n xs j)) (fun k hk => by show (if k < lnt n j then _ else _) = _; rw [if_pos hk]) h, ubk_lft kind _ _ h]
  · rw [if_neg h]
    show (if i < lnt n j then _ else _) = _
    rw [if_neg h]

/-- What was lifted level by level comes back. -/
theorem uF_stL {kind : Int} {n J : Nat} {xs : Nat → Int} {fs : List (Ln n)} (hfl : fs.length = J) (hf : ∀ k (h : k < fs.length), (fs[k]'h).1 = (J - 1 - k, lnt n (J - 1 - k))) : ∀ t, t ≤ J → uF kind (stL kind n xs J) (fs.take t) = stL kind n xs (J - t)
  | 0, _ => by simp [uF]
  | t + 1, ht => by
    have ih := uF_stL (kind := kind) (xs := xs) hfl hf t (by omega)
    have hp : (fs[t]'(by omega)).1.2 = lnt n (J - 1 - t) := by rw [hf t (by omega)]
    rw [take_more fs (by omega), uF_snoc, hp, ih, show J - t = (J - 1 - t) + 1 by omega, st1_stL, show J - (t + 1) = J - 1 - t by omega]

theorem iUnlift_back {w : World} {v : Value} {n L J B : Nat} {xs : Nat → Int} {kind : Int} (g : Gu kind n (stL kind n xs J) L) (hJ : Stp n L J) (hv : w.ownsRow B 3 1 v n (ils (stL kind n xs J) n)) :
    Calls Try.prog 13 #[.int .i64 kind, v, .int .i64 L] w fun e w' => Pst w w' e n xs true := by
  obtain ⟨fs, hfl, hf⟩ := lens_list hJ
  refine (iUnlift_good g hJ hv fs hfl hf).mono ?_
  rintro e w' ⟨u, rfl, ho, hb⟩
  have := uF_stL (kind := kind) (xs := xs) hfl hf J (Nat.le_refl _)
  rw [List.take_of_length_le (by omega), Nat.sub_self] at this
  rw [this] at ho
  exact ⟨u, rfl, ho, hb⟩

theorem back_once (kind : Int) (n : Nat) (xs : Nat → Int) {k : Nat} (hk : k < n) : bck kind ((n + 1) / 2) (n / 2) (loL kind n xs) (hiL kind n xs) k = xs k := by
  have h := ubk_lft kind n xs hk
  unfold ubk at h
  rw [← h]
  refine bck_congr (fun j hj => ?_) (fun j hj => ?_) (by omega) (by omega) (by omega)
  · unfold lft
    rw [if_pos hj]
  · show _ = lft kind n xs ((n + 1) / 2 + j)
    unfold lft
    rw [if_neg (by omega), Nat.add_sub_cancel_left]

set_option maxHeartbeats 2000000 in
/-- Lists that hold the same. -/
theorem same_yes {w : World} {v u : Value} {n : Nat} {xs ys : Nat → Int} (hv : Il w v n xs) (hu : Il w u n ys) (hn : n ≤ 1048576) (he : ∀ k, k < n → xs k = ys k) :
    Calls Try.prog 12 #[v, u] w fun e w' => e = .returned (.bool true) ∧ Below w.heap.size w w' := by
  obtain ⟨ao, cap, rfl, hcap, hc⟩ := hv
  obtain ⟨bo, cap2, rfl, hcap2, hc2⟩ := hu
  have HC : Hid (0 < n → ∃ b off, ao = some ⟨b, off, none⟩ ∧ b < w.heap.size ∧ ∀ k, k < n → w.cell? ⟨b, off + k, none⟩ = some (.int .i64 (xs k))) := hc
  have HC2 : Hid (0 < n → ∃ b off, bo = some ⟨b, off, none⟩ ∧ b < w.heap.size ∧ ∀ k, k < n → w.cell? ⟨b, off + k, none⟩ = some (.int .i64 (xs k))) := fun h0 => by
    obtain ⟨b, off, h1, h2, h3⟩ := hc2 h0
    exact ⟨b, off, h1, h2, fun k hk => by rw [he k hk]; exact h3 k hk⟩
  clear hc hc2 he
  go_enter Try.func12, Try.ntmps12
  go_wp2
  go_loopw [5] (fun i wr => ∃ k : Nat, i = .int .i64 k ∧ k ≤ n ∧ Hid (Below w.heap.size w wr)) (fun i _ => n - (intOf i).toNat)
  case atStart => exact ⟨0, rfl, by omega, Below.refl _ _⟩
  case round =>
    obtain ⟨k, rfl, hk, hbl⟩ := hrel
    by_cases h1 : k < n
    · obtain ⟨b, off, rfl, hlt, hcell⟩ := HC.out (by omega)
      obtain ⟨b2, off2, rfl, hlt2, hcell2⟩ := HC2.out (by omega)
      have c1 : wr.cell? ⟨b, off + k, none⟩ = some (.int .i64 (xs k)) := (hbl.out.cell (p := ⟨b, off + k, none⟩) hlt).trans (hcell k h1)
      have c2 : wr.cell? ⟨b2, off2 + k, none⟩ = some (.int .i64 (xs k)) := (hbl.out.cell (p := ⟨b2, off2 + k, none⟩) hlt2).trans (hcell2 k h1)
      clear hcell hcell2
      go_wp2_with (go_quiet (fail))
      go_roundw
      case rel => exact ⟨k + 1, by go_num, by omega, (Below.refl _ _).trans (below_drewN hbl.out _)⟩
      case measure => simp [intOf]; omega
    · obtain rfl : k = n := by omega
      go_wp2
      go_ret
      exact ⟨rfl, hbl.out⟩

set_option maxHeartbeats 4000000 in
theorem dlift_x {w : World} {a : Option Addr} {len cap : Nat} (hr : Row w a len) (hl : len ≤ 1048576) :
    Calls Try.prog 6 #[.slice a len cap] w fun e w' => ∃ (k lev : Int) (u : Value), e = .returned (.tuple #[.int .i64 k, u, .int .i64 lev]) ∧ Hid ((∃ n ys, n ≤ 513 ∧ ∃ B, w'.ownsRow B 3 1 u n (ils ys n)) ∧ Below w.heap.size w w') := by
  have HR : Hid (Row w a len) := hr
  clear hr
  obtain ⟨c, hcd⟩ : ∃ c, w.heap.size = c := ⟨_, rfl⟩
  have HN : Hid (Calls Try.prog 16 #[.slice a len cap] w fun e w' => e = .returned (.pointer (some ⟨c, 0, none⟩)) ∧ Cu w' c a len cap ∧ Below w.heap.size w w') := by have := new_x (cap := cap) HR.out (by omega); rw [← hcd]; exact this
  have HCD : Hid (w.heap.size ≤ c) := Nat.le_of_eq hcd
  clear hcd
  go_enter Try.func6, Try.ntmps6
  go_wp2_with (first
    | (go_at_call 16; refine HN.out.mono ?_; rintro e w1 ⟨rfl, hc, hb⟩; have HC1 : Hid (Cu w1 c a len cap) := hc; have B1 : Hid (Below w.heap.size w w1) := hb; clear hc hb)
    | (go_at_call 17; refine (below_x HC1.out 40).mono ?_; rintro e w2 ⟨k0, hk0, _, hk1, rfl, hc, hk⟩; have hk2 := hk1 (by omega); have HC2 : Hid (Cu w2 c a len cap) := hc; have K2 : Hid (Keep c w1 w2) := hk; clear hc hk hk1)
    | (go_at_call 19; refine (size_x a len cap 40 hl).mono ?_; rintro e w' ⟨z, rfl, hz5, _, hz6, hw⟩; obtain rfl := hw.symm; have hz7 := hz6 (by omega); clear hz6)
    | (go_at_call 18; refine (dany_x HC2.out z (by omega)).mono ?_; rintro e w3 ⟨v, n, ys, rfl, hn, hI, hc, hk⟩; have F3 : Hid (n ≤ 513 ∧ w3.ownsRow w2.heap.size 3 1 v n (ils ys n)) := ⟨hn, hI⟩; have L2 : Hid (c < w2.heap.size) := HC2.out.lt; have HC3 : Hid (Cu w3 c a len cap) := hc; have K3 : Hid (Keep c w1 w3) := K2.out.trans hk; have i20 := pick_lit [0, 1, 2, 3, 8, 9, -1, 5] (by decide) (by decide) hc; clear hc hk hI hn)
    | (go_at_call 20; refine i20.mono ?_; rintro e w4 ⟨lv, rfl, hc, hk⟩; have B4 : Hid (Below w.heap.size w w4) := Below.keep B1.out (K3.out.trans hk) HCD.out; have F4 : Hid (∃ n ys, n ≤ 513 ∧ ∃ B, w4.ownsRow B 3 1 v n (ils ys n)) := ⟨n, ys, F3.out.1, _, own_keep F3.out.2 hk L2.out⟩; clear hc hk))
  go_ret3
  exact ⟨_, _, _, rfl, F4.out, B4.out⟩
end Go.Proofs.Ytbcjbighipeafaa
