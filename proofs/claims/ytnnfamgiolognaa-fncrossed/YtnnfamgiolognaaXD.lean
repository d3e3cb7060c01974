/- FnCrossed: the draw, and crossings in plain numbers. -/
import Derived.Test.YtnnfamgiolognaaXA
import Derived.Test.YtnnfamgiolognaaD4
namespace Go.Proofs.Ytnnfamgiolognaa
open Go.RowKit

set_option maxHeartbeats 1000000 in
theorem pick_p {w : World} {c : Nat} {a : Option Addr} {len cap : Nat} (h : Cu w c a len cap) {g n cp : Nat} {xs : Nat → Int} (hg : g ≠ c) (hlt : g < w.heap.size) (h0 : 0 < n) (h1 : n ≤ 256) (hx : ∀ k, k < n → w.cell? ⟨g, k, none⟩ = some (.int .i64 (xs k))) (P : Int → Prop) (hP : ∀ k, k < n → P (xs k)) :
    Calls Try.prog 13 #[.pointer (some ⟨c, 0, none⟩), .slice (some ⟨g, 0, none⟩) n cp] w fun e w' => ∃ x : Int, P x ∧ e = .returned (.int .i64 x) ∧ Cu w' c a len cap ∧ Keep c w w' := by
  have HC : Hid (Cu w c a len cap) := h
  have HX : Hid _ := hx
  have HP : Hid (∀ k, k < n → P (xs k)) := hP
  clear h hx hP
  go_enter Try.func13, Try.ntmps13
  go_wp2_with (go_at_call 19; refine (below_x HC.out n).mono ?_; rintro e w' ⟨x, hx0, hx1, hx2, rfl, hc, hk⟩; have hx3 := hx2 (by omega); obtain ⟨k, rfl⟩ := Int.eq_ofNat_of_zero_le hx0; have HC2 : Hid (Cu w' c a len cap) := hc; have HK : Hid (Keep c w w') := hk; have cc : w'.cell? ⟨g, k, none⟩ = some (.int .i64 (xs k)) := (hk.cell (p := ⟨g, k, none⟩) hg hlt).trans (HX.out k (by omega)); clear hc hk hx2)
  go_ret
  exact ⟨_, HP.out k (by omega), rfl, HC2.out, HK.out⟩

theorem pick_lp (L : List Int) (h0 : 0 < L.length) (h1 : L.length ≤ 256) (P : Int → Prop) (hP : ∀ k, k < L.length → P (L.getD k 0)) {W : World} {c : Nat} {a : Option Addr} {len cap : Nat} (h : Cu W c a len cap) :
    Calls Try.prog 13 #[.pointer (some ⟨c, 0, none⟩), .slice (some ⟨W.heap.size, 0, none⟩) L.length L.length] (W.alloc (.cells (L.map (fun x => Value.int .i64 x)).toArray 3)) fun e w' => ∃ x : Int, P x ∧ e = .returned (.int .i64 x) ∧ Cu w' c a len cap ∧ Keep c W w' := by
  refine (pick_p (h.call (below_one _ _)) (Nat.ne_of_gt h.lt) (by simp) h0 h1 (lit_cells W L 3) P hP).mono ?_
  rintro e w' ⟨x, hx, rfl, hc, hk⟩
  exact ⟨x, hx, rfl, hc, ((Keep.refl _ _).call (below_one _ _)).trans hk⟩

theorem pk0 {W : World} {c : Nat} {a : Option Addr} {len cap : Nat} (h : Cu W c a len cap) :
    Calls Try.prog 13 #[.pointer (some ⟨c, 0, none⟩), .slice (some ⟨W.heap.size, 0, none⟩) 6 6] (W.alloc (.cells #[.int .i64 0, .int .i64 1, .int .i64 10, .int .i64 500, .int .i64 (-1), .int .i64 9223372036854775807] 3)) fun e w' => ∃ x : Int, (x ≤ 9223372036854775807) ∧ e = .returned (.int .i64 x) ∧ Cu w' c a len cap ∧ Keep c W w' :=
  pick_lp [0, 1, 10, 500, -1, 9223372036854775807] (by simp) (by simp) (fun x => x ≤ 9223372036854775807) (by decide) h

set_option maxHeartbeats 2000000 in
theorem same_yes {w : World} {v u : Value} {n : Nat} {xs ys : Nat → Int} (hv : Il w v n xs) (hu : Il w u n ys) (hn : n ≤ 1048576) (he : ∀ k, k < n → xs k = ys k) :
    Calls Try.prog 9 #[v, u] w fun e w' => e = .returned (.bool true) ∧ Below w.heap.size w w' := by
  obtain ⟨ao, cap, rfl, hcap, hc⟩ := hv
  obtain ⟨bo, cap2, rfl, hcap2, hc2⟩ := hu
  have HC : Hid (0 < n → ∃ b off, ao = some ⟨b, off, none⟩ ∧ b < w.heap.size ∧ ∀ k, k < n → w.cell? ⟨b, off + k, none⟩ = some (.int .i64 (xs k))) := hc
  have HC2 : Hid (0 < n → ∃ b off, bo = some ⟨b, off, none⟩ ∧ b < w.heap.size ∧ ∀ k, k < n → w.cell? ⟨b, off + k, none⟩ = some (.int .i64 (xs k))) := fun h0 => by
    obtain ⟨b, off, h1, h2, h3⟩ := hc2 h0
    exact ⟨b, off, h1, h2, fun k hk => by rw [he k hk]; exact h3 k hk⟩
  clear hc hc2 he
  go_enter Try.func9, Try.ntmps9
  go_wp2
  go_loopw [5] (fun i wr => ∃ k : Nat, i = .int .i64 k ∧ k ≤ n ∧ Hid (Below w.heap.size w wr)) (fun i _ => n - (intOf i).toNat)
  case atStart => exact ⟨0, rfl, by omega, Below.refl _ _⟩
  case round =>
    obtain ⟨k, rfl, hk, hbl⟩ := hrel
    by_cases h1 : k < n
    · obtain ⟨b, off, rfl, hlt, hcell⟩ := HC.out (by omega)
      obtain ⟨b2, off2, rfl, hlt2, hcell2⟩ := HC2.out (by omega)
      have c1 : wr.cell? ⟨b, off + k, none⟩ = some (.int .i64 (xs k)) := (hbl.out.cell (p := ⟨b, off + k, none⟩) hlt).trans (hcell k h1)
      have c2 : wr.cell? ⟨b2, off2 + k, none⟩ = some (.int .i64 (xs k)) := (hbl.out.cell (p := ⟨b2, off2 + k, none⟩) hlt2).trans (hcell2 k h1)
      clear hcell hcell2
      go_wp2_with (go_quiet (fail))
      go_roundw
      case rel => exact ⟨k + 1, by go_num, by omega, below_drewN hbl.out _⟩
      case measure => simp [intOf]; omega
    · obtain rfl : k = n := by omega
      go_wp2
      go_ret
      exact ⟨rfl, hbl.out⟩

/-- A list that is written out. -/
theorem lit_il (W : World) (L : List Int) : Il (W.alloc (.cells (L.map (fun x => Value.int .i64 x)).toArray 3)) (.slice (some ⟨W.heap.size, 0, none⟩) L.length L.length) L.length (fun i => L.getD i 0) := by
  refine ⟨_, _, rfl, Nat.le_refl _, fun _ => ⟨W.heap.size, 0, rfl, by simp, fun k hk => ?_⟩⟩
  rw [Nat.zero_add]
  exact lit_cells W L 3 k hk

set_option maxHeartbeats 4000000 in
theorem dcr_x {w : World} {a : Option Addr} {len cap : Nat} (hr : Row w a len) (hl : len ≤ 1048576) :
    Calls Try.prog 5 #[.slice a len cap] w fun e w' => ∃ (u : Value) (i : Int), e = .returned (.tuple #[u, .int .i64 i]) ∧ Hid (i ≤ 9223372036854775807 ∧ (∃ n ys, n ≤ 513 ∧ Il w' u n ys) ∧ Below w.heap.size w w') := by
  have HR : Hid (Row w a len) := hr
  clear hr
  obtain ⟨c, hcd⟩ : ∃ c, w.heap.size = c := ⟨_, rfl⟩
  have HN : Hid (Calls Try.prog 10 #[.slice a len cap] w fun e w' => e = .returned (.pointer (some ⟨c, 0, none⟩)) ∧ Cu w' c a len cap ∧ Below w.heap.size w w') := by have := new_x (cap := cap) HR.out (by omega); rw [← hcd]; exact this
  have HCD : Hid (w.heap.size = c) := hcd
  clear hcd
  go_enter Try.func5, Try.ntmps5
  go_wp2_with (first
    | (go_at_call 10; refine HN.out.mono ?_; rintro e w1 ⟨rfl, hc, hb⟩; have CU : Hid (Cu w1 c a len cap) := hc; have B1 : Hid (Below w.heap.size w w1) := hb; clear hc hb)
    | (go_at_call 12; refine (size_x a len cap 40 hl).mono ?_; rintro e w' ⟨z, rfl, hz5, _, hz6, hw⟩; obtain rfl := hw.symm; have hz7 := hz6 (by omega); clear hz6)
    | (go_at_call 11; refine (dany_x CU.out z (by omega)).mono ?_; rintro e w8 ⟨v, n, ys, rfl, hn, hI, hc, hk⟩; have CU8 : Hid (Cu w8 c a len cap) := hc; have F8 : Hid (n ≤ 513 ∧ w8.ownsRow w1.heap.size 3 1 v n (ils ys n) ∧ Keep c w1 w8) := ⟨hn, hI, hk⟩; clear hc hk hI hn)
    | (go_at_call 13; (with_reducible refine (pk0 CU8.out).mono ?_); rintro e w9 ⟨x0, hx0, rfl, hc, hk⟩; have F9 : Hid (x0 ≤ 9223372036854775807 ∧ Keep c w8 w9) := ⟨hx0, hk⟩; clear hc hk hx0))
  go_ret2
  refine ⟨_, _, rfl, F9.out.1, ⟨n, ys, F8.out.1, ?_⟩, Below.keep B1.out (F8.out.2.2.trans F9.out.2) (Nat.le_of_eq HCD.out)⟩
  exact il_of_own (own_keep F8.out.2.1 F9.out.2 CU.out.lt)

theorem lf_old {L : List Int} {x : Int} {i : Nat} (h : i < L.length) : lf (L ++ [x]) i = lf L i := by
  unfold lf
  rw [List.getD_eq_getElem?_getD, List.getD_eq_getElem?_getD, List.getElem?_append_left h]

theorem lf_new (L : List Int) (x : Int) : lf (L ++ [x]) L.length = x := by
  unfold lf
  rw [List.getD_eq_getElem?_getD, List.getElem?_append_right (Nat.le_refl _), Nat.sub_self]
  rfl

/-- What is so of crossings. -/
structure CF (band : Int) (xs : Nat → Int) (k : Nat) : Prop where
  e1 : ∀ i, i < (crl band xs k).length → ∃ p : Nat, lf (crl band xs k) i = (p : Int) ∧ 1 ≤ p ∧ p < k ∧ sdv (xs p) band ≠ 0
  e2 : ∀ i, i + 1 < (crl band xs k).length → ∀ p q : Nat, lf (crl band xs k) i = (p : Int) → lf (crl band xs k) (i + 1) = (q : Int) → p < q ∧ sdv (xs q) band = - sdv (xs p) band
  e3 : 0 < (crl band xs k).length → ∀ p : Nat, lf (crl band xs k) ((crl band xs k).length - 1) = (p : Int) → csd band xs k = sdv (xs p) band

theorem cf_any (band : Int) (xs : Nat → Int) : ∀ k, CF band xs k
  | 0 => ⟨fun i h => absurd h (Nat.not_lt_zero _), fun i h => absurd h (Nat.not_lt_zero _), fun h => absurd h (Nat.lt_irrefl _)⟩
  | k + 1 => by
    obtain ⟨e1, e2, e3⟩ := cf_any band xs k
    by_cases h : sdv (xs k) band ≠ 0 ∧ csd band xs k = - sdv (xs k) band
    · have hk : 1 ≤ k := by
        rcases Nat.eq_zero_or_pos k with h0 | h0
        · subst h0
          have : csd band xs 0 = 0 := rfl
          omega
        · exact h0
      have hL := crl_yes h.1 h.2
      have hs : csd band xs (k + 1) = sdv (xs k) band := by rw [csd, if_neg h.1]
      refine ⟨?_, ?_, ?_⟩
      · rw [hL, List.length_append, List.length_singleton]
        intro i hi
        by_cases hl : i < (crl band xs k).length
        · rw [lf_old hl]
          obtain ⟨p, h1, h2, h3, h4⟩ := e1 i hl
          exact ⟨p, h1, h2, by omega, h4⟩
        · obtain rfl : i = (crl band xs k).length := by omega
          rw [lf_new]
          exact ⟨k, rfl, hk, by omega, h.1⟩
      · rw [hL, List.length_append, List.length_singleton]
        intro i hi p q hp hq
        by_cases hl : i + 1 < (crl band xs k).length
        · rw [lf_old (by omega)] at hp
          rw [lf_old hl] at hq
          exact e2 i hl p q hp hq
        · have hi2 : i + 1 = (crl band xs k).length := by omega
          rw [lf_old (by omega)] at hp
          rw [hi2, lf_new] at hq
          obtain ⟨p', h1, h2, h3, h4⟩ := e1 i (by omega)
          obtain rfl : p' = p := by rw [h1] at hp; omega
          obtain rfl : k = q := by omega
          refine ⟨h3, ?_⟩
          have h5 := e3 (by omega) p' (by rw [← hi2, Nat.add_sub_cancel]; exact h1)
          omega
      · rw [hL, List.length_append, List.length_singleton, Nat.add_sub_cancel, lf_new]
        intro _ p hp
        obtain rfl : k = p := by omega
        exact hs
    · have hL := crl_no h
      rw [← hL] at e1 e2 e3
      refine ⟨fun i hi => ?_, e2, fun h0 p hp => ?_⟩
      · obtain ⟨p, h1, h2, h3, h4⟩ := e1 i hi
        exact ⟨p, h1, h2, by omega, h4⟩
      · have h5 := e3 h0 p hp
        rw [csd]
        by_cases h6 : sdv (xs k) band = 0
        · rw [if_pos h6]; exact h5
        · rw [if_neg h6, ← h5]
          obtain ⟨p', h1, h2, h3, h4⟩ := e1 _ (show (crl band xs (k + 1)).length - 1 < _ by omega)
          obtain rfl : p' = p := by rw [h1] at hp; omega
          have h7 : ¬ csd band xs k = - sdv (xs k) band := fun e => h ⟨h6, e⟩
          have h8 := csd_cases band xs k
          have h9 := sdv_cases (xs k) band
          omega

/-- A sample on a side. -/
theorem sdv_one {x band : Int} (_ : 0 ≤ band) (h : sdv x band = 1) : band < x := by
  unfold sdv at h
  split at h
  · assumption
  · split at h <;> omega

theorem sdv_neg {x band : Int} (_ : 0 ≤ band) (h : sdv x band = -1) : x < -band := by
  unfold sdv at h
  split at h
  · omega
  · split at h
    · assumption
    · omega

theorem abs_any (x : Int) (h : Smp x) (w : World) : Calls Try.prog 8 #[.int .i64 x] w fun e w' => e = .returned (.int .i64 (if x < 0 then -x else x)) ∧ w' = w := by
  by_cases h1 : x < 0
  · rw [if_pos h1]
    go_enter Try.func8, Try.ntmps8
    go_wp2
    go_ret
    exact ⟨rfl, rfl⟩
  · rw [if_neg h1]
    go_enter Try.func8, Try.ntmps8
    go_wp2
    go_ret
    exact ⟨rfl, rfl⟩

theorem crl_lit : crl 1 (fun i => [5, -5, 0, 5].getD i 0) 4 = [1, 3] := by decide

/-- The crossings of a list that is written out. -/
theorem cr_lit (W : World) : Calls Try.prog 6 #[.slice (some ⟨W.heap.size, 0, none⟩) 4 4, .int .i64 1] (W.alloc (.cells #[.int .i64 5, .int .i64 (-5), .int .i64 0, .int .i64 5] 3)) fun e w' => ∃ u, e = .returned u ∧ Il w' u 2 (fun i => [1, 3].getD i 0) ∧ Below W.heap.size W w' := by
  have h := iCr_good (lit_il W [5, -5, 0, 5]) (by decide) (band := 1) (by decide)
  refine Calls.mono h ?_
  rintro e w' ⟨u, rfl, ho, hb⟩
  have hl := il_of_own ho
  rw [show crl 1 (fun i => [5, -5, 0, 5].getD i 0) [5, -5, 0, 5].length = [1, 3] from crl_lit] at hl
  exact ⟨u, rfl, hl, bstep (below_one _ _) hb⟩
end Go.Proofs.Ytnnfamgiolognaa
