/- FnRamped. -/
import Derived.Test.YtnabpijackgmnaaD4
import Derived.Test.YtnabpijackgmnaaC2
namespace Go.Proofs.Ytnabpijackgmnaa
open Go.RowKit

set_option maxHeartbeats 1000000 in
/-- Two lists that hold the same: sameInts says so. -/
theorem same_yes {w : World} {v u : Value} {n : Nat} {xs : Nat → Int} (hv : Il w v n xs) (hu : Il w u n xs) (hn : n ≤ 1048576) :
    Calls Try.prog 27 #[v, u] w fun e w' => e = .returned (.bool true) ∧ Below w.heap.size w w' := by
  obtain ⟨ao, cap, rfl, hcap, hc⟩ := hv
  obtain ⟨bo, cap2, rfl, hcap2, hc2⟩ := hu
  have HC : Hid (0 < n → ∃ b off, ao = some ⟨b, off, none⟩ ∧ b < w.heap.size ∧ ∀ k, k < n → w.cell? ⟨b, off + k, none⟩ = some (.int .i64 (xs k))) := hc
  have HC2 : Hid (0 < n → ∃ b off, bo = some ⟨b, off, none⟩ ∧ b < w.heap.size ∧ ∀ k, k < n → w.cell? ⟨b, off + k, none⟩ = some (.int .i64 (xs k))) := hc2
  clear hc hc2
  go_enter Try.func27, Try.ntmps27
  go_wp2
  go_loopw [5] (fun i wr => ∃ k : Nat, i = .int .i64 k ∧ k ≤ n ∧ Hid (Below w.heap.size w wr)) (fun i _ => n - (intOf i).toNat)
  case atStart => exact ⟨0, rfl, by omega, Below.refl _ _⟩
  case round =>
    obtain ⟨k, rfl, hk, hbl⟩ := hrel
    by_cases h1 : k < n
    · obtain ⟨b, off, rfl, hlt, hcell⟩ := HC.out (by omega)
      obtain ⟨b2, off2, rfl, hlt2, hcell2⟩ := HC2.out (by omega)
      have c : wr.cell? ⟨b, off + k, none⟩ = some (.int .i64 (xs k)) := (hbl.out.cell (p := ⟨b, off + k, none⟩) hlt).trans (hcell k h1)
      have c2 : wr.cell? ⟨b2, off2 + k, none⟩ = some (.int .i64 (xs k)) := (hbl.out.cell (p := ⟨b2, off2 + k, none⟩) hlt2).trans (hcell2 k h1)
      clear hcell hcell2 hlt hlt2
      go_wp2_with (go_quiet (fail))
      go_roundw
      case rel => exact ⟨k + 1, by go_num, by omega, below_drewN hbl.out _⟩
      case measure => simp [intOf]; omega
    · obtain rfl : k = n := by omega
      go_wp2
      go_ret
      exact ⟨rfl, hbl.out⟩

/-- What is drawn for Ramp. -/
theorem dramp_x {w : World} {a : Option Addr} {len cap : Nat} (hr : Row w a len) (hl : len ≤ 1048576) :
    Calls Try.prog 23 #[.slice a len cap] w fun e w' => ∃ u n ys, e = .returned u ∧ n ≤ 513 ∧ Il w' u n ys ∧ Below w.heap.size w w' := by
  have HR : Hid (Row w a len) := hr
  clear hr
  obtain ⟨c, hcd⟩ : ∃ c, w.heap.size = c := ⟨_, rfl⟩
  have HN : Hid (Calls Try.prog 29 #[.slice a len cap] w fun e w' => e = .returned (.pointer (some ⟨c, 0, none⟩)) ∧ Cu w' c a len cap ∧ Below w.heap.size w w') := by have := new_x (cap := cap) HR.out (by omega); rw [← hcd]; exact this
  go_enter Try.func23, Try.ntmps23
  go_wp2_with (first
    | (go_at_call 29; refine HN.out.mono ?_; rintro e w1 ⟨rfl, hc, hb⟩; have HC1 : Hid (Cu w1 c a len cap) := hc; have B1 : Hid (Below w.heap.size w w1) := hb; clear hc hb)
    | (go_at_call 39; refine (size_x a len cap 40 hl).mono ?_; rintro e w' ⟨x, rfl, hx1, _, hx2, hw⟩; have hx3 := hx2 (by omega); obtain rfl := hw.symm; clear hx2)
    | (go_at_call 55; refine (dany_x HC1.out x (by omega)).mono ?_; rintro e w3 ⟨u3, n3, ys3, rfl, hn3, hil, _, hk⟩; have HI3 : Hid (Il w3 u3 n3 ys3) := hil; have K3 : Hid (Keep c w1 w3) := hk; clear hil hk))
  go_ret
  exact ⟨_, _, _, rfl, hn3, HI3.out, Below.keep B1.out K3.out (Nat.le_of_eq hcd)⟩

/-- Sums of steps, steps of sums. -/
theorem stp_rsum (xs : Nat → Int) (k : Nat) : stp (fun k => rsum xs (k + 1)) k = xs k := by
  cases k with
  | zero => simp [stp, prv, rsum]
  | succ k => simp only [stp, prv, rsum]; omega

theorem rsum_stp (xs : Nat → Int) : ∀ k, rsum (stp xs) (k + 1) = xs k
  | 0 => by simp [rsum, stp, prv]
  | k + 1 => by rw [rsum, rsum_stp xs k]; simp only [stp, prv]; omega

theorem Il.congr {w : World} {v : Value} {n : Nat} {f g : Nat → Int} (h : Il w v n f) (he : ∀ k, k < n → f k = g k) : Il w v n g := by
  obtain ⟨ao, cap, rfl, hcap, hc⟩ := h
  refine ⟨ao, cap, rfl, hcap, fun h0 => ?_⟩
  obtain ⟨b, off, rfl, hlt, hcell⟩ := hc h0
  exact ⟨b, off, rfl, hlt, fun k hk => by rw [hcell k hk, he k hk]⟩

theorem Il.congr2 {w : World} {v : Value} {n m : Nat} {f g : Nat → Int} (h : Il w v n f) (he : n = m ∧ ∀ k, k < m → f k = g k) : Il w v m g := by
  obtain ⟨rfl, h2⟩ := he
  exact h.congr h2

/-- What a call tells, by the list alone. -/
abbrev Tells (f : Nat) (n : Nat) (xs : Nat → Int) (N : Nat) (ys : Nat → Int) (ok : Bool) : Prop := ∀ W u, Il W u n xs → Calls Try.prog f #[u] W fun e w' => Pst W w' e N ys ok

theorem ramp_tells {n : Nat} (xs : Nat → Int) (hn : n ≤ 513) : ∃ N ys ok, Tells 24 n xs N ys ok ∧ Tells 25 n xs N ys ok ∧ ((ok = true ∧ N = n ∧ N ≤ 513 ∧ GR n xs ∧ ys = fun k => rsum xs (k + 1)) ∨ (ok = false ∧ N = 0)) := by
  by_cases h : GR n xs
  · exact ⟨n, fun k => rsum xs (k + 1), true, fun W u hu => iRamp_any hu (by omega) n _ true (fun _ => ⟨rfl, rfl, rfl⟩) (fun h' => absurd h h'), fun W u hu => sRamp_any hu (by omega) n _ true (fun _ => ⟨rfl, rfl, rfl⟩) (fun h' => absurd h h'), .inl ⟨rfl, rfl, hn, h, rfl⟩⟩
  · exact ⟨0, fun _ => 0, false, fun W u hu => iRamp_any hu (by omega) 0 _ false (fun h' => absurd h' h) (fun _ => ⟨rfl, rfl⟩), fun W u hu => sRamp_any hu (by omega) 0 _ false (fun h' => absurd h' h) (fun _ => ⟨rfl, rfl⟩), .inr ⟨rfl, rfl⟩⟩

theorem steps_tells {n : Nat} (xs : Nat → Int) (hn : n ≤ 513) : ∃ N ys ok, Tells 26 n xs N ys ok ∧ Tells 28 n xs N ys ok ∧ ((ok = true ∧ N = n ∧ N ≤ 513 ∧ GS n xs ∧ ys = stp xs) ∨ (ok = false ∧ N = 0)) := by
  by_cases h : GS n xs
  · exact ⟨n, stp xs, true, fun W u hu => iSteps_any hu (by omega) n _ true (fun _ => ⟨rfl, rfl, rfl⟩) (fun h' => absurd h h'), fun W u hu => sSteps_any hu (by omega) n _ true (fun _ => ⟨rfl, rfl, rfl⟩) (fun h' => absurd h h'), .inl ⟨rfl, rfl, hn, h, rfl⟩⟩
  · exact ⟨0, fun _ => 0, false, fun W u hu => iSteps_any hu (by omega) 0 _ false (fun h' => absurd h' h) (fun _ => ⟨rfl, rfl⟩), fun W u hu => sSteps_any hu (by omega) 0 _ false (fun h' => absurd h' h) (fun _ => ⟨rfl, rfl⟩), .inr ⟨rfl, rfl⟩⟩

/-- Good lists tell true. -/
theorem steps_true {n : Nat} {xs : Nat → Int} (h : GS n xs) : Tells 26 n xs n (stp xs) true := fun W u hu => iSteps_any hu (Nat.le_trans h.1.1 (by omega)) n _ true (fun _ => ⟨rfl, rfl, rfl⟩) (fun h' => absurd h h')
theorem ramp_true {n : Nat} {xs : Nat → Int} (h : GR n xs) : Tells 24 n xs n (fun k => rsum xs (k + 1)) true := fun W u hu => iRamp_any hu (Nat.le_trans h.1.1 (by omega)) n _ true (fun _ => ⟨rfl, rfl, rfl⟩) (fun h' => absurd h h')

theorem none_sig (xs : Nat → Int) : Sig 0 xs := ⟨by omega, fun k hk => by omega⟩

theorem il_one (w : World) (x : Int) (t : TypeId) : Il (w.alloc (.cells #[.int .i64 x] t)) (.slice (some ⟨w.heap.size, 0, none⟩) 1 1) 1 (fun _ => x) := by
  refine ⟨_, _, rfl, Nat.le_refl _, fun _ => ⟨_, 0, rfl, by simp, fun k hk => ?_⟩⟩
  obtain rfl : k = 0 := by omega
  simp

theorem three_tells : Tells 26 1 (fun _ => 3) 1 (stp (fun _ => 3)) true := by
  refine steps_true ⟨⟨by omega, fun k hk => ⟨by show (-1000000000 : Int) ≤ 3; omega, by show (3 : Int) ≤ 1000000000; omega⟩⟩, fun k hk => ?_⟩
  obtain rfl : k = 0 := by omega
  simp only [stp, prv]
  omega

set_option maxRecDepth 20000 in
set_option maxHeartbeats 4000000 in
theorem walk_ramped {w : World} {a : Option Addr} {n cap : Nat} (hr : Row w a n) (hn : n ≤ 9223372036854775807) : Calls Try.prog 7 #[.slice a n cap] w fun e w' => e = .returned (.bool true) ∧ Below w.heap.size w w' := by
  have hz := fun W => big_x (w := W) a n cap hn
  by_cases h : n ≤ 1048576
  · rw [decide_eq_false (show ¬ (1048576 : Int) < (n : Int) by omega)] at hz
    have hd := dramp_x (cap := cap) hr h
    clear hr
    go_enter Try.func7, Try.ntmps7
    go_upto_region 4 with (first | (go_at_call 8; (with_reducible refine (hz _).mono ?_); rintro e w' ⟨rfl, hw⟩; obtain rfl := hw.symm) | (go_at_call 23; refine hd.mono ?_; rintro e w1 ⟨u1, m, xs, rfl, hm, hil, hb1⟩; have F1 : Hid (Il w1 u1 m xs) := hil; have B1 : Hid (Below w.heap.size w w1) := hb1; clear hb1 hil))
    obtain ⟨N1, ys1, ok1, t1, t2, hok1⟩ := ramp_tells xs hm
    obtain ⟨N2, ys2, ok2, t3, t4, hok2⟩ := steps_tells xs hm
    have T3 := three_tells
    obtain ⟨N3, ys3, t5, h5⟩ : ∃ N3 ys3, Tells 26 N1 ys1 N3 ys3 true ∧ (ok1 = true → N3 = m ∧ ∀ k, k < m → ys3 k = xs k) := by
      rcases hok1 with ⟨h1, h2, h3, hg, rfl⟩ | ⟨h1, h2⟩
      · subst h2
        exact ⟨_, _, steps_true ⟨⟨hg.1.1, hg.2⟩, fun k hk => by rw [stp_rsum]; exact hg.1.2 k hk⟩, fun _ => ⟨rfl, fun k _ => stp_rsum xs k⟩⟩
      · subst h2
        exact ⟨_, _, steps_true ⟨none_sig _, fun k hk => by omega⟩, fun h => by rw [h1] at h; cases h⟩
    obtain ⟨N4, ys4, t6, h6⟩ : ∃ N4 ys4, Tells 24 N2 ys2 N4 ys4 true ∧ (ok2 = true → N4 = m ∧ ∀ k, k < m → ys4 k = xs k) := by
      rcases hok2 with ⟨h1, h2, h3, hg, rfl⟩ | ⟨h1, h2⟩
      · subst h2
        exact ⟨_, _, ramp_true ⟨⟨hg.1.1, hg.2⟩, fun k hk => by rw [rsum_stp]; exact hg.1.2 k hk⟩, fun _ => ⟨rfl, fun k _ => rsum_stp xs k⟩⟩
      · subst h2
        exact ⟨_, _, ramp_true ⟨none_sig _, fun k hk => by omega⟩, fun h => by rw [h1] at h; cases h⟩
    clear hok1 hok2
    have T1 : Hid _ := t1
    have T2 : Hid _ := t2
    have T4 : Hid _ := t3
    have T5 : Hid _ := t4
    have T6 : Hid _ := t5
    have T7 : Hid _ := t6
    have H5 : Hid (ok1 = true → N3 = m ∧ ∀ k, k < m → ys3 k = xs k) := h5
    have H6 : Hid (ok2 = true → N4 = m ∧ ∀ k, k < m → ys4 k = xs k) := h6
    have T8 : Hid _ := T3
    clear t1 t2 t3 t4 t5 t6 h5 h6 T3 hz hd
    cases ok1
    · cases ok2
      · go_wp2_with (first
          | (go_at_call 24; (fail_if_success have := M1); refine (T1.out _ _ F1.out).mono ?_; rintro e x1 ⟨r1, rfl, ho, hb⟩; have M1 : Hid True := trivial; have BB1 : Hid (Below w.heap.size w x1) := bstep B1.out hb; have FL1 : Hid (Il x1 u1 m xs) := Il.below F1.out hb; have FR1 : Hid (Il x1 r1 N1 ys1) := il_of_own ho; clear ho hb)
          | (go_at_call 25; have Z := M1; (fail_if_success have := M2); refine (T2.out _ _ FL1.out).mono ?_; rintro e x2 ⟨r2, rfl, ho, hb⟩; have M2 : Hid True := trivial; have BB2 : Hid (Below w.heap.size w x2) := bstep BB1.out hb; have FL2 : Hid (Il x2 u1 m xs) := Il.below FL1.out hb; have FR2 : Hid (Il x2 r1 N1 ys1) := Il.below FR1.out hb; clear ho hb)
          | (go_at_call 26; have Z := M2; (fail_if_success have := M3); refine (T6.out _ _ FR2.out).mono ?_; rintro e x3 ⟨r3, rfl, ho, hb⟩; have M3 : Hid True := trivial; have BB3 : Hid (Below w.heap.size w x3) := bstep BB2.out hb; have FL3 : Hid (Il x3 u1 m xs) := Il.below FL2.out hb; have FS3 : Hid (Il x3 r3 N3 ys3) := il_of_own ho; clear ho hb)
          | (go_at_call 27; have Z := M3; (fail_if_success have := M4); refine (same_yes (Il.congr2 FS3.out H5e.out) FL3.out (by omega)).mono ?_; rintro e x4 ⟨rfl, hb⟩; have M4 : Hid True := trivial; have BB4 : Hid (Below w.heap.size w x4) := bstep BB3.out hb; have FL4 : Hid (Il x4 u1 m xs) := Il.below FL3.out hb; clear hb)
          | (go_at_call 26; have Z := M4; (fail_if_success have := M5); refine (T4.out _ _ FL4.out).mono ?_; rintro e x5 ⟨r5, rfl, ho, hb⟩; have M5 : Hid True := trivial; have BB5 : Hid (Below w.heap.size w x5) := bstep BB4.out hb; have FL5 : Hid (Il x5 u1 m xs) := Il.below FL4.out hb; have FS5 : Hid (Il x5 r5 N2 ys2) := il_of_own ho; clear ho hb)
          | (go_at_call 26; have Z := M3; (fail_if_success have := M4); (fail_if_success have := M5); refine (T4.out _ _ FL3.out).mono ?_; rintro e x5 ⟨r5, rfl, ho, hb⟩; have M5 : Hid True := trivial; have BB5 : Hid (Below w.heap.size w x5) := bstep BB3.out hb; have FL5 : Hid (Il x5 u1 m xs) := Il.below FL3.out hb; have FS5 : Hid (Il x5 r5 N2 ys2) := il_of_own ho; clear ho hb)
          | (go_at_call 28; have Z := M5; (fail_if_success have := M6); refine (T5.out _ _ FL5.out).mono ?_; rintro e x6 ⟨r6, rfl, ho, hb⟩; have M6 : Hid True := trivial; have BB6 : Hid (Below w.heap.size w x6) := bstep BB5.out hb; have FL6 : Hid (Il x6 u1 m xs) := Il.below FL5.out hb; have FS6 : Hid (Il x6 r5 N2 ys2) := Il.below FS5.out hb; clear ho hb)
          | (go_at_call 24; have Z := M6; (fail_if_success have := M7); refine (T7.out _ _ FS6.out).mono ?_; rintro e x7 ⟨r7, rfl, ho, hb⟩; have M7 : Hid True := trivial; have BB7 : Hid (Below w.heap.size w x7) := bstep BB6.out hb; have FL7 : Hid (Il x7 u1 m xs) := Il.below FL6.out hb; have FX7 : Hid (Il x7 r7 N4 ys4) := il_of_own ho; clear ho hb)
          | (go_at_call 26; have Z := M7; (fail_if_success have := M8); refine (T8.out _ _ (il_one x7 3 3)).mono ?_; rintro e x8 ⟨r8, rfl, ho, hb⟩; have M8 : Hid True := trivial; have hb2 := bstep (below_one x7 (.cells #[.int .i64 3] 3)) hb; have BB8 : Hid (Below w.heap.size w x8) := bstep BB7.out hb2; have FL8 : Hid (Il x8 u1 m xs) := Il.below FL7.out hb2; have FX8 : Hid (Il x8 r7 N4 ys4) := Il.below FX7.out hb2; clear ho hb hb2)
          | (go_at_call 27; have Z := M8; (fail_if_success have := M9); refine (same_yes (Il.congr2 FX8.out H6e.out) FL8.out (by omega)).mono ?_; rintro e x9 ⟨rfl, hb⟩; have M9 : Hid True := trivial; have BB9 : Hid (Below w.heap.size w x9) := bstep BB8.out hb; have FL9 : Hid (Il x9 u1 m xs) := Il.below FL8.out hb; clear hb))
        go_ret
        first | exact ⟨rfl, BB9.out⟩ | exact ⟨rfl, BB8.out⟩
      · have H6e : Hid (N4 = m ∧ ∀ k, k < m → ys4 k = xs k) := H6.out rfl
        clear H6
        go_wp2_with (first
          | (go_at_call 24; (fail_if_success have := M1); refine (T1.out _ _ F1.out).mono ?_; rintro e x1 ⟨r1, rfl, ho, hb⟩; have M1 : Hid True := trivial; have BB1 : Hid (Below w.heap.size w x1) := bstep B1.out hb; have FL1 : Hid (Il x1 u1 m xs) := Il.below F1.out hb; have FR1 : Hid (Il x1 r1 N1 ys1) := il_of_own ho; clear ho hb)
          | (go_at_call 25; have Z := M1; (fail_if_success have := M2); refine (T2.out _ _ FL1.out).mono ?_; rintro e x2 ⟨r2, rfl, ho, hb⟩; have M2 : Hid True := trivial; have BB2 : Hid (Below w.heap.size w x2) := bstep BB1.out hb; have FL2 : Hid (Il x2 u1 m xs) := Il.below FL1.out hb; have FR2 : Hid (Il x2 r1 N1 ys1) := Il.below FR1.out hb; clear ho hb)
          | (go_at_call 26; have Z := M2; (fail_if_success have := M3); refine (T6.out _ _ FR2.out).mono ?_; rintro e x3 ⟨r3, rfl, ho, hb⟩; have M3 : Hid True := trivial; have BB3 : Hid (Below w.heap.size w x3) := bstep BB2.out hb; have FL3 : Hid (Il x3 u1 m xs) := Il.below FL2.out hb; have FS3 : Hid (Il x3 r3 N3 ys3) := il_of_own ho; clear ho hb)
          | (go_at_call 27; have Z := M3; (fail_if_success have := M4); refine (same_yes (Il.congr2 FS3.out H5e.out) FL3.out (by omega)).mono ?_; rintro e x4 ⟨rfl, hb⟩; have M4 : Hid True := trivial; have BB4 : Hid (Below w.heap.size w x4) := bstep BB3.out hb; have FL4 : Hid (Il x4 u1 m xs) := Il.below FL3.out hb; clear hb)
          | (go_at_call 26; have Z := M4; (fail_if_success have := M5); refine (T4.out _ _ FL4.out).mono ?_; rintro e x5 ⟨r5, rfl, ho, hb⟩; have M5 : Hid True := trivial; have BB5 : Hid (Below w.heap.size w x5) := bstep BB4.out hb; have FL5 : Hid (Il x5 u1 m xs) := Il.below FL4.out hb; have FS5 : Hid (Il x5 r5 N2 ys2) := il_of_own ho; clear ho hb)
          | (go_at_call 26; have Z := M3; (fail_if_success have := M4); (fail_if_success have := M5); refine (T4.out _ _ FL3.out).mono ?_; rintro e x5 ⟨r5, rfl, ho, hb⟩; have M5 : Hid True := trivial; have BB5 : Hid (Below w.heap.size w x5) := bstep BB3.out hb; have FL5 : Hid (Il x5 u1 m xs) := Il.below FL3.out hb; have FS5 : Hid (Il x5 r5 N2 ys2) := il_of_own ho; clear ho hb)
          | (go_at_call 28; have Z := M5; (fail_if_success have := M6); refine (T5.out _ _ FL5.out).mono ?_; rintro e x6 ⟨r6, rfl, ho, hb⟩; have M6 : Hid True := trivial; have BB6 : Hid (Below w.heap.size w x6) := bstep BB5.out hb; have FL6 : Hid (Il x6 u1 m xs) := Il.below FL5.out hb; have FS6 : Hid (Il x6 r5 N2 ys2) := Il.below FS5.out hb; clear ho hb)
          | (go_at_call 24; have Z := M6; (fail_if_success have := M7); refine (T7.out _ _ FS6.out).mono ?_; rintro e x7 ⟨r7, rfl, ho, hb⟩; have M7 : Hid True := trivial; have BB7 : Hid (Below w.heap.size w x7) := bstep BB6.out hb; have FL7 : Hid (Il x7 u1 m xs) := Il.below FL6.out hb; have FX7 : Hid (Il x7 r7 N4 ys4) := il_of_own ho; clear ho hb)
          | (go_at_call 26; have Z := M7; (fail_if_success have := M8); refine (T8.out _ _ (il_one x7 3 3)).mono ?_; rintro e x8 ⟨r8, rfl, ho, hb⟩; have M8 : Hid True := trivial; have hb2 := bstep (below_one x7 (.cells #[.int .i64 3] 3)) hb; have BB8 : Hid (Below w.heap.size w x8) := bstep BB7.out hb2; have FL8 : Hid (Il x8 u1 m xs) := Il.below FL7.out hb2; have FX8 : Hid (Il x8 r7 N4 ys4) := Il.below FX7.out hb2; clear ho hb hb2)
          | (go_at_call 27; have Z := M8; (fail_if_success have := M9); refine (same_yes (Il.congr2 FX8.out H6e.out) FL8.out (by omega)).mono ?_; rintro e x9 ⟨rfl, hb⟩; have M9 : Hid True := trivial; have BB9 : Hid (Below w.heap.size w x9) := bstep BB8.out hb; have FL9 : Hid (Il x9 u1 m xs) := Il.below FL8.out hb; clear hb))
        go_ret
        first | exact ⟨rfl, BB9.out⟩ | exact ⟨rfl, BB8.out⟩
    · have H5e : Hid (N3 = m ∧ ∀ k, k < m → ys3 k = xs k) := H5.out rfl
      clear H5
      cases ok2
      · go_wp2_with (first
          | (go_at_call 24; (fail_if_success have := M1); refine (T1.out _ _ F1.out).mono ?_; rintro e x1 ⟨r1, rfl, ho, hb⟩; have M1 : Hid True := trivial; have BB1 : Hid (Below w.heap.size w x1) := bstep B1.out hb; have FL1 : Hid (Il x1 u1 m xs) := Il.below F1.out hb; have FR1 : Hid (Il x1 r1 N1 ys1) := il_of_own ho; clear ho hb)
          | (go_at_call 25; have Z := M1; (fail_if_success have := M2); refine (T2.out _ _ FL1.out).mono ?_; rintro e x2 ⟨r2, rfl, ho, hb⟩; have M2 : Hid True := trivial; have BB2 : Hid (Below w.heap.size w x2) := bstep BB1.out hb; have FL2 : Hid (Il x2 u1 m xs) := Il.below FL1.out hb; have FR2 : Hid (Il x2 r1 N1 ys1) := Il.below FR1.out hb; clear ho hb)
          | (go_at_call 26; have Z := M2; (fail_if_success have := M3); refine (T6.out _ _ FR2.out).mono ?_; rintro e x3 ⟨r3, rfl, ho, hb⟩; have M3 : Hid True := trivial; have BB3 : Hid (Below w.heap.size w x3) := bstep BB2.out hb; have FL3 : Hid (Il x3 u1 m xs) := Il.below FL2.out hb; have FS3 : Hid (Il x3 r3 N3 ys3) := il_of_own ho; clear ho hb)
          | (go_at_call 27; have Z := M3; (fail_if_success have := M4); refine (same_yes (Il.congr2 FS3.out H5e.out) FL3.out (by omega)).mono ?_; rintro e x4 ⟨rfl, hb⟩; have M4 : Hid True := trivial; have BB4 : Hid (Below w.heap.size w x4) := bstep BB3.out hb; have FL4 : Hid (Il x4 u1 m xs) := Il.below FL3.out hb; clear hb)
          | (go_at_call 26; have Z := M4; (fail_if_success have := M5); refine (T4.out _ _ FL4.out).mono ?_; rintro e x5 ⟨r5, rfl, ho, hb⟩; have M5 : Hid True := trivial; have BB5 : Hid (Below w.heap.size w x5) := bstep BB4.out hb; have FL5 : Hid (Il x5 u1 m xs) := Il.below FL4.out hb; have FS5 : Hid (Il x5 r5 N2 ys2) := il_of_own ho; clear ho hb)
          | (go_at_call 26; have Z := M3; (fail_if_success have := M4); (fail_if_success have := M5); refine (T4.out _ _ FL3.out).mono ?_; rintro e x5 ⟨r5, rfl, ho, hb⟩; have M5 : Hid True := trivial; have BB5 : Hid (Below w.heap.size w x5) := bstep BB3.out hb; have FL5 : Hid (Il x5 u1 m xs) := Il.below FL3.out hb; have FS5 : Hid (Il x5 r5 N2 ys2) := il_of_own ho; clear ho hb)
          | (go_at_call 28; have Z := M5; (fail_if_success have := M6); refine (T5.out _ _ FL5.out).mono ?_; rintro e x6 ⟨r6, rfl, ho, hb⟩; have M6 : Hid True := trivial; have BB6 : Hid (Below w.heap.size w x6) := bstep BB5.out hb; have FL6 : Hid (Il x6 u1 m xs) := Il.below FL5.out hb; have FS6 : Hid (Il x6 r5 N2 ys2) := Il.below FS5.out hb; clear ho hb)
          | (go_at_call 24; have Z := M6; (fail_if_success have := M7); refine (T7.out _ _ FS6.out).mono ?_; rintro e x7 ⟨r7, rfl, ho, hb⟩; have M7 : Hid True := trivial; have BB7 : Hid (Below w.heap.size w x7) := bstep BB6.out hb; have FL7 : Hid (Il x7 u1 m xs) := Il.below FL6.out hb; have FX7 : Hid (Il x7 r7 N4 ys4) := il_of_own ho; clear ho hb)
          | (go_at_call 26; have Z := M7; (fail_if_success have := M8); refine (T8.out _ _ (il_one x7 3 3)).mono ?_; rintro e x8 ⟨r8, rfl, ho, hb⟩; have M8 : Hid True := trivial; have hb2 := bstep (below_one x7 (.cells #[.int .i64 3] 3)) hb; have BB8 : Hid (Below w.heap.size w x8) := bstep BB7.out hb2; have FL8 : Hid (Il x8 u1 m xs) := Il.below FL7.out hb2; have FX8 : Hid (Il x8 r7 N4 ys4) := Il.below FX7.out hb2; clear ho hb hb2)
          | (go_at_call 27; have Z := M8; (fail_if_success have := M9); refine (same_yes (Il.congr2 FX8.out H6e.out) FL8.out (by omega)).mono ?_; rintro e x9 ⟨rfl, hb⟩; have M9 : Hid True := trivial; have BB9 : Hid (Below w.heap.size w x9) := bstep BB8.out hb; have FL9 : Hid (Il x9 u1 m xs) := Il.below FL8.out hb; clear hb))
        go_ret
        first | exact ⟨rfl, BB9.out⟩ | exact ⟨rfl, BB8.out⟩
      · have H6e : Hid (N4 = m ∧ ∀ k, k < m → ys4 k = xs k) := H6.out rfl
        clear H6
        go_wp2_with (first
          | (go_at_call 24; (fail_if_success have := M1); refine (T1.out _ _ F1.out).mono ?_; rintro e x1 ⟨r1, rfl, ho, hb⟩; have M1 : Hid True := trivial; have BB1 : Hid (Below w.heap.size w x1) := bstep B1.out hb; have FL1 : Hid (Il x1 u1 m xs) := Il.below F1.out hb; have FR1 : Hid (Il x1 r1 N1 ys1) := il_of_own ho; clear ho hb)
          | (go_at_call 25; have Z := M1; (fail_if_success have := M2); refine (T2.out _ _ FL1.out).mono ?_; rintro e x2 ⟨r2, rfl, ho, hb⟩; have M2 : Hid True := trivial; have BB2 : Hid (Below w.heap.size w x2) := bstep BB1.out hb; have FL2 : Hid (Il x2 u1 m xs) := Il.below FL1.out hb; have FR2 : Hid (Il x2 r1 N1 ys1) := Il.below FR1.out hb; clear ho hb)
          | (go_at_call 26; have Z := M2; (fail_if_success have := M3); refine (T6.out _ _ FR2.out).mono ?_; rintro e x3 ⟨r3, rfl, ho, hb⟩; have M3 : Hid True := trivial; have BB3 : Hid (Below w.heap.size w x3) := bstep BB2.out hb; have FL3 : Hid (Il x3 u1 m xs) := Il.below FL2.out hb; have FS3 : Hid (Il x3 r3 N3 ys3) := il_of_own ho; clear ho hb)
          | (go_at_call 27; have Z := M3; (fail_if_success have := M4); refine (same_yes (Il.congr2 FS3.out H5e.out) FL3.out (by omega)).mono ?_; rintro e x4 ⟨rfl, hb⟩; have M4 : Hid True := trivial; have BB4 : Hid (Below w.heap.size w x4) := bstep BB3.out hb; have FL4 : Hid (Il x4 u1 m xs) := Il.below FL3.out hb; clear hb)
          | (go_at_call 26; have Z := M4; (fail_if_success have := M5); refine (T4.out _ _ FL4.out).mono ?_; rintro e x5 ⟨r5, rfl, ho, hb⟩; have M5 : Hid True := trivial; have BB5 : Hid (Below w.heap.size w x5) := bstep BB4.out hb; have FL5 : Hid (Il x5 u1 m xs) := Il.below FL4.out hb; have FS5 : Hid (Il x5 r5 N2 ys2) := il_of_own ho; clear ho hb)
          | (go_at_call 26; have Z := M3; (fail_if_success have := M4); (fail_if_success have := M5); refine (T4.out _ _ FL3.out).mono ?_; rintro e x5 ⟨r5, rfl, ho, hb⟩; have M5 : Hid True := trivial; have BB5 : Hid (Below w.heap.size w x5) := bstep BB3.out hb; have FL5 : Hid (Il x5 u1 m xs) := Il.below FL3.out hb; have FS5 : Hid (Il x5 r5 N2 ys2) := il_of_own ho; clear ho hb)
          | (go_at_call 28; have Z := M5; (fail_if_success have := M6); refine (T5.out _ _ FL5.out).mono ?_; rintro e x6 ⟨r6, rfl, ho, hb⟩; have M6 : Hid True := trivial; have BB6 : Hid (Below w.heap.size w x6) := bstep BB5.out hb; have FL6 : Hid (Il x6 u1 m xs) := Il.below FL5.out hb; have FS6 : Hid (Il x6 r5 N2 ys2) := Il.below FS5.out hb; clear ho hb)
          | (go_at_call 24; have Z := M6; (fail_if_success have := M7); refine (T7.out _ _ FS6.out).mono ?_; rintro e x7 ⟨r7, rfl, ho, hb⟩; have M7 : Hid True := trivial; have BB7 : Hid (Below w.heap.size w x7) := bstep BB6.out hb; have FL7 : Hid (Il x7 u1 m xs) := Il.below FL6.out hb; have FX7 : Hid (Il x7 r7 N4 ys4) := il_of_own ho; clear ho hb)
          | (go_at_call 26; have Z := M7; (fail_if_success have := M8); refine (T8.out _ _ (il_one x7 3 3)).mono ?_; rintro e x8 ⟨r8, rfl, ho, hb⟩; have M8 : Hid True := trivial; have hb2 := bstep (below_one x7 (.cells #[.int .i64 3] 3)) hb; have BB8 : Hid (Below w.heap.size w x8) := bstep BB7.out hb2; have FL8 : Hid (Il x8 u1 m xs) := Il.below FL7.out hb2; have FX8 : Hid (Il x8 r7 N4 ys4) := Il.below FX7.out hb2; clear ho hb hb2)
          | (go_at_call 27; have Z := M8; (fail_if_success have := M9); refine (same_yes (Il.congr2 FX8.out H6e.out) FL8.out (by omega)).mono ?_; rintro e x9 ⟨rfl, hb⟩; have M9 : Hid True := trivial; have BB9 : Hid (Below w.heap.size w x9) := bstep BB8.out hb; have FL9 : Hid (Il x9 u1 m xs) := Il.below FL8.out hb; clear hb))
        go_ret
        first | exact ⟨rfl, BB9.out⟩ | exact ⟨rfl, BB8.out⟩
  · rw [decide_eq_true (show (1048576 : Int) < (n : Int) by omega)] at hz
    go_enter Try.func7, Try.ntmps7
    go_wp2_with (go_at_call 8; (with_reducible refine (hz _).mono ?_); rintro e w' ⟨rfl, hw⟩; obtain rfl := hw.symm)
    go_ret
    exact ⟨rfl, Below.refl _ _⟩
end Go.Proofs.Ytnabpijackgmnaa
