/- The program's packing of a number that the form has exactly: the sign, the rounding, the finite number. -/
import Derived.Test.YtghblaphkbcgpaaDoorT2
import Derived.Test.YtghblaphkbcgpaaDoorHE2
import Derived.RegionTactic
import Derived.Deep.RegionWith
import Derived.Deep.QuietTactic
import Derived.BigQuiet
namespace Go.Proofs.YtghblaphkbcgpaaDoor
open Go.RowKit

theorem or_top {f wd p t S D h q : Int} (hF : Frm f wd p t S D h q) (s : Int) (h0 : 0 ≤ s) (h1 : s < S) : bits .or .u64 s S = s + S := by
  have key : ∀ k : Nat, k < 64 → s < ((2 ^ k : Nat) : Int) → bits .or .u64 s ((2 ^ k : Nat) : Int) = s + ((2 ^ k : Nat) : Int) := by
    intro k hk hs
    have h2 : 2 ^ k < 2 ^ 64 := Nat.pow_lt_pow_right (by omega) hk
    have := (mask_low k s hk h0 (by omega)).2
    rwa [Int.emod_eq_of_lt h0 hs] at this
  rcases hF with ⟨rfl, rfl, rfl, rfl, rfl, rfl, rfl, rfl⟩ | ⟨rfl, rfl, rfl, rfl, rfl, rfl, rfl, rfl⟩ | ⟨rfl, rfl, rfl, rfl, rfl, rfl, rfl, rfl⟩
  · exact key 15 (by omega) h1
  · exact key 31 (by omega) h1
  · exact key 63 (by omega) h1

theorem signed_any {f wd p t S D h q : Int} (hF : Frm f wd p t S D h q) (n : Bool) (s : Int) (w : World) (h0 : 0 ≤ s) (h1 : s < S) :
    Calls Tryd.prog 50 #[.agg #[.int .i64 wd, .int .i64 p, .int .i64 t], .bool n, .int .u64 s] w fun e w' => e = .returned (.int .u64 (if n then s + S else s)) ∧ Below w.heap.size w w' := by
  have ho := or_top hF s h0 h1
  have hS := fun w => signBit_any hF w
  clear hF h0 h1
  cases n
  · go_enter Tryd.func50, Tryd.ntmps50
    go_wp2
    go_ret
    exact ⟨rfl, below_one _⟩
  · go_enter Tryd.func50, Tryd.ntmps50
    go_wp2_with (go_at_call 45; refine (hS _).mono ?_; rintro e w' ⟨rfl, rfl⟩)
    go_ret
    exact ⟨rfl, below_two _ _⟩

theorem szlt3 {w w' : World} {o1 o2 o3 : Obj} {q : Nat} (hb : Below ((((w.alloc o1).alloc o2).drewN q).alloc o3).heap.size ((((w.alloc o1).alloc o2).drewN q).alloc o3) w') : w.heap.size + 1 < w'.heap.size := by
  have h := hb.size
  have e : ((((w.alloc o1).alloc o2).drewN q).alloc o3).heap.size = ((w.alloc o1).alloc o2).heap.size + 1 := by
    rw [World.size_alloc]; rfl
  rw [e] at h
  simp at h
  omega

theorem below_al' {w w1 : World} (o : Obj) (hb : Below w.heap.size w w1) : Below w.heap.size w (w1.alloc o) := hb.alloc hb.size _

theorem chainP {w w' w'' : World} {o1 o2 o3 o4 o5 : Obj} {q : Nat} (hb : Below ((((w.alloc o1).alloc o2).drewN q).alloc o3).heap.size ((((w.alloc o1).alloc o2).drewN q).alloc o3) w') (hb2 : Below ((w'.alloc o4).alloc o5).heap.size ((w'.alloc o4).alloc o5) w'') : Below w.heap.size w w'' := by
  have c0 : Below w.heap.size w ((((w.alloc o1).alloc o2).drewN q).alloc o3) := below_al' _ (below_drewN (below_two o1 o2) q)
  have c1 := c0.trans (hb.mono c0.size)
  have c2 := below_al' o5 (below_al' o4 c1)
  exact c2.trans (hb2.mono c2.size)

set_option maxHeartbeats 4000000 in
theorem pack_exact1 (mode : Int) (n : Bool) (E man m st : Int) (k : Nat) (w : World) (ht : Tz m man k) (hE : E = -24 + st + k) (hst0 : 0 ≤ st) (hst1 : st < 30) (hm2 : m < 2048) (hor : st = 0 ∨ 1024 ≤ m) (hsz : st * 1024 + m < 31744) :
    Calls Tryd.prog 51 #[.agg #[.int .i64 16, .int .i64 11, .int .i64 15], .int .i64 mode, .agg #[.int .i64 1, .bool n, .int .i64 E, .int .u64 man]] w fun e w' => e = .returned (.tuple #[.int .u64 (if n then st * 1024 + m + 32768 else st * 1024 + m), .int .i64 0]) ∧ Below w.heap.size w w' := by
  have hF : Frm 1 16 11 15 32768 65536 1024 32 := Or.inl ⟨rfl, rfl, rfl, rfl, rfl, rfl, rfl, rfl⟩
  have hp := ht.pos
  have hle := ht.le (show m < 18446744073709551616 by omega)
  obtain ⟨L, hB, hLen⟩ := len_of man (by omega) (by omega)
  have hroom := hB.room (p := 11) ht (by omega)
  have hL64 := hB.le
  have hU := fun w => leastUnit_any hF w
  have hI := fun w => infinity_any hF w
  have hR := fun u w hu => round_exact mode 1 E u man m k n w ht (by omega) (by omega) (by omega) hu
  have hG := fun s w h0 h1 => signed_any hF n s w h0 h1
  have w1 := wrap_small (E + L) (by omega) (by omega)
  have w2 := wrap_small (E + L - 1) (by omega) (by omega)
  have w3 := wrap_small (E + L - 1 - 11) (by omega) (by omega)
  have w4 := wrap_small (E + L - 1 - 11 + 1) (by omega) (by omega)
  have hmx : E + L - 1 - 11 + 1 ≤ -24 + st ∧ (st ≠ 0 → E + L - 1 - 11 + 1 = -24 + st) := by omega
  have HE : Hid (E = -24 + st + k) := hE
  clear hE hB ht hF
  by_cases hlt : E + L - 1 - 11 + 1 < -24
  · obtain rfl : st = 0 := by have := HE.out; omega
    clear hmx hor
    go_enter Tryd.func51, Tryd.ntmps51
    go_wp2
    go_quiet ((go_at_call 56; exact Calls.quiet_of_same (hLen _)))
    go_wp2
    go_region_with (go_at_call 55; refine (hU _).mono ?_; rintro e w' ⟨rfl, rfl⟩)
    all_goals
      go_wp2_with (first | (go_at_call 57; with_reducible refine (hR _ _ ?_).mono ?_; (have := HE.out; omega); rintro e w' ⟨rfl, hb⟩; obtain ⟨hc, hf⟩ := bcell hb; have hz1 := szlt3 hb; have hz0 := Nat.lt_of_succ_lt hz1) | (go_at_call 55; with_reducible refine (hU _).mono ?_; rintro e w' ⟨rfl, rfl⟩) | (go_at_call 46; with_reducible refine (hI _).mono ?_; rintro e w' ⟨rfl, rfl⟩) | (go_at_call 50; refine (hG _ _ ?_ ?_).mono ?_; omega; omega; rintro e w' ⟨rfl, hb2⟩))
      all_goals
        go_ret2
        exact ⟨rfl, chainP ‹_› hb2⟩
  · have hEL : E + L - 1 - 11 + 1 = -24 + st := by have := HE.out; omega
    have hq : -24 + st + 24 = st := by omega
    have HQ : Hid (-24 + st + 24 = st) := hq
    clear hmx hlt w4 hq hor
    have w4 := wrap_small (-24 + st) (by omega) (by omega)
    have hlt : ¬ -24 + st < -24 := by omega
    go_enter Tryd.func51, Tryd.ntmps51
    go_wp2
    go_quiet ((go_at_call 56; exact Calls.quiet_of_same (hLen _)))
    go_wp2
    go_region_with (go_at_call 55; refine (hU _).mono ?_; rintro e w' ⟨rfl, rfl⟩)
    all_goals
      go_wp2_with (first | (go_at_call 57; with_reducible refine (hR _ _ ?_).mono ?_; (have := HE.out; omega); rintro e w' ⟨rfl, hb⟩; obtain ⟨hc, hf⟩ := bcell hb; have hz1 := szlt3 hb; have hz0 := Nat.lt_of_succ_lt hz1) | (go_at_call 55; with_reducible refine (hU _).mono ?_; rintro e w' ⟨rfl, rfl⟩) | (go_at_call 46; with_reducible refine (hI _).mono ?_; rintro e w' ⟨rfl, rfl⟩) | (go_at_call 50; refine (hG _ _ ?_ ?_).mono ?_; omega; omega; rintro e w' ⟨rfl, hb2⟩))
      all_goals
        go_ret2
        refine ⟨?_, chainP ‹_› hb2⟩
        first
          | (show Ending.returned (.tuple #[.int .u64 ((-24 + st + 24) * 1024 + m + 32768), .int .i64 0]) = _; rw [HQ.out])
          | (show Ending.returned (.tuple #[.int .u64 ((-24 + st + 24) * 1024 + m), .int .i64 0]) = _; rw [HQ.out])

set_option maxHeartbeats 4000000 in
theorem pack_exact2 (mode : Int) (n : Bool) (E man m st : Int) (k : Nat) (w : World) (ht : Tz m man k) (hE : E = -149 + st + k) (hst0 : 0 ≤ st) (hst1 : st < 254) (hm2 : m < 16777216) (hor : st = 0 ∨ 8388608 ≤ m) (hsz : st * 8388608 + m < 2139095040) :
    Calls Tryd.prog 51 #[.agg #[.int .i64 32, .int .i64 24, .int .i64 127], .int .i64 mode, .agg #[.int .i64 1, .bool n, .int .i64 E, .int .u64 man]] w fun e w' => e = .returned (.tuple #[.int .u64 (if n then st * 8388608 + m + 2147483648 else st * 8388608 + m), .int .i64 0]) ∧ Below w.heap.size w w' := by
  have hF : Frm 2 32 24 127 2147483648 4294967296 8388608 256 := Or.inr (Or.inl ⟨rfl, rfl, rfl, rfl, rfl, rfl, rfl, rfl⟩)
  have hp := ht.pos
  have hle := ht.le (show m < 18446744073709551616 by omega)
  obtain ⟨L, hB, hLen⟩ := len_of man (by omega) (by omega)
  have hroom := hB.room (p := 24) ht (by omega)
  have hL64 := hB.le
  have hU := fun w => leastUnit_any hF w
  have hI := fun w => infinity_any hF w
  have hR := fun u w hu => round_exact mode 1 E u man m k n w ht (by omega) (by omega) (by omega) hu
  have hG := fun s w h0 h1 => signed_any hF n s w h0 h1
  have w1 := wrap_small (E + L) (by omega) (by omega)
  have w2 := wrap_small (E + L - 1) (by omega) (by omega)
  have w3 := wrap_small (E + L - 1 - 24) (by omega) (by omega)
  have w4 := wrap_small (E + L - 1 - 24 + 1) (by omega) (by omega)
  have hmx : E + L - 1 - 24 + 1 ≤ -149 + st ∧ (st ≠ 0 → E + L - 1 - 24 + 1 = -149 + st) := by omega
  have HE : Hid (E = -149 + st + k) := hE
  clear hE hB ht hF
  by_cases hlt : E + L - 1 - 24 + 1 < -149
  · obtain rfl : st = 0 := by have := HE.out; omega
    clear hmx hor
    go_enter Tryd.func51, Tryd.ntmps51
    go_wp2
    go_quiet ((go_at_call 56; exact Calls.quiet_of_same (hLen _)))
    go_wp2
    go_region_with (go_at_call 55; refine (hU _).mono ?_; rintro e w' ⟨rfl, rfl⟩)
    all_goals
      go_wp2_with (first | (go_at_call 57; with_reducible refine (hR _ _ ?_).mono ?_; (have := HE.out; omega); rintro e w' ⟨rfl, hb⟩; obtain ⟨hc, hf⟩ := bcell hb; have hz1 := szlt3 hb; have hz0 := Nat.lt_of_succ_lt hz1) | (go_at_call 55; with_reducible refine (hU _).mono ?_; rintro e w' ⟨rfl, rfl⟩) | (go_at_call 46; with_reducible refine (hI _).mono ?_; rintro e w' ⟨rfl, rfl⟩) | (go_at_call 50; refine (hG _ _ ?_ ?_).mono ?_; omega; omega; rintro e w' ⟨rfl, hb2⟩))
      all_goals
        go_ret2
        exact ⟨rfl, chainP ‹_› hb2⟩
  · have hEL : E + L - 1 - 24 + 1 = -149 + st := by have := HE.out; omega
    have hq : -149 + st + 149 = st := by omega
    have HQ : Hid (-149 + st + 149 = st) := hq
    clear hmx hlt w4 hq hor
    have w4 := wrap_small (-149 + st) (by omega) (by omega)
    have hlt : ¬ -149 + st < -149 := by omega
    go_enter Tryd.func51, Tryd.ntmps51
    go_wp2
    go_quiet ((go_at_call 56; exact Calls.quiet_of_same (hLen _)))
    go_wp2
    go_region_with (go_at_call 55; refine (hU _).mono ?_; rintro e w' ⟨rfl, rfl⟩)
    all_goals
      go_wp2_with (first | (go_at_call 57; with_reducible refine (hR _ _ ?_).mono ?_; (have := HE.out; omega); rintro e w' ⟨rfl, hb⟩; obtain ⟨hc, hf⟩ := bcell hb; have hz1 := szlt3 hb; have hz0 := Nat.lt_of_succ_lt hz1) | (go_at_call 55; with_reducible refine (hU _).mono ?_; rintro e w' ⟨rfl, rfl⟩) | (go_at_call 46; with_reducible refine (hI _).mono ?_; rintro e w' ⟨rfl, rfl⟩) | (go_at_call 50; refine (hG _ _ ?_ ?_).mono ?_; omega; omega; rintro e w' ⟨rfl, hb2⟩))
      all_goals
        go_ret2
        refine ⟨?_, chainP ‹_› hb2⟩
        first
          | (show Ending.returned (.tuple #[.int .u64 ((-149 + st + 149) * 8388608 + m + 2147483648), .int .i64 0]) = _; rw [HQ.out])
          | (show Ending.returned (.tuple #[.int .u64 ((-149 + st + 149) * 8388608 + m), .int .i64 0]) = _; rw [HQ.out])

set_option maxHeartbeats 4000000 in
theorem pack_exact3 (mode : Int) (n : Bool) (E man m st : Int) (k : Nat) (w : World) (ht : Tz m man k) (hE : E = -1074 + st + k) (hst0 : 0 ≤ st) (hst1 : st < 2046) (hm2 : m < 9007199254740992) (hor : st = 0 ∨ 4503599627370496 ≤ m) (hsz : st * 4503599627370496 + m < 9218868437227405312) :
    Calls Tryd.prog 51 #[.agg #[.int .i64 64, .int .i64 53, .int .i64 1023], .int .i64 mode, .agg #[.int .i64 1, .bool n, .int .i64 E, .int .u64 man]] w fun e w' => e = .returned (.tuple #[.int .u64 (if n then st * 4503599627370496 + m + 9223372036854775808 else st * 4503599627370496 + m), .int .i64 0]) ∧ Below w.heap.size w w' := by
  have hF : Frm 3 64 53 1023 9223372036854775808 18446744073709551616 4503599627370496 2048 := Or.inr (Or.inr ⟨rfl, rfl, rfl, rfl, rfl, rfl, rfl, rfl⟩)
  have hp := ht.pos
  have hle := ht.le (show m < 18446744073709551616 by omega)
  obtain ⟨L, hB, hLen⟩ := len_of man (by omega) (by omega)
  have hroom := hB.room (p := 53) ht (by omega)
  have hL64 := hB.le
  have hU := fun w => leastUnit_any hF w
  have hI := fun w => infinity_any hF w
  have hR := fun u w hu => round_exact mode 1 E u man m k n w ht (by omega) (by omega) (by omega) hu
  have hG := fun s w h0 h1 => signed_any hF n s w h0 h1
  have w1 := wrap_small (E + L) (by omega) (by omega)
  have w2 := wrap_small (E + L - 1) (by omega) (by omega)
  have w3 := wrap_small (E + L - 1 - 53) (by omega) (by omega)
  have w4 := wrap_small (E + L - 1 - 53 + 1) (by omega) (by omega)
  have hmx : E + L - 1 - 53 + 1 ≤ -1074 + st ∧ (st ≠ 0 → E + L - 1 - 53 + 1 = -1074 + st) := by omega
  have HE : Hid (E = -1074 + st + k) := hE
  clear hE hB ht hF
  by_cases hlt : E + L - 1 - 53 + 1 < -1074
  · obtain rfl : st = 0 := by have := HE.out; omega
    clear hmx hor
    go_enter Tryd.func51, Tryd.ntmps51
    go_wp2
    go_quiet ((go_at_call 56; exact Calls.quiet_of_same (hLen _)))
    go_wp2
    go_region_with (go_at_call 55; refine (hU _).mono ?_; rintro e w' ⟨rfl, rfl⟩)
    all_goals
      go_wp2_with (first | (go_at_call 57; with_reducible refine (hR _ _ ?_).mono ?_; (have := HE.out; omega); rintro e w' ⟨rfl, hb⟩; obtain ⟨hc, hf⟩ := bcell hb; have hz1 := szlt3 hb; have hz0 := Nat.lt_of_succ_lt hz1) | (go_at_call 55; with_reducible refine (hU _).mono ?_; rintro e w' ⟨rfl, rfl⟩) | (go_at_call 46; with_reducible refine (hI _).mono ?_; rintro e w' ⟨rfl, rfl⟩) | (go_at_call 50; refine (hG _ _ ?_ ?_).mono ?_; omega; omega; rintro e w' ⟨rfl, hb2⟩))
      all_goals
        go_ret2
        exact ⟨rfl, chainP ‹_› hb2⟩
  · have hEL : E + L - 1 - 53 + 1 = -1074 + st := by have := HE.out; omega
    have hq : -1074 + st + 1074 = st := by omega
    have HQ : Hid (-1074 + st + 1074 = st) := hq
    clear hmx hlt w4 hq hor
    have w4 := wrap_small (-1074 + st) (by omega) (by omega)
    have hlt : ¬ -1074 + st < -1074 := by omega
    go_enter Tryd.func51, Tryd.ntmps51
    go_wp2
    go_quiet ((go_at_call 56; exact Calls.quiet_of_same (hLen _)))
    go_wp2
    go_region_with (go_at_call 55; refine (hU _).mono ?_; rintro e w' ⟨rfl, rfl⟩)
    all_goals
      go_wp2_with (first | (go_at_call 57; with_reducible refine (hR _ _ ?_).mono ?_; (have := HE.out; omega); rintro e w' ⟨rfl, hb⟩; obtain ⟨hc, hf⟩ := bcell hb; have hz1 := szlt3 hb; have hz0 := Nat.lt_of_succ_lt hz1) | (go_at_call 55; with_reducible refine (hU _).mono ?_; rintro e w' ⟨rfl, rfl⟩) | (go_at_call 46; with_reducible refine (hI _).mono ?_; rintro e w' ⟨rfl, rfl⟩) | (go_at_call 50; refine (hG _ _ ?_ ?_).mono ?_; omega; omega; rintro e w' ⟨rfl, hb2⟩))
      all_goals
        go_ret2
        refine ⟨?_, chainP ‹_› hb2⟩
        first
          | (show Ending.returned (.tuple #[.int .u64 ((-1074 + st + 1074) * 4503599627370496 + m + 9223372036854775808), .int .i64 0]) = _; rw [HQ.out])
          | (show Ending.returned (.tuple #[.int .u64 ((-1074 + st + 1074) * 4503599627370496 + m), .int .i64 0]) = _; rw [HQ.out])

end Go.Proofs.YtghblaphkbcgpaaDoor
