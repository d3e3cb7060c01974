/- The program's unpackFinite. -/
import Derived.Test.YtghblaphkbcgpaaDoorHJ0
namespace Go.Proofs.YtghblaphkbcgpaaDoor
open Go.RowKit

theorem leastUnit_any {f wd p t S D h q : Int} (hF : Frm f wd p t S D h q) (w : World) :
    Calls Tryd.prog 55 #[.agg #[.int .i64 wd, .int .i64 p, .int .i64 t]] w fun e w' => e = .returned (.int .i64 (2 - t - p)) ∧ w' = w.alloc (shpObj wd p t) := by
  rcases hF with ⟨rfl, rfl, rfl, rfl, rfl, rfl, rfl, rfl⟩ | ⟨rfl, rfl, rfl, rfl, rfl, rfl, rfl, rfl⟩ | ⟨rfl, rfl, rfl, rfl, rfl, rfl, rfl, rfl⟩
  all_goals
    go_enter Tryd.func55, Tryd.ntmps55
    go_wp2
    go_ret
    exact ⟨rfl, rfl⟩

theorem mask_low (k : Nat) (x : Int) (hk : k < 64) (h0 : 0 ≤ x) (hx : x < 18446744073709551616) :
    bits .and .u64 x ((2 ^ k - 1 : Nat) : Int) = x % ((2 ^ k : Nat) : Int) ∧ bits .or .u64 (x % ((2 ^ k : Nat) : Int)) ((2 ^ k : Nat) : Int) = x % ((2 ^ k : Nat) : Int) + ((2 ^ k : Nat) : Int) := by
  obtain ⟨n, rfl⟩ := Int.eq_ofNat_of_zero_le h0
  have h2 : 2 ^ k < 2 ^ 64 := Nat.pow_lt_pow_right (by omega) hk
  have h5 : 0 < 2 ^ k := Nat.two_pow_pos k
  have hm : n % 2 ^ k < 2 ^ k := Nat.mod_lt _ h5
  have e1 := u64_and_nat n (2 ^ k - 1) (by omega) (by omega)
  have e2 := u64_or_nat (n % 2 ^ k) (2 ^ k) (by omega) (by omega)
  rw [Nat.and_two_pow_sub_one_eq_mod] at e1
  rw [Nat.or_comm, nat_join k (2 ^ k) (n % 2 ^ k) (by simp) hm] at e2
  constructor
  · rw [e1, Int.natCast_emod]
  · rw [← Int.natCast_emod, e2, Nat.add_comm, Int.natCast_add]

theorem mask_any {f wd p t S D h q : Int} (hF : Frm f wd p t S D h q) (x : Int) (h0 : 0 ≤ x) (hx : x < 18446744073709551616) :
    bits .and .u64 x (h - 1) = x % h ∧ bits .or .u64 (x % h) h = x % h + h := by
  rcases hF with ⟨rfl, rfl, rfl, rfl, rfl, rfl, rfl, rfl⟩ | ⟨rfl, rfl, rfl, rfl, rfl, rfl, rfl, rfl⟩ | ⟨rfl, rfl, rfl, rfl, rfl, rfl, rfl, rfl⟩
  · exact mask_low 10 x (by omega) h0 hx
  · exact mask_low 23 x (by omega) h0 hx
  · exact mask_low 52 x (by omega) h0 hx

theorem Tz.shift {m man : Int} {k : Nat} (h : Tz m man k) (hk : k ≤ 63) : m / 2 ^ min k 64 = man := by
  rw [Nat.min_eq_left (by omega), h.eq]
  have e : ((2 ^ k : Nat) : Int) = (2 : Int) ^ k := by push_cast; rfl
  rw [e]
  exact Int.mul_ediv_cancel _ (by have : (0 : Int) < 2 ^ k := Int.pow_pos (by decide); omega)

theorem wrap_small (x : Int) (h0 : -1000000 < x) (h1 : x < 1000000) : IntKind.i64.wrap x = x := by
  simp [IntKind.wrap, IntKind.bits, IntKind.signed]
  omega

theorem below_45d {w : World} (o1 o2 o3 o4 : Obj) : Below w.heap.size w ((((w.alloc o1).alloc o2).alloc o3).alloc o4).drew := ((below_34 o1 o2 o3).alloc (by simp; omega) _).drew
theorem below_56d {w : World} (o1 o2 o3 o4 o5 : Obj) : Below w.heap.size w (((((w.alloc o1).alloc o2).alloc o3).alloc o4).alloc o5).drew := (((below_34 o1 o2 o3).alloc (by simp; omega) _).alloc (by simp; omega) _).drew

set_option maxHeartbeats 1000000 in
theorem finite_low {f wd p t S D h q : Int} (hF : Frm f wd p t S D h q) (n : Bool) (s man : Int) (k : Nat) (w : World) (h0 : 0 < s) (h1 : s < h) (ht : Tz (s) man k) (ho : man % 2 = 1) (hb : Brj w) :
    Calls Tryd.prog 47 #[.agg #[.int .i64 wd, .int .i64 p, .int .i64 t], .bool n, .int .u64 s] w fun e w' => e = .returned (.agg #[.int .i64 1, .bool n, .int .i64 (2 - t - p + (0) + k), .int .u64 man]) ∧ Below w.heap.size w w' := by
  have hU := fun w => leastUnit_any hF w
  have hlt : s < 18446744073709551616 := by rcases hF with ⟨_, _, _, _, _, _, rfl, _⟩ | ⟨_, _, _, _, _, _, rfl, _⟩ | ⟨_, _, _, _, _, _, rfl, _⟩ <;> omega
  have hs64 := hlt
  have hT := fun w hb => tz64 ht ho hlt w hb
  have hM := mask_any hF s (by omega) hs64
  have hk := (ht.le hlt).1
  have hsh := ht.shift hk
  rw [Nat.min_eq_left (show k ≤ 64 by omega)] at hsh
  rw [Int.emod_eq_of_lt (by omega) h1] at hM
  have hq : s / h = 0 := Int.ediv_eq_zero_of_lt (by omega) h1
  clear hlt
  rcases hF with ⟨rfl, rfl, rfl, rfl, rfl, rfl, rfl, rfl⟩ | ⟨rfl, rfl, rfl, rfl, rfl, rfl, rfl, rfl⟩ | ⟨rfl, rfl, rfl, rfl, rfl, rfl, rfl, rfl⟩
  · have hM1 : bits .and .u64 s 1023 = s := hM.1
    clear hM
    go_enter Tryd.func47, Tryd.ntmps47
    go_wp2_with (first | (go_at_call 54; with_reducible refine (hT _ ?_).mono ?_; (repeat (first | exact hb | apply Brj.alloc)); rintro e w' ⟨rfl, rfl⟩) | (go_at_call 53; go_in))
    clear hM1 hq h0 h1 hs64 hT ho hb
    have HS : Hid ((s) / 2 ^ k = man) := hsh
    clear hsh
    go_region_with (go_at_call 55; refine (hU _).mono ?_; rintro e w' ⟨rfl, rfl⟩)
    have hsh := HS.out
    go_wp2
    exact bodyPost_ret (v := .agg #[.int .i64 1, .bool n, .int .i64 (IntKind.i64.wrap (IntKind.i64.wrap (-24) + (k : Int))), .int .u64 ((s) / 2 ^ k)]) (by simp [results, Tryd.results47, go_sem]) rfl ⟨by rw [wrap_small (-24) (by decide) (by decide), wrap_small _ (by omega) (by omega), hsh]; rfl, below_45d _ _ _ _⟩
  · have hM1 : bits .and .u64 s 8388607 = s := hM.1
    clear hM
    go_enter Tryd.func47, Tryd.ntmps47
    go_wp2_with (first | (go_at_call 54; with_reducible refine (hT _ ?_).mono ?_; (repeat (first | exact hb | apply Brj.alloc)); rintro e w' ⟨rfl, rfl⟩) | (go_at_call 53; go_in))
    clear hM1 hq h0 h1 hs64 hT ho hb
    have HS : Hid ((s) / 2 ^ k = man) := hsh
    clear hsh
    go_region_with (go_at_call 55; refine (hU _).mono ?_; rintro e w' ⟨rfl, rfl⟩)
    have hsh := HS.out
    go_wp2
    exact bodyPost_ret (v := .agg #[.int .i64 1, .bool n, .int .i64 (IntKind.i64.wrap (IntKind.i64.wrap (-149) + (k : Int))), .int .u64 ((s) / 2 ^ k)]) (by simp [results, Tryd.results47, go_sem]) rfl ⟨by rw [wrap_small (-149) (by decide) (by decide), wrap_small _ (by omega) (by omega), hsh]; rfl, below_45d _ _ _ _⟩
  · have hM1 : bits .and .u64 s 4503599627370495 = s := hM.1
    clear hM
    go_enter Tryd.func47, Tryd.ntmps47
    go_wp2_with (first | (go_at_call 54; with_reducible refine (hT _ ?_).mono ?_; (repeat (first | exact hb | apply Brj.alloc)); rintro e w' ⟨rfl, rfl⟩) | (go_at_call 53; go_in))
    clear hM1 hq h0 h1 hs64 hT ho hb
    have HS : Hid ((s) / 2 ^ k = man) := hsh
    clear hsh
    go_region_with (go_at_call 55; refine (hU _).mono ?_; rintro e w' ⟨rfl, rfl⟩)
    have hsh := HS.out
    go_wp2
    exact bodyPost_ret (v := .agg #[.int .i64 1, .bool n, .int .i64 (IntKind.i64.wrap (IntKind.i64.wrap (-1074) + (k : Int))), .int .u64 ((s) / 2 ^ k)]) (by simp [results, Tryd.results47, go_sem]) rfl ⟨by rw [wrap_small (-1074) (by decide) (by decide), wrap_small _ (by omega) (by omega), hsh]; rfl, below_45d _ _ _ _⟩

set_option maxHeartbeats 1000000 in
theorem finite_norm {f wd p t S D h q : Int} (hF : Frm f wd p t S D h q) (n : Bool) (s man : Int) (k : Nat) (w : World) (h0 : h ≤ s) (h1 : s < D) (ht : Tz (s % h + h) man k) (ho : man % 2 = 1) (hb : Brj w) :
    Calls Tryd.prog 47 #[.agg #[.int .i64 wd, .int .i64 p, .int .i64 t], .bool n, .int .u64 s] w fun e w' => e = .returned (.agg #[.int .i64 1, .bool n, .int .i64 (2 - t - p + (s / h - 1) + k), .int .u64 man]) ∧ Below w.heap.size w w' := by
  have hU := fun w => leastUnit_any hF w
  have hlt : s % h + h < 18446744073709551616 := by rcases hF with ⟨_, _, _, _, _, _, rfl, _⟩ | ⟨_, _, _, _, _, _, rfl, _⟩ | ⟨_, _, _, _, _, _, rfl, _⟩ <;> omega
  have hr : 0 ≤ s % h ∧ s % h < h ∧ 0 < h := by rcases hF with ⟨_, _, _, _, _, _, rfl, _⟩ | ⟨_, _, _, _, _, _, rfl, _⟩ | ⟨_, _, _, _, _, _, rfl, _⟩ <;> omega
  have hs64 : s < 18446744073709551616 := by rcases hF with ⟨_, _, _, _, _, rfl, rfl, _⟩ | ⟨_, _, _, _, _, rfl, rfl, _⟩ | ⟨_, _, _, _, _, rfl, rfl, _⟩ <;> omega
  have hT := fun w hb => tz64 ht ho hlt w hb
  have hM := mask_any hF s (by omega) hs64
  have hk := (ht.le hlt).1
  have hsh := ht.shift hk
  rw [Nat.min_eq_left (show k ≤ 64 by omega)] at hsh
  have hq : 0 < s / h ∧ s / h < 100000 := by rcases hF with ⟨_, _, _, _, _, rfl, rfl, _⟩ | ⟨_, _, _, _, _, rfl, rfl, _⟩ | ⟨_, _, _, _, _, rfl, rfl, _⟩ <;> omega
  clear hlt
  rcases hF with ⟨rfl, rfl, rfl, rfl, rfl, rfl, rfl, rfl⟩ | ⟨rfl, rfl, rfl, rfl, rfl, rfl, rfl, rfl⟩ | ⟨rfl, rfl, rfl, rfl, rfl, rfl, rfl, rfl⟩
  · have hM1 : bits .and .u64 s 1023 = s % 1024 := hM.1
    have hM2 : bits .or .u64 (s % 1024) 1024 = s % 1024 + 1024 := hM.2
    clear hM
    go_enter Tryd.func47, Tryd.ntmps47
    go_wp2_with (first | (go_at_call 54; with_reducible refine (hT _ ?_).mono ?_; (repeat (first | exact hb | apply Brj.alloc)); rintro e w' ⟨rfl, rfl⟩) | (go_at_call 53; go_in))
    clear hM1 hM2 h0 h1 hs64 hT ho hb
    have HS : Hid ((s % 1024 + 1024) / 2 ^ k = man) := hsh
    clear hsh
    go_region_with (go_at_call 55; refine (hU _).mono ?_; rintro e w' ⟨rfl, rfl⟩)
    have hsh := HS.out
    go_wp2
    exact bodyPost_ret (v := .agg #[.int .i64 1, .bool n, .int .i64 (IntKind.i64.wrap (IntKind.i64.wrap (-24 + (s / 1024 - 1)) + (k : Int))), .int .u64 ((s % 1024 + 1024) / 2 ^ k)]) (by simp [results, Tryd.results47, go_sem]) rfl ⟨by rw [wrap_small (-24 + (s / 1024 - 1)) (by omega) (by omega), wrap_small _ (by omega) (by omega), hsh]; rfl, below_56d _ _ _ _ _⟩
  · have hM1 : bits .and .u64 s 8388607 = s % 8388608 := hM.1
    have hM2 : bits .or .u64 (s % 8388608) 8388608 = s % 8388608 + 8388608 := hM.2
    clear hM
    go_enter Tryd.func47, Tryd.ntmps47
    go_wp2_with (first | (go_at_call 54; with_reducible refine (hT _ ?_).mono ?_; (repeat (first | exact hb | apply Brj.alloc)); rintro e w' ⟨rfl, rfl⟩) | (go_at_call 53; go_in))
    clear hM1 hM2 h0 h1 hs64 hT ho hb
    have HS : Hid ((s % 8388608 + 8388608) / 2 ^ k = man) := hsh
    clear hsh
    go_region_with (go_at_call 55; refine (hU _).mono ?_; rintro e w' ⟨rfl, rfl⟩)
    have hsh := HS.out
    go_wp2
    exact bodyPost_ret (v := .agg #[.int .i64 1, .bool n, .int .i64 (IntKind.i64.wrap (IntKind.i64.wrap (-149 + (s / 8388608 - 1)) + (k : Int))), .int .u64 ((s % 8388608 + 8388608) / 2 ^ k)]) (by simp [results, Tryd.results47, go_sem]) rfl ⟨by rw [wrap_small (-149 + (s / 8388608 - 1)) (by omega) (by omega), wrap_small _ (by omega) (by omega), hsh]; rfl, below_56d _ _ _ _ _⟩
  · have hM1 : bits .and .u64 s 4503599627370495 = s % 4503599627370496 := hM.1
    have hM2 : bits .or .u64 (s % 4503599627370496) 4503599627370496 = s % 4503599627370496 + 4503599627370496 := hM.2
    clear hM
    go_enter Tryd.func47, Tryd.ntmps47
    go_wp2_with (first | (go_at_call 54; with_reducible refine (hT _ ?_).mono ?_; (repeat (first | exact hb | apply Brj.alloc)); rintro e w' ⟨rfl, rfl⟩) | (go_at_call 53; go_in))
    clear hM1 hM2 h0 h1 hs64 hT ho hb
    have HS : Hid ((s % 4503599627370496 + 4503599627370496) / 2 ^ k = man) := hsh
    clear hsh
    go_region_with (go_at_call 55; refine (hU _).mono ?_; rintro e w' ⟨rfl, rfl⟩)
    have hsh := HS.out
    go_wp2
    exact bodyPost_ret (v := .agg #[.int .i64 1, .bool n, .int .i64 (IntKind.i64.wrap (IntKind.i64.wrap (-1074 + (s / 4503599627370496 - 1)) + (k : Int))), .int .u64 ((s % 4503599627370496 + 4503599627370496) / 2 ^ k)]) (by simp [results, Tryd.results47, go_sem]) rfl ⟨by rw [wrap_small (-1074 + (s / 4503599627370496 - 1)) (by omega) (by omega), wrap_small _ (by omega) (by omega), hsh]; rfl, below_56d _ _ _ _ _⟩

end Go.Proofs.YtghblaphkbcgpaaDoor
