/- QU1 QU2. -/
import Derived.Test.YtddbekacdfohpaaGreatDoorM14
import Derived.WalkSpells
import Derived.WalkLawsBesides
namespace Go.Proofs.YtddbekacdfohpaaGreatDoor.Q
open Go.RowKit

/-- The three forms, with the hidden bit h and the number q of exponents besides. -/
def Frm (f wd p t S D h q : Int) : Prop := (f = 1 ∧ wd = 16 ∧ p = 11 ∧ t = 15 ∧ S = 32768 ∧ D = 65536 ∧ h = 1024 ∧ q = 32) ∨ (f = 2 ∧ wd = 32 ∧ p = 24 ∧ t = 127 ∧ S = 2147483648 ∧ D = 4294967296 ∧ h = 8388608 ∧ q = 256) ∨ (f = 3 ∧ wd = 64 ∧ p = 53 ∧ t = 1023 ∧ S = 9223372036854775808 ∧ D = 18446744073709551616 ∧ h = 4503599627370496 ∧ q = 2048)

theorem Frm.form {f wd p t S D h q : Int} (hF : Frm f wd p t S D h q) : Form f wd p t S D := by
  rcases hF with ⟨rfl, rfl, rfl, rfl, rfl, rfl, _, _⟩ | ⟨rfl, rfl, rfl, rfl, rfl, rfl, _, _⟩ | ⟨rfl, rfl, rfl, rfl, rfl, rfl, _, _⟩
  · exact Or.inl ⟨rfl, rfl, rfl, rfl, rfl, rfl⟩
  · exact Or.inr (Or.inl ⟨rfl, rfl, rfl, rfl, rfl, rfl⟩)
  · exact Or.inr (Or.inr ⟨rfl, rfl, rfl, rfl, rfl, rfl⟩)

theorem are_yes {f wd p t S D : Int} (hF : Form f wd p t S D) (x : Int) (h0 : 0 ≤ x) (h1 : x < D) (w : World) :
    Calls Tryz.prog 101 #[.int .i64 f, .int .u64 x] w fun e w' => e = .returned (.bool true) ∧ w' = w := by
  have hD : D ≤ 18446744073709551616 := by rcases hF with ⟨_, _, _, _, _, rfl⟩ | ⟨_, _, _, _, _, rfl⟩ | ⟨_, _, _, _, _, rfl⟩ <;> decide
  have h := l1Are_any hF x h0 (by omega) w
  rw [Int.ediv_eq_zero_of_lt h0 h1] at h
  exact h

theorem below_one {w : World} (o : Obj) : Below w.heap.size w (w.alloc o) := (Below.refl _ _).alloc (Nat.le_refl _) _
theorem below_two {w : World} (o o' : Obj) : Below w.heap.size w ((w.alloc o).alloc o') := (below_one o).alloc (by simp) _

set_option maxHeartbeats 1000000 in
theorem sunpack_inf {f wd p t S D h q : Int} (hF : Frm f wd p t S D h q) (x : Int) (w : World) (h0 : 0 ≤ x) (h1 : x < D) (hX : x / h % q = 2 * t + 1) (hf : (x % h == 0) = true) :
    Calls Tryz.prog 88 #[.int .i64 f, .int .u64 x] w fun e w' => e = .returned (.agg #[.int .i64 2, .bool (x / S == 1), .int .i64 0, .int .u64 0]) ∧ Below w.heap.size w w' := by
  have hA := fun w => are_yes hF.form x h0 h1 w
  have hG := fun w => l1Form_any hF.form w
  rcases hF with ⟨rfl, rfl, rfl, rfl, rfl, rfl, rfl, rfl⟩ | ⟨rfl, rfl, rfl, rfl, rfl, rfl, rfl, rfl⟩ | ⟨rfl, rfl, rfl, rfl, rfl, rfl, rfl, rfl⟩
  all_goals
    clear h1
    go_enter Tryz.func88, Tryz.ntmps88
    go_wp2_with (first | (go_at_call 64; refine (hG _).mono ?_; rintro e w' ⟨rfl, rfl⟩) | (go_at_call 101; refine (hA _).mono ?_; rintro e w' ⟨rfl, rfl⟩))
    exact bodyPost_ret (v := .agg #[.int .i64 2, .bool _, .int .i64 0, .int .u64 0]) (by simp [results, Tryz.results88, go_sem]) rfl ⟨rfl, below_two _ _⟩

set_option maxHeartbeats 1000000 in
theorem sunpack_nan {f wd p t S D h q : Int} (hF : Frm f wd p t S D h q) (x : Int) (w : World) (h0 : 0 ≤ x) (h1 : x < D) (hX : x / h % q = 2 * t + 1) (hf : (x % h == 0) = false) :
    Calls Tryz.prog 88 #[.int .i64 f, .int .u64 x] w fun e w' => e = .returned (.agg #[.int .i64 3, .bool false, .int .i64 0, .int .u64 0]) ∧ Below w.heap.size w w' := by
  have hA := fun w => are_yes hF.form x h0 h1 w
  have hG := fun w => l1Form_any hF.form w
  rcases hF with ⟨rfl, rfl, rfl, rfl, rfl, rfl, rfl, rfl⟩ | ⟨rfl, rfl, rfl, rfl, rfl, rfl, rfl, rfl⟩ | ⟨rfl, rfl, rfl, rfl, rfl, rfl, rfl, rfl⟩
  all_goals
    clear h1
    go_enter Tryz.func88, Tryz.ntmps88
    go_wp2_with (first | (go_at_call 64; refine (hG _).mono ?_; rintro e w' ⟨rfl, rfl⟩) | (go_at_call 101; refine (hA _).mono ?_; rintro e w' ⟨rfl, rfl⟩))
    exact bodyPost_ret (v := .agg #[.int .i64 3, .bool false, .int .i64 0, .int .u64 0]) (by simp [results, Tryz.results88, go_sem]) rfl ⟨rfl, below_two _ _⟩

set_option maxHeartbeats 1000000 in
theorem sunpack_zero {f wd p t S D h q : Int} (hF : Frm f wd p t S D h q) (x : Int) (w : World) (h0 : 0 ≤ x) (h1 : x < D) (hX : x / h % q = 0) (hf : (x % h == 0) = true) :
    Calls Tryz.prog 88 #[.int .i64 f, .int .u64 x] w fun e w' => e = .returned (.agg #[.int .i64 0, .bool (x / S == 1), .int .i64 0, .int .u64 0]) ∧ Below w.heap.size w w' := by
  have hA := fun w => are_yes hF.form x h0 h1 w
  have hG := fun w => l1Form_any hF.form w
  rcases hF with ⟨rfl, rfl, rfl, rfl, rfl, rfl, rfl, rfl⟩ | ⟨rfl, rfl, rfl, rfl, rfl, rfl, rfl, rfl⟩ | ⟨rfl, rfl, rfl, rfl, rfl, rfl, rfl, rfl⟩
  all_goals
    clear h1
    go_enter Tryz.func88, Tryz.ntmps88
    go_wp2_with (first | (go_at_call 64; refine (hG _).mono ?_; rintro e w' ⟨rfl, rfl⟩) | (go_at_call 101; refine (hA _).mono ?_; rintro e w' ⟨rfl, rfl⟩))
    exact bodyPost_ret (v := .agg #[.int .i64 0, .bool _, .int .i64 0, .int .u64 0]) (by simp [results, Tryz.results88, go_sem]) rfl ⟨rfl, below_two _ _⟩
end Go.Proofs.YtddbekacdfohpaaGreatDoor.Q

namespace Go.Proofs.YtddbekacdfohpaaGreatDoor.Q
open Go.RowKit

set_option maxHeartbeats 1000000 in
theorem sunpack_low {f wd p t S D h q : Int} (hF : Frm f wd p t S D h q) (x : Int) (w : World) (h0 : 0 ≤ x) (h1 : x < D) (hX : x / h % q = 0) (hf : (x % h == 0) = false) :
    Calls Tryz.prog 88 #[.int .i64 f, .int .u64 x] w fun e w' => ∃ (k : Nat) (man : Int), Tz (x % h) man k ∧ man % 2 = 1 ∧ e = .returned (.agg #[.int .i64 1, .bool (x / S == 1), .int .i64 (2 - t - p + k), .int .u64 man]) ∧ Below w.heap.size w w' := by
  have hA := fun w => are_yes hF.form x h0 h1 w
  have hG := fun w => l1Form_any hF.form w
  have hf0 : ¬ x % h = 0 := by simpa using hf
  rcases hF with ⟨rfl, rfl, rfl, rfl, rfl, rfl, rfl, rfl⟩ | ⟨rfl, rfl, rfl, rfl, rfl, rfl, rfl, rfl⟩ | ⟨rfl, rfl, rfl, rfl, rfl, rfl, rfl, rfl⟩
  · clear h1
    go_enter Tryz.func88, Tryz.ntmps88
    go_wp2_with (first | (go_at_call 64; refine (hG _).mono ?_; rintro e w' ⟨rfl, rfl⟩) | (go_at_call 101; refine (hA _).mono ?_; rintro e w' ⟨rfl, rfl⟩))
    clear hA hG
    go_loopw [101] (fun _ wr => ∃ (k : Nat) (man e : Int), Tz (x % 1024) man k ∧ e = 2 - 15 - 11 + k ∧ wr = (w.alloc (.cells #[.int .i64 0, .bool false, .int .i64 0, .int .u64 0] 101)).alloc (.cells #[.int .i64 1, .bool (x / 32768 == 1), .int .i64 e, .int .u64 man] 101))
      (fun _ wr => (intOf ((wr.cell? ⟨w.heap.size + 1, 3, none⟩).getD undef)).toNat)
    case atStart =>
      exact ⟨0, _, _, Tz.start (by omega), by simp, rfl⟩
    case round =>
      obtain ⟨k, man, e, ht, hk, rfl⟩ := hrel
      have hb := ht.le (by omega)
      have hp := ht.pos
      have HE : Hid (e = 2 - 15 - 11 + k) := hk
      have he1 : e < 100000 := by omega
      have he2 : -100000 < e := by omega
      clear hk
      by_cases he : man % 2 = 0
      · go_wp2
        go_roundw
        case rel => exact ⟨k + 1, _, _, ht.step he, by have := HE.out; push_cast; omega, rfl⟩
        case measure => simp [intOf]; omega
      · have ho : man % 2 = 1 := by omega
        go_wp2
        exact bodyPost_ret (v := .agg #[.int .i64 1, .bool (x / 32768 == 1), .int .i64 e, .int .u64 man]) (by simp [results, Tryz.results88, go_sem]) rfl ⟨k, man, ht, ho, by rw [HE.out], below_two _ _⟩
  · clear h1
    go_enter Tryz.func88, Tryz.ntmps88
    go_wp2_with (first | (go_at_call 64; refine (hG _).mono ?_; rintro e w' ⟨rfl, rfl⟩) | (go_at_call 101; refine (hA _).mono ?_; rintro e w' ⟨rfl, rfl⟩))
    clear hA hG
    go_loopw [101] (fun _ wr => ∃ (k : Nat) (man e : Int), Tz (x % 8388608) man k ∧ e = 2 - 127 - 24 + k ∧ wr = (w.alloc (.cells #[.int .i64 0, .bool false, .int .i64 0, .int .u64 0] 101)).alloc (.cells #[.int .i64 1, .bool (x / 2147483648 == 1), .int .i64 e, .int .u64 man] 101))
      (fun _ wr => (intOf ((wr.cell? ⟨w.heap.size + 1, 3, none⟩).getD undef)).toNat)
    case atStart =>
      exact ⟨0, _, _, Tz.start (by omega), by simp, rfl⟩
    case round =>
      obtain ⟨k, man, e, ht, hk, rfl⟩ := hrel
      have hb := ht.le (by omega)
      have hp := ht.pos
      have HE : Hid (e = 2 - 127 - 24 + k) := hk
      have he1 : e < 100000 := by omega
      have he2 : -100000 < e := by omega
      clear hk
      by_cases he : man % 2 = 0
      · go_wp2
        go_roundw
        case rel => exact ⟨k + 1, _, _, ht.step he, by have := HE.out; push_cast; omega, rfl⟩
        case measure => simp [intOf]; omega
      · have ho : man % 2 = 1 := by omega
        go_wp2
        exact bodyPost_ret (v := .agg #[.int .i64 1, .bool (x / 2147483648 == 1), .int .i64 e, .int .u64 man]) (by simp [results, Tryz.results88, go_sem]) rfl ⟨k, man, ht, ho, by rw [HE.out], below_two _ _⟩
  · clear h1
    go_enter Tryz.func88, Tryz.ntmps88
    go_wp2_with (first | (go_at_call 64; refine (hG _).mono ?_; rintro e w' ⟨rfl, rfl⟩) | (go_at_call 101; refine (hA _).mono ?_; rintro e w' ⟨rfl, rfl⟩))
    clear hA hG
    go_loopw [101] (fun _ wr => ∃ (k : Nat) (man e : Int), Tz (x % 4503599627370496) man k ∧ e = 2 - 1023 - 53 + k ∧ wr = (w.alloc (.cells #[.int .i64 0, .bool false, .int .i64 0, .int .u64 0] 101)).alloc (.cells #[.int .i64 1, .bool (x / 9223372036854775808 == 1), .int .i64 e, .int .u64 man] 101))
      (fun _ wr => (intOf ((wr.cell? ⟨w.heap.size + 1, 3, none⟩).getD undef)).toNat)
    case atStart =>
      exact ⟨0, _, _, Tz.start (by omega), by simp, rfl⟩
    case round =>
      obtain ⟨k, man, e, ht, hk, rfl⟩ := hrel
      have hb := ht.le (by omega)
      have hp := ht.pos
      have HE : Hid (e = 2 - 1023 - 53 + k) := hk
      have he1 : e < 100000 := by omega
      have he2 : -100000 < e := by omega
      clear hk
      by_cases he : man % 2 = 0
      · go_wp2
        go_roundw
        case rel => exact ⟨k + 1, _, _, ht.step he, by have := HE.out; push_cast; omega, rfl⟩
        case measure => simp [intOf]; omega
      · have ho : man % 2 = 1 := by omega
        go_wp2
        exact bodyPost_ret (v := .agg #[.int .i64 1, .bool (x / 9223372036854775808 == 1), .int .i64 e, .int .u64 man]) (by simp [results, Tryz.results88, go_sem]) rfl ⟨k, man, ht, ho, by rw [HE.out], below_two _ _⟩

set_option maxHeartbeats 1000000 in
theorem sunpack_norm {f wd p t S D h q : Int} (hF : Frm f wd p t S D h q) (x : Int) (w : World) (h0 : 0 ≤ x) (h1 : x < D) (hX : ¬ x / h % q = 0) (hY : ¬ x / h % q = 2 * t + 1) :
    Calls Tryz.prog 88 #[.int .i64 f, .int .u64 x] w fun e w' => ∃ (k : Nat) (man : Int), Tz (x % h + h) man k ∧ man % 2 = 1 ∧ e = .returned (.agg #[.int .i64 1, .bool (x / S == 1), .int .i64 (x / h % q - t - p + 1 + k), .int .u64 man]) ∧ Below w.heap.size w w' := by
  have hA := fun w => are_yes hF.form x h0 h1 w
  have hG := fun w => l1Form_any hF.form w
  rcases hF with ⟨rfl, rfl, rfl, rfl, rfl, rfl, rfl, rfl⟩ | ⟨rfl, rfl, rfl, rfl, rfl, rfl, rfl, rfl⟩ | ⟨rfl, rfl, rfl, rfl, rfl, rfl, rfl, rfl⟩
  · clear h1
    go_enter Tryz.func88, Tryz.ntmps88
    go_wp2_with (first | (go_at_call 64; refine (hG _).mono ?_; rintro e w' ⟨rfl, rfl⟩) | (go_at_call 101; refine (hA _).mono ?_; rintro e w' ⟨rfl, rfl⟩))
    clear hA hG
    go_loopw [101] (fun _ wr => ∃ (k : Nat) (man e : Int), Tz (x % 1024 + 1024) man k ∧ e = x / 1024 % 32 - 15 - 11 + 1 + k ∧ wr = (w.alloc (.cells #[.int .i64 0, .bool false, .int .i64 0, .int .u64 0] 101)).alloc (.cells #[.int .i64 1, .bool (x / 32768 == 1), .int .i64 e, .int .u64 man] 101))
      (fun _ wr => (intOf ((wr.cell? ⟨w.heap.size + 1, 3, none⟩).getD undef)).toNat)
    case atStart =>
      exact ⟨0, _, _, Tz.start (by omega), by simp, rfl⟩
    case round =>
      obtain ⟨k, man, e, ht, hk, rfl⟩ := hrel
      have hb := ht.le (by omega)
      have hp := ht.pos
      have HE : Hid (e = x / 1024 % 32 - 15 - 11 + 1 + k) := hk
      have he1 : e < 100000 := by omega
      have he2 : -100000 < e := by omega
      clear hk
      by_cases he : man % 2 = 0
      · go_wp2
        go_roundw
        case rel => exact ⟨k + 1, _, _, ht.step he, by have := HE.out; push_cast; omega, rfl⟩
        case measure => simp [intOf]; omega
      · have ho : man % 2 = 1 := by omega
        go_wp2
        exact bodyPost_ret (v := .agg #[.int .i64 1, .bool (x / 32768 == 1), .int .i64 e, .int .u64 man]) (by simp [results, Tryz.results88, go_sem]) rfl ⟨k, man, ht, ho, by rw [HE.out], below_two _ _⟩
  · clear h1
    go_enter Tryz.func88, Tryz.ntmps88
    go_wp2_with (first | (go_at_call 64; refine (hG _).mono ?_; rintro e w' ⟨rfl, rfl⟩) | (go_at_call 101; refine (hA _).mono ?_; rintro e w' ⟨rfl, rfl⟩))
    clear hA hG
    go_loopw [101] (fun _ wr => ∃ (k : Nat) (man e : Int), Tz (x % 8388608 + 8388608) man k ∧ e = x / 8388608 % 256 - 127 - 24 + 1 + k ∧ wr = (w.alloc (.cells #[.int .i64 0, .bool false, .int .i64 0, .int .u64 0] 101)).alloc (.cells #[.int .i64 1, .bool (x / 2147483648 == 1), .int .i64 e, .int .u64 man] 101))
      (fun _ wr => (intOf ((wr.cell? ⟨w.heap.size + 1, 3, none⟩).getD undef)).toNat)
    case atStart =>
      exact ⟨0, _, _, Tz.start (by omega), by simp, rfl⟩
    case round =>
      obtain ⟨k, man, e, ht, hk, rfl⟩ := hrel
      have hb := ht.le (by omega)
      have hp := ht.pos
      have HE : Hid (e = x / 8388608 % 256 - 127 - 24 + 1 + k) := hk
      have he1 : e < 100000 := by omega
      have he2 : -100000 < e := by omega
      clear hk
      by_cases he : man % 2 = 0
      · go_wp2
        go_roundw
        case rel => exact ⟨k + 1, _, _, ht.step he, by have := HE.out; push_cast; omega, rfl⟩
        case measure => simp [intOf]; omega
      · have ho : man % 2 = 1 := by omega
        go_wp2
        exact bodyPost_ret (v := .agg #[.int .i64 1, .bool (x / 2147483648 == 1), .int .i64 e, .int .u64 man]) (by simp [results, Tryz.results88, go_sem]) rfl ⟨k, man, ht, ho, by rw [HE.out], below_two _ _⟩
  · clear h1
    go_enter Tryz.func88, Tryz.ntmps88
    go_wp2_with (first | (go_at_call 64; refine (hG _).mono ?_; rintro e w' ⟨rfl, rfl⟩) | (go_at_call 101; refine (hA _).mono ?_; rintro e w' ⟨rfl, rfl⟩))
    clear hA hG
    go_loopw [101] (fun _ wr => ∃ (k : Nat) (man e : Int), Tz (x % 4503599627370496 + 4503599627370496) man k ∧ e = x / 4503599627370496 % 2048 - 1023 - 53 + 1 + k ∧ wr = (w.alloc (.cells #[.int .i64 0, .bool false, .int .i64 0, .int .u64 0] 101)).alloc (.cells #[.int .i64 1, .bool (x / 9223372036854775808 == 1), .int .i64 e, .int .u64 man] 101))
      (fun _ wr => (intOf ((wr.cell? ⟨w.heap.size + 1, 3, none⟩).getD undef)).toNat)
    case atStart =>
      exact ⟨0, _, _, Tz.start (by omega), by simp, rfl⟩
    case round =>
      obtain ⟨k, man, e, ht, hk, rfl⟩ := hrel
      have hb := ht.le (by omega)
      have hp := ht.pos
      have HE : Hid (e = x / 4503599627370496 % 2048 - 1023 - 53 + 1 + k) := hk
      have he1 : e < 100000 := by omega
      have he2 : -100000 < e := by omega
      clear hk
      by_cases he : man % 2 = 0
      · go_wp2
        go_roundw
        case rel => exact ⟨k + 1, _, _, ht.step he, by have := HE.out; push_cast; omega, rfl⟩
        case measure => simp [intOf]; omega
      · have ho : man % 2 = 1 := by omega
        go_wp2
        exact bodyPost_ret (v := .agg #[.int .i64 1, .bool (x / 9223372036854775808 == 1), .int .i64 e, .int .u64 man]) (by simp [results, Tryz.results88, go_sem]) rfl ⟨k, man, ht, ho, by rw [HE.out], below_two _ _⟩
end Go.Proofs.YtddbekacdfohpaaGreatDoor.Q
