/- The walks of the model's Unpack at a finite number: the loop that takes out the twos. -/
import Derived.Test.YtcpnmcfpnhokgaaDoorU1
namespace Go.Proofs.YtcpnmcfpnhokgaaDoor
open Go.RowKit

set_option maxHeartbeats 1000000 in
theorem sunpack_low {f wd p t S D h q : Int} (hF : Frm f wd p t S D h q) (x : Int) (w : World) (h0 : 0 ≤ x) (h1 : x < D) (hX : x / h % q = 0) (hf : (x % h == 0) = false) :
    Calls Tryd.prog 12 #[.int .i64 f, .int .u64 x] w fun e w' => ∃ (k : Nat) (man : Int), Tz (x % h) man k ∧ man % 2 = 1 ∧ e = .returned (.agg #[.int .i64 1, .bool (x / S == 1), .int .i64 (2 - t - p + k), .int .u64 man]) ∧ Below w.heap.size w w' := by
  have hA := fun w => are_yes hF.form x h0 h1 w
  have hG := fun w => l1Form_any hF.form w
  have hf0 : ¬ x % h = 0 := by simpa using hf
  rcases hF with ⟨rfl, rfl, rfl, rfl, rfl, rfl, rfl, rfl⟩ | ⟨rfl, rfl, rfl, rfl, rfl, rfl, rfl, rfl⟩ | ⟨rfl, rfl, rfl, rfl, rfl, rfl, rfl, rfl⟩
  · clear h1
    go_enter Tryd.func12, Tryd.ntmps12
    go_wp2_with (first | (go_at_call 38; refine (hG _).mono ?_; rintro e w' ⟨rfl, rfl⟩) | (go_at_call 39; refine (hA _).mono ?_; rintro e w' ⟨rfl, rfl⟩))
    clear hA hG
    go_loopw [101] (fun _ wr => ∃ (k : Nat) (man e : Int), Tz (x % 1024) man k ∧ e = 2 - 15 - 11 + k ∧ wr = (w.alloc (.cells #[.int .i64 0, .bool false, .int .i64 0, .int .u64 0] 30)).alloc (.cells #[.int .i64 1, .bool (x / 32768 == 1), .int .i64 e, .int .u64 man] 30))
      (fun _ wr => (intOf ((wr.cell? ⟨w.heap.size + 1, 3, none⟩).getD undef)).toNat)
    case atStart =>
      exact ⟨0, _, _, Tz.start (by omega), by simp, rfl⟩
    case round =>
      obtain ⟨k, man, e, ht, hk, rfl⟩ := hrel
      have hb := ht.le (by omega)
      have hp := ht.pos
      have HE : Hid (e = 2 - 15 - 11 + k) := hk
      have he1 : e < 100000 := by omega
      have he2 : -100000 < e := by omega
      clear hk
      by_cases he : man % 2 = 0
      · go_wp2
        go_roundw
        case rel => exact ⟨k + 1, _, _, ht.step he, by have := HE.out; push_cast; omega, rfl⟩
        case measure => simp [intOf]; omega
      · have ho : man % 2 = 1 := by omega
        go_wp2
        exact bodyPost_ret (v := .agg #[.int .i64 1, .bool (x / 32768 == 1), .int .i64 e, .int .u64 man]) (by simp [results, Tryd.results12, go_sem]) rfl ⟨k, man, ht, ho, by rw [HE.out], below_two _ _⟩
  · clear h1
    go_enter Tryd.func12, Tryd.ntmps12
    go_wp2_with (first | (go_at_call 38; refine (hG _).mono ?_; rintro e w' ⟨rfl, rfl⟩) | (go_at_call 39; refine (hA _).mono ?_; rintro e w' ⟨rfl, rfl⟩))
    clear hA hG
    go_loopw [101] (fun _ wr => ∃ (k : Nat) (man e : Int), Tz (x % 8388608) man k ∧ e = 2 - 127 - 24 + k ∧ wr = (w.alloc (.cells #[.int .i64 0, .bool false, .int .i64 0, .int .u64 0] 30)).alloc (.cells #[.int .i64 1, .bool (x / 2147483648 == 1), .int .i64 e, .int .u64 man] 30))
      (fun _ wr => (intOf ((wr.cell? ⟨w.heap.size + 1, 3, none⟩).getD undef)).toNat)
    case atStart =>
      exact ⟨0, _, _, Tz.start (by omega), by simp, rfl⟩
    case round =>
      obtain ⟨k, man, e, ht, hk, rfl⟩ := hrel
      have hb := ht.le (by omega)
      have hp := ht.pos
      have HE : Hid (e = 2 - 127 - 24 + k) := hk
      have he1 : e < 100000 := by omega
      have he2 : -100000 < e := by omega
      clear hk
      by_cases he : man % 2 = 0
      · go_wp2
        go_roundw
        case rel => exact ⟨k + 1, _, _, ht.step he, by have := HE.out; push_cast; omega, rfl⟩
        case measure => simp [intOf]; omega
      · have ho : man % 2 = 1 := by omega
        go_wp2
        exact bodyPost_ret (v := .agg #[.int .i64 1, .bool (x / 2147483648 == 1), .int .i64 e, .int .u64 man]) (by simp [results, Tryd.results12, go_sem]) rfl ⟨k, man, ht, ho, by rw [HE.out], below_two _ _⟩
  · clear h1
    go_enter Tryd.func12, Tryd.ntmps12
    go_wp2_with (first | (go_at_call 38; refine (hG _).mono ?_; rintro e w' ⟨rfl, rfl⟩) | (go_at_call 39; refine (hA _).mono ?_; rintro e w' ⟨rfl, rfl⟩))
    clear hA hG
    go_loopw [101] (fun _ wr => ∃ (k : Nat) (man e : Int), Tz (x % 4503599627370496) man k ∧ e = 2 - 1023 - 53 + k ∧ wr = (w.alloc (.cells #[.int .i64 0, .bool false, .int .i64 0, .int .u64 0] 30)).alloc (.cells #[.int .i64 1, .bool (x / 9223372036854775808 == 1), .int .i64 e, .int .u64 man] 30))
      (fun _ wr => (intOf ((wr.cell? ⟨w.heap.size + 1, 3, none⟩).getD undef)).toNat)
    case atStart =>
      exact ⟨0, _, _, Tz.start (by omega), by simp, rfl⟩
    case round =>
      obtain ⟨k, man, e, ht, hk, rfl⟩ := hrel
      have hb := ht.le (by omega)
      have hp := ht.pos
      have HE : Hid (e = 2 - 1023 - 53 + k) := hk
      have he1 : e < 100000 := by omega
      have he2 : -100000 < e := by omega
      clear hk
      by_cases he : man % 2 = 0
      · go_wp2
        go_roundw
        case rel => exact ⟨k + 1, _, _, ht.step he, by have := HE.out; push_cast; omega, rfl⟩
        case measure => simp [intOf]; omega
      · have ho : man % 2 = 1 := by omega
        go_wp2
        exact bodyPost_ret (v := .agg #[.int .i64 1, .bool (x / 9223372036854775808 == 1), .int .i64 e, .int .u64 man]) (by simp [results, Tryd.results12, go_sem]) rfl ⟨k, man, ht, ho, by rw [HE.out], below_two _ _⟩

set_option maxHeartbeats 1000000 in
theorem sunpack_norm {f wd p t S D h q : Int} (hF : Frm f wd p t S D h q) (x : Int) (w : World) (h0 : 0 ≤ x) (h1 : x < D) (hX : ¬ x / h % q = 0) (hY : ¬ x / h % q = 2 * t + 1) :
    Calls Tryd.prog 12 #[.int .i64 f, .int .u64 x] w fun e w' => ∃ (k : Nat) (man : Int), Tz (x % h + h) man k ∧ man % 2 = 1 ∧ e = .returned (.agg #[.int .i64 1, .bool (x / S == 1), .int .i64 (x / h % q - t - p + 1 + k), .int .u64 man]) ∧ Below w.heap.size w w' := by
  have hA := fun w => are_yes hF.form x h0 h1 w
  have hG := fun w => l1Form_any hF.form w
  rcases hF with ⟨rfl, rfl, rfl, rfl, rfl, rfl, rfl, rfl⟩ | ⟨rfl, rfl, rfl, rfl, rfl, rfl, rfl, rfl⟩ | ⟨rfl, rfl, rfl, rfl, rfl, rfl, rfl, rfl⟩
  · clear h1
    go_enter Tryd.func12, Tryd.ntmps12
    go_wp2_with (first | (go_at_call 38; refine (hG _).mono ?_; rintro e w' ⟨rfl, rfl⟩) | (go_at_call 39; refine (hA _).mono ?_; rintro e w' ⟨rfl, rfl⟩))
    clear hA hG
    go_loopw [101] (fun _ wr => ∃ (k : Nat) (man e : Int), Tz (x % 1024 + 1024) man k ∧ e = x / 1024 % 32 - 15 - 11 + 1 + k ∧ wr = (w.alloc (.cells #[.int .i64 0, .bool false, .int .i64 0, .int .u64 0] 30)).alloc (.cells #[.int .i64 1, .bool (x / 32768 == 1), .int .i64 e, .int .u64 man] 30))
      (fun _ wr => (intOf ((wr.cell? ⟨w.heap.size + 1, 3, none⟩).getD undef)).toNat)
    case atStart =>
      exact ⟨0, _, _, Tz.start (by omega), by simp, rfl⟩
    case round =>
      obtain ⟨k, man, e, ht, hk, rfl⟩ := hrel
      have hb := ht.le (by omega)
      have hp := ht.pos
      have HE : Hid (e = x / 1024 % 32 - 15 - 11 + 1 + k) := hk
      have he1 : e < 100000 := by omega
      have he2 : -100000 < e := by omega
      clear hk
      by_cases he : man % 2 = 0
      · go_wp2
        go_roundw
        case rel => exact ⟨k + 1, _, _, ht.step he, by have := HE.out; push_cast; omega, rfl⟩
        case measure => simp [intOf]; omega
      · have ho : man % 2 = 1 := by omega
        go_wp2
        exact bodyPost_ret (v := .agg #[.int .i64 1, .bool (x / 32768 == 1), .int .i64 e, .int .u64 man]) (by simp [results, Tryd.results12, go_sem]) rfl ⟨k, man, ht, ho, by rw [HE.out], below_two _ _⟩
  · clear h1
    go_enter Tryd.func12, Tryd.ntmps12
    go_wp2_with (first | (go_at_call 38; refine (hG _).mono ?_; rintro e w' ⟨rfl, rfl⟩) | (go_at_call 39; refine (hA _).mono ?_; rintro e w' ⟨rfl, rfl⟩))
    clear hA hG
    go_loopw [101] (fun _ wr => ∃ (k : Nat) (man e : Int), Tz (x % 8388608 + 8388608) man k ∧ e = x / 8388608 % 256 - 127 - 24 + 1 + k ∧ wr = (w.alloc (.cells #[.int .i64 0, .bool false, .int .i64 0, .int .u64 0] 30)).alloc (.cells #[.int .i64 1, .bool (x / 2147483648 == 1), .int .i64 e, .int .u64 man] 30))
      (fun _ wr => (intOf ((wr.cell? ⟨w.heap.size + 1, 3, none⟩).getD undef)).toNat)
    case atStart =>
      exact ⟨0, _, _, Tz.start (by omega), by simp, rfl⟩
    case round =>
      obtain ⟨k, man, e, ht, hk, rfl⟩ := hrel
      have hb := ht.le (by omega)
      have hp := ht.pos
      have HE : Hid (e = x / 8388608 % 256 - 127 - 24 + 1 + k) := hk
      have he1 : e < 100000 := by omega
      have he2 : -100000 < e := by omega
      clear hk
      by_cases he : man % 2 = 0
      · go_wp2
        go_roundw
        case rel => exact ⟨k + 1, _, _, ht.step he, by have := HE.out; push_cast; omega, rfl⟩
        case measure => simp [intOf]; omega
      · have ho : man % 2 = 1 := by omega
        go_wp2
        exact bodyPost_ret (v := .agg #[.int .i64 1, .bool (x / 2147483648 == 1), .int .i64 e, .int .u64 man]) (by simp [results, Tryd.results12, go_sem]) rfl ⟨k, man, ht, ho, by rw [HE.out], below_two _ _⟩
  · clear h1
    go_enter Tryd.func12, Tryd.ntmps12
    go_wp2_with (first | (go_at_call 38; refine (hG _).mono ?_; rintro e w' ⟨rfl, rfl⟩) | (go_at_call 39; refine (hA _).mono ?_; rintro e w' ⟨rfl, rfl⟩))
    clear hA hG
    go_loopw [101] (fun _ wr => ∃ (k : Nat) (man e : Int), Tz (x % 4503599627370496 + 4503599627370496) man k ∧ e = x / 4503599627370496 % 2048 - 1023 - 53 + 1 + k ∧ wr = (w.alloc (.cells #[.int .i64 0, .bool false, .int .i64 0, .int .u64 0] 30)).alloc (.cells #[.int .i64 1, .bool (x / 9223372036854775808 == 1), .int .i64 e, .int .u64 man] 30))
      (fun _ wr => (intOf ((wr.cell? ⟨w.heap.size + 1, 3, none⟩).getD undef)).toNat)
    case atStart =>
      exact ⟨0, _, _, Tz.start (by omega), by simp, rfl⟩
    case round =>
      obtain ⟨k, man, e, ht, hk, rfl⟩ := hrel
      have hb := ht.le (by omega)
      have hp := ht.pos
      have HE : Hid (e = x / 4503599627370496 % 2048 - 1023 - 53 + 1 + k) := hk
      have he1 : e < 100000 := by omega
      have he2 : -100000 < e := by omega
      clear hk
      by_cases he : man % 2 = 0
      · go_wp2
        go_roundw
        case rel => exact ⟨k + 1, _, _, ht.step he, by have := HE.out; push_cast; omega, rfl⟩
        case measure => simp [intOf]; omega
      · have ho : man % 2 = 1 := by omega
        go_wp2
        exact bodyPost_ret (v := .agg #[.int .i64 1, .bool (x / 9223372036854775808 == 1), .int .i64 e, .int .u64 man]) (by simp [results, Tryd.results12, go_sem]) rfl ⟨k, man, ht, ho, by rw [HE.out], below_two _ _⟩
end Go.Proofs.YtcpnmcfpnhokgaaDoor
