/- Crc16: both sides. -/
import Derived.Test.YtndagpompioooaaDoorBY
import Derived.Test.YtndagpompioooaaDoorCM
namespace Go.Proofs.YtndagpompioooaaDoor
open Go.RowKit

set_option maxRecDepth 20000 in
set_option maxHeartbeats 2000000 in
theorem iCrc_any {w : World} {v : Value} {n : Nat} {xs : Nat → Int} (hv : Bl w v n xs) (hb : Byt n xs) (hn : n ≤ 9223372036854775807) : Calls Tryd.prog 63 #[v] w fun e w' => e = .returned (.int .i64 (crv n xs)) ∧ w' = w := by
  obtain ⟨ao, cap, rfl, hcap, hc⟩ := hv
  have HC : Hid (0 < n → ∃ b off, ao = some ⟨b, off, none⟩ ∧ b < w.heap.size ∧ ∀ k, k < n → w.cell? ⟨b, off + k, none⟩ = some (.int .u8 (xs k))) := hc
  clear hc
  by_cases hbig : 65536 < n
  · have E : crv n xs = 0 := by unfold crv; rw [if_pos hbig]
    rw [E]
    clear E hb
    go_enter Tryd.func63, Tryd.ntmps63
    go_wp2
    go_ret
    exact ⟨rfl, rfl⟩
  have E : crv n xs = ((crc xs n : Nat) : Int) := by unfold crv; rw [if_neg hbig]
  rw [E]
  obtain ⟨R, hR⟩ : ∃ R : Nat, R = crc xs n := ⟨_, rfl⟩
  have HR : Hid (R = crc xs n) := hR
  have HB : Hid (Byt n xs) := hb
  rw [← hR]
  clear E hR hb
  go_enter Tryd.func63, Tryd.ntmps63
  go_wp2
  go_loopw [3, 5, 6, 12, 21] (fun cv _ _ iv _ wr => ∃ i c : Nat, cv = .int .u16 (c : Int) ∧ iv = .int .i64 (i : Int) ∧ i ≤ n ∧ c < 65536 ∧ wr = w ∧ Hid (c = crc xs i)) (fun _ _ _ iv _ _ => n - (intOf iv).toNat)
  case atStart => exact ⟨0, 65535, rfl, rfl, by omega, by omega, rfl, rfl⟩
  case round =>
    obtain ⟨i, c, rfl, rfl, hi, hc, hw, hrel⟩ := hrel
    obtain rfl := hw.symm
    by_cases h1 : i < n
    · obtain ⟨b, off, rfl, hbb, hcl⟩ := HC.out (by omega)
      have c0 := hcl i h1
      have hy0 := HB.out i h1
      obtain ⟨y, hy⟩ : ∃ y : Nat, xs i = (y : Int) := ⟨(xs i).toNat, by omega⟩
      have hy1 : y < 256 := by omega
      rw [hy] at c0
      obtain ⟨c0, hc0⟩ : ∃ c0 : Nat, c0 = c ^^^ 256 * y := ⟨_, rfl⟩
      have hc1 : c0 < 65536 := by rw [hc0]; exact put_lt hc hy1
      have HS : Hid (crc xs (i + 1) = crb 8 c0) := by show crc xs (i + 1) = crb 8 c0; rw [crc_succ, ← hrel.out, hy, hc0, Int.toNat_natCast]
      have e1 : IntKind.u16.wrap (y : Int) = (y : Int) := u16w (by omega)
      have e2 : IntKind.u16.wrap ((y : Int) * 256) = ((256 * y : Nat) : Int) := by rw [IntKind.wrap_u16]; omega
      have e4 : bits .xor .u16 (c : Int) ((256 * y : Nat) : Int) = (c0 : Int) := by rw [xor_u16 (by omega) (by omega), hc0]
      obtain ⟨y2, hy2⟩ : ∃ y2 : Nat, y2 = 256 * y := ⟨_, rfl⟩
      rw [← hy2] at e2 e4
      clear hy hcl hc0 hy2 hrel hy0
      go_wp2
      go_loopw [3, 6, 21] (fun cv _ kv wr => ∃ k c : Nat, cv = .int .u16 (c : Int) ∧ kv = .int .i64 (k : Int) ∧ k ≤ 8 ∧ c < 65536 ∧ wr = w ∧ Hid (c = crb k c0)) (fun _ _ kv _ => 8 - (intOf kv).toNat)
      case atStart => exact ⟨0, c0, rfl, rfl, by omega, hc1, rfl, rfl⟩
      case round =>
        obtain ⟨k, c, rfl, rfl, hk, hc, hw, hrel⟩ := hrel
        obtain rfl := hw.symm
        clear e2 e4
        by_cases h3 : k < 8
        · obtain ⟨r, hr⟩ : ∃ r : Nat, r = cst c := ⟨_, rfl⟩
          have hr1 : r < 65536 := by rw [hr]; exact cst_lt hc
          have HK : Hid (r = crb (k + 1) c0) := by show r = crb (k + 1) c0; rw [crb_succ, ← hrel.out]; exact hr
          by_cases h2 : 32768 ≤ c
          · obtain ⟨z, hz⟩ : ∃ z : Nat, z = (2 * c) % 65536 := ⟨_, rfl⟩
            have e5 : IntKind.u16.wrap ((c : Int) * 2) = (z : Int) := by rw [IntKind.wrap_u16]; omega
            have e6 : bits .xor .u16 (z : Int) 4129 = (r : Int) := by rw [hr, cst_high h2, ← hz]; exact xor_u16 (a := z) (b := 4129) (by omega) (by omega)
            have d0 : decide (32768 ≤ (c : Int)) = true := by simp; omega
            clear hr hz hrel h2
            go_wp2
            go_roundw
            case rel => exact ⟨k + 1, r, rfl, by go_num, by omega, hr1, by trivial, HK.out⟩
            case measure => simp [intOf]; omega
          · have d0 : decide (32768 ≤ (c : Int)) = false := by simp; omega
            have e5 : IntKind.u16.wrap ((c : Int) * 2) = (r : Int) := by rw [IntKind.wrap_u16, hr, cst_low h2]; omega
            clear hr hrel h2
            go_wp2
            go_roundw
            case rel => exact ⟨k + 1, r, rfl, by go_num, by omega, hr1, by trivial, HK.out⟩
            case measure => simp [intOf]; omega
        · obtain rfl : k = 8 := by omega
          have HN : Hid (c = crc xs (i + 1)) := hrel.out.trans HS.out.symm
          clear hrel HS
          go_wp2
          go_roundw
          case rel => exact ⟨i + 1, c, rfl, by go_num, by omega, hc, by trivial, HN.out⟩
          case measure => simp [intOf]; omega
    · obtain rfl : n = i := by omega
      have hRc : R = c := HR.out.trans hrel.out.symm
      subst hRc
      clear hrel HR
      go_wp2
      go_ret
      exact ⟨rfl, rfl⟩

set_option maxRecDepth 20000 in
set_option maxHeartbeats 2000000 in
theorem sCrc_any {w : World} {v : Value} {n : Nat} {xs : Nat → Int} (hv : Bl w v n xs) (hb : Byt n xs) (hn : n ≤ 9223372036854775807) : Calls Tryd.prog 68 #[v] w fun e w' => e = .returned (.int .i64 (crv n xs)) ∧ w' = w := by
  obtain ⟨ao, cap, rfl, hcap, hc⟩ := hv
  have HC : Hid (0 < n → ∃ b off, ao = some ⟨b, off, none⟩ ∧ b < w.heap.size ∧ ∀ k, k < n → w.cell? ⟨b, off + k, none⟩ = some (.int .u8 (xs k))) := hc
  clear hc
  by_cases hbig : 65536 < n
  · have E : crv n xs = 0 := by unfold crv; rw [if_pos hbig]
    rw [E]
    clear E hb
    go_enter Tryd.func68, Tryd.ntmps68
    go_wp2
    go_ret
    exact ⟨rfl, rfl⟩
  have E : crv n xs = ((crc xs n : Nat) : Int) := by unfold crv; rw [if_neg hbig]
  rw [E]
  obtain ⟨R, hR⟩ : ∃ R : Nat, R = crc xs n := ⟨_, rfl⟩
  have HR : Hid (R = crc xs n) := hR
  have HB : Hid (Byt n xs) := hb
  rw [← hR]
  clear E hR hb
  go_enter Tryd.func68, Tryd.ntmps68
  go_wp2
  go_loopw [3, 4, 5, 6] (fun cv iv _ _ wr => ∃ i c : Nat, cv = .int .i64 (c : Int) ∧ iv = .int .i64 (i : Int) ∧ i ≤ n ∧ c < 65536 ∧ wr = w ∧ Hid (c = crc xs i)) (fun _ iv _ _ _ => n - (intOf iv).toNat)
  case atStart => exact ⟨0, 65535, rfl, rfl, by omega, by omega, rfl, rfl⟩
  case round =>
    obtain ⟨i, c, rfl, rfl, hi, hc, hw, hrel⟩ := hrel
    obtain rfl := hw.symm
    by_cases h1 : i < n
    · obtain ⟨b, off, rfl, hbb, hcl⟩ := HC.out (by omega)
      have c0 := hcl i h1
      have hy0 := HB.out i h1
      obtain ⟨y, hy⟩ : ∃ y : Nat, xs i = (y : Int) := ⟨(xs i).toNat, by omega⟩
      have hy1 : y < 256 := by omega
      rw [hy] at c0
      obtain ⟨c0, hc0⟩ : ∃ c0 : Nat, c0 = c ^^^ 256 * y := ⟨_, rfl⟩
      have hc1 : c0 < 65536 := by rw [hc0]; exact put_lt hc hy1
      have HS : Hid (crc xs (i + 1) = crb 8 c0) := by show crc xs (i + 1) = crb 8 c0; rw [crc_succ, ← hrel.out, hy, hc0, Int.toNat_natCast]
      have e2 : 256 * (y : Int) = ((256 * y : Nat) : Int) := by omega
      have e4 : bits .xor .i64 (c : Int) ((256 * y : Nat) : Int) = (c0 : Int) := by rw [xor_nat (by omega) (by omega), hc0]
      obtain ⟨y2, hy2⟩ : ∃ y2 : Nat, y2 = 256 * y := ⟨_, rfl⟩
      rw [← hy2] at e2 e4
      clear hy hcl hc0 hy2 hrel hy0
      go_wp2
      go_loopw [3, 5, 6] (fun cv kv _ wr => ∃ k c : Nat, cv = .int .i64 (c : Int) ∧ kv = .int .i64 (k : Int) ∧ k ≤ 8 ∧ c < 65536 ∧ wr = w ∧ Hid (c = crb k c0)) (fun _ kv _ _ => 8 - (intOf kv).toNat)
      case atStart => exact ⟨0, c0, rfl, rfl, by omega, hc1, rfl, rfl⟩
      case round =>
        obtain ⟨k, c, rfl, rfl, hk, hc, hw, hrel⟩ := hrel
        obtain rfl := hw.symm
        clear e2 e4
        by_cases h3 : k < 8
        · obtain ⟨r, hr⟩ : ∃ r : Nat, r = cst c := ⟨_, rfl⟩
          have hr1 : r < 65536 := by rw [hr]; exact cst_lt hc
          have HK : Hid (r = crb (k + 1) c0) := by show r = crb (k + 1) c0; rw [crb_succ, ← hrel.out]; exact hr
          by_cases h2 : 32768 ≤ c
          · obtain ⟨z, hz⟩ : ∃ z : Nat, z = 2 * c := ⟨_, rfl⟩
            have e5 : 2 * (c : Int) = (z : Int) := by omega
            have hr3 : z ^^^ 4129 < 131072 := Nat.xor_lt_two_pow (n := 17) (by omega) (by omega)
            have e6 : bits .xor .i64 (z : Int) 4129 = ((z ^^^ 4129 : Nat) : Int) := xor_nat (a := z) (b := 4129) (by omega) (by omega)
            have hr2 : (z ^^^ 4129) % 65536 = r := by rw [hr, cst_high h2, hz, mod_high]
            generalize (z ^^^ 4129) = z2 at e6 hr2 hr3
            have e7 : (z2 : Int) % 65536 = (r : Int) := by omega
            have e8 : (z2 : Int).tmod 65536 = (r : Int) := by rw [Int.tmod_eq_emod_of_nonneg (by omega)]; omega
            have d0 : decide (32768 ≤ (c : Int)) = true := by simp; omega
            clear hr hz hrel h2
            go_wp2
            go_roundw
            case rel => exact ⟨k + 1, r, rfl, by go_num, by omega, hr1, by trivial, HK.out⟩
            case measure => simp [intOf]; omega
          · have d0 : decide (32768 ≤ (c : Int)) = false := by simp; omega
            have e5 : 2 * (c : Int) = (r : Int) := by rw [hr, cst_low h2]; omega
            have e7 : (r : Int) % 65536 = (r : Int) := by omega
            have e8 : (r : Int).tmod 65536 = (r : Int) := by rw [Int.tmod_eq_emod_of_nonneg (by omega)]; omega
            clear hr hrel h2
            go_wp2
            go_roundw
            case rel => exact ⟨k + 1, r, rfl, by go_num, by omega, hr1, by trivial, HK.out⟩
            case measure => simp [intOf]; omega
        · obtain rfl : k = 8 := by omega
          have HN : Hid (c = crc xs (i + 1)) := hrel.out.trans HS.out.symm
          clear hrel HS
          go_wp2
          go_roundw
          case rel => exact ⟨i + 1, c, rfl, by go_num, by omega, hc, by trivial, HN.out⟩
          case measure => simp [intOf]; omega
    · obtain rfl : n = i := by omega
      have hRc : R = c := HR.out.trans hrel.out.symm
      subst hRc
      clear hrel HR
      go_wp2
      go_ret
      exact ⟨rfl, rfl⟩
end Go.Proofs.YtndagpompioooaaDoor
