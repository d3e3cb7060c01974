/- The model's drawing cursor: a byte, a number below another, a coin, a word: each is told, within its range; old memory stays as it was. -/
import Derived.Test.YtddbekacdfohpaaGreatDoorRows
import Derived.WalkKit
import Derived.WalkSpells
import Derived.WalkLawsBesides
import Derived.Deep.QuietTactic
import Derived.BigQuiet
import Derived.Laws.BitsLemmas
namespace Go.Proofs.YtddbekacdfohpaaGreatDoor.Q
open Go.RowKit

theorem i64_and255 (n : Int) : bits .and .i64 n 255 = n % 256 := by
  have h : (BitVec.ofInt 64 255).toNat = 2 ^ 8 - 1 := by decide
  have key : (BitVec.ofInt 64 n &&& BitVec.ofInt 64 255).toNat = (n % ((2 ^ 64 : Nat) : Int)).toNat % 2 ^ 8 := by
    rw [BitVec.toNat_and, BitVec.toNat_ofInt, h, Nat.and_two_pow_sub_one_eq_mod]
  show IntKind.i64.wrap ((BitVec.ofInt 64 n &&& BitVec.ofInt 64 255).toNat : Nat) = n % 256
  rw [key, IntKind.wrap_i64]
  omega

/-- What is known of the bytes that came in: each element's cell. -/
def Row (W : World) (a : Option Addr) (len : Nat) : Prop :=
  ∀ i : Nat, i < len → ∃ b off z, a = some ⟨b, off, none⟩ ∧ b < W.heap.size ∧ W.cell? ⟨b, off + i, none⟩ = some (.int .u8 z) ∧ 0 ≤ z ∧ z < 256

/-- A cursor lies in block c; W is the world when the law began. -/
structure Cur (W w : World) (c : Nat) (a : Option Addr) (len cap : Nat) : Prop where
  row : Row W a len
  short : (len : Int) ≤ 4611686018427387904
  below : Below W.heap.size W w
  lt : c < w.heap.size
  ge : W.heap.size ≤ c
  b : w.cell? ⟨c, 0, none⟩ = some (.slice a len cap)
  ih : ∃ i h : Int, 0 ≤ i ∧ i ≤ len ∧ w.cell? ⟨c, 1, none⟩ = some (.int .i64 i) ∧ w.cell? ⟨c, 2, none⟩ = some (.int .i64 h)
  fz : ∀ o, w.frozen? ⟨c, o, none⟩ = false

theorem other (w : World) (a b : Addr) (v : Value) (h : a ≠ b) : (w.setCell a v).cell? b = w.cell? b := by
  first | exact World.cell?_setCell_other _ _ _ _ h | exact World.cell?_setCell_other _ _ _ h | exact World.cell?_setCell_other h | exact World.cell?_setCell_other _ _ h

/-- No block but c has turned. -/
def Fr (c : Nat) (w w' : World) : Prop := ∀ b o, b ≠ c → w'.cell? ⟨b, o, none⟩ = w.cell? ⟨b, o, none⟩
theorem Fr.refl (c : Nat) (w : World) : Fr c w w := fun _ _ _ => rfl
theorem Fr.set {c : Nat} {w w' : World} (h : Fr c w w') (j : Nat) (v : Value) : Fr c w (w'.setCell ⟨c, j, none⟩ v) := fun b o hb => by
  rw [other _ _ _ _ (by intro e; injection e; omega)]; exact h b o hb
theorem Fr.drewN {c : Nat} {w w' : World} (h : Fr c w w') (n : Nat) : Fr c w (w'.drewN n) := fun b o hb => h b o hb

theorem Cur.drewN {W w : World} {c : Nat} {a : Option Addr} {len cap : Nat} (h : Cur W w c a len cap) (n : Nat) : Cur W (w.drewN n) c a len cap :=
  ⟨h.row, h.short, below_drewN h.below n, h.lt, h.ge, h.b, h.ih, h.fz⟩

theorem Cur.set2 {W w : World} {c : Nat} {a : Option Addr} {len cap : Nat} (h : Cur W w c a len cap) (x : Int) : Cur W (w.setCell ⟨c, 2, none⟩ (.int .i64 x)) c a len cap := by
  obtain ⟨hr, hsh, hbl, hlt, hge, hb, ⟨i, hh, hi0, hi1, hci, hch⟩, hfz⟩ := h
  refine ⟨hr, hsh, hbl.setCell hge _, by simpa [World.setCell] using hlt, hge, ?_, ⟨i, x, hi0, hi1, ?_, World.cell?_setCell_same' _ _ _ (by rw [hch]; rfl)⟩, fun o => ?_⟩
  · rw [other _ _ _ _ (by simp)]; exact hb
  · rw [other _ _ _ _ (by simp)]; exact hci
  · simpa using hfz o

theorem Cur.set1 {W w : World} {c : Nat} {a : Option Addr} {len cap : Nat} (h : Cur W w c a len cap) (x : Int) (h0 : 0 ≤ x) (h1 : x ≤ len) : Cur W (w.setCell ⟨c, 1, none⟩ (.int .i64 x)) c a len cap := by
  obtain ⟨hr, hsh, hbl, hlt, hge, hb, ⟨i, hh, hi0, hi1, hci, hch⟩, hfz⟩ := h
  refine ⟨hr, hsh, hbl.setCell hge _, by simpa [World.setCell] using hlt, hge, ?_, ⟨x, hh, h0, h1, World.cell?_setCell_same' _ _ _ (by rw [hci]; rfl), ?_⟩, fun o => ?_⟩
  · rw [other _ _ _ _ (by simp)]; exact hb
  · rw [other _ _ _ _ (by simp)]; exact hch
  · simpa using hfz o

set_option maxHeartbeats 1000000 in
theorem byte_any {W w : World} {c : Nat} {a : Option Addr} {len cap : Nat} (h : Cur W w c a len cap) :
    Calls Tryz.prog 53 #[.pointer (some ⟨c, 0, none⟩)] w fun e w' => ∃ x : Int, 0 ≤ x ∧ x < 256 ∧ e = .returned (.int .i64 x) ∧ Fr c w w' ∧ Cur W w' c a len cap := by
  have HC : Hid (Cur W w c a len cap) := h
  obtain ⟨hr, hsh, hbl, hlt, hge, hb, ⟨i, hh, hi0, hi1, hci, hch⟩, hfz⟩ := h
  have f0 := hfz 0
  have f1 := hfz 1
  have f2 := hfz 2
  by_cases hil : i < len
  · obtain ⟨n, rfl⟩ := Int.eq_ofNat_of_zero_le hi0
    obtain ⟨b, off, z, rfl, hbW, hz, hz0, hz1⟩ := hr n (by omega)
    have hcx : ∀ v, (w.setCell ⟨c, 2, none⟩ v).cell? ⟨b, off + n, none⟩ = some (.int .u8 z) := fun v => by
      rw [other _ _ _ _ (by intro e; injection e; omega), hbl.cell hbW]; exact hz
    clear hr hfz hbl hz
    go_enter Tryz.func53, Tryz.ntmps53
    go_wp2
    go_quiet (fail)
    go_wp2
    go_quiet (fail)
    go_wp2
    go_quiet (fail)
    go_wp2
    go_ret
    refine ⟨_, ?_, ?_, rfl, (((Fr.refl c w).set 2 _).drewN _).set 1 _, ?_⟩
    · rw [i64_and255]; omega
    · rw [i64_and255]; omega
    · exact ((HC.out.set2 _).drewN _).set1 _ (by omega) (by omega)
  · clear hr hfz hbl
    go_enter Tryz.func53, Tryz.ntmps53
    go_wp2
    go_quiet (fail)
    go_wp2
    go_quiet (fail)
    go_wp2
    go_ret
    exact ⟨_, by rw [i64_and255]; omega, by rw [i64_and255]; omega, rfl, (((Fr.refl c w).set 2 _).drewN _).drewN _, ((HC.out.set2 _).drewN _).drewN _⟩

theorem tmod_range (x n : Int) (h0 : 0 ≤ x) (hn : 0 < n) : 0 ≤ x.tmod n ∧ x.tmod n < n := by
  rw [Int.tmod_eq_emod_of_nonneg h0]
  exact ⟨Int.emod_nonneg _ (by omega), Int.emod_lt_of_pos _ hn⟩

set_option maxHeartbeats 1000000 in
theorem below_any {W w : World} {c : Nat} {a : Option Addr} {len cap : Nat} (h : Cur W w c a len cap) (n : Int) (hn : 0 < n) (hn1 : n ≤ 256) :
    Calls Tryz.prog 30 #[.pointer (some ⟨c, 0, none⟩), .int .i64 n] w fun e w' => ∃ x : Int, 0 ≤ x ∧ x < n ∧ e = .returned (.int .i64 x) ∧ Fr c w w' ∧ Cur W w' c a len cap := by
  have HC : Hid (Cur W w c a len cap) := h
  clear h
  go_enter Tryz.func30, Tryz.ntmps30
  go_wp2_with (go_at_call 53; refine (byte_any HC.out).mono ?_; rintro e w' ⟨x, hx0, hx1, rfl, hfr, hc⟩; have HC2 : Hid (Cur W w' c a len cap) := hc; have HF : Hid (Fr c w w') := hfr; clear hc hfr)
  go_ret
  exact ⟨_, Int.emod_nonneg _ (by omega), Int.emod_lt_of_pos _ hn, rfl, HF.out, HC2.out⟩

theorem once_any {W w : World} {c : Nat} {a : Option Addr} {len cap : Nat} (h : Cur W w c a len cap) (n : Int) (hn : 0 < n) (hn1 : n ≤ 256) :
    Calls Tryz.prog 32 #[.pointer (some ⟨c, 0, none⟩), .int .i64 n] w fun e w' => ∃ x : Bool, e = .returned (.bool x) ∧ Fr c w w' ∧ Cur W w' c a len cap := by
  have HC : Hid (Cur W w c a len cap) := h
  clear h
  go_enter Tryz.func32, Tryz.ntmps32
  go_wp2_with (go_at_call 30; refine (below_any HC.out n hn hn1).mono ?_; rintro e w' ⟨x, hx0, hx1, rfl, hfr, hc⟩; have HC2 : Hid (Cur W w' c a len cap) := hc; have HF : Hid (Fr c w w') := hfr; clear hc hfr)
  go_ret
  exact ⟨_, rfl, HF.out, HC2.out⟩

theorem u64r (x : Int) : 0 ≤ IntKind.u64.wrap x ∧ IntKind.u64.wrap x < 18446744073709551616 := by
  rw [IntKind.wrap_u64]
  omega

set_option maxHeartbeats 1000000 in
theorem word_any {W w : World} {c : Nat} {a : Option Addr} {len cap : Nat} (h : Cur W w c a len cap) :
    Calls Tryz.prog 91 #[.pointer (some ⟨c, 0, none⟩)] w fun e w' => ∃ x : Int, 0 ≤ x ∧ x < 18446744073709551616 ∧ e = .returned (.int .u64 x) ∧ Cur W w' c a len cap := by
  have HC : Hid (Cur W w c a len cap) := h
  clear h
  go_enter Tryz.func91, Tryz.ntmps91
  go_wp2
  go_loopw [3, 4] (fun u i wr => ∃ (k : Nat) (x : Int), k ≤ 8 ∧ i = .int .i64 k ∧ u = .int .u64 x ∧ 0 ≤ x ∧ x < 18446744073709551616 ∧ Hid (Cur W wr c a len cap)) (fun _ i _ => 8 - (intOf i).toNat)
  case atStart => exact ⟨0, 0, by decide, rfl, rfl, by decide, by decide, HC⟩
  case round =>
    obtain ⟨k, x, hk, rfl, rfl, hx0, hx1, HR⟩ := hrel
    by_cases hlt : k < 8
    · go_wp2_with (go_at_call 53; refine (byte_any HR.out).mono ?_; rintro e w' ⟨y, hy0, hy1, rfl, _, hc⟩; have HR2 : Hid (Cur W w' c a len cap) := hc; clear hc)
      go_roundw
      case rel => exact ⟨k + 1, _, by omega, by go_num, rfl, (u64r _).1, (u64r _).2, HR2⟩
      case measure => simp [intOf]; omega
    · go_wp2
      go_ret
      exact ⟨x, hx0, hx1, rfl, HR.out⟩
end Go.Proofs.YtddbekacdfohpaaGreatDoor.Q
