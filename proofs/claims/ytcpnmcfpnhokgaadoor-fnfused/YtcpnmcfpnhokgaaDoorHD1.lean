/- The model's drawing cursor: a byte, a number below another, a coin, a word: each is told, within its range; old memory stays as it was. -/
import Derived.WalkKit
import Derived.WalkSpells
import Derived.WalkLawsBesides
import Derived.Deep.QuietTactic
import Derived.BigQuiet
import Derived.Laws.BitsLemmas
import Derived.Test.YtcpnmcfpnhokgaaDoorRows
import Derived.Test.YtcpnmcfpnhokgaaDoorHW2
namespace Go.Proofs.YtcpnmcfpnhokgaaDoor
open Go.RowKit

theorem i64_and255 (n : Int) : bits .and .i64 n 255 = n % 256 := by
  have h : (BitVec.ofInt 64 255).toNat = 2 ^ 8 - 1 := by decide
  have key : (BitVec.ofInt 64 n &&& BitVec.ofInt 64 255).toNat = (n % ((2 ^ 64 : Nat) : Int)).toNat % 2 ^ 8 := by
    rw [BitVec.toNat_and, BitVec.toNat_ofInt, h, Nat.and_two_pow_sub_one_eq_mod]
  show IntKind.i64.wrap ((BitVec.ofInt 64 n &&& BitVec.ofInt 64 255).toNat : Nat) = n % 256
  rw [key, IntKind.wrap_i64]
  omega

/-- What is known of the bytes that came in: each element's cell. -/
def Row (W : World) (a : Option Addr) (len : Nat) : Prop :=
  ∀ i : Nat, i < len → ∃ b off z, a = some ⟨b, off, none⟩ ∧ b < W.heap.size ∧ W.cell? ⟨b, off + i, none⟩ = some (.int .u8 z) ∧ 0 ≤ z ∧ z < 256

/-- A cursor lies in block c; W is the world when the law began. -/
structure Cur (W w : World) (c : Nat) (a : Option Addr) (len cap : Nat) : Prop where
  row : Row W a len
  short : (len : Int) ≤ 4611686018427387904
  below : Below W.heap.size W w
  lt : c < w.heap.size
  ge : W.heap.size ≤ c
  b : w.cell? ⟨c, 0, none⟩ = some (.slice a len cap)
  ih : ∃ i h : Int, 0 ≤ i ∧ i ≤ len ∧ w.cell? ⟨c, 1, none⟩ = some (.int .i64 i) ∧ w.cell? ⟨c, 2, none⟩ = some (.int .i64 h)
  fz : ∀ o, w.frozen? ⟨c, o, none⟩ = false

theorem other (w : World) (a b : Addr) (v : Value) (h : a ≠ b) : (w.setCell a v).cell? b = w.cell? b := by
  first | exact World.cell?_setCell_other _ _ _ _ h | exact World.cell?_setCell_other _ _ _ h | exact World.cell?_setCell_other h | exact World.cell?_setCell_other _ _ h

/-- No block but c has turned. -/
def Fr (c : Nat) (w w' : World) : Prop := ∀ b o, b ≠ c → w'.cell? ⟨b, o, none⟩ = w.cell? ⟨b, o, none⟩
theorem Fr.refl (c : Nat) (w : World) : Fr c w w := fun _ _ _ => rfl
theorem Fr.set {c : Nat} {w w' : World} (h : Fr c w w') (j : Nat) (v : Value) : Fr c w (w'.setCell ⟨c, j, none⟩ v) := fun b o hb => by
  rw [other _ _ _ _ (by intro e; injection e; omega)]; exact h b o hb
theorem Fr.drewN {c : Nat} {w w' : World} (h : Fr c w w') (n : Nat) : Fr c w (w'.drewN n) := fun b o hb => h b o hb

theorem Cur.drewN {W w : World} {c : Nat} {a : Option Addr} {len cap : Nat} (h : Cur W w c a len cap) (n : Nat) : Cur W (w.drewN n) c a len cap :=
  ⟨h.row, h.short, below_drewN h.below n, h.lt, h.ge, h.b, h.ih, h.fz⟩

theorem Cur.set2 {W w : World} {c : Nat} {a : Option Addr} {len cap : Nat} (h : Cur W w c a len cap) (x : Int) : Cur W (w.setCell ⟨c, 2, none⟩ (.int .i64 x)) c a len cap := by
  obtain ⟨hr, hsh, hbl, hlt, hge, hb, ⟨i, hh, hi0, hi1, hci, hch⟩, hfz⟩ := h
  refine ⟨hr, hsh, hbl.setCell hge _, by simpa [World.setCell] using hlt, hge, ?_, ⟨i, x, hi0, hi1, ?_, World.cell?_setCell_same' _ _ _ (by rw [hch]; rfl)⟩, fun o => ?_⟩
  · rw [other _ _ _ _ (by simp)]; exact hb
  · rw [other _ _ _ _ (by simp)]; exact hci
  · simpa using hfz o

theorem Cur.set1 {W w : World} {c : Nat} {a : Option Addr} {len cap : Nat} (h : Cur W w c a len cap) (x : Int) (h0 : 0 ≤ x) (h1 : x ≤ len) : Cur W (w.setCell ⟨c, 1, none⟩ (.int .i64 x)) c a len cap := by
  obtain ⟨hr, hsh, hbl, hlt, hge, hb, ⟨i, hh, hi0, hi1, hci, hch⟩, hfz⟩ := h
  refine ⟨hr, hsh, hbl.setCell hge _, by simpa [World.setCell] using hlt, hge, ?_, ⟨x, hh, h0, h1, World.cell?_setCell_same' _ _ _ (by rw [hci]; rfl), ?_⟩, fun o => ?_⟩
  · rw [other _ _ _ _ (by simp)]; exact hb
  · rw [other _ _ _ _ (by simp)]; exact hch
  · simpa using hfz o

set_option maxHeartbeats 1000000 in
theorem byte_any {W w : World} {c : Nat} {a : Option Addr} {len cap : Nat} (h : Cur W w c a len cap) :
    Calls Tryd.prog 88 #[.pointer (some ⟨c, 0, none⟩)] w fun e w' => ∃ x : Int, 0 ≤ x ∧ x < 256 ∧ e = .returned (.int .i64 x) ∧ Fr c w w' ∧ Cur W w' c a len cap := by
  have HC : Hid (Cur W w c a len cap) := h
  obtain ⟨hr, hsh, hbl, hlt, hge, hb, ⟨i, hh, hi0, hi1, hci, hch⟩, hfz⟩ := h
  have f0 := hfz 0
  have f1 := hfz 1
  have f2 := hfz 2
  by_cases hil : i < len
  · obtain ⟨n, rfl⟩ := Int.eq_ofNat_of_zero_le hi0
    obtain ⟨b, off, z, rfl, hbW, hz, hz0, hz1⟩ := hr n (by omega)
    have hcx : ∀ v, (w.setCell ⟨c, 2, none⟩ v).cell? ⟨b, off + n, none⟩ = some (.int .u8 z) := fun v => by
      rw [other _ _ _ _ (by intro e; injection e; omega), hbl.cell hbW]; exact hz
    clear hr hfz hbl hz
    go_enter Tryd.func88, Tryd.ntmps88
    go_wp2
    go_quiet (fail)
    go_wp2
    go_quiet (fail)
    go_wp2
    go_quiet (fail)
    go_wp2
    go_ret
    refine ⟨_, ?_, ?_, rfl, (((Fr.refl c w).set 2 _).drewN _).set 1 _, ?_⟩
    · rw [i64_and255]; omega
    · rw [i64_and255]; omega
    · exact ((HC.out.set2 _).drewN _).set1 _ (by omega) (by omega)
  · clear hr hfz hbl
    go_enter Tryd.func88, Tryd.ntmps88
    go_wp2
    go_quiet (fail)
    go_wp2
    go_quiet (fail)
    go_wp2
    go_ret
    exact ⟨_, by rw [i64_and255]; omega, by rw [i64_and255]; omega, rfl, (((Fr.refl c w).set 2 _).drewN _).drewN _, ((HC.out.set2 _).drewN _).drewN _⟩

theorem tmod_range (x n : Int) (h0 : 0 ≤ x) (hn : 0 < n) : 0 ≤ x.tmod n ∧ x.tmod n < n := by
  rw [Int.tmod_eq_emod_of_nonneg h0]
  exact ⟨Int.emod_nonneg _ (by omega), Int.emod_lt_of_pos _ hn⟩

set_option maxHeartbeats 1000000 in
theorem below_any {W w : World} {c : Nat} {a : Option Addr} {len cap : Nat} (h : Cur W w c a len cap) (n : Int) (hn : 0 < n) (hn1 : n ≤ 256) :
    Calls Tryd.prog 57 #[.pointer (some ⟨c, 0, none⟩), .int .i64 n] w fun e w' => ∃ x : Int, 0 ≤ x ∧ x < n ∧ e = .returned (.int .i64 x) ∧ Fr c w w' ∧ Cur W w' c a len cap := by
  have HC : Hid (Cur W w c a len cap) := h
  clear h
  go_enter Tryd.func57, Tryd.ntmps57
  go_wp2_with (go_at_call 88; refine (byte_any HC.out).mono ?_; rintro e w' ⟨x, hx0, hx1, rfl, hfr, hc⟩; have HC2 : Hid (Cur W w' c a len cap) := hc; have HF : Hid (Fr c w w') := hfr; clear hc hfr)
  go_ret
  exact ⟨_, Int.emod_nonneg _ (by omega), Int.emod_lt_of_pos _ hn, rfl, HF.out, HC2.out⟩

theorem once_any {W w : World} {c : Nat} {a : Option Addr} {len cap : Nat} (h : Cur W w c a len cap) (n : Int) (hn : 0 < n) (hn1 : n ≤ 256) :
    Calls Tryd.prog 56 #[.pointer (some ⟨c, 0, none⟩), .int .i64 n] w fun e w' => ∃ x : Bool, e = .returned (.bool x) ∧ Fr c w w' ∧ Cur W w' c a len cap := by
  have HC : Hid (Cur W w c a len cap) := h
  clear h
  go_enter Tryd.func56, Tryd.ntmps56
  go_wp2_with (go_at_call 57; refine (below_any HC.out n hn hn1).mono ?_; rintro e w' ⟨x, hx0, hx1, rfl, hfr, hc⟩; have HC2 : Hid (Cur W w' c a len cap) := hc; have HF : Hid (Fr c w w') := hfr; clear hc hfr)
  go_ret
  exact ⟨_, rfl, HF.out, HC2.out⟩

theorem u64r (x : Int) : 0 ≤ IntKind.u64.wrap x ∧ IntKind.u64.wrap x < 18446744073709551616 := by
  rw [IntKind.wrap_u64]
  omega

set_option maxHeartbeats 1000000 in
theorem word_any {W w : World} {c : Nat} {a : Option Addr} {len cap : Nat} (h : Cur W w c a len cap) :
    Calls Tryd.prog 54 #[.pointer (some ⟨c, 0, none⟩)] w fun e w' => ∃ x : Int, 0 ≤ x ∧ x < 18446744073709551616 ∧ e = .returned (.int .u64 x) ∧ Cur W w' c a len cap := by
  have HC : Hid (Cur W w c a len cap) := h
  clear h
  go_enter Tryd.func54, Tryd.ntmps54
  go_wp2
  go_loopw [3, 4] (fun u i wr => ∃ (k : Nat) (x : Int), k ≤ 8 ∧ i = .int .i64 k ∧ u = .int .u64 x ∧ 0 ≤ x ∧ x < 18446744073709551616 ∧ Hid (Cur W wr c a len cap)) (fun _ i _ => 8 - (intOf i).toNat)
  case atStart => exact ⟨0, 0, by decide, rfl, rfl, by decide, by decide, HC⟩
  case round =>
    obtain ⟨k, x, hk, rfl, rfl, hx0, hx1, HR⟩ := hrel
    by_cases hlt : k < 8
    · go_wp2_with (go_at_call 88; refine (byte_any HR.out).mono ?_; rintro e w' ⟨y, hy0, hy1, rfl, _, hc⟩; have HR2 : Hid (Cur W w' c a len cap) := hc; clear hc)
      go_roundw
      case rel => exact ⟨k + 1, _, by omega, by go_num, rfl, (u64r _).1, (u64r _).2, HR2⟩
      case measure => simp [intOf]; omega
    · go_wp2
      go_ret
      exact ⟨x, hx0, hx1, rfl, HR.out⟩
end Go.Proofs.YtcpnmcfpnhokgaaDoor

/- The model's draws of a form, a rounding, bits of a form. -/
namespace Go.Proofs.YtcpnmcfpnhokgaaDoor
open Go.RowKit

theorem Cur.alloc {W w : World} {c : Nat} {a : Option Addr} {len cap : Nat} (h : Cur W w c a len cap) (o : Obj) : Cur W (w.alloc o) c a len cap := by
  obtain ⟨hr, hsh, hbl, hlt, hge, hb, ⟨i, hh, hi0, hi1, hci, hch⟩, hfz⟩ := h
  have p : ∀ j, (w.alloc o).cell? ⟨c, j, none⟩ = w.cell? ⟨c, j, none⟩ := fun j => World.cell?_alloc_lt _ _ _ hlt
  refine ⟨hr, hsh, hbl.alloc hbl.size _, by simp; omega, hge, by rw [p]; exact hb, ⟨i, hh, hi0, hi1, by rw [p]; exact hci, by rw [p]; exact hch⟩, fun j => ?_⟩
  have := Below.frozen (B := w.heap.size) (w := w) (w' := w.alloc o) ((Below.refl _ _).alloc (Nat.le_refl _) _) (p := ⟨c, j, none⟩) hlt
  rw [this]
  exact hfz j

theorem form_any {W w : World} {c : Nat} {a : Option Addr} {len cap : Nat} (h : Cur W w c a len cap) :
    Calls Tryd.prog 86 #[.pointer (some ⟨c, 0, none⟩)] w fun e w' => ∃ x : Int, 1 ≤ x ∧ x ≤ 3 ∧ e = .returned (.int .i64 x) ∧ Cur W w' c a len cap := by
  have HC : Hid (Cur W w c a len cap) := h
  clear h
  go_enter Tryd.func86, Tryd.ntmps86
  go_wp2_with (go_at_call 57; refine (below_any HC.out 3 (by decide) (by decide)).mono ?_; rintro e w' ⟨x, hx0, hx1, rfl, _, hc⟩; have HC2 : Hid (Cur W w' c a len cap) := hc; clear hc)
  go_ret
  exact ⟨_, by omega, by omega, rfl, HC2.out⟩

theorem two_cells {w : World} {B : Nat} {v0 v1 : Int} (x : Int) (h0 : 0 ≤ x) (h1 : x < 2) (k0 : w.cell? ⟨B, 0, none⟩ = some (.int .i64 v0)) (k1 : w.cell? ⟨B, 1, none⟩ = some (.int .i64 v1)) :
    ∃ v, w.cell? ⟨B, x.toNat, none⟩ = some (.int .i64 v) := by
  have : x = 0 ∨ x = 1 := by omega
  rcases this with rfl | rfl
  · exact ⟨v0, k0⟩
  · exact ⟨v1, k1⟩

set_option maxHeartbeats 1000000 in
theorem pick_any {W w : World} {c : Nat} {a : Option Addr} {len cap : Nat} (h : Cur W w c a len cap) (B : Nat) (v0 v1 : Int) (hB : B ≠ c) (h0 : w.cell? ⟨B, 0, none⟩ = some (.int .i64 v0)) (h1 : w.cell? ⟨B, 1, none⟩ = some (.int .i64 v1)) :
    Calls Tryd.prog 87 #[.pointer (some ⟨c, 0, none⟩), .slice (some ⟨B, 0, none⟩) 2 2] w fun e w' => ∃ x : Int, e = .returned (.int .i64 x) ∧ Cur W w' c a len cap := by
  have HC : Hid (Cur W w c a len cap) := h
  clear h
  go_enter Tryd.func87, Tryd.ntmps87
  go_wp2_with (go_at_call 57; refine (below_any HC.out 2 (by decide) (by decide)).mono ?_; rintro e w' ⟨x, hx0, hx1, rfl, hfr, hc⟩; have HC2 : Hid (Cur W w' c a len cap) := hc; clear hc; obtain ⟨v, kx⟩ := two_cells x hx0 hx1 ((hfr B 0 hB).trans h0) ((hfr B 1 hB).trans h1); clear hfr h0 h1)
  go_ret
  exact ⟨_, rfl, HC2.out⟩

set_option maxHeartbeats 1000000 in
theorem mode_any {W w : World} {c : Nat} {a : Option Addr} {len cap : Nat} (h : Cur W w c a len cap) :
    Calls Tryd.prog 58 #[.pointer (some ⟨c, 0, none⟩)] w fun e w' => ∃ x : Int, e = .returned (.int .i64 x) ∧ Cur W w' c a len cap := by
  have HC : Hid (Cur W w c a len cap) := h
  clear h
  go_enter Tryd.func58, Tryd.ntmps58
  go_wp2_with (first | (go_at_call 56; refine (once_any HC.out 25 (by decide) (by decide)).mono ?_; rintro e w' ⟨x, rfl, _, hc⟩; have HC : Hid (Cur W w' c a len cap) := hc; clear hc) | (go_at_call 57; refine (below_any HC.out 5 (by decide) (by decide)).mono ?_; rintro e w' ⟨x, hx0, hx1, rfl, _, hc⟩; have HC : Hid (Cur W w' c a len cap) := hc; clear hc) | (go_at_call 87; refine (pick_any (HC.out.alloc _) _ 0 6 ?_ ?_ ?_).mono ?_; exact Nat.ne_of_gt HC.out.lt; go_simp; go_simp; rintro e w' ⟨x, rfl, hc⟩; have HC : Hid (Cur W w' c a len cap) := hc; clear hc))
  all_goals (go_ret; exact ⟨_, rfl, HC.out⟩)
end Go.Proofs.YtcpnmcfpnhokgaaDoor

/- The model's draw of bits of a form. -/
namespace Go.Proofs.YtcpnmcfpnhokgaaDoor
open Go.RowKit

theorem dsign_any {f wd p t S D : Int} (hF : Form f wd p t S D) (b : Bool) (w : World) :
    Calls Tryd.prog 44 #[.int .i64 f, .bool b] w fun e w' => ∃ s : Int, 0 ≤ s ∧ s ≤ 9223372036854775808 ∧ e = .returned (.int .u64 s) ∧ w' = w := by
  cases b
  · have hF' := hF
    rcases hF with ⟨rfl, rfl, rfl, rfl, rfl, rfl⟩ | ⟨rfl, rfl, rfl, rfl, rfl, rfl⟩ | ⟨rfl, rfl, rfl, rfl, rfl, rfl⟩
    all_goals
      go_enter Tryd.func44, Tryd.ntmps44
      go_wp2_with (go_at_call 38; refine (l1Form_any hF' _).mono ?_; rintro e w' ⟨rfl, rfl⟩)
      go_ret
      exact ⟨0, by decide, by decide, rfl, rfl⟩
  · refine (l1Sign_true hF w).mono fun e w' h => ⟨S, ?_, ?_, h.1, h.2⟩
    · rcases hF with ⟨_, _, _, _, rfl, _⟩ | ⟨_, _, _, _, rfl, _⟩ | ⟨_, _, _, _, rfl, _⟩ <;> decide
    · rcases hF with ⟨_, _, _, _, rfl, _⟩ | ⟨_, _, _, _, rfl, _⟩ | ⟨_, _, _, _, rfl, _⟩ <;> decide

set_option maxHeartbeats 4000000 in
theorem dbits_any {W w : World} {c : Nat} {a : Option Addr} {len cap : Nat} (h : Cur W w c a len cap) {f wd p t S D hh q : Int} (hF : Frm f wd p t S D hh q) :
    Calls Tryd.prog 55 #[.pointer (some ⟨c, 0, none⟩), .int .i64 f] w fun e w' => ∃ x : Int, 0 ≤ x ∧ x < 18446744073709551616 ∧ e = .returned (.int .u64 x) ∧ Cur W w' c a len cap := by
  have HC : Hid (Cur W w c a len cap) := h
  have hG := fun w => l1Form_any hF.form w
  have hS := fun b w => dsign_any hF.form b w
  have hI := fun w => l1Inf_false hF w
  have hP := fun w => l1Plain_any hF w
  clear h
  rcases hF with ⟨rfl, rfl, rfl, rfl, rfl, rfl, rfl, rfl⟩ | ⟨rfl, rfl, rfl, rfl, rfl, rfl, rfl, rfl⟩ | ⟨rfl, rfl, rfl, rfl, rfl, rfl, rfl, rfl⟩
  all_goals
    go_enter Tryd.func55, Tryd.ntmps55
    go_wp2_with (first | (go_at_call 38; refine (hG _).mono ?_; rintro e w' ⟨rfl, hw⟩; replace hw := hw.symm; subst hw) | (go_at_call 44; refine (hS _ _).mono ?_; rintro e w' ⟨s, hs0, hs1, rfl, hw⟩; replace hw := hw.symm; subst hw) | (go_at_call 43; refine (hI _).mono ?_; rintro e w' ⟨rfl, hw⟩; replace hw := hw.symm; subst hw) | (go_at_call 31; refine (hP _).mono ?_; rintro e w' ⟨rfl, hw⟩; replace hw := hw.symm; subst hw) | (go_at_call 56; refine (once_any HC.out 2 (by decide) (by decide)).mono ?_; rintro e w' ⟨x, rfl, _, hc⟩; have HC : Hid (Cur W w' c a len cap) := hc; clear hc) | (go_at_call 57; refine (below_any HC.out _ (by decide) (by decide)).mono ?_; rintro e w' ⟨x, hx0, hx1, rfl, _, hc⟩; have HC : Hid (Cur W w' c a len cap) := hc; clear hc) | (go_at_call 54; refine (word_any HC.out).mono ?_; rintro e w' ⟨x, hx0, hx1, rfl, hc⟩; have HC : Hid (Cur W w' c a len cap) := hc; clear hc))
    all_goals
      go_ret
      refine ⟨_, ?_, ?_, rfl, HC.out⟩ <;> first | omega | exact (u64r _).1 | exact (u64r _).2
end Go.Proofs.YtcpnmcfpnhokgaaDoor
