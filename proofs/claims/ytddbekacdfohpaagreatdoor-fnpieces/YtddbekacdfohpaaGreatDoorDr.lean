/- FnPairs: the draws. -/
import Derived.Test.YtddbekacdfohpaaGreatDoorM13
import Derived.Test.YtddbekacdfohpaaGreatDoorM18
import Derived.Test.YtddbekacdfohpaaGreatDoorM20
namespace Go.Proofs.YtddbekacdfohpaaGreatDoor

section
open Go.RowKit

theorem cur_call {W w w' : World} {c : Nat} {a : Option Addr} {len cap : Nat} (h : Q.Cur W w c a len cap) (hb : Below w.heap.size w w') : Q.Cur W w' c a len cap := by
  obtain ⟨hr, hsh, hbl, hlt, hge, hb0, ⟨i, hh, hi0, hi1, hci, hch⟩, hfz⟩ := h
  exact ⟨hr, hsh, bstep hbl hb, Nat.lt_of_lt_of_le hlt hb.size, hge, keepc hb hb0, ⟨i, hh, hi0, hi1, keepc hb hci, keepc hb hch⟩, fun o => (hb.frozen hlt).trans (hfz o)⟩

theorem cur_fwor {W w : World} {c : Nat} {a : Option Addr} {len cap : Nat} (h : Q.Cur W w c a len cap) (op : BinOp) (x y : Nat) : Q.Cur W (fwor op w x y) c a len cap := cur_call h (below_fwor (Below.refl _ _) _ _ _)
end

section
open Go.RowKit

/-- Of what was in W nothing but block c has turned. -/
structure Keep (c : Nat) (W w : World) : Prop where
  os : w.os = W.os
  tape : w.tape = W.tape
  output : w.output = W.output
  size : W.heap.size ≤ w.heap.size
  block : ∀ k, k ≠ c → k < W.heap.size → w.heap[k]? = W.heap[k]?

theorem Keep.refl (c : Nat) (W : World) : Keep c W W := ⟨rfl, rfl, rfl, Nat.le_refl _, fun _ _ _ => rfl⟩
theorem Keep.cell {c : Nat} {W w : World} (h : Keep c W w) {p : Addr} (hp : p.block ≠ c) (hl : p.block < W.heap.size) : w.cell? p = W.cell? p := World.cell?_of_block (w := W) (h.block _ hp hl)
theorem Keep.frozen {c : Nat} {W w : World} (h : Keep c W w) {p : Addr} (hp : p.block ≠ c) (hl : p.block < W.heap.size) : w.frozen? p = W.frozen? p := World.frozen?_of_block (w := W) (h.block _ hp hl)
theorem Keep.set {c : Nat} {W w : World} (h : Keep c W w) (j : Nat) (v : Value) : Keep c W (w.setCell ⟨c, j, none⟩ v) :=
  ⟨h.os, h.tape, h.output, by simpa [World.setCell] using h.size, fun k hk hl => (Below.heap_setCell _ _ _ _ hk).trans (h.block k hk hl)⟩
theorem Keep.call {c : Nat} {W w w' : World} (h : Keep c W w) (hb : Below w.heap.size w w') : Keep c W w' :=
  ⟨hb.os.trans h.os, hb.tape.trans h.tape, hb.output.trans h.output, Nat.le_trans h.size hb.size, fun k hk hl => (hb.block k (Nat.lt_of_lt_of_le hl h.size)).trans (h.block k hk hl)⟩

/-- A cursor lies in block c; all else that was in W is as it was. -/
structure Cux (W w : World) (c : Nat) (a : Option Addr) (len cap : Nat) : Prop where
  row : Q.Row W a len
  ac : ∀ x : Addr, 0 < len → a = some x → x.block ≠ c
  short : (len : Int) ≤ 4611686018427387904
  keep : Keep c W w
  lt : c < w.heap.size
  b : w.cell? ⟨c, 0, none⟩ = some (.slice a len cap)
  ih : ∃ i h : Int, 0 ≤ i ∧ i ≤ len ∧ w.cell? ⟨c, 1, none⟩ = some (.int .i64 i) ∧ w.cell? ⟨c, 2, none⟩ = some (.int .i64 h)
  fz : ∀ o, w.frozen? ⟨c, o, none⟩ = false

theorem cux_call {W w w' : World} {c : Nat} {a : Option Addr} {len cap : Nat} (h : Cux W w c a len cap) (hb : Below w.heap.size w w') : Cux W w' c a len cap := by
  obtain ⟨hr, hac, hsh, hbl, hlt, hb0, ⟨i, hh, hi0, hi1, hci, hch⟩, hfz⟩ := h
  exact ⟨hr, hac, hsh, hbl.call hb, Nat.lt_of_lt_of_le hlt hb.size, keepc hb hb0, ⟨i, hh, hi0, hi1, keepc hb hci, keepc hb hch⟩, fun o => (hb.frozen hlt).trans (hfz o)⟩

theorem cux_fwor {W w : World} {c : Nat} {a : Option Addr} {len cap : Nat} (h : Cux W w c a len cap) (op : BinOp) (x y : Nat) : Cux W (fwor op w x y) c a len cap := cux_call h (below_fwor (Below.refl _ _) _ _ _)

theorem Cux.drewN {W w : World} {c : Nat} {a : Option Addr} {len cap : Nat} (h : Cux W w c a len cap) (n : Nat) : Cux W (w.drewN n) c a len cap := cux_call h (below_drewN (Below.refl _ _) n)

theorem Cux.set2 {W w : World} {c : Nat} {a : Option Addr} {len cap : Nat} (h : Cux W w c a len cap) (x : Int) : Cux W (w.setCell ⟨c, 2, none⟩ (.int .i64 x)) c a len cap := by
  obtain ⟨hr, hac, hsh, hbl, hlt, hb, ⟨i, hh, hi0, hi1, hci, hch⟩, hfz⟩ := h
  refine ⟨hr, hac, hsh, hbl.set _ _, by simpa [World.setCell] using hlt, ?_, ⟨i, x, hi0, hi1, ?_, World.cell?_setCell_same' _ _ _ (by rw [hch]; rfl)⟩, fun o => ?_⟩
  · rw [Q.other _ _ _ _ (by simp)]; exact hb
  · rw [Q.other _ _ _ _ (by simp)]; exact hci
  · simpa using hfz o

theorem Cux.set1 {W w : World} {c : Nat} {a : Option Addr} {len cap : Nat} (h : Cux W w c a len cap) (x : Int) (h0 : 0 ≤ x) (h1 : x ≤ len) : Cux W (w.setCell ⟨c, 1, none⟩ (.int .i64 x)) c a len cap := by
  obtain ⟨hr, hac, hsh, hbl, hlt, hb, ⟨i, hh, hi0, hi1, hci, hch⟩, hfz⟩ := h
  refine ⟨hr, hac, hsh, hbl.set _ _, by simpa [World.setCell] using hlt, ?_, ⟨x, hh, h0, h1, World.cell?_setCell_same' _ _ _ (by rw [hci]; rfl), ?_⟩, fun o => ?_⟩
  · rw [Q.other _ _ _ _ (by simp)]; exact hb
  · rw [Q.other _ _ _ _ (by simp)]; exact hch
  · simpa using hfz o

set_option maxHeartbeats 1000000 in
theorem byte_x {W w : World} {c : Nat} {a : Option Addr} {len cap : Nat} (h : Cux W w c a len cap) :
    Calls Tryz.prog 53 #[.pointer (some ⟨c, 0, none⟩)] w fun e w' => ∃ x : Int, 0 ≤ x ∧ x < 256 ∧ e = .returned (.int .i64 x) ∧ Cux W w' c a len cap := by
  have HC : Hid (Cux W w c a len cap) := h
  obtain ⟨hr, hac, hsh, hbl, hlt, hb, ⟨i, hh, hi0, hi1, hci, hch⟩, hfz⟩ := h
  have f0 := hfz 0
  have f1 := hfz 1
  have f2 := hfz 2
  by_cases hil : i < len
  · obtain ⟨n, rfl⟩ := Int.eq_ofNat_of_zero_le hi0
    obtain ⟨b, off, z, rfl, hbW, hz, hz0, hz1⟩ := hr n (by omega)
    have hbc : b ≠ c := hac _ (by omega) rfl
    have hcx : ∀ v, (w.setCell ⟨c, 2, none⟩ v).cell? ⟨b, off + n, none⟩ = some (.int .u8 z) := fun v => by
      rw [Q.other _ _ _ _ (by intro e; injection e; omega), hbl.cell hbc hbW]; exact hz
    clear hr hfz hbl hz hac hbc
    go_enter Tryz.func53, Tryz.ntmps53
    go_wp2
    go_quiet (fail)
    go_wp2
    go_quiet (fail)
    go_wp2
    go_quiet (fail)
    go_wp2
    go_ret
    refine ⟨_, ?_, ?_, rfl, ?_⟩
    · rw [Q.i64_and255]; omega
    · rw [Q.i64_and255]; omega
    · exact ((HC.out.set2 _).drewN _).set1 _ (by omega) (by omega)
  · clear hr hfz hbl hac
    go_enter Tryz.func53, Tryz.ntmps53
    go_wp2
    go_quiet (fail)
    go_wp2
    go_quiet (fail)
    go_wp2
    go_ret
    exact ⟨_, by rw [Q.i64_and255]; omega, by rw [Q.i64_and255]; omega, rfl, ((HC.out.set2 _).drewN _).drewN _⟩

set_option maxHeartbeats 1000000 in
theorem below_x {W w : World} {c : Nat} {a : Option Addr} {len cap : Nat} (h : Cux W w c a len cap) (n : Int) (hn : 0 < n) (hn1 : n ≤ 256) :
    Calls Tryz.prog 30 #[.pointer (some ⟨c, 0, none⟩), .int .i64 n] w fun e w' => ∃ x : Int, 0 ≤ x ∧ x < n ∧ e = .returned (.int .i64 x) ∧ Cux W w' c a len cap := by
  have HC : Hid (Cux W w c a len cap) := h
  clear h
  go_enter Tryz.func30, Tryz.ntmps30
  go_wp2_with (go_at_call 53; refine (byte_x HC.out).mono ?_; rintro e w' ⟨x, hx0, hx1, rfl, hc⟩; have HC2 : Hid (Cux W w' c a len cap) := hc; clear hc)
  go_ret
  exact ⟨_, Int.emod_nonneg _ (by omega), Int.emod_lt_of_pos _ hn, rfl, HC2.out⟩

theorem once_x {W w : World} {c : Nat} {a : Option Addr} {len cap : Nat} (h : Cux W w c a len cap) (n : Int) (hn : 0 < n) (hn1 : n ≤ 256) :
    Calls Tryz.prog 32 #[.pointer (some ⟨c, 0, none⟩), .int .i64 n] w fun e w' => ∃ x : Bool, e = .returned (.bool x) ∧ Cux W w' c a len cap := by
  have HC : Hid (Cux W w c a len cap) := h
  clear h
  go_enter Tryz.func32, Tryz.ntmps32
  go_wp2_with (go_at_call 30; refine (below_x HC.out n hn hn1).mono ?_; rintro e w' ⟨x, hx0, hx1, rfl, hc⟩; have HC2 : Hid (Cux W w' c a len cap) := hc; clear hc)
  go_ret
  exact ⟨_, rfl, HC2.out⟩


set_option maxHeartbeats 1000000 in
theorem word_x {W w : World} {c : Nat} {a : Option Addr} {len cap : Nat} (h : Cux W w c a len cap) :
    Calls Tryz.prog 91 #[.pointer (some ⟨c, 0, none⟩)] w fun e w' => ∃ x : Int, 0 ≤ x ∧ x < 18446744073709551616 ∧ e = .returned (.int .u64 x) ∧ Cux W w' c a len cap := by
  have HC : Hid (Cux W w c a len cap) := h
  clear h
  go_enter Tryz.func91, Tryz.ntmps91
  go_wp2
  go_loopw [3, 4] (fun u i wr => ∃ (k : Nat) (x : Int), k ≤ 8 ∧ i = .int .i64 k ∧ u = .int .u64 x ∧ 0 ≤ x ∧ x < 18446744073709551616 ∧ Hid (Cux W wr c a len cap)) (fun _ i _ => 8 - (intOf i).toNat)
  case atStart => exact ⟨0, 0, by decide, rfl, rfl, by decide, by decide, HC⟩
  case round =>
    obtain ⟨k, x, hk, rfl, rfl, hx0, hx1, HR⟩ := hrel
    by_cases hlt : k < 8
    · go_wp2_with (go_at_call 53; refine (byte_x HR.out).mono ?_; rintro e w' ⟨y, hy0, hy1, rfl, hc⟩; have HR2 : Hid (Cux W w' c a len cap) := hc; clear hc)
      go_roundw
      case rel => exact ⟨k + 1, _, by omega, by go_num, rfl, (Q.u64r _).1, (Q.u64r _).2, HR2⟩
      case measure => simp [intOf]; omega
    · go_wp2
      go_ret
      exact ⟨x, hx0, hx1, rfl, HR.out⟩

set_option maxHeartbeats 4000000 in
theorem dbits_x {W w : World} {c : Nat} {a : Option Addr} {len cap : Nat} (h : Cux W w c a len cap) {f wd p t S D hh q : Int} (hF : Q.Frm f wd p t S D hh q) :
    Calls Tryz.prog 69 #[.pointer (some ⟨c, 0, none⟩), .int .i64 f] w fun e w' => ∃ x : Int, 0 ≤ x ∧ x < 18446744073709551616 ∧ e = .returned (.int .u64 x) ∧ Cux W w' c a len cap := by
  have HC : Hid (Cux W w c a len cap) := h
  have hG := fun w => Q.l1Form_any hF.form w
  have hS := fun b w => Q.l1SignD_any hF.form b w
  have hI := fun w => Q.l1Inf_false hF w
  have hP := fun w => Q.l1Plain_any hF w
  clear h
  rcases hF with ⟨rfl, rfl, rfl, rfl, rfl, rfl, rfl, rfl⟩ | ⟨rfl, rfl, rfl, rfl, rfl, rfl, rfl, rfl⟩ | ⟨rfl, rfl, rfl, rfl, rfl, rfl, rfl, rfl⟩
  all_goals
    go_enter Tryz.func69, Tryz.ntmps69
    go_wp2_with (first | (go_at_call 64; refine (hG _).mono ?_; rintro e w' ⟨rfl, hw⟩; replace hw := hw.symm; subst hw) | (go_at_call 50; refine (hS _ _).mono ?_; rintro e w' ⟨s, hs0, hs1, rfl, hw⟩; replace hw := hw.symm; subst hw) | (go_at_call 51; refine (hI _).mono ?_; rintro e w' ⟨rfl, hw⟩; replace hw := hw.symm; subst hw) | (go_at_call 49; refine (hP _).mono ?_; rintro e w' ⟨rfl, hw⟩; replace hw := hw.symm; subst hw) | (go_at_call 32; refine (once_x HC.out 2 (by decide) (by decide)).mono ?_; rintro e w' ⟨x, rfl, hc⟩; have HC : Hid (Cux W w' c a len cap) := hc; clear hc) | (go_at_call 30; refine (below_x HC.out _ (by decide) (by decide)).mono ?_; rintro e w' ⟨x, hx0, hx1, rfl, hc⟩; have HC : Hid (Cux W w' c a len cap) := hc; clear hc) | (go_at_call 91; refine (word_x HC.out).mono ?_; rintro e w' ⟨x, hx0, hx1, rfl, hc⟩; have HC : Hid (Cux W w' c a len cap) := hc; clear hc))
    all_goals
      go_ret
      refine ⟨_, ?_, ?_, rfl, HC.out⟩ <;> first | omega | exact (Q.u64r _).1 | exact (Q.u64r _).2

set_option maxHeartbeats 2000000 in
theorem below_bigx {W w : World} {c : Nat} {a : Option Addr} {len cap : Nat} (h : Cux W w c a len cap) (n : Int) (hn : 256 < n) (hn1 : n ≤ 10000) :
    Calls Tryz.prog 30 #[.pointer (some ⟨c, 0, none⟩), .int .i64 n] w fun e w' => ∃ x : Int, 0 ≤ x ∧ x < n ∧ e = .returned (.int .i64 x) ∧ Cux W w' c a len cap := by
  have HC : Hid (Cux W w c a len cap) := h
  clear h
  go_enter Tryz.func30, Tryz.ntmps30
  go_wp2_with (first
    | (go_at_call 53; (fail_if_success have := hx1); refine (byte_x HC.out).mono ?_; rintro e w1 ⟨x1, hx0, hx1, rfl, hc⟩; have HC1 : Hid (Cux W w1 c a len cap) := hc; clear hc)
    | (go_at_call 53; (fail_if_success have := hy1); refine (byte_x HC1.out).mono ?_; rintro e w2 ⟨x2, hy0, hy1, rfl, hc⟩; have HC2 : Hid (Cux W w2 c a len cap) := hc; clear hc)
    | (go_at_call 53; (fail_if_success have := hz1); refine (byte_x HC2.out).mono ?_; rintro e w3 ⟨x3, hz0, hz1, rfl, hc⟩; have HC3 : Hid (Cux W w3 c a len cap) := hc; clear hc)
    | (go_at_call 53; refine (byte_x HC3.out).mono ?_; rintro e w4 ⟨x4, hu0, hu1, rfl, hc⟩; have HC4 : Hid (Cux W w4 c a len cap) := hc; clear hc))
  go_ret
  exact ⟨_, Int.emod_nonneg _ (by omega), Int.emod_lt_of_pos _ (by omega), rfl, HC4.out⟩

end

section
open Go.RowKit

theorem cux_of {W w : World} {c : Nat} {a : Option Addr} {len cap : Nat} (h : Q.Cur W w c a len cap) : Cux w w c a len cap := by
  obtain ⟨hr, hsh, hbl, hlt, hge, hb, hih, hfz⟩ := h
  refine ⟨fun i hi => ?_, fun x h0 hx => ?_, hsh, Keep.refl _ _, hlt, hb, hih, hfz⟩
  · obtain ⟨b, off, z, rfl, hbW, hz, h0, h1⟩ := hr i hi
    exact ⟨b, off, z, rfl, Nat.lt_of_lt_of_le hbW hbl.size, (hbl.cell (p := ⟨b, off + i, none⟩) hbW).trans hz, h0, h1⟩
  · obtain ⟨b, off, z, rfl, hbW, _⟩ := hr 0 h0
    cases hx
    show b ≠ c
    omega

theorem cux_back {W w1 w' : World} {c : Nat} {a : Option Addr} {len cap : Nat} (h : Q.Cur W w1 c a len cap) (hx : Cux w1 w' c a len cap) : Q.Cur W w' c a len cap :=
  ⟨h.row, h.short, h.below.trans ⟨hx.keep.os, hx.keep.tape, hx.keep.output, hx.keep.size, fun k hk => hx.keep.block k (by have := h.ge; omega) (Nat.lt_of_lt_of_le hk h.below.size)⟩, hx.lt, h.ge, hx.b, hx.ih, hx.fz⟩

theorem cur_set {W w : World} {c : Nat} {a : Option Addr} {len cap : Nat} (h : Q.Cur W w c a len cap) {p : Addr} (hp : p.block ≠ c) (hg : W.heap.size ≤ p.block) (v : Value) : Q.Cur W (w.setCell p v) c a len cap := by
  obtain ⟨hr, hsh, hbl, hlt, hge, hb, ⟨i, hh, hi0, hi1, hci, hch⟩, hfz⟩ := h
  have e : (w.setCell p v).heap[c]? = w.heap[c]? := Below.heap_setCell _ _ _ _ (Ne.symm hp)
  have ec : ∀ o, (w.setCell p v).cell? ⟨c, o, none⟩ = w.cell? ⟨c, o, none⟩ := fun o => World.cell?_of_block (w := w) e
  have ef : ∀ o, (w.setCell p v).frozen? ⟨c, o, none⟩ = w.frozen? ⟨c, o, none⟩ := fun o => World.frozen?_of_block (w := w) e
  exact ⟨hr, hsh, hbl.setCell hg _, by simpa [World.setCell] using hlt, hge, (ec 0).trans hb, ⟨i, hh, hi0, hi1, (ec 1).trans hci, (ec 2).trans hch⟩, fun o => (ef o).trans (hfz o)⟩

end

end Go.Proofs.YtddbekacdfohpaaGreatDoor
