/- The model's drawing cursor: what is drawn, and what it leaves alone. -/
import Derived.Test.YtlccicbgepfbbaaB0
import Derived.Laws.BitsLemmas
namespace Go.Proofs.Ytlccicbgepfbbaa
open Go.RowKit

theorem i64_and255 (n : Int) : bits .and .i64 n 255 = n % 256 := by
  have h : (BitVec.ofInt 64 255).toNat = 2 ^ 8 - 1 := by decide
  have key : (BitVec.ofInt 64 n &&& BitVec.ofInt 64 255).toNat = (n % ((2 ^ 64 : Nat) : Int)).toNat % 2 ^ 8 := by
    rw [BitVec.toNat_and, BitVec.toNat_ofInt, h, Nat.and_two_pow_sub_one_eq_mod]
  show IntKind.i64.wrap ((BitVec.ofInt 64 n &&& BitVec.ofInt 64 255).toNat : Nat) = n % 256
  rw [key, IntKind.wrap_i64]
  omega

/-- What is known of the bytes that came in: each element's cell. -/
def Row (w : World) (a : Option Addr) (n : Nat) : Prop := ∀ i, i < n → ∃ b off z, a = some ⟨b, off, none⟩ ∧ b < w.heap.size ∧ w.cell? ⟨b, off + i, none⟩ = some (.int .u8 z) ∧ 0 ≤ z ∧ z < 256

theorem Row.below {w w' : World} {a : Option Addr} {n : Nat} (h : Row w a n) (hb : Below w.heap.size w w') : Row w' a n := by
  intro i hi
  obtain ⟨b, off, z, rfl, hlt, hc, h0, h1⟩ := h i hi
  exact ⟨b, off, z, rfl, Nat.lt_of_lt_of_le hlt hb.size, (hb.cell (p := ⟨b, off + i, none⟩) hlt).trans hc, h0, h1⟩

theorem other (w : World) (a b : Addr) (v : Value) (h : a ≠ b) : (w.setCell a v).cell? b = w.cell? b := by
  first | exact World.cell?_setCell_other _ _ _ _ h | exact World.cell?_setCell_other _ _ _ h | exact World.cell?_setCell_other h | exact World.cell?_setCell_other _ _ h

theorem keepc {W w1 : World} (hb : Below W.heap.size W w1) {a : Addr} {v : Value} (h : W.cell? a = some v) : w1.cell? a = some v := (hb.cell (World.block_lt_of_cell? W _ h)).trans h

/-- Of what was in W nothing but block c has turned. -/
structure Keep (c : Nat) (W w : World) : Prop where
  os : w.os = W.os
  tape : w.tape = W.tape
  output : w.output = W.output
  size : W.heap.size ≤ w.heap.size
  block : ∀ k, k ≠ c → k < W.heap.size → w.heap[k]? = W.heap[k]?

theorem Keep.refl (c : Nat) (W : World) : Keep c W W := ⟨rfl, rfl, rfl, Nat.le_refl _, fun _ _ _ => rfl⟩
theorem Keep.cell {c : Nat} {W w : World} (h : Keep c W w) {p : Addr} (hp : p.block ≠ c) (hl : p.block < W.heap.size) : w.cell? p = W.cell? p := World.cell?_of_block (w := W) (h.block _ hp hl)
theorem Keep.trans {c : Nat} {W w w' : World} (h : Keep c W w) (h' : Keep c w w') : Keep c W w' :=
  ⟨h'.os.trans h.os, h'.tape.trans h.tape, h'.output.trans h.output, Nat.le_trans h.size h'.size, fun k hk hl => (h'.block k hk (Nat.lt_of_lt_of_le hl h.size)).trans (h.block k hk hl)⟩
theorem Keep.set {c : Nat} {W w : World} (h : Keep c W w) (j : Nat) (v : Value) : Keep c W (w.setCell ⟨c, j, none⟩ v) :=
  ⟨h.os, h.tape, h.output, by simpa [World.setCell] using h.size, fun k hk hl => (Below.heap_setCell _ _ _ _ hk).trans (h.block k hk hl)⟩
theorem Keep.call {c : Nat} {W w w' : World} (h : Keep c W w) (hb : Below w.heap.size w w') : Keep c W w' :=
  ⟨hb.os.trans h.os, hb.tape.trans h.tape, hb.output.trans h.output, Nat.le_trans h.size hb.size, fun k hk hl => (hb.block k (Nat.lt_of_lt_of_le hl h.size)).trans (h.block k hk hl)⟩
theorem Keep.drewN {c : Nat} {W w : World} (h : Keep c W w) (n : Nat) : Keep c W (w.drewN n) := h.call (below_drewN (Below.refl _ _) n)

/-- A cursor made behind W: what was in W is as it was. -/
theorem Below.keep {W w w' : World} {c : Nat} (h : Below W.heap.size W w) (hk : Keep c w w') (hc : W.heap.size ≤ c) : Below W.heap.size W w' :=
  h.trans ⟨hk.os, hk.tape, hk.output, hk.size, fun k hk' => by
    by_cases hlt : k < w.heap.size
    · exact hk.block k (by omega) hlt
    · exact absurd (Nat.lt_of_lt_of_le hk' h.size) hlt⟩

/-- A cursor lies in block c. -/
structure Cu (w : World) (c : Nat) (a : Option Addr) (len cap : Nat) : Prop where
  row : Row w a len
  ac : ∀ x : Addr, 0 < len → a = some x → x.block ≠ c
  short : (len : Int) ≤ 4611686018427387904
  lt : c < w.heap.size
  b : w.cell? ⟨c, 0, none⟩ = some (.slice a len cap)
  ih : ∃ i h : Int, 0 ≤ i ∧ i ≤ len ∧ w.cell? ⟨c, 1, none⟩ = some (.int .i64 i) ∧ w.cell? ⟨c, 2, none⟩ = some (.int .i64 h)
  fz : ∀ o, w.frozen? ⟨c, o, none⟩ = false

theorem Cu.call {w w' : World} {c : Nat} {a : Option Addr} {len cap : Nat} (h : Cu w c a len cap) (hb : Below w.heap.size w w') : Cu w' c a len cap := by
  obtain ⟨hr, hac, hsh, hlt, hb0, ⟨i, hh, hi0, hi1, hci, hch⟩, hfz⟩ := h
  exact ⟨hr.below hb, hac, hsh, Nat.lt_of_lt_of_le hlt hb.size, keepc hb hb0, ⟨i, hh, hi0, hi1, keepc hb hci, keepc hb hch⟩, fun o => (hb.frozen hlt).trans (hfz o)⟩

theorem Cu.drewN {w : World} {c : Nat} {a : Option Addr} {len cap : Nat} (h : Cu w c a len cap) (n : Nat) : Cu (w.drewN n) c a len cap := h.call (below_drewN (Below.refl _ _) n)

theorem Row.set {w : World} {a : Option Addr} {n c : Nat} (h : Row w a n) (hac : ∀ x : Addr, 0 < n → a = some x → x.block ≠ c) (j : Nat) (v : Value) : Row (w.setCell ⟨c, j, none⟩ v) a n := by
  intro i hi
  obtain ⟨b, off, z, rfl, hlt, hc, h0, h1⟩ := h i hi
  have hbc : b ≠ c := hac _ (by omega) rfl
  exact ⟨b, off, z, rfl, by simpa [World.setCell] using hlt, by rw [other _ _ _ _ (by intro e; injection e; omega)]; exact hc, h0, h1⟩

theorem Cu.set2 {w : World} {c : Nat} {a : Option Addr} {len cap : Nat} (h : Cu w c a len cap) (x : Int) : Cu (w.setCell ⟨c, 2, none⟩ (.int .i64 x)) c a len cap := by
  obtain ⟨hr, hac, hsh, hlt, hb, ⟨i, hh, hi0, hi1, hci, hch⟩, hfz⟩ := h
  refine ⟨hr.set hac _ _, hac, hsh, by simpa [World.setCell] using hlt, ?_, ⟨i, x, hi0, hi1, ?_, World.cell?_setCell_same' _ _ _ (by rw [hch]; rfl)⟩, fun o => ?_⟩
  · rw [other _ _ _ _ (by simp)]; exact hb
  · rw [other _ _ _ _ (by simp)]; exact hci
  · simpa using hfz o

theorem Cu.set1 {w : World} {c : Nat} {a : Option Addr} {len cap : Nat} (h : Cu w c a len cap) (x : Int) (h0 : 0 ≤ x) (h1 : x ≤ len) : Cu (w.setCell ⟨c, 1, none⟩ (.int .i64 x)) c a len cap := by
  obtain ⟨hr, hac, hsh, hlt, hb, ⟨i, hh, hi0, hi1, hci, hch⟩, hfz⟩ := h
  refine ⟨hr.set hac _ _, hac, hsh, by simpa [World.setCell] using hlt, ?_, ⟨x, hh, h0, h1, World.cell?_setCell_same' _ _ _ (by rw [hci]; rfl), ?_⟩, fun o => ?_⟩
  · rw [other _ _ _ _ (by simp)]; exact hb
  · rw [other _ _ _ _ (by simp)]; exact hch
  · simpa using hfz o

set_option maxHeartbeats 1000000 in
theorem byte_x {w : World} {c : Nat} {a : Option Addr} {len cap : Nat} (h : Cu w c a len cap) :
    Calls Try.prog 76 #[.pointer (some ⟨c, 0, none⟩)] w fun e w' => ∃ x : Int, 0 ≤ x ∧ x < 256 ∧ e = .returned (.int .i64 x) ∧ Cu w' c a len cap ∧ Keep c w w' := by
  have HC : Hid (Cu w c a len cap) := h
  obtain ⟨hr, hac, hsh, hlt, hb, ⟨i, hh, hi0, hi1, hci, hch⟩, hfz⟩ := h
  have f0 := hfz 0
  have f1 := hfz 1
  have f2 := hfz 2
  by_cases hil : i < len
  · obtain ⟨n, rfl⟩ := Int.eq_ofNat_of_zero_le hi0
    obtain ⟨b, off, z, rfl, hbW, hz, hz0, hz1⟩ := hr n (by omega)
    have hbc : b ≠ c := hac _ (by omega) rfl
    have hcx : ∀ v, (w.setCell ⟨c, 2, none⟩ v).cell? ⟨b, off + n, none⟩ = some (.int .u8 z) := fun v => by
      rw [other _ _ _ _ (by intro e; injection e; omega)]; exact hz
    clear hr hfz hz hac hbc
    go_enter Try.func76, Try.ntmps76
    go_wp2
    go_quiet (fail)
    go_wp2
    go_quiet (fail)
    go_wp2
    go_quiet (fail)
    go_wp2
    go_ret
    refine ⟨_, ?_, ?_, rfl, ((HC.out.set2 _).drewN _).set1 _ (by omega) (by omega), (((Keep.refl _ _).set _ _).drewN _).set _ _⟩
    · rw [i64_and255]; omega
    · rw [i64_and255]; omega
  · clear hr hfz hac
    go_enter Try.func76, Try.ntmps76
    go_wp2
    go_quiet (fail)
    go_wp2
    go_quiet (fail)
    go_wp2
    go_ret
    exact ⟨_, by rw [i64_and255]; omega, by rw [i64_and255]; omega, rfl, ((HC.out.set2 _).drewN _).drewN _, (((Keep.refl _ _).set _ _).drewN _).drewN _⟩

theorem emod_le {x n : Int} (hx : 0 ≤ x) (hn : 0 ≤ n) : x % n ≤ x := by
  have h1 := Int.mul_ediv_add_emod x n
  have h2 := Int.mul_nonneg hn (Int.ediv_nonneg hx hn)
  omega

set_option maxHeartbeats 2000000 in
theorem below_x {w : World} {c : Nat} {a : Option Addr} {len cap : Nat} (h : Cu w c a len cap) (n : Int) :
    Calls Try.prog 54 #[.pointer (some ⟨c, 0, none⟩), .int .i64 n] w fun e w' => ∃ x : Int, 0 ≤ x ∧ x ≤ 4294967295 ∧ (0 < n → x < n) ∧ e = .returned (.int .i64 x) ∧ Cu w' c a len cap ∧ Keep c w w' := by
  have HC : Hid (Cu w c a len cap) := h
  clear h
  by_cases h0 : n ≤ 0
  · go_enter Try.func54, Try.ntmps54
    go_wp2
    go_ret
    exact ⟨0, by omega, by omega, fun h => by omega, rfl, HC.out, Keep.refl _ _⟩
  · by_cases h1 : n ≤ 256
    · go_enter Try.func54, Try.ntmps54
      go_wp2_with (go_at_call 76; refine (byte_x HC.out).mono ?_; rintro e w' ⟨x, hx0, hx1, rfl, hc, hk⟩; have HC2 : Hid (Cu w' c a len cap) := hc; have HK : Hid (Keep c w w') := hk; clear hc hk)
      go_ret
      have e1 := Int.emod_nonneg x (show n ≠ 0 by omega)
      have e2 := Int.emod_lt_of_pos x (show 0 < n by omega)
      exact ⟨_, e1, by omega, fun _ => e2, rfl, HC2.out, HK.out⟩
    · go_enter Try.func54, Try.ntmps54
      go_wp2_with (first
        | (go_at_call 76; (fail_if_success have := hx1); refine (byte_x HC.out).mono ?_; rintro e w1 ⟨x1, hx0, hx1, rfl, hc, hk⟩; have HC1 : Hid (Cu w1 c a len cap) := hc; have K1 : Hid (Keep c w w1) := hk; clear hc hk)
        | (go_at_call 76; (fail_if_success have := hy1); refine (byte_x HC1.out).mono ?_; rintro e w2 ⟨x2, hy0, hy1, rfl, hc, hk⟩; have HC2 : Hid (Cu w2 c a len cap) := hc; have K2 : Hid (Keep c w w2) := K1.out.trans hk; clear hc hk)
        | (go_at_call 76; (fail_if_success have := hz1); refine (byte_x HC2.out).mono ?_; rintro e w3 ⟨x3, hz0, hz1, rfl, hc, hk⟩; have HC3 : Hid (Cu w3 c a len cap) := hc; have K3 : Hid (Keep c w w3) := K2.out.trans hk; clear hc hk)
        | (go_at_call 76; refine (byte_x HC3.out).mono ?_; rintro e w4 ⟨x4, hu0, hu1, rfl, hc, hk⟩; have HC4 : Hid (Cu w4 c a len cap) := hc; have K4 : Hid (Keep c w w4) := K3.out.trans hk; clear hc hk))
      go_ret
      have e1 := Int.emod_nonneg (x1 * 16777216 + x2 * 65536 + x3 * 256 + x4) (show n ≠ 0 by omega)
      have e2 := Int.emod_lt_of_pos (x1 * 16777216 + x2 * 65536 + x3 * 256 + x4) (show 0 < n by omega)
      have e3 : (x1 * 16777216 + x2 * 65536 + x3 * 256 + x4) % n ≤ x1 * 16777216 + x2 * 65536 + x3 * 256 + x4 := emod_le (by omega) (by omega)
      exact ⟨_, e1, by omega, fun _ => e2, rfl, HC4.out, K4.out⟩

theorem once_x {w : World} {c : Nat} {a : Option Addr} {len cap : Nat} (h : Cu w c a len cap) (n : Int) :
    Calls Try.prog 55 #[.pointer (some ⟨c, 0, none⟩), .int .i64 n] w fun e w' => ∃ x : Bool, e = .returned (.bool x) ∧ Cu w' c a len cap ∧ Keep c w w' := by
  have HC : Hid (Cu w c a len cap) := h
  clear h
  go_enter Try.func55, Try.ntmps55
  go_wp2_with (go_at_call 54; refine (below_x HC.out n).mono ?_; rintro e w' ⟨x, hx0, hx1, hx2, rfl, hc, hk⟩; have HC2 : Hid (Cu w' c a len cap) := hc; have HK : Hid (Keep c w w') := hk; clear hc hk hx2)
  go_ret
  exact ⟨_, rfl, HC2.out, HK.out⟩

set_option maxHeartbeats 1000000 in
theorem pick_x {w : World} {c : Nat} {a : Option Addr} {len cap : Nat} (h : Cu w c a len cap) {g n cp : Nat} {xs : Nat → Int} (hg : g ≠ c) (hlt : g < w.heap.size) (h0 : 0 < n) (h1 : n ≤ 256) (hx : ∀ k, k < n → w.cell? ⟨g, k, none⟩ = some (.int .i64 (xs k))) :
    Calls Try.prog 56 #[.pointer (some ⟨c, 0, none⟩), .slice (some ⟨g, 0, none⟩) n cp] w fun e w' => ∃ x : Int, e = .returned (.int .i64 x) ∧ Cu w' c a len cap ∧ Keep c w w' := by
  have HC : Hid (Cu w c a len cap) := h
  have HX : Hid _ := hx
  clear h hx
  go_enter Try.func56, Try.ntmps56
  go_wp2_with (go_at_call 54; refine (below_x HC.out n).mono ?_; rintro e w' ⟨x, hx0, hx1, hx2, rfl, hc, hk⟩; have hx3 := hx2 (by omega); obtain ⟨k, rfl⟩ := Int.eq_ofNat_of_zero_le hx0; have HC2 : Hid (Cu w' c a len cap) := hc; have HK : Hid (Keep c w w') := hk; have cc : w'.cell? ⟨g, k, none⟩ = some (.int .i64 (xs k)) := (hk.cell (p := ⟨g, k, none⟩) hg hlt).trans (HX.out k (by omega)); clear hc hk hx2)
  go_ret
  exact ⟨_, rfl, HC2.out, HK.out⟩

theorem lit_cells (w : World) (L : List Int) (t : TypeId) : ∀ k, k < L.length → (w.alloc (.cells (L.map (fun x => Value.int .i64 x)).toArray t)).cell? ⟨w.heap.size, k, none⟩ = some (.int .i64 (L.getD k 0)) := by
  intro k hk
  simp [hk]

theorem pick_lit (L : List Int) (h0 : 0 < L.length) (h1 : L.length ≤ 256) {W : World} {c : Nat} {a : Option Addr} {len cap : Nat} (h : Cu W c a len cap) :
    Calls Try.prog 56 #[.pointer (some ⟨c, 0, none⟩), .slice (some ⟨W.heap.size, 0, none⟩) L.length L.length] (W.alloc (.cells (L.map (fun x => Value.int .i64 x)).toArray 3)) fun e w' => ∃ x : Int, e = .returned (.int .i64 x) ∧ Cu w' c a len cap ∧ Keep c W w' := by
  refine (pick_x (h.call (below_one _ _)) (Nat.ne_of_gt h.lt) (by simp) h0 h1 (lit_cells W L 3)).mono ?_
  rintro e w' ⟨x, rfl, hc, hk⟩
  exact ⟨x, rfl, hc, ((Keep.refl _ _).call (below_one _ _)).trans hk⟩

set_option maxHeartbeats 1000000 in
theorem size_x {w : World} (a : Option Addr) (n cap : Nat) (m : Int) (_ : n ≤ 1048576) : Calls Try.prog 65 #[.slice a n cap, .int .i64 m] w fun e w' => ∃ x : Int, e = .returned (.int .i64 x) ∧ x ≤ m ∧ x ≤ 60000 ∧ (2 ≤ m → 2 ≤ x) ∧ w' = w := by
  go_enter Try.func65, Try.ntmps65
  go_wp2
  all_goals
    go_ret
    refine ⟨_, rfl, ?_, ?_, fun _ => ?_, rfl⟩ <;> omega

set_option maxHeartbeats 1000000 in
theorem big_x {w : World} (a : Option Addr) (n cap : Nat) (_ : n ≤ 9223372036854775807) : Calls Try.prog 9 #[.slice a n cap] w fun e w' => e = .returned (.bool (decide (1048576 < (n : Int)))) ∧ w' = w := by
  go_enter Try.func9, Try.ntmps9
  go_wp2
  go_ret
  exact ⟨rfl, rfl⟩

theorem Cu.fresh {w : World} {a : Option Addr} {len cap : Nat} (hr : Row w a len) (hl : (len : Int) ≤ 4611686018427387904) (x : Int) :
    Cu (w.alloc (.cells #[.slice a len cap, .int .i64 0, .int .i64 x] 90)) w.heap.size a len cap := by
  refine ⟨hr.below (below_one _ _), fun y h0 hy => ?_, hl, by simp, by simp, ⟨0, x, by omega, by omega, by simp, by simp⟩, fun o => by simp⟩
  obtain ⟨b, off, z, rfl, hlt, _⟩ := hr 0 h0
  cases hy
  show b ≠ w.heap.size
  omega

set_option maxHeartbeats 1000000 in
theorem new_x {w : World} {a : Option Addr} {len cap : Nat} (hr : Row w a len) (hl : (len : Int) ≤ 4611686018427387904) :
    Calls Try.prog 40 #[.slice a len cap] w fun e w' => e = .returned (.pointer (some ⟨w.heap.size, 0, none⟩)) ∧ Cu w' w.heap.size a len cap ∧ Below w.heap.size w w' := by
  have HR : Hid (Row w a len) := hr
  clear hr
  go_enter Try.func40, Try.ntmps40
  go_wp2
  go_loop [3, 4] (fun h i => ∃ (k : Nat) (x : Int), k ≤ len ∧ i = .int .i64 k ∧ h = .int .i64 x) (fun _ i => len - (intOf i).toNat)
  case atStart => exact ⟨0, _, Nat.zero_le _, rfl, rfl⟩
  case round =>
    obtain ⟨k, x, hk, rfl, rfl⟩ := hrel
    by_cases hlt : k < len
    · obtain ⟨b, off, z, rfl, hbW, hz, hz0, hz1⟩ := HR.out k hlt
      by_cases h4 : (k : Int) < 4000
      · go_wp2
        go_round
        case rel => exact ⟨k + 1, _, by omega, by go_num, rfl⟩
        case measure => simp [intOf]; omega
      · go_wp2
        go_ret
        exact ⟨rfl, Cu.fresh HR.out hl _, below_one _ _⟩
    · go_wp2
      go_ret
      exact ⟨rfl, Cu.fresh HR.out hl _, below_one _ _⟩
end Go.Proofs.Ytlccicbgepfbbaa
