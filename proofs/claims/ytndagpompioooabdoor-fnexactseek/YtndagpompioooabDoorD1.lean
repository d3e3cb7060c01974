/- The model's drawing cursor: what is drawn, and what it leaves alone. -/
import Derived.Test.YtndagpompioooabDoorB0
import Derived.Laws.BitsLemmas
namespace Go.Proofs.YtndagpompioooabDoor
open Go.RowKit

theorem i64_and255 (n : Int) : bits .and .i64 n 255 = n % 256 := by
  have h : (BitVec.ofInt 64 255).toNat = 2 ^ 8 - 1 := by decide
  have key : (BitVec.ofInt 64 n &&& BitVec.ofInt 64 255).toNat = (n % ((2 ^ 64 : Nat) : Int)).toNat % 2 ^ 8 := by
    rw [BitVec.toNat_and, BitVec.toNat_ofInt, h, Nat.and_two_pow_sub_one_eq_mod]
  show IntKind.i64.wrap ((BitVec.ofInt 64 n &&& BitVec.ofInt 64 255).toNat : Nat) = n % 256
  rw [key, IntKind.wrap_i64]
  omega

/-- What is known of the bytes that came in: each element's cell. -/
def Row (w : World) (a : Option Addr) (n : Nat) : Prop := ∀ i, i < n → ∃ b off z, a = some ⟨b, off, none⟩ ∧ b < w.heap.size ∧ w.cell? ⟨b, off + i, none⟩ = some (.int .u8 z) ∧ 0 ≤ z ∧ z < 256

theorem Row.below {w w' : World} {a : Option Addr} {n : Nat} (h : Row w a n) (hb : Below w.heap.size w w') : Row w' a n := by
  intro i hi
  obtain ⟨b, off, z, rfl, hlt, hc, h0, h1⟩ := h i hi
  exact ⟨b, off, z, rfl, Nat.lt_of_lt_of_le hlt hb.size, (hb.cell (p := ⟨b, off + i, none⟩) hlt).trans hc, h0, h1⟩

theorem other (w : World) (a b : Addr) (v : Value) (h : a ≠ b) : (w.setCell a v).cell? b = w.cell? b := by
  first | exact World.cell?_setCell_other _ _ _ _ h | exact World.cell?_setCell_other _ _ _ h | exact World.cell?_setCell_other h | exact World.cell?_setCell_other _ _ h

theorem keepc {W w1 : World} (hb : Below W.heap.size W w1) {a : Addr} {v : Value} (h : W.cell? a = some v) : w1.cell? a = some v := (hb.cell (World.block_lt_of_cell? W _ h)).trans h

/-- Of what was in W nothing but block c has turned. -/
structure Keep (c : Nat) (W w : World) : Prop where
  os : w.os = W.os
  tape : w.tape = W.tape
  output : w.output = W.output
  size : W.heap.size ≤ w.heap.size
  block : ∀ k, k ≠ c → k < W.heap.size → w.heap[k]? = W.heap[k]?

theorem Keep.refl (c : Nat) (W : World) : Keep c W W := ⟨rfl, rfl, rfl, Nat.le_refl _, fun _ _ _ => rfl⟩
theorem Keep.cell {c : Nat} {W w : World} (h : Keep c W w) {p : Addr} (hp : p.block ≠ c) (hl : p.block < W.heap.size) : w.cell? p = W.cell? p := World.cell?_of_block (w := W) (h.block _ hp hl)
theorem Keep.trans {c : Nat} {W w w' : World} (h : Keep c W w) (h' : Keep c w w') : Keep c W w' :=
  ⟨h'.os.trans h.os, h'.tape.trans h.tape, h'.output.trans h.output, Nat.le_trans h.size h'.size, fun k hk hl => (h'.block k hk (Nat.lt_of_lt_of_le hl h.size)).trans (h.block k hk hl)⟩
theorem Keep.set {c : Nat} {W w : World} (h : Keep c W w) (j : Nat) (v : Value) : Keep c W (w.setCell ⟨c, j, none⟩ v) :=
  ⟨h.os, h.tape, h.output, by simpa [World.setCell] using h.size, fun k hk hl => (Below.heap_setCell _ _ _ _ hk).trans (h.block k hk hl)⟩
theorem Keep.call {c : Nat} {W w w' : World} (h : Keep c W w) (hb : Below w.heap.size w w') : Keep c W w' :=
  ⟨hb.os.trans h.os, hb.tape.trans h.tape, hb.output.trans h.output, Nat.le_trans h.size hb.size, fun k hk hl => (hb.block k (Nat.lt_of_lt_of_le hl h.size)).trans (h.block k hk hl)⟩
theorem Keep.drewN {c : Nat} {W w : World} (h : Keep c W w) (n : Nat) : Keep c W (w.drewN n) := h.call (below_drewN (Below.refl _ _) n)

/-- A cursor made behind W: what was in W is as it was. -/
theorem Below.keep {W w w' : World} {c : Nat} (h : Below W.heap.size W w) (hk : Keep c w w') (hc : W.heap.size ≤ c) : Below W.heap.size W w' :=
  h.trans ⟨hk.os, hk.tape, hk.output, hk.size, fun k hk' => by
    by_cases hlt : k < w.heap.size
    · exact hk.block k (by omega) hlt
    · exact absurd (Nat.lt_of_lt_of_le hk' h.size) hlt⟩

/-- A cursor lies in block c. -/
structure Cu (w : World) (c : Nat) (a : Option Addr) (len cap : Nat) : Prop where
  row : Row w a len
  ac : ∀ x : Addr, 0 < len → a = some x → x.block ≠ c
  short : (len : Int) ≤ 4611686018427387904
  lt : c < w.heap.size
  b : w.cell? ⟨c, 0, none⟩ = some (.slice a len cap)
  ih : ∃ i h : Int, 0 ≤ i ∧ i ≤ len ∧ w.cell? ⟨c, 1, none⟩ = some (.int .i64 i) ∧ w.cell? ⟨c, 2, none⟩ = some (.int .i64 h)
  fz : ∀ o, w.frozen? ⟨c, o, none⟩ = false

theorem Cu.call {w w' : World} {c : Nat} {a : Option Addr} {len cap : Nat} (h : Cu w c a len cap) (hb : Below w.heap.size w w') : Cu w' c a len cap := by
  obtain ⟨hr, hac, hsh, hlt, hb0, ⟨i, hh, hi0, hi1, hci, hch⟩, hfz⟩ := h
  exact ⟨hr.below hb, hac, hsh, Nat.lt_of_lt_of_le hlt hb.size, keepc hb hb0, ⟨i, hh, hi0, hi1, keepc hb hci, keepc hb hch⟩, fun o => (hb.frozen hlt).trans (hfz o)⟩

theorem Cu.drewN {w : World} {c : Nat} {a : Option Addr} {len cap : Nat} (h : Cu w c a len cap) (n : Nat) : Cu (w.drewN n) c a len cap := h.call (below_drewN (Below.refl _ _) n)

theorem Row.set {w : World} {a : Option Addr} {n c : Nat} (h : Row w a n) (hac : ∀ x : Addr, 0 < n → a = some x → x.block ≠ c) (j : Nat) (v : Value) : Row (w.setCell ⟨c, j, none⟩ v) a n := by
  intro i hi
  obtain ⟨b, off, z, rfl, hlt, hc, h0, h1⟩ := h i hi
  have hbc : b ≠ c := hac _ (by omega) rfl
  exact ⟨b, off, z, rfl, by simpa [World.setCell] using hlt, by rw [other _ _ _ _ (by intro e; injection e; omega)]; exact hc, h0, h1⟩

theorem Cu.set2 {w : World} {c : Nat} {a : Option Addr} {len cap : Nat} (h : Cu w c a len cap) (x : Int) : Cu (w.setCell ⟨c, 2, none⟩ (.int .i64 x)) c a len cap := by
  obtain ⟨hr, hac, hsh, hlt, hb, ⟨i, hh, hi0, hi1, hci, hch⟩, hfz⟩ := h
  refine ⟨hr.set hac _ _, hac, hsh, by simpa [World.setCell] using hlt, ?_, ⟨i, x, hi0, hi1, ?_, World.cell?_setCell_same' _ _ _ (by rw [hch]; rfl)⟩, fun o => ?_⟩
  · rw [other _ _ _ _ (by simp)]; exact hb
  · rw [other _ _ _ _ (by simp)]; exact hci
  · simpa using hfz o

theorem Cu.set1 {w : World} {c : Nat} {a : Option Addr} {len cap : Nat} (h : Cu w c a len cap) (x : Int) (h0 : 0 ≤ x) (h1 : x ≤ len) : Cu (w.setCell ⟨c, 1, none⟩ (.int .i64 x)) c a len cap := by
  obtain ⟨hr, hac, hsh, hlt, hb, ⟨i, hh, hi0, hi1, hci, hch⟩, hfz⟩ := h
  refine ⟨hr.set hac _ _, hac, hsh, by simpa [World.setCell] using hlt, ?_, ⟨x, hh, h0, h1, World.cell?_setCell_same' _ _ _ (by rw [hci]; rfl), ?_⟩, fun o => ?_⟩
  · rw [other _ _ _ _ (by simp)]; exact hb
  · rw [other _ _ _ _ (by simp)]; exact hch
  · simpa using hfz o

theorem emod_le {x n : Int} (hx : 0 ≤ x) (hn : 0 ≤ n) : x % n ≤ x := by
  have h1 := Int.mul_ediv_add_emod x n
  have h2 := Int.mul_nonneg hn (Int.ediv_nonneg hx hn)
  omega

theorem lit_cells (w : World) (L : List Int) (t : TypeId) : ∀ k, k < L.length → (w.alloc (.cells (L.map (fun x => Value.int .i64 x)).toArray t)).cell? ⟨w.heap.size, k, none⟩ = some (.int .i64 (L.getD k 0)) := by
  intro k hk
  simp [hk]

end Go.Proofs.YtndagpompioooabDoor
