/- Draws of signals. -/
import Derived.Test.YtlccicbgepfbbaaD1
import Derived.Test.YtlccicbgepfbbaaC1
namespace Go.Proofs.Ytlccicbgepfbbaa
open Go.RowKit

theorem own_keep {w w' : World} {B s n c : Nat} {e : TypeId} {v : Value} {xs : List Value} (h : w.ownsRow B e s v n xs) (hk : Keep c w w') (hc : c < B) : w'.ownsRow B e s v n xs := by
  refine ⟨h.1, ?_⟩
  rcases h.2 with h' | ⟨g', cap', cur, h', hb', hg, rest⟩
  · exact .inl h'
  · exact .inr ⟨g', cap', cur, h', hb', (hk.block g' (by omega) (Array.getElem?_eq_some_iff.1 hg).1).trans hg, rest⟩

theorem Keep.below {c : Nat} {w W w' : World} (h : Keep c w W) (hb : Below w.heap.size W w') : Keep c w w' :=
  ⟨hb.os.trans h.os, hb.tape.trans h.tape, hb.output.trans h.output, Nat.le_trans h.size hb.size, fun k hk hl => (hb.block k hl).trans (h.block k hk hl)⟩

theorem Row.keep {w w' : World} {a : Option Addr} {n c : Nat} (h : Row w a n) (hac : ∀ x : Addr, 0 < n → a = some x → x.block ≠ c) (hk : Keep c w w') : Row w' a n := by
  intro i hi
  obtain ⟨b, off, z, rfl, hlt, hc, h0, h1⟩ := h i hi
  have hbc : b ≠ c := hac _ (by omega) rfl
  exact ⟨b, off, z, rfl, Nat.lt_of_lt_of_le hlt hk.size, (hk.cell (p := ⟨b, off + i, none⟩) hbc hlt).trans hc, h0, h1⟩

/-- What grows behind w leaves a cursor of w a cursor. -/
theorem Cu.grow {w W w' : World} {c : Nat} {a : Option Addr} {len cap : Nat} (h0 : Cu w c a len cap) (h : Cu W c a len cap) (hk : Keep c w W) (hb : Below w.heap.size W w') : Cu w' c a len cap := by
  obtain ⟨hr, hac, hsh, hlt, hb0, ⟨i, hh, hi0, hi1, hci, hch⟩, hfz⟩ := h
  exact ⟨h0.row.keep hac (hk.below hb), hac, hsh, Nat.lt_of_lt_of_le hlt hb.size, (hb.cell h0.lt).trans hb0, ⟨i, hh, hi0, hi1, (hb.cell h0.lt).trans hci, (hb.cell h0.lt).trans hch⟩, fun o => (hb.frozen h0.lt).trans (hfz o)⟩

theorem ils_app (f : Nat → Int) (k : Nat) (x : Int) : ils f k ++ [.int .i64 x] = ils (fun i => if i = k then x else f i) (k + 1) := by
  rw [ils_snoc]
  congr 1
  · apply ils_congr
    intro i hi
    simp [show ¬ i = k by omega]
  · simp

theorem made_ils (n : Nat) : (madeCells (Value.int .i64 0).cells (n * 1)).toList = ils (fun _ => 0) n := by
  have e : (Value.int .i64 0).cells = #[.int .i64 0] := by simp [Value.cells]
  rw [e]
  apply List.ext_getElem
  · simp [madeCells, ils]
  · intro i h1 h2
    simp [madeCells, ils, Nat.mod_one]

end Go.Proofs.Ytlccicbgepfbbaa
