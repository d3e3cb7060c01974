/- The program's Next; both sides of Next; the law of Next. -/
import Derived.Test.YtghblaphkbcgpaaDoorHJ0
namespace Go.Proofs.YtghblaphkbcgpaaDoor
open Go.RowKit

theorem isBits_yes {f wd p t S D : Int} (hF : Form f wd p t S D) (x : Int) (h0 : 0 ≤ x) (h1 : x < D) (w : World) (hs : Shp w) :
    Calls Tryd.prog 36 #[.int .i64 f, .int .u64 x] w fun e w' => e = .returned (.bool true) ∧ w' = w := by
  have h := isBits_any hF x w hs
  rw [Int.ediv_eq_zero_of_lt h0 h1] at h
  exact h

theorem below_a1 {w w1 : World} (o : Obj) (hb : Below (w.alloc o).heap.size (w.alloc o) w1) : Below w.heap.size w w1 :=
  (below_one o).trans (hb.mono (by simp))
theorem szlt {w w1 : World} {o : Obj} (hb : Below (w.alloc o).heap.size (w.alloc o) w1) : w.heap.size < w1.heap.size := by
  have := hb.size
  simp at this
  omega
theorem below_a2 {w w1 w2 : World} (o : Obj) (hb : Below (w.alloc o).heap.size (w.alloc o) w1) (hb2 : Below w1.heap.size w1 w2) : Below w.heap.size w w2 :=
  (below_a1 o hb).trans (hb2.mono (below_a1 o hb).size)
theorem below_al {w w1 : World} (o : Obj) (hb : Below w.heap.size w w1) : Below w.heap.size w (w1.alloc o) :=
  hb.alloc hb.size _

theorem frm_of (f : Int) (hf : ¬ (f < 1 ∨ 3 < f)) : ∃ wd p t S D h q, Frm f wd p t S D h q := by
  have : f = 1 ∨ f = 2 ∨ f = 3 := by omega
  rcases this with rfl | rfl | rfl
  · exact ⟨16, 11, 15, 32768, 65536, 1024, 32, Or.inl ⟨rfl, rfl, rfl, rfl, rfl, rfl, rfl, rfl⟩⟩
  · exact ⟨32, 24, 127, 2147483648, 4294967296, 8388608, 256, Or.inr (Or.inl ⟨rfl, rfl, rfl, rfl, rfl, rfl, rfl, rfl⟩)⟩
  · exact ⟨64, 53, 1023, 9223372036854775808, 18446744073709551616, 4503599627370496, 2048, Or.inr (Or.inr ⟨rfl, rfl, rfl, rfl, rfl, rfl, rfl, rfl⟩)⟩

/-- Where form or bits are none, both sides say so. -/
theorem both_no (f x : Int) (hx0 : 0 ≤ x) (hx1 : x < 18446744073709551616) :
    ((∀ w, Calls Tryd.prog 18 #[.int .i64 f, .int .u64 x] w fun e w' => e = .returned (.bool false) ∧ w' = w) ∧ (∀ w, Shp w → Calls Tryd.prog 36 #[.int .i64 f, .int .u64 x] w fun e w' => e = .returned (.bool false) ∧ w' = w)) ∨
    ∃ wd p t S D h q, Frm f wd p t S D h q ∧ x < D := by
  by_cases hf : f < 1 ∨ 3 < f
  · exact Or.inl ⟨fun w => l1Are_no f x w hf, fun w _ => isBits_no f x w hf⟩
  · obtain ⟨wd, p, t, S, D, h, q, hF⟩ := frm_of f hf
    by_cases hD : x < D
    · exact Or.inr ⟨wd, p, t, S, D, h, q, hF, hD⟩
    · have hD0 : 0 < D := by rcases hF with ⟨_, _, _, _, _, rfl, _⟩ | ⟨_, _, _, _, _, rfl, _⟩ | ⟨_, _, _, _, _, rfl, _⟩ <;> decide
      have e := div_no hD0 (show D ≤ x by omega)
      refine Or.inl ⟨fun w => ?_, fun w hs => ?_⟩
      · have := l1Are_any hF.form x hx0 hx1 w
        rw [e] at this
        exact this
      · have := isBits_any hF.form x w hs
        rw [e] at this
        exact this

theorem shp_below {w w' : World} (hs : Shp w) (hz : 0 < w.heap.size) (hb : Below w.heap.size w w') : Shp w' := by
  obtain ⟨c0, c1, c2, c3, c4, c5, c6, c7, c8, c9, c10, c11⟩ := hs
  have h := (bcell hb).1
  constructor <;> (rw [h _ _ hz]; assumption)

theorem shp_pos {w : World} (hs : Shp w) : 0 < w.heap.size := by
  have := hs.c0
  by_cases h : 0 < w.heap.size
  · exact h
  · exfalso
    have e : w.heap = #[] := by
      apply Array.eq_empty_of_size_eq_zero
      omega
    simp [World.cell?, e] at this

end Go.Proofs.YtghblaphkbcgpaaDoor
