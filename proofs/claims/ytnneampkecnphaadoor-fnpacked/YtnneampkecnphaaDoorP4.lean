/- What the program's Unpack tells of bits that are no NaN is packed to these bits again, by each rounding, without a flag. -/
import Derived.Test.YtnneampkecnphaaDoorP2
import Derived.Test.YtnneampkecnphaaDoorT3
namespace Go.Proofs.YtnneampkecnphaaDoor
open Go.RowKit

/-- 'By each rounding this number is packed to x, without a flag.' -/
def Packs (f K E M : Int) (nb : Bool) (x : Int) : Prop := ∀ mode w, 1 ≤ mode → mode ≤ 5 → Shp w →
  Calls Tryd.prog 8 #[.int .i64 f, .int .i64 mode, .agg #[.int .i64 K, .bool nb, .int .i64 E, .int .u64 M]] w fun e w' => e = .returned (.tuple #[.int .u64 x, .int .i64 0]) ∧ Below w.heap.size w w'

theorem packFinite_any {f wd p t S D h q : Int} (hF : Frm f wd p t S D h q) (mode : Int) (n : Bool) (E man m st : Int) (k : Nat) (w : World) (ht : Tz m man k) (hE : E = 2 - t - p + st + k) (hst0 : 0 ≤ st) (hst1 : st < 2 * t) (hm2 : m < 2 * h) (hor : st = 0 ∨ h ≤ m) (hsz : st * h + m < (2 * t + 1) * h) :
    Calls Tryd.prog 30 #[.agg #[.int .i64 wd, .int .i64 p, .int .i64 t], .int .i64 mode, .agg #[.int .i64 1, .bool n, .int .i64 E, .int .u64 man]] w fun e w' => e = .returned (.tuple #[.int .u64 (if n then st * h + m + S else st * h + m), .int .i64 0]) ∧ Below w.heap.size w w' := by
  rcases hF with ⟨rfl, rfl, rfl, rfl, rfl, rfl, rfl, rfl⟩ | ⟨rfl, rfl, rfl, rfl, rfl, rfl, rfl, rfl⟩ | ⟨rfl, rfl, rfl, rfl, rfl, rfl, rfl, rfl⟩
  · exact pack_exact1 mode n E man m st k w ht (by omega) hst0 (by omega) (by omega) hor (by omega)
  · exact pack_exact2 mode n E man m st k w ht (by omega) hst0 (by omega) (by omega) hor (by omega)
  · exact pack_exact3 mode n E man m st k w ht (by omega) hst0 (by omega) (by omega) hor (by omega)

/-- A finite number's packing, from its size's bits. -/
theorem packs_fin {f wd p t S D h q : Int} (hF : Frm f wd p t S D h q) (x : Int) (hx0 : 0 ≤ x) (hx1 : x < D) (E man m st : Int) (k : Nat) (ht : Tz m man k) (hE : E = 2 - t - p + st + k) (hst0 : 0 ≤ st) (hst1 : st < 2 * t) (hm2 : m < 2 * h) (hor : st = 0 ∨ h ≤ m) (hsz : st * h + m < (2 * t + 1) * h) (he : st * h + m = sz S x) :
    Packs f 1 E man (x / S == 1) x := by
  intro mode w hm0 hm1 hs
  have hf : 1 ≤ f ∧ f ≤ 3 := by rcases hF with ⟨rfl, _⟩ | ⟨rfl, _⟩ | ⟨rfl, _⟩ <;> decide
  have hv : (if (x / S == 1) = true then st * h + m + S else st * h + m) = x := by
    rw [he]
    unfold sz
    rcases hF with ⟨rfl, rfl, rfl, rfl, rfl, rfl, rfl, rfl⟩ | ⟨rfl, rfl, rfl, rfl, rfl, rfl, rfl, rfl⟩ | ⟨rfl, rfl, rfl, rfl, rfl, rfl, rfl, rfl⟩
    all_goals
      simp only [beq_iff_eq]
      repeat' split
      all_goals omega
  have hk := ht.le (show m < 18446744073709551616 by rcases hF with ⟨_, _, _, _, _, _, rfl, _⟩ | ⟨_, _, _, _, _, _, rfl, _⟩ | ⟨_, _, _, _, _, _, rfl, _⟩ <;> omega)
  have hp := ht.pos
  refine pack_any f mode 1 E man x (x / S == 1) w hs hf.1 hf.2 hm0 hm1 (Or.inr ⟨rfl, by simp; omega, ?_, ?_⟩) fun w hs => packNum_fin hF mode E man x _ w hs fun w => ?_
  · rcases hF with ⟨_, _, rfl, rfl, _⟩ | ⟨_, _, rfl, rfl, _⟩ | ⟨_, _, rfl, rfl, _⟩ <;> omega
  · rcases hF with ⟨_, _, rfl, rfl, _⟩ | ⟨_, _, rfl, rfl, _⟩ | ⟨_, _, rfl, rfl, _⟩ <;> omega
  · have := packFinite_any hF mode (x / S == 1) E man m st k w ht hE hst0 hst1 hm2 hor hsz
    rwa [hv] at this

theorem packs_zero {f wd p t S D h q : Int} (hF : Frm f wd p t S D h q) (x : Int) (_hx0 : 0 ≤ x) (hx1 : x < D) (hz : sz S x = 0) : Packs f 0 0 0 (x / S == 1) x := by
  intro mode w hm0 hm1 hs
  have hf : 1 ≤ f ∧ f ≤ 3 := by rcases hF with ⟨rfl, _⟩ | ⟨rfl, _⟩ | ⟨rfl, _⟩ <;> decide
  have hv : (if (x / S == 1) = true then S else 0) = x := by
    unfold sz at hz
    rcases hF with ⟨rfl, rfl, rfl, rfl, rfl, rfl, rfl, rfl⟩ | ⟨rfl, rfl, rfl, rfl, rfl, rfl, rfl, rfl⟩ | ⟨rfl, rfl, rfl, rfl, rfl, rfl, rfl, rfl⟩
    all_goals
      simp only [beq_iff_eq]
      split at hz <;> split <;> omega
  refine pack_any f mode 0 0 0 x (x / S == 1) w hs hf.1 hf.2 hm0 hm1 (Or.inl rfl) fun w hs => ?_
  have := packNum_zero hF mode 0 0 (x / S == 1) w hs
  rwa [hv] at this
end Go.Proofs.YtnneampkecnphaaDoor
