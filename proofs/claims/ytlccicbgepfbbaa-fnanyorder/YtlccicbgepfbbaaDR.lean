/- A wire in a block. -/
import Derived.Test.YtlccicbgepfbbaaDV
import Derived.Test.YtlccicbgepfbbaaBB
import Derived.Test.YtlccicbgepfbbaaI1
namespace Go.Proofs.Ytlccicbgepfbbaa
open Go.RowKit

/-- A wire's five numbers in a block. -/
structure R5 (W : World) (g : Nat) (n p v s h : Int) : Prop where
  c0 : W.cell? ⟨g, 0, none⟩ = some (.int .i64 n)
  c1 : W.cell? ⟨g, 1, none⟩ = some (.int .i64 p)
  c2 : W.cell? ⟨g, 2, none⟩ = some (.int .i64 v)
  c3 : W.cell? ⟨g, 3, none⟩ = some (.int .i64 s)
  c4 : W.cell? ⟨g, 4, none⟩ = some (.int .i64 h)
  fz : ∀ o, W.frozen? ⟨g, o, none⟩ = false

theorem R5.new (w : World) (t : TypeId) (n p v s h : Int) : R5 (w.alloc (.cells #[.int .i64 n, .int .i64 p, .int .i64 v, .int .i64 s, .int .i64 h] t)) w.heap.size n p v s h := ⟨by simp, by simp, by simp, by simp, by simp, fun o => by simp⟩

theorem R5.call {W W' : World} {g : Nat} {n p v s h : Int} (x : R5 W g n p v s h) (hb : Below W.heap.size W W') : R5 W' g n p v s h := by
  have hl : g < W.heap.size := World.block_lt_of_cell? W _ x.c0
  exact ⟨(hb.cell (p := ⟨g, 0, none⟩) hl).trans x.c0, (hb.cell (p := ⟨g, 1, none⟩) hl).trans x.c1, (hb.cell (p := ⟨g, 2, none⟩) hl).trans x.c2, (hb.cell (p := ⟨g, 3, none⟩) hl).trans x.c3, (hb.cell (p := ⟨g, 4, none⟩) hl).trans x.c4, fun o => (hb.frozen (p := ⟨g, o, none⟩) hl).trans (x.fz o)⟩

theorem R5.keep {W W' : World} {g c : Nat} {n p v s h : Int} (x : R5 W g n p v s h) (hk : Keep c W W') (hg : g ≠ c) : R5 W' g n p v s h := by
  have hl : g < W.heap.size := World.block_lt_of_cell? W _ x.c0
  have hb := hk.block g hg hl
  exact ⟨(hk.cell (p := ⟨g, 0, none⟩) hg hl).trans x.c0, (hk.cell (p := ⟨g, 1, none⟩) hg hl).trans x.c1, (hk.cell (p := ⟨g, 2, none⟩) hg hl).trans x.c2, (hk.cell (p := ⟨g, 3, none⟩) hg hl).trans x.c3, (hk.cell (p := ⟨g, 4, none⟩) hg hl).trans x.c4, fun o => (World.frozen?_of_block (w := W) (a := ⟨g, o, none⟩) hb).trans (x.fz o)⟩

theorem R5.drew {W : World} {g : Nat} {n p v s h : Int} (x : R5 W g n p v s h) : R5 W.drew g n p v s h := ⟨by simpa using x.c0, by simpa using x.c1, by simpa using x.c2, by simpa using x.c3, by simpa using x.c4, fun o => by simpa using x.fz o⟩

theorem R5.off {W : World} {g b : Nat} {n p v s h : Int} (x : R5 W g n p v s h) (hb : g ≠ b) (k : Nat) (y : Value) : R5 (W.setCell ⟨b, k, none⟩ y) g n p v s h := by
  have e : ∀ o, (W.setCell ⟨b, k, none⟩ y).cell? ⟨g, o, none⟩ = W.cell? ⟨g, o, none⟩ := fun o => other _ _ _ _ (fun e => hb (by injection e; omega))
  exact ⟨(e 0).trans x.c0, (e 1).trans x.c1, (e 2).trans x.c2, (e 3).trans x.c3, (e 4).trans x.c4, fun o => (World.frozen?_setCell _ _ _ _).trans (x.fz o)⟩

theorem R5.put0 {W : World} {g : Nat} {n p v s h : Int} (x : R5 W g n p v s h) (y : Int) : R5 (W.setCell ⟨g, 0, none⟩ (.int .i64 y)) g y p v s h := by
  obtain ⟨c0, c1, c2, c3, c4, hf⟩ := x
  exact ⟨by go_simp, by go_simp, by go_simp, by go_simp, by go_simp, fun o => (World.frozen?_setCell _ _ _ _).trans (hf o)⟩

theorem R5.put1 {W : World} {g : Nat} {n p v s h : Int} (x : R5 W g n p v s h) (y : Int) : R5 (W.setCell ⟨g, 1, none⟩ (.int .i64 y)) g n y v s h := by
  obtain ⟨c0, c1, c2, c3, c4, hf⟩ := x
  exact ⟨by go_simp, by go_simp, by go_simp, by go_simp, by go_simp, fun o => (World.frozen?_setCell _ _ _ _).trans (hf o)⟩

theorem R5.put2 {W : World} {g : Nat} {n p v s h : Int} (x : R5 W g n p v s h) (y : Int) : R5 (W.setCell ⟨g, 2, none⟩ (.int .i64 y)) g n p y s h := by
  obtain ⟨c0, c1, c2, c3, c4, hf⟩ := x
  exact ⟨by go_simp, by go_simp, by go_simp, by go_simp, by go_simp, fun o => (World.frozen?_setCell _ _ _ _).trans (hf o)⟩

theorem R5.put3 {W : World} {g : Nat} {n p v s h : Int} (x : R5 W g n p v s h) (y : Int) : R5 (W.setCell ⟨g, 3, none⟩ (.int .i64 y)) g n p v y h := by
  obtain ⟨c0, c1, c2, c3, c4, hf⟩ := x
  exact ⟨by go_simp, by go_simp, by go_simp, by go_simp, by go_simp, fun o => (World.frozen?_setCell _ _ _ _).trans (hf o)⟩

theorem R5.put4 {W : World} {g : Nat} {n p v s h : Int} (x : R5 W g n p v s h) (y : Int) : R5 (W.setCell ⟨g, 4, none⟩ (.int .i64 y)) g n p v s y := by
  obtain ⟨c0, c1, c2, c3, c4, hf⟩ := x
  exact ⟨by go_simp, by go_simp, by go_simp, by go_simp, by go_simp, fun o => (World.frozen?_setCell _ _ _ _).trans (hf o)⟩

theorem Dt.drew {w0 : World} {c : Nat} {a : Option Addr} {len cap B tg nt tc : Nat} {ts : Nat → Nat} {X : World} (h : Dt w0 c a len cap B tg nt tc ts X) : Dt w0 c a len cap B tg nt tc ts X.drew := h.call (below_dn X 1)

end Go.Proofs.Ytlccicbgepfbbaa
