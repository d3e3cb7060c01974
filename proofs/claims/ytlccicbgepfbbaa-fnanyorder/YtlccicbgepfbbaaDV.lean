/- A wire drawn: what lies there. -/
import Derived.Test.YtlccicbgepfbbaaD4
import Derived.Test.YtlccicbgepfbbaaWG
import Derived.Test.YtlccicbgepfbbaaWB
namespace Go.Proofs.Ytlccicbgepfbbaa
open Go.RowKit

/-- The cursor and the times that were drawn. -/
structure Dt (w0 : World) (c : Nat) (a : Option Addr) (len cap B tg nt tc : Nat) (ts : Nat → Nat) (X : World) : Prop where
  cu : Cu X c a len cap
  kp : Keep c w0 X
  row : X.ownsRow B 3 1 (.slice (some ⟨tg, 0, none⟩) nt tc) nt (ils (fun i => (ts i : Int)) nt)

theorem Dt.call {w0 : World} {c : Nat} {a : Option Addr} {len cap B tg nt tc : Nat} {ts : Nat → Nat} {X Y : World} (h : Dt w0 c a len cap B tg nt tc ts X) (hb : Below X.heap.size X Y) : Dt w0 c a len cap B tg nt tc ts Y :=
  ⟨h.cu.call hb, h.kp.call hb, own_below h.row hb⟩

theorem Dt.keep {w0 : World} {c : Nat} {a : Option Addr} {len cap B tg nt tc : Nat} {ts : Nat → Nat} {X Y : World} (h : Dt w0 c a len cap B tg nt tc ts X) (hc : Cu Y c a len cap) (hk : Keep c X Y) (hB : c < B) : Dt w0 c a len cap B tg nt tc ts Y :=
  ⟨hc, h.kp.trans hk, own_keep h.row hk hB⟩

theorem Dt.cell {w0 : World} {c : Nat} {a : Option Addr} {len cap B tg nt tc : Nat} {ts : Nat → Nat} {X : World} (h : Dt w0 c a len cap B tg nt tc ts X) {i : Nat} (hi : i < nt) : X.cell? ⟨tg, i, none⟩ = some (.int .i64 (ts i : Int)) := by
  have := World.ownsRow.cellAt h.row i (by omega)
  rw [ils_get hi] at this
  exact this

theorem Dt.put {w0 : World} {c : Nat} {a : Option Addr} {len cap B tg nt tc : Nat} {ts : Nat → Nat} {X : World} (h0 : Dt w0 c a len cap B tg nt tc ts w0) (h : Dt w0 c a len cap B tg nt tc ts X) {G : Nat} (hG : w0.heap.size ≤ G) (k : Nat) (u : Value) : Dt w0 c a len cap B tg nt tc ts (X.setCell ⟨G, k, none⟩ u) := by
  have hc := h0.cu.lt
  have hne : ∀ o, (⟨G, k, none⟩ : Addr) ≠ ⟨c, o, none⟩ := fun o e => by injection e; omega
  have hac2 : ∀ x : Addr, 0 < len → a = some x → x.block ≠ G := fun x hl hx => by
    obtain ⟨b, off, z, h1, h2, _⟩ := h0.cu.row 0 hl
    rw [h1] at hx
    injection hx with hx
    rw [← hx]
    show b ≠ G
    omega
  refine ⟨?_, ⟨h.kp.os, h.kp.tape, h.kp.output, by simpa [World.setCell] using h.kp.size, fun p hp hl => (Below.heap_setCell _ _ _ _ (by show p ≠ G; omega)).trans (h.kp.block p hp hl)⟩, own_kd h.row ((Kd.refl (fun g => g = G) X).put (.inl rfl) k u) (fun g hg e => by have := (World.ownsRow.lt h0.row g hg).2; omega)⟩
  obtain ⟨hr, hac, hsh, hlt, hb, ⟨i, hh, hi0, hi1, hci, hch⟩, hfz⟩ := h.cu
  refine ⟨hr.set hac2 _ _, hac, hsh, by simpa [World.setCell] using hlt, ?_, ⟨i, hh, hi0, hi1, ?_, ?_⟩, fun o => by simpa using hfz o⟩
  · rw [other _ _ _ _ (hne 0)]; exact hb
  · rw [other _ _ _ _ (hne 1)]; exact hci
  · rw [other _ _ _ _ (hne 2)]; exact hch

theorem own_five (w : World) : (w.alloc (.cells #[.int .i64 0, .int .i64 0, .int .i64 0, .int .i64 0, .int .i64 0] 31)).ownsRow w.heap.size 31 5 (.slice (some ⟨w.heap.size, 0, none⟩) 1 1) 1 (ils (fun _ => 0) 5) :=
  ⟨by simp [ils], .inr ⟨w.heap.size, 1, _, rfl, Nat.le_refl _, heap_alloc_new w _, Nat.le_refl _, by decide, by simp, by simp [ils]; rfl⟩⟩

/-- One number of a wire set. -/
theorem five_one {X : World} {B2 G : Nat} {f : Nat → Int} (h : X.ownsRow B2 31 5 (.slice (some ⟨G, 0, none⟩) 1 1) 1 (ils f 5)) (j : Nat) (y : Int) : (X.setCell ⟨G, j, none⟩ (.int .i64 y)).ownsRow B2 31 5 (.slice (some ⟨G, 0, none⟩) 1 1) 1 (ils (fun i => if i = j then y else f i) 5) := by
  have h1 := (World.ownsRow.stored h j (.int .i64 y)).1
  rw [ils_put] at h1
  exact h1

/-- A whole wire set. -/
theorem five_put {X : World} {B2 G : Nat} {f : Nat → Int} (h : X.ownsRow B2 31 5 (.slice (some ⟨G, 0, none⟩) 1 1) 1 (ils f 5)) (s : Wr) :
    (((((X.setCell ⟨G, 0, none⟩ (.int .i64 s.fr)).setCell ⟨G, 1, none⟩ (.int .i64 s.to)).setCell ⟨G, 2, none⟩ (.int .i64 s.gi)).setCell ⟨G, 3, none⟩ (.int .i64 s.ta)).setCell ⟨G, 4, none⟩ (.int .i64 s.ha)).ownsRow B2 31 5 (.slice (some ⟨G, 0, none⟩) 1 1) 1 (ils s.n 5) := by
  have h1 := five_one (five_one (five_one (five_one (five_one h 0 s.fr) 1 s.to) 2 s.gi) 3 s.ta) 4 s.ha
  rw [ils_congr (g := s.n) fun k hk => ?_] at h1
  · exact h1
  · match k, hk with
    | 0, _ => rfl
    | 1, _ => rfl
    | 2, _ => rfl
    | 3, _ => rfl
    | 4, _ => rfl
    | n + 5, h => omega
end Go.Proofs.Ytlccicbgepfbbaa
