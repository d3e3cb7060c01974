/- Nodes and links in memory. -/
import Derived.Test.YtiadfabhpagmpaaDoorA1
import Derived.Test.YtiadfabhpagmpaaDoorB1
import Derived.WalkKit
import Derived.WalkSpells
import Derived.WalkLawsBesides
import Derived.Deep.QuietTactic
import Derived.BigQuiet
import Derived.BigRegion
import Derived.Deep.Cut
namespace Go.Proofs.YtiadfabhpagmpaaDoor
open Go.RowKit

theorem upto_any (x m : Int) (w : World) : Calls Tryd.prog 51 #[.int .i64 x, .int .i64 m] w fun e w' => e = .returned (.bool (decide (0 ≤ x ∧ x ≤ m))) ∧ w' = w := by
  go_enter Tryd.func51, Tryd.ntmps51
  by_cases h : 0 ≤ x
  · by_cases h1 : x ≤ m
    · go_wp2
      go_ret
      exact ⟨by simp [h, h1], rfl⟩
    · go_wp2
      go_ret
      exact ⟨by simp [h1], rfl⟩
  · go_wp2
    go_ret
    exact ⟨by simp; omega, rfl⟩

theorem count_any (x m : Int) (w : World) : Calls Tryd.prog 48 #[.int .i64 x, .int .i64 m] w fun e w' => e = .returned (.bool (decide (1 ≤ x ∧ x ≤ m))) ∧ w' = w := by
  go_enter Tryd.func48, Tryd.ntmps48
  by_cases h : 1 ≤ x
  · by_cases h1 : x ≤ m
    · go_wp2
      go_ret
      exact ⟨by simp [h, h1], rfl⟩
    · go_wp2
      go_ret
      exact ⟨by simp [h1], rfl⟩
  · go_wp2
    go_ret
    exact ⟨by simp; omega, rfl⟩

theorem in_one (x lo hi : Int) (w : World) : Calls Tryd.prog 18 #[.int .i64 x, .int .i64 lo, .int .i64 hi] w fun e w' => e = .returned (.bool (decide (lo ≤ x ∧ x ≤ hi))) ∧ w' = w := in_any x lo hi w

theorem block_any (n x : Int) (hn : 0 ≤ n ∧ n ≤ 1048576) (w : World) : Calls Tryd.prog 40 #[.int .i64 n, .int .i64 x] w fun e w' => e = .returned (.bool (decide (0 ≤ x ∧ x ≤ n - 1))) ∧ w' = w := by
  obtain ⟨d, hd⟩ : ∃ d, d = decide (0 ≤ x ∧ x ≤ n - 1) := ⟨_, rfl⟩
  have i1 := upto_any x (n - 1) w
  rw [← hd] at i1 ⊢
  clear hd
  go_enter Tryd.func40, Tryd.ntmps40
  go_wp2_with (go_at_call 51; (with_reducible refine (i1).mono ?_); rintro e w' ⟨rfl, hw⟩; obtain rfl := hw.symm)
  go_ret
  exact ⟨rfl, rfl⟩

theorem keepc {W w1 : World} (hb : Below W.heap.size W w1) {a : Addr} {v : Value} (h : W.cell? a = some v) : w1.cell? a = some v := (hb.cell (World.block_lt_of_cell? W _ h)).trans h

/-- A node, a link. -/
structure Nd where
  nm : ByteArray
  kd : Int
  nn : Int
structure Lk where
  fr : Int
  to : Int

/-- A list of nodes in memory. -/
def Nl (w : World) (v : Value) (n : Nat) (ns : Nat → Nd) : Prop := ∃ ao cap, v = .slice ao n cap ∧ n ≤ cap ∧ (0 < n → ∃ b off, ao = some ⟨b, off, none⟩ ∧ b < w.heap.size ∧ ∀ k, k < n → w.cell? ⟨b, off + k * 3, none⟩ = some (.string (ns k).nm) ∧ w.cell? ⟨b, off + k * 3 + 1, none⟩ = some (.int .i64 (ns k).kd) ∧ w.cell? ⟨b, off + k * 3 + 2, none⟩ = some (.int .i64 (ns k).nn))
/-- A list of links in memory. -/
def Ll (w : World) (v : Value) (n : Nat) (ls : Nat → Lk) : Prop := ∃ ao cap, v = .slice ao n cap ∧ n ≤ cap ∧ (0 < n → ∃ b off, ao = some ⟨b, off, none⟩ ∧ b < w.heap.size ∧ ∀ k, k < n → w.cell? ⟨b, off + k * 2, none⟩ = some (.int .i64 (ls k).fr) ∧ w.cell? ⟨b, off + k * 2 + 1, none⟩ = some (.int .i64 (ls k).to))

theorem Nl.below {w w' : World} {v : Value} {n : Nat} {ns : Nat → Nd} (h : Nl w v n ns) (hb : Below w.heap.size w w') : Nl w' v n ns := by
  obtain ⟨ao, cap, rfl, hcap, hc⟩ := h
  refine ⟨ao, cap, rfl, hcap, fun h0 => ?_⟩
  obtain ⟨b, off, rfl, hlt, hcell⟩ := hc h0
  refine ⟨b, off, rfl, Nat.lt_of_lt_of_le hlt hb.size, fun k hk => ?_⟩
  obtain ⟨c0, c1, c2⟩ := hcell k hk
  exact ⟨(hb.cell (p := ⟨b, off + k * 3, none⟩) hlt).trans c0, (hb.cell (p := ⟨b, off + k * 3 + 1, none⟩) hlt).trans c1, (hb.cell (p := ⟨b, off + k * 3 + 2, none⟩) hlt).trans c2⟩

theorem Ll.below {w w' : World} {v : Value} {n : Nat} {ns : Nat → Lk} (h : Ll w v n ns) (hb : Below w.heap.size w w') : Ll w' v n ns := by
  obtain ⟨ao, cap, rfl, hcap, hc⟩ := h
  refine ⟨ao, cap, rfl, hcap, fun h0 => ?_⟩
  obtain ⟨b, off, rfl, hlt, hcell⟩ := hc h0
  refine ⟨b, off, rfl, Nat.lt_of_lt_of_le hlt hb.size, fun k hk => ?_⟩
  obtain ⟨c0, c1⟩ := hcell k hk
  exact ⟨(hb.cell (p := ⟨b, off + k * 2, none⟩) hlt).trans c0, (hb.cell (p := ⟨b, off + k * 2 + 1, none⟩) hlt).trans c1⟩

theorem Nl.cells {w : World} {ao : Option Addr} {n cap : Nat} {ns : Nat → Nd} (h : Nl w (.slice ao n cap) n ns) : 0 < n → ∃ b off, ao = some ⟨b, off, none⟩ ∧ b < w.heap.size ∧ ∀ k, k < n → w.cell? ⟨b, off + k * 3, none⟩ = some (.string (ns k).nm) ∧ w.cell? ⟨b, off + k * 3 + 1, none⟩ = some (.int .i64 (ns k).kd) ∧ w.cell? ⟨b, off + k * 3 + 2, none⟩ = some (.int .i64 (ns k).nn) := by
  obtain ⟨a, c, e, _, h⟩ := h
  injection e with e
  subst e
  exact h

theorem Ll.cells {w : World} {ao : Option Addr} {n cap : Nat} {ns : Nat → Lk} (h : Ll w (.slice ao n cap) n ns) : 0 < n → ∃ b off, ao = some ⟨b, off, none⟩ ∧ b < w.heap.size ∧ ∀ k, k < n → w.cell? ⟨b, off + k * 2, none⟩ = some (.int .i64 (ns k).fr) ∧ w.cell? ⟨b, off + k * 2 + 1, none⟩ = some (.int .i64 (ns k).to) := by
  obtain ⟨a, c, e, _, h⟩ := h
  injection e with e
  subst e
  exact h

theorem Nl.open {w : World} {v : Value} {n : Nat} {ns : Nat → Nd} (h : Nl w v n ns) : ∃ ao cap, v = .slice ao n cap ∧ n ≤ cap := by
  obtain ⟨a, c, e, h1, _⟩ := h
  exact ⟨a, c, e, h1⟩

theorem Ll.open {w : World} {v : Value} {n : Nat} {ns : Nat → Lk} (h : Ll w v n ns) : ∃ ao cap, v = .slice ao n cap ∧ n ≤ cap := by
  obtain ⟨a, c, e, h1, _⟩ := h
  exact ⟨a, c, e, h1⟩

/-- As values. -/
abbrev Nd.v (x : Nd) : Value := .agg #[.string x.nm, .int .i64 x.kd, .int .i64 x.nn]
abbrev Lk.v (x : Lk) : Value := .agg #[.int .i64 x.fr, .int .i64 x.to]

end Go.Proofs.YtiadfabhpagmpaaDoor
