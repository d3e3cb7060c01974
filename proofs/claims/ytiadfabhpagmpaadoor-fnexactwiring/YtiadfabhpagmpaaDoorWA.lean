/- Rows of wires that a call owns. -/
import Derived.Test.YtiadfabhpagmpaaDoorAP
import Derived.Test.YtiadfabhpagmpaaDoorMK
import Derived.Test.YtiadfabhpagmpaaDoorI1
import Derived.Deep.Cut
namespace Go.Proofs.YtiadfabhpagmpaaDoor
open Go.RowKit

/-- A wire. -/
structure Wr where
  fr : Int
  to : Int
  gi : Int
  ta : Int
  ha : Int

/-- As a value. -/
abbrev Wr.v (s : Wr) : Value := .agg #[.int .i64 s.fr, .int .i64 s.to, .int .i64 s.gi, .int .i64 s.ta, .int .i64 s.ha]

/-- As a list of numbers. -/
def Wr.n (s : Wr) (k : Nat) : Int := match k with | 0 => s.fr | 1 => s.to | 2 => s.gi | 3 => s.ta | _ => s.ha

/-- Put into memory. -/
abbrev Wr.w (s : Wr) (w : World) : World := w.alloc (.cells #[.int .i64 s.fr, .int .i64 s.to, .int .i64 s.gi, .int .i64 s.ta, .int .i64 s.ha] 65)


/-- The slice holds n sections. -/
def Il5 (w : World) (v : Value) (n : Nat) (ss : Nat → Wr) : Prop := ∃ ao cap, v = .slice ao n cap ∧ n ≤ cap ∧ (0 < n → ∃ b off, ao = some ⟨b, off, none⟩ ∧ b < w.heap.size ∧ ∀ k, k < n → w.cell? ⟨b, off + k * 5, none⟩ = some (.int .i64 (ss k).fr) ∧ w.cell? ⟨b, off + k * 5 + 1, none⟩ = some (.int .i64 (ss k).to) ∧ w.cell? ⟨b, off + k * 5 + 2, none⟩ = some (.int .i64 (ss k).gi) ∧ w.cell? ⟨b, off + k * 5 + 3, none⟩ = some (.int .i64 (ss k).ta) ∧ w.cell? ⟨b, off + k * 5 + 4, none⟩ = some (.int .i64 (ss k).ha))

theorem Il5.below {w w' : World} {v : Value} {n : Nat} {ss : Nat → Wr} (h : Il5 w v n ss) (hb : Below w.heap.size w w') : Il5 w' v n ss := by
  obtain ⟨ao, cap, rfl, hcap, hc⟩ := h
  refine ⟨ao, cap, rfl, hcap, fun h0 => ?_⟩
  obtain ⟨b, off, rfl, hlt, hcell⟩ := hc h0
  refine ⟨b, off, rfl, Nat.lt_of_lt_of_le hlt hb.size, fun k hk => ?_⟩
  obtain ⟨c0, c1, c2, c3, c4⟩ := hcell k hk
  exact ⟨(hb.cell (p := ⟨b, off + k * 5, none⟩) hlt).trans c0, (hb.cell (p := ⟨b, off + k * 5 + 1, none⟩) hlt).trans c1, (hb.cell (p := ⟨b, off + k * 5 + 2, none⟩) hlt).trans c2, (hb.cell (p := ⟨b, off + k * 5 + 3, none⟩) hlt).trans c3, (hb.cell (p := ⟨b, off + k * 5 + 4, none⟩) hlt).trans c4⟩

/-- Sections as numbers, one after the other. -/
def zs (ss : Nat → Wr) (i : Nat) : Int := (ss (i / 5)).n (i % 5)

theorem zs_at (ss : Nat → Wr) (k j : Nat) (h : j < 5) : zs ss (k * 5 + j) = (ss k).n j := by
  unfold zs
  rw [show (k * 5 + j) / 5 = k by omega, show (k * 5 + j) % 5 = j by omega]

theorem own5_cell {w : World} {B g n cap : Nat} {z : Nat → Int} (h : w.ownsRow B 31 5 (.slice (some ⟨g, 0, none⟩) n cap) n (ils z (n * 5))) {j : Nat} (hj : j < n * 5) : w.cell? ⟨g, j, none⟩ = some (.int .i64 (z j)) := by
  rw [World.ownsRow.cellAt h j hj, ils_get hj]

theorem il5_of_own {w : World} {B n : Nat} {v : Value} {ss : Nat → Wr} (h : w.ownsRow B 31 5 v n (ils (zs ss) (n * 5))) : Il5 w v n ss := by
  rcases h.2 with ⟨rfl, rfl⟩ | ⟨g, cap, cur, rfl, hb, hg, hc, _⟩
  · exact ⟨none, 0, rfl, Nat.le_refl _, fun h => absurd h (by omega)⟩
  · refine ⟨_, _, rfl, hc, fun h0 => ⟨g, 0, rfl, (Array.getElem?_eq_some_iff.1 hg).1, fun k hk => ?_⟩⟩
    rw [Nat.zero_add]
    exact ⟨(own5_cell h (j := k * 5) (by omega)).trans (by rw [show zs ss (k * 5) = (ss k).n 0 from zs_at ss k 0 (by omega)]; rfl), (own5_cell h (j := k * 5 + 1) (by omega)).trans (by rw [zs_at ss k 1 (by omega)]; rfl), (own5_cell h (j := k * 5 + 2) (by omega)).trans (by rw [zs_at ss k 2 (by omega)]; rfl), (own5_cell h (j := k * 5 + 3) (by omega)).trans (by rw [zs_at ss k 3 (by omega)]; rfl), (own5_cell h (j := k * 5 + 4) (by omega)).trans (by rw [zs_at ss k 4 (by omega)]; rfl)⟩

theorem Tryd.info65 : (Tryd.prog.info? 65).map (fun i => (i.zero, i.size, i.bytes)) = some (some (.agg #[.int .i64 0, .int .i64 0, .int .i64 0, .int .i64 0, .int .i64 0]), 5, 40) := by kernel_rfl

theorem made5 (n : Nat) : (madeCells (Value.agg #[.int .i64 0, .int .i64 0, .int .i64 0, .int .i64 0, .int .i64 0]).cells (n * 5)).toList = ils (fun _ => 0) (n * 5) := by
  have e : (Value.agg #[.int .i64 0, .int .i64 0, .int .i64 0, .int .i64 0, .int .i64 0]).cells = #[.int .i64 0, .int .i64 0, .int .i64 0, .int .i64 0, .int .i64 0] := by simp [Value.cells]
  rw [e]
  apply List.ext_getElem
  · simp [madeCells, ils]
  · intro i h1 h2
    have h5 : i % 5 < 5 := Nat.mod_lt _ (by decide)
    simp only [madeCells, ils, Array.toList_map, List.getElem_map]
    simp
    match i % 5, h5 with
    | 0, _ => rfl
    | 1, _ => rfl
    | 2, _ => rfl
    | 3, _ => rfl
    | 4, _ => rfl

theorem eqSec_yes (s : Wr) (w : World) : Calls Tryd.prog 30 #[s.v, s.v] w fun e w' => e = .returned (.bool true) ∧ Below w.heap.size w w' := by
  have b2 : Below w.heap.size w (s.w (s.w w)) := bstep (below_one _ _) (below_one _ _)
  go_enter Tryd.func30, Tryd.ntmps30
  go_wp2
  go_ret
  exact ⟨rfl, b2⟩

set_option maxHeartbeats 2000000 in
theorem eq5_yes {w : World} {v u : Value} {n : Nat} {ss : Nat → Wr} (hv : Il5 w v n ss) (hu : Il5 w u n ss) (hn : n ≤ 1048576) :
    Calls Tryd.prog 12 #[v, u] w fun e w' => e = .returned (.bool true) ∧ Below w.heap.size w w' := by
  obtain ⟨ao, cap, rfl, hcap, hc⟩ := hv
  obtain ⟨bo, cap2, rfl, hcap2, hc2⟩ := hu
  have HC : Hid (0 < n → ∃ b off, ao = some ⟨b, off, none⟩ ∧ b < w.heap.size ∧ ∀ k, k < n → w.cell? ⟨b, off + k * 5, none⟩ = some (.int .i64 (ss k).fr) ∧ w.cell? ⟨b, off + k * 5 + 1, none⟩ = some (.int .i64 (ss k).to) ∧ w.cell? ⟨b, off + k * 5 + 2, none⟩ = some (.int .i64 (ss k).gi) ∧ w.cell? ⟨b, off + k * 5 + 3, none⟩ = some (.int .i64 (ss k).ta) ∧ w.cell? ⟨b, off + k * 5 + 4, none⟩ = some (.int .i64 (ss k).ha)) := hc
  have HC2 : Hid (0 < n → ∃ b off, bo = some ⟨b, off, none⟩ ∧ b < w.heap.size ∧ ∀ k, k < n → w.cell? ⟨b, off + k * 5, none⟩ = some (.int .i64 (ss k).fr) ∧ w.cell? ⟨b, off + k * 5 + 1, none⟩ = some (.int .i64 (ss k).to) ∧ w.cell? ⟨b, off + k * 5 + 2, none⟩ = some (.int .i64 (ss k).gi) ∧ w.cell? ⟨b, off + k * 5 + 3, none⟩ = some (.int .i64 (ss k).ta) ∧ w.cell? ⟨b, off + k * 5 + 4, none⟩ = some (.int .i64 (ss k).ha)) := hc2
  clear hc hc2
  go_enter Tryd.func12, Tryd.ntmps12
  go_wp2
  go_loopw [5] (fun i wr => ∃ k : Nat, i = .int .i64 k ∧ k ≤ n ∧ Hid (Below w.heap.size w wr)) (fun i _ => n - (intOf i).toNat)
  case atStart => exact ⟨0, rfl, by omega, Below.refl _ _⟩
  case round =>
    obtain ⟨k, rfl, hk, hbl⟩ := hrel
    by_cases h1 : k < n
    · obtain ⟨b, off, rfl, hlt, hcell⟩ := HC.out (by omega)
      obtain ⟨b2, off2, rfl, hlt2, hcell2⟩ := HC2.out (by omega)
      obtain ⟨c0, c1, c2, c3, c4⟩ := hcell k h1
      obtain ⟨d0, d1, d2, d3, d4⟩ := hcell2 k h1
      have ra : ∀ X, Below w.heap.size w X → X.cell? ⟨b, off + k * 5, none⟩ = some (.int .i64 (ss k).fr) ∧ X.cell? ⟨b, off + k * 5 + 1, none⟩ = some (.int .i64 (ss k).to) ∧ X.cell? ⟨b, off + k * 5 + 2, none⟩ = some (.int .i64 (ss k).gi) ∧ X.cell? ⟨b, off + k * 5 + 3, none⟩ = some (.int .i64 (ss k).ta) ∧ X.cell? ⟨b, off + k * 5 + 4, none⟩ = some (.int .i64 (ss k).ha) := fun X hb => ⟨(hb.cell (p := ⟨b, off + k * 5, none⟩) hlt).trans c0, (hb.cell (p := ⟨b, off + k * 5 + 1, none⟩) hlt).trans c1, (hb.cell (p := ⟨b, off + k * 5 + 2, none⟩) hlt).trans c2, (hb.cell (p := ⟨b, off + k * 5 + 3, none⟩) hlt).trans c3, (hb.cell (p := ⟨b, off + k * 5 + 4, none⟩) hlt).trans c4⟩
      have rb : ∀ X, Below w.heap.size w X → X.cell? ⟨b2, off2 + k * 5, none⟩ = some (.int .i64 (ss k).fr) ∧ X.cell? ⟨b2, off2 + k * 5 + 1, none⟩ = some (.int .i64 (ss k).to) ∧ X.cell? ⟨b2, off2 + k * 5 + 2, none⟩ = some (.int .i64 (ss k).gi) ∧ X.cell? ⟨b2, off2 + k * 5 + 3, none⟩ = some (.int .i64 (ss k).ta) ∧ X.cell? ⟨b2, off2 + k * 5 + 4, none⟩ = some (.int .i64 (ss k).ha) := fun X hb => ⟨(hb.cell (p := ⟨b2, off2 + k * 5, none⟩) hlt2).trans d0, (hb.cell (p := ⟨b2, off2 + k * 5 + 1, none⟩) hlt2).trans d1, (hb.cell (p := ⟨b2, off2 + k * 5 + 2, none⟩) hlt2).trans d2, (hb.cell (p := ⟨b2, off2 + k * 5 + 3, none⟩) hlt2).trans d3, (hb.cell (p := ⟨b2, off2 + k * 5 + 4, none⟩) hlt2).trans d4⟩
      have hs := eqSec_yes (ss k)
      have l0 : Below w.heap.size w wr.drew := hbl.out.drew
      clear hcell hcell2 hlt hlt2 c0 c1 c2 c3 c4 d0 d1 d2 d3 d4
      generalize ss k = s at ra rb hs
      go_upto_region 6 with fail
      refine wp_region_any (by kernel_rfl) ?_
      change wpAny _ _ _ _ _ _ _ (World.drew _)
      refine wpI_any (I := fun X => Below w.heap.size w X) _ _ _ _ ?_
      refine wpI_take (i := 0) (v := ?_) rfl (by kernel_rfl) (by kernel_rfl) (by kernel_rfl) (fun _ _ _ h => h) ⟨by rfl, ?_⟩ ?_
      rotate_left
      · intro X hI; go_simp; try go_bits
        try rw [if_pos (by omega)]
        try with_reducible rfl
      refine wpI_take (i := 1) (v := ?_) rfl (by kernel_rfl) (by kernel_rfl) (by kernel_rfl) (fun _ _ _ h => h) ⟨by rfl, ?_⟩ ?_
      rotate_left
      · intro X hI; go_simp; try go_bits
        try rw [if_pos (by omega)]
        try with_reducible rfl
      refine wpI_take (i := 2) (v := ?_) rfl (by kernel_rfl) (by kernel_rfl) (by kernel_rfl) (fun _ _ _ h => h) ⟨by rfl, ?_⟩ ?_
      rotate_left
      · intro X hI; go_simp; try go_bits
        try rw [if_pos (by omega)]
        try with_reducible rfl
      refine wpI_take (i := 3) (v := ?_) rfl (by kernel_rfl) (by kernel_rfl) (by kernel_rfl) (fun _ _ _ h => h) ⟨by rfl, ?_⟩ ?_
      rotate_left
      · intro X hI; obtain ⟨c0, c1, c2, c3, c4⟩ := ra X hI; go_simp; try go_bits
        try rw [if_pos (by omega)]
        try with_reducible rfl
      refine wpI_take (i := 4) (v := ?_) rfl (by kernel_rfl) (by kernel_rfl) (by kernel_rfl) (fun _ _ _ h => h) ⟨by rfl, ?_⟩ ?_
      rotate_left
      · intro X hI; go_simp; try go_bits
        try rw [if_pos (by omega)]
        try with_reducible rfl
      refine wpI_take (i := 5) (v := ?_) rfl (by kernel_rfl) (by kernel_rfl) (by kernel_rfl) (fun _ _ _ h => h) ⟨by rfl, ?_⟩ ?_
      rotate_left
      · intro X hI; go_simp; try go_bits
        try rw [if_pos (by omega)]
        try with_reducible rfl
      refine wpI_take (i := 6) (v := ?_) rfl (by kernel_rfl) (by kernel_rfl) (by kernel_rfl) (fun _ _ _ h => h) ⟨by rfl, ?_⟩ ?_
      rotate_left
      · intro X hI; go_simp; try go_bits
        try rw [if_pos (by omega)]
        try with_reducible rfl
      refine wpI_take (i := 7) (v := ?_) rfl (by kernel_rfl) (by kernel_rfl) (by kernel_rfl) (fun _ _ _ h => h) ⟨by rfl, ?_⟩ ?_
      rotate_left
      · intro X hI; obtain ⟨c0, c1, c2, c3, c4⟩ := rb X hI; go_simp; try go_bits
        try rw [if_pos (by omega)]
        try with_reducible rfl
      refine wpI_only (i := 8) rfl (by kernel_rfl) l0 (by rfl) ?_
      intro K hK
      go_simp
      go_wp2_with (go_at_call 30; refine (hs _).mono ?_; rintro e x8 ⟨rfl, hb8⟩; have l1 := l0.trans (hb8.mono l0.size))
      refine wpI_only (i := 9) rfl (by kernel_rfl) l1 (by rfl) ?_
      intro K hK
      go_simp
      try go_bits
      refine hK _ _ ?_
      refine wpI_done l1 (by kernel_rfl) ?_ _
      go_wp2
      go_roundw
      case rel => exact ⟨k + 1, by go_num, by omega, l1⟩
      case measure => simp [intOf]; omega
    · obtain rfl : k = n := by omega
      go_wp2
      go_ret
      exact ⟨rfl, hbl.out⟩

set_option maxHeartbeats 4000000 in
theorem mark_5 {w : World} {B g n cap : Nat} {f : Nat → Int} {K : Int} (ho : w.ownsRow B 31 5 (.slice (some ⟨g, 0, none⟩) n cap) n (ils f (n * 5))) (hn : n ≤ 1048576) (hK : 0 ≤ K ∧ K ≤ 1099511627776) :
    Calls Tryd.prog 14 #[.slice (some ⟨g, 0, none⟩) n cap, .int .i64 K] w fun e w' => e = .returned (.int .i64 (K + 5 * (n : Int))) ∧ Only g w w' := by
  have HO : Hid (w.ownsRow B 31 5 (.slice (some ⟨g, 0, none⟩) n cap) n (ils f (n * 5))) := ho
  clear ho
  go_enter Tryd.func14, Tryd.ntmps14
  go_wp2
  go_loopw [1, 5] (fun kk i wr => ∃ q : Nat, i = .int .i64 q ∧ kk = .int .i64 (K + 5 * (q : Int)) ∧ q ≤ n ∧ Hid ((∃ f', wr.ownsRow B 31 5 (.slice (some ⟨g, 0, none⟩) n cap) n (ils f' (n * 5))) ∧ Only g w wr)) (fun _ i _ => n - (intOf i).toNat)
  case atStart => exact ⟨0, rfl, by simp, by omega, ⟨f, HO.out⟩, Only.refl _ _⟩
  case round =>
    obtain ⟨q, rfl, rfl, hq, hrel⟩ := hrel
    obtain ⟨⟨f', hf⟩, hon⟩ := hrel.out
    by_cases h1 : q < n
    · have d0 := own5_cell hf (j := q * 5) (by omega)
      have d1 := own5_cell hf (j := q * 5 + 1) (by omega)
      have d2 := own5_cell hf (j := q * 5 + 2) (by omega)
      have d3 := own5_cell hf (j := q * 5 + 3) (by omega)
      have d4 := own5_cell hf (j := q * 5 + 4) (by omega)
      have z0 := World.ownsRow.frozenAt hf (q * 5)
      have z1 := World.ownsRow.frozenAt hf (q * 5 + 1)
      have z2 := World.ownsRow.frozenAt hf (q * 5 + 2)
      have z3 := World.ownsRow.frozenAt hf (q * 5 + 3)
      have z4 := World.ownsRow.frozenAt hf (q * 5 + 4)
      have st := (World.ownsRow.stored (World.ownsRow.stored (World.ownsRow.stored (World.ownsRow.stored (World.ownsRow.stored hf (q * 5) (.int .i64 (K + 5 * (q : Int)))).1 (q * 5 + 1) (.int .i64 (K + 5 * (q : Int) + 1))).1 (q * 5 + 2) (.int .i64 (K + 5 * (q : Int) + 1 + 1))).1 (q * 5 + 3) (.int .i64 (K + 5 * (q : Int) + 1 + 1 + 1))).1 (q * 5 + 4) (.int .i64 (K + 5 * (q : Int) + 1 + 1 + 1 + 1))).1
      rw [ils_put, ils_put, ils_put, ils_put, ils_put] at st
      have OP : Hid _ := st
      have ON : Hid _ := (((((hon.put (q * 5) (.int .i64 (K + 5 * (q : Int)))).put (q * 5 + 1) (.int .i64 (K + 5 * (q : Int) + 1))).put (q * 5 + 2) (.int .i64 (K + 5 * (q : Int) + 1 + 1))).put (q * 5 + 3) (.int .i64 (K + 5 * (q : Int) + 1 + 1 + 1))).put (q * 5 + 4) (.int .i64 (K + 5 * (q : Int) + 1 + 1 + 1 + 1)))
      clear hf hon hrel st
      go_wp2
      go_roundw
      case rel => exact ⟨q + 1, by go_num, by first | go_num | (congr 1; omega), by omega, ⟨_, OP.out⟩, ON.out⟩
      case measure => simp [intOf]; omega
    · obtain rfl : q = n := by omega
      have ON : Hid _ := hon
      clear hf hon hrel
      go_wp2
      go_ret
      exact ⟨rfl, ON.out⟩

set_option maxHeartbeats 1000000 in
theorem mark_nil5 (w : World) (K : Int) : Calls Tryd.prog 14 #[.slice none 0 0, .int .i64 K] w fun e w' => e = .returned (.int .i64 K) ∧ w' = w := by
  go_enter Tryd.func14, Tryd.ntmps14
  go_wp2
  go_loopw [1, 5] (fun kk i wr => i = .int .i64 0 ∧ kk = .int .i64 K ∧ wr = w) (fun _ _ _ => 0)
  case atStart => exact ⟨rfl, rfl, rfl⟩
  case round =>
    obtain ⟨rfl, rfl, rfl⟩ := hrel
    go_wp2
    go_ret
    exact ⟨rfl, rfl⟩

theorem marked5 {w : World} {B n : Nat} {v : Value} {f : Nat → Int} {K : Int} (h : w.ownsRow B 31 5 v n (ils f (n * 5))) (hB : B ≤ w.heap.size) (hn : n ≤ 1048576) (hK : 0 ≤ K ∧ K ≤ 1099511627776) :
    Calls Tryd.prog 14 #[v, .int .i64 K] w fun e w' => e = .returned (.int .i64 (K + 5 * (n : Int))) ∧ ∃ g, B ≤ g ∧ (v.ownBlock = some g ∨ w' = w) ∧ Only g w w' := by
  rcases h.2 with ⟨rfl, rfl⟩ | ⟨g, cap, cur, rfl, hb, hg, _⟩
  · refine (mark_nil5 w K).mono ?_
    rintro e w' ⟨rfl, rfl⟩
    exact ⟨by simp, w'.heap.size, hB, .inr rfl, Only.refl _ _⟩
  · refine (mark_5 h hn hK).mono ?_
    rintro e w' ⟨rfl, hon⟩
    exact ⟨rfl, g, hb, .inl rfl, hon⟩
end Go.Proofs.YtiadfabhpagmpaaDoor
