/- Rows of wires: marks, and what is held. -/
import Derived.Test.YtiadfabhpagmpaaDoorWA
import Derived.WalkKit
import Derived.WalkSpells
import Derived.WalkLawsBesides
import Derived.Deep.QuietTactic
import Derived.BigQuiet
import Derived.BigRegion
import Derived.Deep.Cut
import Derived.BigRegion
namespace Go.Proofs.YtiadfabhpagmpaaDoor
open Go.RowKit

theorem own5w_cell {w : World} {B g n cap : Nat} {z : Nat → Int} (h : w.ownsRow B 65 5 (.slice (some ⟨g, 0, none⟩) n cap) n (ils z (n * 5))) {j : Nat} (hj : j < n * 5) : w.cell? ⟨g, j, none⟩ = some (.int .i64 (z j)) := by
  rw [World.ownsRow.cellAt h j hj, ils_get hj]

theorem il5w_of_own {w : World} {B n : Nat} {v : Value} {ss : Nat → Wr} (h : w.ownsRow B 65 5 v n (ils (zs ss) (n * 5))) : Il5 w v n ss := by
  rcases h.2 with ⟨rfl, rfl⟩ | ⟨g, cap, cur, rfl, hb, hg, hcap, _⟩
  · exact ⟨none, 0, rfl, Nat.le_refl _, fun h => absurd h (by omega)⟩
  · refine ⟨some ⟨g, 0, none⟩, cap, rfl, hcap, fun h0 => ⟨g, 0, rfl, (World.ownsRow.lt h g rfl).2, fun k hk => ?_⟩⟩
    rw [Nat.zero_add]
    exact ⟨(own5w_cell h (j := k * 5) (by omega)).trans (by rw [show zs ss (k * 5) = (ss k).n 0 from zs_at ss k 0 (by omega)]; rfl), (own5w_cell h (j := k * 5 + 1) (by omega)).trans (by rw [zs_at ss k 1 (by omega)]; rfl), (own5w_cell h (j := k * 5 + 2) (by omega)).trans (by rw [zs_at ss k 2 (by omega)]; rfl), (own5w_cell h (j := k * 5 + 3) (by omega)).trans (by rw [zs_at ss k 3 (by omega)]; rfl), (own5w_cell h (j := k * 5 + 4) (by omega)).trans (by rw [zs_at ss k 4 (by omega)]; rfl)⟩

/-- The first so many are marked. -/
def mkd (K : Int) (q : Nat) (f : Nat → Int) (i : Nat) : Int := if i < q then K + (i : Int) else f i

theorem mkd_five (K : Int) (q : Nat) (f : Nat → Int) : (fun i => if i = q * 5 + 4 then K + 5 * (q : Int) + 1 + 1 + 1 + 1 else if i = q * 5 + 3 then K + 5 * (q : Int) + 1 + 1 + 1 else if i = q * 5 + 2 then K + 5 * (q : Int) + 1 + 1 else if i = q * 5 + 1 then K + 5 * (q : Int) + 1 else if i = q * 5 then K + 5 * (q : Int) else mkd K (q * 5) f i) = mkd K ((q + 1) * 5) f := by
  funext i
  unfold mkd
  by_cases h4 : i = q * 5 + 4
  · rw [if_pos h4, if_pos (by omega)]; omega
  rw [if_neg h4]
  by_cases h3 : i = q * 5 + 3
  · rw [if_pos h3, if_pos (by omega)]; omega
  rw [if_neg h3]
  by_cases h2 : i = q * 5 + 2
  · rw [if_pos h2, if_pos (by omega)]; omega
  rw [if_neg h2]
  by_cases h1 : i = q * 5 + 1
  · rw [if_pos h1, if_pos (by omega)]; omega
  rw [if_neg h1]
  by_cases h0 : i = q * 5
  · rw [if_pos h0, if_pos (by omega)]; omega
  rw [if_neg h0]
  by_cases h : i < q * 5
  · rw [if_pos h, if_pos (by omega)]
  · rw [if_neg h, if_neg (by omega)]

set_option maxHeartbeats 4000000 in
theorem markw_5 {w : World} {B g n cap : Nat} {f : Nat → Int} {K : Int} (ho : w.ownsRow B 65 5 (.slice (some ⟨g, 0, none⟩) n cap) n (ils f (n * 5))) (hn : n ≤ 1048576) (hK : 0 ≤ K ∧ K ≤ 1099511627776) :
    Calls Tryd.prog 14 #[.slice (some ⟨g, 0, none⟩) n cap, .int .i64 K] w fun e w' => e = .returned (.int .i64 (K + 5 * (n : Int))) ∧ Only g w w' ∧ w'.ownsRow B 65 5 (.slice (some ⟨g, 0, none⟩) n cap) n (ils (mkF K) (n * 5)) := by
  have HO : Hid (w.ownsRow B 65 5 (.slice (some ⟨g, 0, none⟩) n cap) n (ils (mkd K (0 * 5) f) (n * 5))) := by
    show w.ownsRow B 65 5 (.slice (some ⟨g, 0, none⟩) n cap) n (ils (mkd K (0 * 5) f) (n * 5))
    rw [show ils (mkd K (0 * 5) f) (n * 5) = ils f (n * 5) from ils_congr (fun k _ => if_neg (by omega))]
    exact ho
  clear ho
  go_enter Tryd.func14, Tryd.ntmps14
  go_wp2
  go_loopw [1, 5] (fun kk i wr => ∃ q : Nat, i = .int .i64 q ∧ kk = .int .i64 (K + 5 * (q : Int)) ∧ q ≤ n ∧ Hid (wr.ownsRow B 65 5 (.slice (some ⟨g, 0, none⟩) n cap) n (ils (mkd K (q * 5) f) (n * 5)) ∧ Only g w wr)) (fun _ i _ => n - (intOf i).toNat)
  case atStart => exact ⟨0, rfl, by simp, by omega, HO.out, Only.refl _ _⟩
  case round =>
    obtain ⟨q, rfl, rfl, hq, hrel⟩ := hrel
    obtain ⟨hf, hon⟩ := hrel.out
    by_cases h1 : q < n
    · have d0 := own5w_cell hf (j := q * 5) (by omega)
      have d1 := own5w_cell hf (j := q * 5 + 1) (by omega)
      have d2 := own5w_cell hf (j := q * 5 + 2) (by omega)
      have d3 := own5w_cell hf (j := q * 5 + 3) (by omega)
      have d4 := own5w_cell hf (j := q * 5 + 4) (by omega)
      have z0 := World.ownsRow.frozenAt hf (q * 5)
      have z1 := World.ownsRow.frozenAt hf (q * 5 + 1)
      have z2 := World.ownsRow.frozenAt hf (q * 5 + 2)
      have z3 := World.ownsRow.frozenAt hf (q * 5 + 3)
      have z4 := World.ownsRow.frozenAt hf (q * 5 + 4)
      have st := (World.ownsRow.stored (World.ownsRow.stored (World.ownsRow.stored (World.ownsRow.stored (World.ownsRow.stored hf (q * 5) (.int .i64 (K + 5 * (q : Int)))).1 (q * 5 + 1) (.int .i64 (K + 5 * (q : Int) + 1))).1 (q * 5 + 2) (.int .i64 (K + 5 * (q : Int) + 1 + 1))).1 (q * 5 + 3) (.int .i64 (K + 5 * (q : Int) + 1 + 1 + 1))).1 (q * 5 + 4) (.int .i64 (K + 5 * (q : Int) + 1 + 1 + 1 + 1))).1
      rw [ils_put, ils_put, ils_put, ils_put, ils_put] at st
      rw [mkd_five] at st
      have OP : Hid _ := st
      have ON : Hid _ := (((((hon.put (q * 5) (.int .i64 (K + 5 * (q : Int)))).put (q * 5 + 1) (.int .i64 (K + 5 * (q : Int) + 1))).put (q * 5 + 2) (.int .i64 (K + 5 * (q : Int) + 1 + 1))).put (q * 5 + 3) (.int .i64 (K + 5 * (q : Int) + 1 + 1 + 1))).put (q * 5 + 4) (.int .i64 (K + 5 * (q : Int) + 1 + 1 + 1 + 1)))
      clear hf hon hrel st
      go_wp2
      go_roundw
      case rel => exact ⟨q + 1, by go_num, by first | go_num | (congr 1; omega), by omega, OP.out, ON.out⟩
      case measure => simp [intOf]; omega
    · obtain rfl : q = n := by omega
      have ON : Hid (Only g w wr ∧ wr.ownsRow B 65 5 (.slice (some ⟨g, 0, none⟩) q cap) q (ils (mkF K) (q * 5))) := ⟨hon, by rw [ils_congr (g := mkd K (q * 5) f) (fun k hk => by unfold mkd mkF; rw [if_pos hk])]; exact hf⟩
      clear hf hon hrel
      go_wp2
      go_ret
      exact ⟨rfl, ON.out⟩

set_option maxHeartbeats 4000000 in
theorem heldw_5 {w : World} {B g n cap : Nat} {K : Int} (ho : w.ownsRow B 65 5 (.slice (some ⟨g, 0, none⟩) n cap) n (ils (mkF K) (n * 5))) (hn : n ≤ 1048576) (hK : 0 ≤ K ∧ K ≤ 1099511627776) :
    Calls Tryd.prog 15 #[.slice (some ⟨g, 0, none⟩) n cap, .int .i64 K] w fun e w' => e = .returned (.int .i64 (K + 5 * (n : Int))) ∧ w' = w := by
  have HO : Hid (w.ownsRow B 65 5 (.slice (some ⟨g, 0, none⟩) n cap) n (ils (mkF K) (n * 5))) := ho
  clear ho
  go_enter Tryd.func15, Tryd.ntmps15
  go_wp2
  go_loopw [1, 5] (fun kk i wr => ∃ q : Nat, i = .int .i64 q ∧ kk = .int .i64 (K + 5 * (q : Int)) ∧ q ≤ n ∧ wr = w) (fun _ i _ => n - (intOf i).toNat)
  case atStart => exact ⟨0, rfl, by simp, by omega, rfl⟩
  case round =>
    obtain ⟨q, rfl, rfl, hq, rfl⟩ := hrel
    by_cases h1 : q < n
    · have d0 : wr.cell? ⟨g, q * 5, none⟩ = some (.int .i64 (K + 5 * (q : Int))) := by rw [own5w_cell HO.out (j := q * 5) (by omega)]; unfold mkF; congr 2; omega
      have d1 : wr.cell? ⟨g, q * 5 + 1, none⟩ = some (.int .i64 (K + 5 * (q : Int) + 1)) := by rw [own5w_cell HO.out (j := q * 5 + 1) (by omega)]; unfold mkF; congr 2; omega
      have d2 : wr.cell? ⟨g, q * 5 + 2, none⟩ = some (.int .i64 (K + 5 * (q : Int) + 1 + 1)) := by rw [own5w_cell HO.out (j := q * 5 + 2) (by omega)]; unfold mkF; congr 2; omega
      have d3 : wr.cell? ⟨g, q * 5 + 3, none⟩ = some (.int .i64 (K + 5 * (q : Int) + 1 + 1 + 1)) := by rw [own5w_cell HO.out (j := q * 5 + 3) (by omega)]; unfold mkF; congr 2; omega
      have d4 : wr.cell? ⟨g, q * 5 + 4, none⟩ = some (.int .i64 (K + 5 * (q : Int) + 1 + 1 + 1 + 1)) := by rw [own5w_cell HO.out (j := q * 5 + 4) (by omega)]; unfold mkF; congr 2; omega
      go_wp2
      go_roundw
      case rel => exact ⟨q + 1, by go_num, by first | go_num | (congr 1; omega), by omega, by trivial⟩
      case measure => simp [intOf]; omega
    · obtain rfl : q = n := by omega
      go_wp2
      go_ret
      exact ⟨rfl, rfl⟩

set_option maxHeartbeats 1000000 in
theorem heldw_nil (w : World) (K : Int) : Calls Tryd.prog 15 #[.slice none 0 0, .int .i64 K] w fun e w' => e = .returned (.int .i64 K) ∧ w' = w := by
  go_enter Tryd.func15, Tryd.ntmps15
  go_wp2
  go_loopw [1, 5] (fun kk i wr => i = .int .i64 0 ∧ kk = .int .i64 K ∧ wr = w) (fun _ _ _ => 0)
  case atStart => exact ⟨rfl, rfl, rfl⟩
  case round =>
    obtain ⟨rfl, rfl, rfl⟩ := hrel
    go_wp2
    go_ret
    exact ⟨rfl, rfl⟩

/-- Marks put into a row that a call made: what lay below stays. -/
theorem markedw {w : World} {B n : Nat} {v : Value} {f : Nat → Int} {K : Int} (h : w.ownsRow B 65 5 v n (ils f (n * 5))) (hB : B ≤ w.heap.size) (hn : n ≤ 1048576) (hK : 0 ≤ K ∧ K ≤ 1099511627776) :
    Calls Tryd.prog 14 #[v, .int .i64 K] w fun e w' => e = .returned (.int .i64 (K + 5 * (n : Int))) ∧ (∃ g, B ≤ g ∧ (v.ownBlock = some g ∨ w' = w) ∧ Only g w w') ∧ w'.ownsRow B 65 5 v n (ils (mkF K) (n * 5)) := by
  rcases h.2 with ⟨rfl, rfl⟩ | ⟨g, cap, cur, rfl, hb, hg, _⟩
  · refine (mark_nil5 w K).mono ?_
    rintro e w' ⟨rfl, rfl⟩
    refine ⟨by simp, ⟨w'.heap.size, hB, .inr rfl, Only.refl _ _⟩, ?_⟩
    rw [show ils (mkF K) (0 * 5) = ils f (0 * 5) by rfl]
    exact h
  · refine (markw_5 h hn hK).mono ?_
    rintro e w' ⟨rfl, hon, ho⟩
    exact ⟨rfl, ⟨g, hb, .inl rfl, hon⟩, ho⟩

theorem heldw {w : World} {B n : Nat} {v : Value} {K : Int} (h : w.ownsRow B 65 5 v n (ils (mkF K) (n * 5))) (hn : n ≤ 1048576) (hK : 0 ≤ K ∧ K ≤ 1099511627776) :
    Calls Tryd.prog 15 #[v, .int .i64 K] w fun e w' => e = .returned (.int .i64 (K + 5 * (n : Int))) ∧ w' = w := by
  rcases h.2 with ⟨rfl, rfl⟩ | ⟨g, cap, cur, rfl, hb, hg, _⟩
  · refine (heldw_nil w K).mono ?_
    rintro e w' ⟨rfl, rfl⟩
    exact ⟨by simp, rfl⟩
  · exact heldw_5 h hn hK

end Go.Proofs.YtiadfabhpagmpaaDoor
