/- Plans that are right: the model. -/
import Derived.Test.YtiadfabhpagmpaaDoorPI
import Derived.Test.YtiadfabhpagmpaaDoorI2
import Derived.WalkKit
import Derived.WalkSpells
import Derived.WalkLawsBesides
import Derived.Deep.QuietTactic
import Derived.BigQuiet
import Derived.BigRegion
import Derived.Deep.Cut
import Derived.BigRegion
namespace Go.Proofs.YtiadfabhpagmpaaDoor
open Go.RowKit

theorem info3' : (Tryd.prog.info? 3).map (fun i => (i.zero, i.size, i.bytes)) = some (some (.int .i64 0), 1, 8) := by kernel_rfl

theorem first_is {n k : Nat} {ns : Nat → Nd} {j : Int} (hk : k < n) (h : FirstNm n ns (ns k).nm j) : ((∀ i, i < k → (ns i).nm ≠ (ns k).nm) → j = (k : Int)) ∧ ((¬ ∀ i, i < k → (ns i).nm ≠ (ns k).nm) → j ≠ (k : Int)) := by
  rcases h with ⟨h1, _⟩ | ⟨q, rfl, hq, he, hf⟩
  · exact absurd rfl (h1 k hk)
  · refine ⟨fun h2 => ?_, fun h2 e => h2 ?_⟩
    · rcases Nat.lt_trichotomy q k with h3 | h3 | h3
      · exact absurd he (h2 q h3)
      · rw [h3]
      · exact absurd rfl (hf k h3)
    · have : q = k := by omega
      subst this
      exact hf

theorem made_zero' (n : Nat) : (madeCells (Value.int .i64 0).cells (n * 1)).toList = ils (fun _ => 0) n := by
  have e : (Value.int .i64 0).cells = #[.int .i64 0] := by simp [Value.cells]
  rw [e]
  apply List.ext_getElem
  · simp [madeCells, ils]
  · intro i h1 h2
    simp [madeCells, ils, Nat.mod_one]

set_option maxRecDepth 20000 in
set_option maxHeartbeats 8000000 in
theorem sPlan_any {w : World} {v u : Value} {n m : Nat} {ns : Nat → Nd} {ls : Nat → Lk} (hv : Nl w v n ns) (hu : Ll w u m ls) (hs : ∀ i, i < n → (ns i).nm.size ≤ 1048576) (hn1 : n ≤ 1048576) (hm1 : m ≤ 1048576) :
    Calls Tryd.prog 6 #[.agg #[v, u]] w fun e w' => ∃ r : Bool, e = .returned (.bool r) ∧ (r = true ↔ Pok n m ns ls) ∧ Below w.heap.size w w' := by
  have HV : Hid (Nl w v n ns) := hv
  have HL : Hid (Ll w u m ls) := hu
  have HS : Hid (∀ i, i < n → (ns i).nm.size ≤ 1048576) := hs
  obtain ⟨ao, cap, rfl, hcap⟩ := hv.open
  obtain ⟨bo, cap2, rfl, hcap2⟩ := hu.open
  clear hv hu hs
  have BX : Hid (Below w.heap.size w (w.alloc (.cells #[.slice ao n cap, .slice bo m cap2] 31))) := below_one _ _
  have pn : (w.alloc (.cells #[.slice ao n cap, .slice bo m cap2] 31)).cell? ⟨w.heap.size, 0, none⟩ = some (.slice ao n cap) := by simp
  have pl : (w.alloc (.cells #[.slice ao n cap, .slice bo m cap2] 31)).cell? ⟨w.heap.size, 1, none⟩ = some (.slice bo m cap2) := by simp
  have i1 := fun W => in_one (n : Int) 1 20 W
  by_cases h1 : 1 ≤ (n : Int) ∧ (n : Int) ≤ 20
  rotate_left
  · rw [decide_eq_false h1] at i1
    have HF : Hid (¬ Pok n m ns ls) := fun h => h1 (by have := h.1; omega)
    clear h1
    go_enter Tryd.func6, Tryd.ntmps6
    go_wp2_with (go_at_call 18; (with_reducible refine (i1 _).mono ?_); rintro e w' ⟨rfl, hw⟩; obtain rfl := hw.symm)
    go_ret
    exact ⟨false, rfl, ⟨(fun h => nomatch h), fun h => absurd h HF.out⟩, BX.out⟩
  rw [decide_eq_true h1] at i1
  by_cases h2 : 40 < m
  · have HF : Hid (¬ Pok n m ns ls) := fun h => absurd h.2.1 (by omega)
    clear h1
    go_enter Tryd.func6, Tryd.ntmps6
    go_wp2_with (go_at_call 18; (with_reducible refine (i1 _).mono ?_); rintro e w' ⟨rfl, hw⟩; obtain rfl := hw.symm)
    go_ret
    exact ⟨false, rfl, ⟨(fun h => nomatch h), fun h => absurd h HF.out⟩, BX.out⟩
  have hm : m ≤ 40 := by omega
  have hn : 1 ≤ n ∧ n ≤ 20 := by omega
  clear h2 h1
  obtain ⟨i0, hi, hz0, hz1, hz2⟩ := info_parts info3'
  go_enter Tryd.func6, Tryd.ntmps6
  go_upto_region 3 with (go_at_call 18; (with_reducible refine (i1 _).mono ?_); rintro e w' ⟨rfl, hw⟩; obtain rfl := hw.symm)
  clear i1
  generalize w.alloc (.cells #[.slice ao n cap, .slice bo m cap2] 31) = w1 at BX pn pl ⊢
  have hpg : w.heap.size < w1.heap.size := World.block_lt_of_cell? _ _ pn
  obtain ⟨w2, hm', hrow, hgr⟩ := run_makeSlice_full (P := Tryd.prog) w1 w1.heap.size 44 3 i0 (.int .i64 0) 1 Tryd.underlying44 hi hz0 hz1 .i64 .i64 n (by omega) (by rw [hz2]; omega) (by unfold maxLen; omega) (Nat.le_refl _)
  have hbl : Below w1.heap.size w1 w2 := (Below.refl _ _).grown hgr (Nat.le_refl _) (fun _ h => by cases h)
  rw [made_zero'] at hrow
  have HROW : Hid (w2.ownsRow w1.heap.size 3 1 (.slice (some ⟨w1.heap.size, 0, none⟩) n n) n (ils (fun b => ((dcn ls (b : Int) 0 : Nat) : Int)) n)) := hrow
  have B2 : Hid (Below w1.heap.size w1 w2) := hbl
  have PN : Hid (w1.cell? ⟨w.heap.size, 0, none⟩ = some (.slice ao n cap)) := pn
  have PL : Hid (w1.cell? ⟨w.heap.size, 1, none⟩ = some (.slice bo m cap2)) := pl
  obtain ⟨dg, hdg⟩ : ∃ dg, dg = w1.heap.size := ⟨_, rfl⟩
  have HDG : Hid (dg = w1.heap.size) := hdg
  rw [← hdg] at hm' HROW
  clear hdg hrow hgr
  go_upto_region 5 with fail
  clear hm' hbl pn pl hz0 hz1 hz2 hi
  go_loopw [4] (fun i wr => ∃ k : Nat, i = .int .i64 k ∧ k ≤ n ∧ Hid (Below w2.heap.size w2 wr) ∧ Hid (∀ i, i < k → Ndok (ns i) ∧ ∀ j, j < i → (ns j).nm ≠ (ns i).nm)) (fun i _ => n - (intOf i).toNat)
  case atStart => exact ⟨0, rfl, by omega, Below.refl _ _, fun i hi => absurd hi (by omega)⟩
  case round =>
    obtain ⟨k, rfl, hk, hB, hG⟩ := hrel
    have B3 : Hid (Below w1.heap.size w1 wr) := bstep B2.out hB.out
    have BW : Hid (Below w.heap.size w wr) := bstep BX.out B3.out
    have p0 := keepc B3.out PN.out
    have p1 := keepc B3.out PL.out
    have hpw : w.heap.size < wr.heap.size := World.block_lt_of_cell? _ _ p0
    by_cases h1 : k < n
    · obtain ⟨b, off, rfl, hlt, hcell⟩ := (HV.out.below BW.out).cells (by omega)
      obtain ⟨c0, c1, c2⟩ := hcell k h1
      have hxs := HS.out k h1
      clear hcell
      go_upto_region 7 with fail
      have FX : Hid (∀ X, Below wr.heap.size wr X → (X.cell? ⟨w.heap.size, 0, none⟩ = some (.slice (some ⟨b, off, none⟩) n cap) ∧ X.cell? ⟨w.heap.size, 1, none⟩ = some (.slice bo m cap2)) ∧ X.cell? ⟨b, off + k * 3, none⟩ = some (.string (ns k).nm) ∧ X.cell? ⟨b, off + k * 3 + 1, none⟩ = some (.int .i64 (ns k).kd) ∧ X.cell? ⟨b, off + k * 3 + 2, none⟩ = some (.int .i64 (ns k).nn)) := fun X hb => ⟨⟨keepc hb p0, keepc hb p1⟩, keepc hb c0, keepc hb c1, keepc hb c2⟩
      have HVW : Hid (Nl wr (.slice (some ⟨b, off, none⟩) n cap) n ns) := HV.out.below BW.out
      have iN := fun W => sNode_any (ns k) hxs W
      by_cases h2 : Ndok (ns k)
      rotate_left
      · rw [decide_eq_false h2] at iN
        have HF : Hid (¬ Pok n m ns ls) := fun h => h2 (h.2.2.1 k h1).1
        clear h2
        refine wp_region_any (by kernel_rfl) ?_
        change wpAny _ _ _ _ _ _ _ (World.drew _)
        refine wpI_any (I := fun X => Below wr.heap.size wr X) _ _ _ _ ?_
        have l0 : Below wr.heap.size wr wr.drew := (Below.refl _ _).drew
        refine wpI_take (i := 0) (v := ?_) rfl (by kernel_rfl) (by kernel_rfl) (by kernel_rfl) (fun _ _ _ h => h) ⟨by rfl, ?_⟩ ?_
        rotate_left
        · intro X hI; obtain ⟨⟨e0, e1⟩, e2, e3, e4⟩ := FX.out X hI; go_simp; try go_bits
          try rw [if_pos (by omega)]
          try with_reducible rfl
        refine wpI_take (i := 1) (v := ?_) rfl (by kernel_rfl) (by kernel_rfl) (by kernel_rfl) (fun _ _ _ h => h) ⟨by rfl, ?_⟩ ?_
        rotate_left
        · intro X hI; obtain ⟨⟨e0, e1⟩, e2, e3, e4⟩ := FX.out X hI; go_simp; try go_bits
          try rw [if_pos (by omega)]
          try with_reducible rfl
        refine wpI_take (i := 2) (v := ?_) rfl (by kernel_rfl) (by kernel_rfl) (by kernel_rfl) (fun _ _ _ h => h) ⟨by rfl, ?_⟩ ?_
        rotate_left
        · intro X hI; obtain ⟨⟨e0, e1⟩, e2, e3, e4⟩ := FX.out X hI; go_simp; try go_bits
          try rw [if_pos (by omega)]
          try with_reducible rfl
        refine wpI_take (i := 3) (v := ?_) rfl (by kernel_rfl) (by kernel_rfl) (by kernel_rfl) (fun _ _ _ h => h) ⟨by rfl, ?_⟩ ?_
        rotate_left
        · intro X hI; obtain ⟨⟨e0, e1⟩, e2, e3, e4⟩ := FX.out X hI; go_simp; try go_bits
          try rw [if_pos (by omega)]
          try with_reducible rfl
        go_simp
        refine wpI_take (i := 4) (v := ?_) rfl (by kernel_rfl) (by kernel_rfl) (by kernel_rfl) (fun _ _ _ h => h) ⟨by rfl, ?_⟩ ?_
        rotate_left
        · intro X hI; obtain ⟨⟨e0, e1⟩, e2, e3, e4⟩ := FX.out X hI; go_simp; try go_bits
          try rw [if_pos (by omega)]
          try with_reducible rfl
        refine wpI_only (i := 5) rfl (by kernel_rfl) l0 (by rfl) ?_
        intro K hK
        go_simp
        go_wp2_with (go_at_call 19; (with_reducible refine (iN _).mono ?_); rintro e w5 ⟨rfl, hb5⟩; have l1 := bstep l0 hb5; clear hb5)
        refine wpI_take (i := 6) (v := ?_) rfl (by kernel_rfl) (by kernel_rfl) (by kernel_rfl) (fun _ _ _ h => h) ⟨by rfl, ?_⟩ ?_
        rotate_left
        · intro X hI; obtain ⟨⟨e0, e1⟩, e2, e3, e4⟩ := FX.out X hI; go_simp; try go_bits
          try rw [if_pos (by omega)]
          try with_reducible rfl
        refine wpI_take (i := 7) (v := ?_) rfl (by kernel_rfl) (by kernel_rfl) (by kernel_rfl) (fun _ _ _ h => h) ⟨by rfl, ?_⟩ ?_
        rotate_left
        · intro X hI; obtain ⟨⟨e0, e1⟩, e2, e3, e4⟩ := FX.out X hI; go_simp; try go_bits
          try rw [if_pos (by omega)]
          try with_reducible rfl
        go_simp
        refine wpI_skip (i := 8) rfl (by kernel_rfl) (by kernel_rfl) (by kernel_rfl) (fun _ _ _ h => h) (by rfl) ?_
        refine wpI_skip (i := 9) rfl (by kernel_rfl) (by kernel_rfl) (by kernel_rfl) (fun _ _ _ h => h) (by rfl) ?_
        refine wpI_skip (i := 10) rfl (by kernel_rfl) (by kernel_rfl) (by kernel_rfl) (fun _ _ _ h => h) (by rfl) ?_
        go_simp
        refine wpI_skip (i := 11) rfl (by kernel_rfl) (by kernel_rfl) (by kernel_rfl) (fun _ _ _ h => h) (by rfl) ?_
        refine wpI_skip (i := 12) rfl (by kernel_rfl) (by kernel_rfl) (by kernel_rfl) (fun _ _ _ h => h) (by rfl) ?_
        refine wpI_skip (i := 13) rfl (by kernel_rfl) (by kernel_rfl) (by kernel_rfl) (fun _ _ _ h => h) (by rfl) ?_
        go_simp
        refine wpI_skip (i := 14) rfl (by kernel_rfl) (by kernel_rfl) (by kernel_rfl) (fun _ _ _ h => h) (by rfl) ?_
        refine wpI_skip (i := 15) rfl (by kernel_rfl) (by kernel_rfl) (by kernel_rfl) (fun _ _ _ h => h) (by rfl) ?_
        refine wpI_skip (i := 16) rfl (by kernel_rfl) (by kernel_rfl) (by kernel_rfl) (fun _ _ _ h => h) (by rfl) ?_
        go_simp
        refine wpI_skip (i := 17) rfl (by kernel_rfl) (by kernel_rfl) (by kernel_rfl) (fun _ _ _ h => h) (by rfl) ?_
        go_simp
        refine wpI_take (i := 18) (v := ?_) rfl (by kernel_rfl) (by kernel_rfl) (by kernel_rfl) (fun _ _ _ h => h) ⟨by rfl, ?_⟩ ?_
        rotate_left
        · intro X hI; obtain ⟨⟨e0, e1⟩, e2, e3, e4⟩ := FX.out X hI; go_simp; try go_bits
          try rw [if_pos (by omega)]
          try with_reducible rfl
        go_simp
        refine wpI_done l1 (by kernel_rfl) ?_ _
        go_wp2
        go_ret
        exact ⟨false, rfl, ⟨(fun h => nomatch h), fun h => absurd h HF.out⟩, bstep BW.out l1⟩
      rw [decide_eq_true h2] at iN
      have H2 : Hid (Ndok (ns k)) := h2
      clear h2
      have iF := fun W (hb : Below wr.heap.size wr W) => sFind_any (u := .slice bo m cap2) (HVW.out.below hb) hn1 (ns k).nm
      by_cases h3 : ∀ i, i < k → (ns i).nm ≠ (ns k).nm
      · have H3 : Hid (∀ i, i < k → (ns i).nm ≠ (ns k).nm) := h3
        clear h3
        refine wp_region_any (by kernel_rfl) ?_
        change wpAny _ _ _ _ _ _ _ (World.drew _)
        refine wpI_any (I := fun X => Below wr.heap.size wr X) _ _ _ _ ?_
        have l0 : Below wr.heap.size wr wr.drew := (Below.refl _ _).drew
        refine wpI_take (i := 0) (v := ?_) rfl (by kernel_rfl) (by kernel_rfl) (by kernel_rfl) (fun _ _ _ h => h) ⟨by rfl, ?_⟩ ?_
        rotate_left
        · intro X hI; obtain ⟨⟨e0, e1⟩, e2, e3, e4⟩ := FX.out X hI; go_simp; try go_bits
          try rw [if_pos (by omega)]
          try with_reducible rfl
        refine wpI_take (i := 1) (v := ?_) rfl (by kernel_rfl) (by kernel_rfl) (by kernel_rfl) (fun _ _ _ h => h) ⟨by rfl, ?_⟩ ?_
        rotate_left
        · intro X hI; obtain ⟨⟨e0, e1⟩, e2, e3, e4⟩ := FX.out X hI; go_simp; try go_bits
          try rw [if_pos (by omega)]
          try with_reducible rfl
        refine wpI_take (i := 2) (v := ?_) rfl (by kernel_rfl) (by kernel_rfl) (by kernel_rfl) (fun _ _ _ h => h) ⟨by rfl, ?_⟩ ?_
        rotate_left
        · intro X hI; obtain ⟨⟨e0, e1⟩, e2, e3, e4⟩ := FX.out X hI; go_simp; try go_bits
          try rw [if_pos (by omega)]
          try with_reducible rfl
        refine wpI_take (i := 3) (v := ?_) rfl (by kernel_rfl) (by kernel_rfl) (by kernel_rfl) (fun _ _ _ h => h) ⟨by rfl, ?_⟩ ?_
        rotate_left
        · intro X hI; obtain ⟨⟨e0, e1⟩, e2, e3, e4⟩ := FX.out X hI; go_simp; try go_bits
          try rw [if_pos (by omega)]
          try with_reducible rfl
        go_simp
        refine wpI_take (i := 4) (v := ?_) rfl (by kernel_rfl) (by kernel_rfl) (by kernel_rfl) (fun _ _ _ h => h) ⟨by rfl, ?_⟩ ?_
        rotate_left
        · intro X hI; obtain ⟨⟨e0, e1⟩, e2, e3, e4⟩ := FX.out X hI; go_simp; try go_bits
          try rw [if_pos (by omega)]
          try with_reducible rfl
        refine wpI_only (i := 5) rfl (by kernel_rfl) l0 (by rfl) ?_
        intro K hK
        go_simp
        go_wp2_with (go_at_call 19; (with_reducible refine (iN _).mono ?_); rintro e w5 ⟨rfl, hb5⟩; have l1 := bstep l0 hb5; clear hb5)
        refine wpI_take (i := 6) (v := ?_) rfl (by kernel_rfl) (by kernel_rfl) (by kernel_rfl) (fun _ _ _ h => h) ⟨by rfl, ?_⟩ ?_
        rotate_left
        · intro X hI; obtain ⟨⟨e0, e1⟩, e2, e3, e4⟩ := FX.out X hI; go_simp; try go_bits
          try rw [if_pos (by omega)]
          try with_reducible rfl
        refine wpI_take (i := 7) (v := ?_) rfl (by kernel_rfl) (by kernel_rfl) (by kernel_rfl) (fun _ _ _ h => h) ⟨by rfl, ?_⟩ ?_
        rotate_left
        · intro X hI; obtain ⟨⟨e0, e1⟩, e2, e3, e4⟩ := FX.out X hI; go_simp; try go_bits
          try rw [if_pos (by omega)]
          try with_reducible rfl
        go_simp
        refine wpI_take (i := 8) (v := ?_) rfl (by kernel_rfl) (by kernel_rfl) (by kernel_rfl) (fun _ _ _ h => h) ⟨by rfl, ?_⟩ ?_
        rotate_left
        · intro X hI; obtain ⟨⟨e0, e1⟩, e2, e3, e4⟩ := FX.out X hI; go_simp; try go_bits
          try rw [if_pos (by omega)]
          try with_reducible rfl
        refine wpI_take (i := 9) (v := ?_) rfl (by kernel_rfl) (by kernel_rfl) (by kernel_rfl) (fun _ _ _ h => h) ⟨by rfl, ?_⟩ ?_
        rotate_left
        · intro X hI; obtain ⟨⟨e0, e1⟩, e2, e3, e4⟩ := FX.out X hI; go_simp; try go_bits
          try rw [if_pos (by omega)]
          try with_reducible rfl
        refine wpI_take (i := 10) (v := ?_) rfl (by kernel_rfl) (by kernel_rfl) (by kernel_rfl) (fun _ _ _ h => h) ⟨by rfl, ?_⟩ ?_
        rotate_left
        · intro X hI; obtain ⟨⟨e0, e1⟩, e2, e3, e4⟩ := FX.out X hI; go_simp; try go_bits
          try rw [if_pos (by omega)]
          try with_reducible rfl
        go_simp
        refine wpI_take (i := 11) (v := ?_) rfl (by kernel_rfl) (by kernel_rfl) (by kernel_rfl) (fun _ _ _ h => h) ⟨by rfl, ?_⟩ ?_
        rotate_left
        · intro X hI; obtain ⟨⟨e0, e1⟩, e2, e3, e4⟩ := FX.out X hI; go_simp; try go_bits
          try rw [if_pos (by omega)]
          try with_reducible rfl
        refine wpI_take (i := 12) (v := ?_) rfl (by kernel_rfl) (by kernel_rfl) (by kernel_rfl) (fun _ _ _ h => h) ⟨by rfl, ?_⟩ ?_
        rotate_left
        · intro X hI; obtain ⟨⟨e0, e1⟩, e2, e3, e4⟩ := FX.out X hI; go_simp; try go_bits
          try rw [if_pos (by omega)]
          try with_reducible rfl
        refine wpI_take (i := 13) (v := ?_) rfl (by kernel_rfl) (by kernel_rfl) (by kernel_rfl) (fun _ _ _ h => h) ⟨by rfl, ?_⟩ ?_
        rotate_left
        · intro X hI; obtain ⟨⟨e0, e1⟩, e2, e3, e4⟩ := FX.out X hI; go_simp; try go_bits
          try rw [if_pos (by omega)]
          try with_reducible rfl
        go_simp
        refine wpI_take (i := 14) (v := ?_) rfl (by kernel_rfl) (by kernel_rfl) (by kernel_rfl) (fun _ _ _ h => h) ⟨by rfl, ?_⟩ ?_
        rotate_left
        · intro X hI; obtain ⟨⟨e0, e1⟩, e2, e3, e4⟩ := FX.out X hI; go_simp; try go_bits
          try rw [if_pos (by omega)]
          try with_reducible rfl
        refine wpI_take (i := 16) (v := ?_) rfl (by kernel_rfl) (by kernel_rfl) (by kernel_rfl) (fun _ _ _ h => h) ⟨by rfl, ?_⟩ ?_
        rotate_left
        · intro X hI; obtain ⟨⟨e0, e1⟩, e2, e3, e4⟩ := FX.out X hI; go_simp; try go_bits
          try rw [if_pos (by omega)]
          try with_reducible rfl
        refine wpI_only (i := 15) rfl (by kernel_rfl) l1 (by rfl) ?_
        intro K5 hK5
        go_simp
        go_wp2_with (go_at_call 20; (with_reducible refine (iF _ l1).mono ?_); rintro e w6 ⟨j, rfl, hj, hb6⟩; have l2 := bstep l1 hb6; obtain rfl := (first_is h1 hj).1 H3.out; clear hb6 hj)
        refine wpI_take (i := 17) (v := ?_) rfl (by kernel_rfl) (by kernel_rfl) (by kernel_rfl) (fun _ _ _ h => h) ⟨by rfl, ?_⟩ ?_
        rotate_left
        · intro X hI; obtain ⟨⟨e0, e1⟩, e2, e3, e4⟩ := FX.out X hI; go_simp; try go_bits
          try rw [if_pos (by omega)]
          try with_reducible rfl
        refine wpI_take (i := 18) (v := ?_) rfl (by kernel_rfl) (by kernel_rfl) (by kernel_rfl) (fun _ _ _ h => h) ⟨by rfl, ?_⟩ ?_
        rotate_left
        · intro X hI; obtain ⟨⟨e0, e1⟩, e2, e3, e4⟩ := FX.out X hI; go_simp; try go_bits
          try rw [if_pos (by omega)]
          try with_reducible rfl
        go_simp
        refine wpI_done l2 (by kernel_rfl) ?_ _
        go_wp2
        go_roundw
        case rel => exact ⟨k + 1, by go_num, by omega, bstep hB.out l2, fun i hi => by
          rcases Nat.lt_or_ge i k with h3 | h3
          · exact hG.out i h3
          · obtain rfl : i = k := by omega
            exact ⟨H2.out, H3.out⟩⟩
        case measure => simp [intOf]; omega
      · have H3 : Hid (¬ ∀ i, i < k → (ns i).nm ≠ (ns k).nm) := h3
        have HF : Hid (¬ Pok n m ns ls) := fun h => h3 (h.2.2.1 k h1).2
        clear h3
        refine wp_region_any (by kernel_rfl) ?_
        change wpAny _ _ _ _ _ _ _ (World.drew _)
        refine wpI_any (I := fun X => Below wr.heap.size wr X) _ _ _ _ ?_
        have l0 : Below wr.heap.size wr wr.drew := (Below.refl _ _).drew
        refine wpI_take (i := 0) (v := ?_) rfl (by kernel_rfl) (by kernel_rfl) (by kernel_rfl) (fun _ _ _ h => h) ⟨by rfl, ?_⟩ ?_
        rotate_left
        · intro X hI; obtain ⟨⟨e0, e1⟩, e2, e3, e4⟩ := FX.out X hI; go_simp; try go_bits
          try rw [if_pos (by omega)]
          try with_reducible rfl
        refine wpI_take (i := 1) (v := ?_) rfl (by kernel_rfl) (by kernel_rfl) (by kernel_rfl) (fun _ _ _ h => h) ⟨by rfl, ?_⟩ ?_
        rotate_left
        · intro X hI; obtain ⟨⟨e0, e1⟩, e2, e3, e4⟩ := FX.out X hI; go_simp; try go_bits
          try rw [if_pos (by omega)]
          try with_reducible rfl
        refine wpI_take (i := 2) (v := ?_) rfl (by kernel_rfl) (by kernel_rfl) (by kernel_rfl) (fun _ _ _ h => h) ⟨by rfl, ?_⟩ ?_
        rotate_left
        · intro X hI; obtain ⟨⟨e0, e1⟩, e2, e3, e4⟩ := FX.out X hI; go_simp; try go_bits
          try rw [if_pos (by omega)]
          try with_reducible rfl
        refine wpI_take (i := 3) (v := ?_) rfl (by kernel_rfl) (by kernel_rfl) (by kernel_rfl) (fun _ _ _ h => h) ⟨by rfl, ?_⟩ ?_
        rotate_left
        · intro X hI; obtain ⟨⟨e0, e1⟩, e2, e3, e4⟩ := FX.out X hI; go_simp; try go_bits
          try rw [if_pos (by omega)]
          try with_reducible rfl
        go_simp
        refine wpI_take (i := 4) (v := ?_) rfl (by kernel_rfl) (by kernel_rfl) (by kernel_rfl) (fun _ _ _ h => h) ⟨by rfl, ?_⟩ ?_
        rotate_left
        · intro X hI; obtain ⟨⟨e0, e1⟩, e2, e3, e4⟩ := FX.out X hI; go_simp; try go_bits
          try rw [if_pos (by omega)]
          try with_reducible rfl
        refine wpI_only (i := 5) rfl (by kernel_rfl) l0 (by rfl) ?_
        intro K hK
        go_simp
        go_wp2_with (go_at_call 19; (with_reducible refine (iN _).mono ?_); rintro e w5 ⟨rfl, hb5⟩; have l1 := bstep l0 hb5; clear hb5)
        refine wpI_take (i := 6) (v := ?_) rfl (by kernel_rfl) (by kernel_rfl) (by kernel_rfl) (fun _ _ _ h => h) ⟨by rfl, ?_⟩ ?_
        rotate_left
        · intro X hI; obtain ⟨⟨e0, e1⟩, e2, e3, e4⟩ := FX.out X hI; go_simp; try go_bits
          try rw [if_pos (by omega)]
          try with_reducible rfl
        refine wpI_take (i := 7) (v := ?_) rfl (by kernel_rfl) (by kernel_rfl) (by kernel_rfl) (fun _ _ _ h => h) ⟨by rfl, ?_⟩ ?_
        rotate_left
        · intro X hI; obtain ⟨⟨e0, e1⟩, e2, e3, e4⟩ := FX.out X hI; go_simp; try go_bits
          try rw [if_pos (by omega)]
          try with_reducible rfl
        go_simp
        refine wpI_take (i := 8) (v := ?_) rfl (by kernel_rfl) (by kernel_rfl) (by kernel_rfl) (fun _ _ _ h => h) ⟨by rfl, ?_⟩ ?_
        rotate_left
        · intro X hI; obtain ⟨⟨e0, e1⟩, e2, e3, e4⟩ := FX.out X hI; go_simp; try go_bits
          try rw [if_pos (by omega)]
          try with_reducible rfl
        refine wpI_take (i := 9) (v := ?_) rfl (by kernel_rfl) (by kernel_rfl) (by kernel_rfl) (fun _ _ _ h => h) ⟨by rfl, ?_⟩ ?_
        rotate_left
        · intro X hI; obtain ⟨⟨e0, e1⟩, e2, e3, e4⟩ := FX.out X hI; go_simp; try go_bits
          try rw [if_pos (by omega)]
          try with_reducible rfl
        refine wpI_take (i := 10) (v := ?_) rfl (by kernel_rfl) (by kernel_rfl) (by kernel_rfl) (fun _ _ _ h => h) ⟨by rfl, ?_⟩ ?_
        rotate_left
        · intro X hI; obtain ⟨⟨e0, e1⟩, e2, e3, e4⟩ := FX.out X hI; go_simp; try go_bits
          try rw [if_pos (by omega)]
          try with_reducible rfl
        go_simp
        refine wpI_take (i := 11) (v := ?_) rfl (by kernel_rfl) (by kernel_rfl) (by kernel_rfl) (fun _ _ _ h => h) ⟨by rfl, ?_⟩ ?_
        rotate_left
        · intro X hI; obtain ⟨⟨e0, e1⟩, e2, e3, e4⟩ := FX.out X hI; go_simp; try go_bits
          try rw [if_pos (by omega)]
          try with_reducible rfl
        refine wpI_take (i := 12) (v := ?_) rfl (by kernel_rfl) (by kernel_rfl) (by kernel_rfl) (fun _ _ _ h => h) ⟨by rfl, ?_⟩ ?_
        rotate_left
        · intro X hI; obtain ⟨⟨e0, e1⟩, e2, e3, e4⟩ := FX.out X hI; go_simp; try go_bits
          try rw [if_pos (by omega)]
          try with_reducible rfl
        refine wpI_take (i := 13) (v := ?_) rfl (by kernel_rfl) (by kernel_rfl) (by kernel_rfl) (fun _ _ _ h => h) ⟨by rfl, ?_⟩ ?_
        rotate_left
        · intro X hI; obtain ⟨⟨e0, e1⟩, e2, e3, e4⟩ := FX.out X hI; go_simp; try go_bits
          try rw [if_pos (by omega)]
          try with_reducible rfl
        go_simp
        refine wpI_take (i := 14) (v := ?_) rfl (by kernel_rfl) (by kernel_rfl) (by kernel_rfl) (fun _ _ _ h => h) ⟨by rfl, ?_⟩ ?_
        rotate_left
        · intro X hI; obtain ⟨⟨e0, e1⟩, e2, e3, e4⟩ := FX.out X hI; go_simp; try go_bits
          try rw [if_pos (by omega)]
          try with_reducible rfl
        refine wpI_take (i := 16) (v := ?_) rfl (by kernel_rfl) (by kernel_rfl) (by kernel_rfl) (fun _ _ _ h => h) ⟨by rfl, ?_⟩ ?_
        rotate_left
        · intro X hI; obtain ⟨⟨e0, e1⟩, e2, e3, e4⟩ := FX.out X hI; go_simp; try go_bits
          try rw [if_pos (by omega)]
          try with_reducible rfl
        refine wpI_only (i := 15) rfl (by kernel_rfl) l1 (by rfl) ?_
        intro K5 hK5
        go_simp
        go_wp2_with (go_at_call 20; (with_reducible refine (iF _ l1).mono ?_); rintro e w6 ⟨j, rfl, hj, hb6⟩; have l2 := bstep l1 hb6; have hjk : (j != (k : Int)) = true := bne_iff_ne.2 ((first_is h1 hj).2 H3.out); have hjk2 : ¬ j = (k : Int) := (first_is h1 hj).2 H3.out; clear hb6 hj)
        refine wpI_take (i := 17) (v := ?_) rfl (by kernel_rfl) (by kernel_rfl) (by kernel_rfl) (fun _ _ _ h => h) ⟨by rfl, ?_⟩ ?_
        rotate_left
        · intro X hI; obtain ⟨⟨e0, e1⟩, e2, e3, e4⟩ := FX.out X hI; go_simp; try go_bits
          try rw [if_pos (by omega)]
          try with_reducible rfl
        refine wpI_take (i := 18) (v := ?_) rfl (by kernel_rfl) (by kernel_rfl) (by kernel_rfl) (fun _ _ _ h => h) ⟨by rfl, ?_⟩ ?_
        rotate_left
        · intro X hI; obtain ⟨⟨e0, e1⟩, e2, e3, e4⟩ := FX.out X hI; go_simp; try go_bits
          try rw [if_pos (by omega)]
          try with_reducible rfl
        go_simp
        refine wpI_done l2 (by kernel_rfl) ?_ _
        go_wp2
        go_ret
        exact ⟨false, rfl, ⟨(fun h => nomatch h), fun h => absurd h HF.out⟩, bstep BW.out l2⟩
    · have hkn : n = k := by omega
      subst hkn
      have HROW3 : Hid (wr.ownsRow dg 3 1 (.slice (some ⟨dg, 0, none⟩) n n) n (ils (fun b => ((dcn ls (b : Int) 0 : Nat) : Int)) n)) := own_below HROW.out hB.out
      go_upto_region 10 with fail
      clear HROW p0 p1
      go_loopw [5, 6] (fun i _ wq => ∃ k : Nat, i = .int .i64 k ∧ k ≤ m ∧ Hid (wq.ownsRow dg 3 1 (.slice (some ⟨dg, 0, none⟩) n n) n (ils (fun b => ((dcn ls (b : Int) k : Nat) : Int)) n)) ∧ Hid (Below w1.heap.size w1 wq) ∧ Hid (∀ i, i < k → Lgd n ns (ls i))) (fun i _ _ => m - (intOf i).toNat)
      case atStart => exact ⟨0, rfl, by omega, HROW3.out, B3.out, fun i hi => absurd hi (by omega)⟩
      case round =>
        clear HROW3 B3 BW hB hpw
        obtain ⟨k, rfl, hk2, HR, B3, hL⟩ := hrel
        have BW : Hid (Below w.heap.size w wr) := bstep BX.out B3.out
        have p0 := keepc B3.out PN.out
        have p1 := keepc B3.out PL.out
        have hpw : w.heap.size < wr.heap.size := World.block_lt_of_cell? _ _ p0
        by_cases h1 : k < m
        · obtain ⟨b, off, rfl, hlt, hcell⟩ := (HL.out.below BW.out).cells (by omega)
          obtain ⟨c0, c1⟩ := hcell k h1
          clear hcell
          obtain ⟨x, hx⟩ : ∃ x, x = ls k := ⟨_, rfl⟩
          have HX : Hid (x = ls k) := hx
          rw [← hx] at c0 c1
          clear hx
          have B4 : Hid (Below w.heap.size w (wr.alloc (.cells #[.int .i64 x.fr, .int .i64 x.to] 50))) := bstep BW.out (below_one _ _)
          have HR4 : Hid ((wr.alloc (.cells #[.int .i64 x.fr, .int .i64 x.to] 50)).ownsRow dg 3 1 (.slice (some ⟨dg, 0, none⟩) n n) n (ils (fun b => ((dcn ls (b : Int) k : Nat) : Int)) n)) := own_below HR.out (below_one _ _)
          have B5 : Hid (Below w1.heap.size w1 (wr.alloc (.cells #[.int .i64 x.fr, .int .i64 x.to] 50))) := bstep B3.out (below_one _ _)
          have iA := fun W => in_one x.fr 0 ((n : Int) - 1) W
          have iB := fun W => in_one x.to 0 ((n : Int) - 1) W
          by_cases h2 : 0 ≤ x.fr ∧ x.fr ≤ (n : Int) - 1
          rotate_left
          · rw [decide_eq_false h2] at iA
            have HF : Hid (¬ Pok n m ns ls) := fun h => h2 (by have h3 := (h.2.2.2.1 k h1).1; rw [← HX.out] at h3; exact h3)
            clear h2 iB
            go_wp2_with (go_at_call 18; (with_reducible refine (iA _).mono ?_); rintro e w' ⟨rfl, hw⟩; obtain rfl := hw.symm)
            go_ret
            exact ⟨false, rfl, ⟨(fun h => nomatch h), fun h => absurd h HF.out⟩, B4.out⟩
          rw [decide_eq_true h2] at iA
          by_cases h3 : 0 ≤ x.to ∧ x.to ≤ (n : Int) - 1
          rotate_left
          · rw [decide_eq_false h3] at iB
            have HF : Hid (¬ Pok n m ns ls) := fun h => h3 (by have h4 := (h.2.2.2.1 k h1).2.1; rw [← HX.out] at h4; exact h4)
            clear h2 h3
            go_wp2_with (first
              | (go_at_call 18; (with_reducible refine (iA _).mono ?_); rintro e w' ⟨rfl, hw⟩; obtain rfl := hw.symm)
              | (go_at_call 18; (with_reducible refine (iB _).mono ?_); rintro e w' ⟨rfl, hw⟩; obtain rfl := hw.symm))
            go_ret
            exact ⟨false, rfl, ⟨(fun h => nomatch h), fun h => absurd h HF.out⟩, B4.out⟩
          rw [decide_eq_true h3] at iB
          obtain ⟨xf, xt⟩ := x
          obtain ⟨f, rfl⟩ : ∃ f : Nat, xf = (f : Int) := ⟨xf.toNat, by have : 0 ≤ xf ∧ xf ≤ (n : Int) - 1 := h2; omega⟩
          obtain ⟨t, rfl⟩ : ∃ t : Nat, xt = (t : Int) := ⟨xt.toNat, by have : 0 ≤ xt ∧ xt ≤ (n : Int) - 1 := h3; omega⟩
          have hf : f < n := by have : 0 ≤ (f : Int) ∧ (f : Int) ≤ (n : Int) - 1 := h2; omega
          have ht : t < n := by have : 0 ≤ (t : Int) ∧ (t : Int) ≤ (n : Int) - 1 := h3; omega
          have iA : ∀ W, Calls Tryd.prog 18 #[.int .i64 (f : Int), .int .i64 0, .int .i64 ((n : Int) - 1)] W fun e w' => e = .returned (.bool true) ∧ w' = W := iA
          have iB : ∀ W, Calls Tryd.prog 18 #[.int .i64 (t : Int), .int .i64 0, .int .i64 ((n : Int) - 1)] W fun e w' => e = .returned (.bool true) ∧ w' = W := iB
          have H23 : Hid ((0 ≤ (f : Int) ∧ (f : Int) ≤ (n : Int) - 1) ∧ (0 ≤ (t : Int) ∧ (t : Int) ≤ (n : Int) - 1)) := ⟨h2, h3⟩
          obtain ⟨nb, noff, rfl, hnl, hnc⟩ := (HV.out.below BW.out).cells (by omega)
          have ck := (hnc f hf).2.1
          have hnl2 : nb < wr.heap.size := hnl
          have a0 := World.ownsRow.cellAt HR.out t (by omega)
          rw [ils_get ht] at a0
          have z0 := World.ownsRow.frozenAt HR.out t
          have hdw : dg < wr.heap.size := World.block_lt_of_cell? _ _ a0
          clear hnc h2 h3
          by_cases h4 : (ns f).kd = 2
          · have HF : Hid (¬ Pok n m ns ls) := fun h => by
              have h5 := (h.2.2.2.1 k h1).2.2
              rw [← HX.out] at h5
              exact h5 h4
            rw [h4] at ck
            clear h4
            go_wp2_with (first
              | (go_at_call 18; (with_reducible refine (iA _).mono ?_); rintro e w' ⟨rfl, hw⟩; obtain rfl := hw.symm)
              | (go_at_call 18; (with_reducible refine (iB _).mono ?_); rintro e w' ⟨rfl, hw⟩; obtain rfl := hw.symm))
            go_ret
            exact ⟨false, rfl, ⟨(fun h => nomatch h), fun h => absurd h HF.out⟩, B4.out⟩
          · have H4 : Hid (Lgd n ns (ls k)) := by
              show Lgd n ns (ls k)
              rw [← HX.out]
              exact ⟨H23.out.1, H23.out.2, h4⟩
            have h5 : ((ns f).kd == 2) = false := beq_false_of_ne h4
            generalize (ns f).kd = kf at ck h4 h5
            have hle := dcn_le ls (t : Int) k
            have ST := (World.ownsRow.stored HR.out t (.int .i64 (((dcn ls (t : Int) k : Nat) : Int) + 1))).1
            rw [ils_put] at ST
            have e6 : ils (fun i => if i = t then ((dcn ls (t : Int) k : Nat) : Int) + 1 else ((dcn ls (i : Int) k : Nat) : Int)) n = ils (fun b => ((dcn ls (b : Int) (k + 1) : Nat) : Int)) n := ils_congr fun i hi => by
              show _ = ((dcn ls (i : Int) k + (if (ls k).to = (i : Int) then 1 else 0) : Nat) : Int)
              rw [← HX.out]
              by_cases e : i = t
              · subst e
                rw [if_pos rfl, if_pos rfl]
                omega
              · rw [if_neg e, if_neg (by show ¬ (t : Int) = (i : Int); omega)]
                omega
            rw [e6] at ST
            have ST : Hid (((wr.setCell ⟨dg, t, none⟩ (.int .i64 (((dcn ls (t : Int) k : Nat) : Int) + 1))).alloc (.cells #[.int .i64 (f : Int), .int .i64 (t : Int)] 50)).ownsRow dg 3 1 (.slice (some ⟨dg, 0, none⟩) n n) n (ils (fun b => ((dcn ls (b : Int) (k + 1) : Nat) : Int)) n)) := own_below ST (below_one _ _)
            have BS : Hid (Below w1.heap.size w1 ((wr.setCell ⟨dg, t, none⟩ (.int .i64 (((dcn ls (t : Int) k : Nat) : Int) + 1))).alloc (.cells #[.int .i64 (f : Int), .int .i64 (t : Int)] 50))) := bstep (B3.out.setCell (p := ⟨dg, t, none⟩) (by show _ ≤ dg; rw [HDG.out]; exact Nat.le_refl _) _) (below_one _ _)
            clear e6
            generalize dcn ls (t : Int) k = cc at a0 hle ST BS
            go_wp2_with (first
              | (go_at_call 18; (with_reducible refine (iA _).mono ?_); rintro e w' ⟨rfl, hw⟩; obtain rfl := hw.symm)
              | (go_at_call 18; (with_reducible refine (iB _).mono ?_); rintro e w' ⟨rfl, hw⟩; obtain rfl := hw.symm))
            go_roundw
            case rel => exact ⟨k + 1, by go_num, by omega, ST.out, BS.out, fun i hi => by
              rcases Nat.lt_or_ge i k with h3 | h3
              · exact hL.out i h3
              · obtain rfl : i = k := by omega
                exact H4.out⟩
            case measure => simp [intOf]; omega
        · have hkm : m = k := by omega
          subst hkm
          go_upto_region 17 with fail
          have HRE : Hid (wr.ownsRow dg 3 1 (.slice (some ⟨dg, 0, none⟩) n n) n (ils (fun b => ((dcn ls (b : Int) m : Nat) : Int)) n)) := HR.out
          have HNK : Hid (∀ b, b < n → 1 ≤ (ns b).kd ∧ (ns b).kd ≤ 8) := fun b hb => (hG.out b hb).1.2.1
          clear HR p0 p1 hpw
          generalize hV : wr = V at HRE B3 BW ⊢
          clear hV
          go_loopw [7] (fun i wq => ∃ k : Nat, i = .int .i64 k ∧ k ≤ n ∧ Hid (Below V.heap.size V wq) ∧ Hid (∀ b, b < k → ((dcn ls (b : Int) m : Nat) : Int) = dors (ns b).kd.toNat)) (fun i _ => n - (intOf i).toNat)
          case atStart => exact ⟨0, rfl, by omega, Below.refl _ _, fun b hb => absurd hb (by omega)⟩
          case round =>
            obtain ⟨k, rfl, hk2, hB, hE⟩ := hrel
            have BW4 : Hid (Below w.heap.size w wr) := bstep BW.out hB.out
            have p0 := keepc hB.out (keepc B3.out PN.out)
            have hpw : w.heap.size < wr.heap.size := World.block_lt_of_cell? _ _ p0
            by_cases h1 : k < n
            · have HR5 := own_below HRE.out hB.out
              have a0 := World.ownsRow.cellAt HR5 k (by omega)
              rw [ils_get h1] at a0
              obtain ⟨nb, noff, rfl, hnl, hnc⟩ := (HV.out.below BW4.out).cells (by omega)
              have ck := (hnc k h1).2.1
              have hq := HNK.out k h1
              obtain ⟨q, hq3⟩ : ∃ q : Nat, (ns k).kd = (q : Int) := ⟨(ns k).kd.toNat, by omega⟩
              have hq9 : 1 ≤ q ∧ q ≤ 8 := by omega
              have HQ3 : Hid (dors (ns k).kd.toNat = dors q) := by show dors _ = _; rw [hq3]; rfl
              rw [hq3] at ck
              clear hnc HR5 hq hq3
              have iD := fun W => sDoors_any q hq9 W
              go_upto_region 19 with fail
              have FX : Hid (∀ X, Below wr.heap.size wr X → X.cell? ⟨dg, k, none⟩ = some (.int .i64 ((dcn ls (k : Int) m : Nat) : Int)) ∧ X.cell? ⟨w.heap.size, 0, none⟩ = some (.slice (some ⟨nb, noff, none⟩) n cap) ∧ X.cell? ⟨nb, noff + k * 3 + 1, none⟩ = some (.int .i64 (q : Int))) := fun X hb => ⟨keepc hb a0, keepc hb p0, keepc hb ck⟩
              have hle := dcn_le ls (k : Int) m
              have hdr : 0 ≤ dors q ∧ dors q ≤ 2 := by unfold dors; split <;> (try split) <;> omega
              by_cases h2 : ((dcn ls (k : Int) m : Nat) : Int) = dors q
              · have HEQ : Hid (((dcn ls (k : Int) m : Nat) : Int) = dors (ns k).kd.toNat) := by show _ = _; rw [HQ3.out]; exact h2
                have HEN : Hid (∀ b, b < k + 1 → ((dcn ls (b : Int) m : Nat) : Int) = dors (ns b).kd.toNat) := fun b hb => by
                  rcases Nat.lt_or_ge b k with h3 | h3
                  · exact hE.out b h3
                  · obtain rfl : b = k := by omega
                    exact HEQ.out
                have h5 : (((dcn ls (k : Int) m : Nat) : Int) != dors q) = false := by rw [h2]; simp
                generalize dors q = dq at iD h5 h2 hdr
                generalize dcn ls (k : Int) m = dc at FX h5 h2 hle
                clear HEQ HQ3 a0 h2
                refine wp_region_any (by kernel_rfl) ?_
                change wpAny _ _ _ _ _ _ _ (World.drew _)
                refine wpI_any (I := fun X => Below wr.heap.size wr X) _ _ _ _ ?_
                have l0 : Below wr.heap.size wr wr.drew := (Below.refl _ _).drew
                refine wpI_take (i := 0) (v := ?_) rfl (by kernel_rfl) (by kernel_rfl) (by kernel_rfl) (fun _ _ _ h => h) ⟨by rfl, ?_⟩ ?_
                rotate_left
                · intro X hI; obtain ⟨e0, e1, e2⟩ := FX.out X hI; go_simp; try go_bits
                  try rw [if_pos (by omega)]
                  try with_reducible rfl
                refine wpI_take (i := 1) (v := ?_) rfl (by kernel_rfl) (by kernel_rfl) (by kernel_rfl) (fun _ _ _ h => h) ⟨by rfl, ?_⟩ ?_
                rotate_left
                · intro X hI; obtain ⟨e0, e1, e2⟩ := FX.out X hI; go_simp; try go_bits
                  try rw [if_pos (by omega)]
                  try with_reducible rfl
                refine wpI_take (i := 2) (v := ?_) rfl (by kernel_rfl) (by kernel_rfl) (by kernel_rfl) (fun _ _ _ h => h) ⟨by rfl, ?_⟩ ?_
                rotate_left
                · intro X hI; obtain ⟨e0, e1, e2⟩ := FX.out X hI; go_simp; try go_bits
                  try rw [if_pos (by omega)]
                  try with_reducible rfl
                refine wpI_take (i := 3) (v := ?_) rfl (by kernel_rfl) (by kernel_rfl) (by kernel_rfl) (fun _ _ _ h => h) ⟨by rfl, ?_⟩ ?_
                rotate_left
                · intro X hI; obtain ⟨e0, e1, e2⟩ := FX.out X hI; go_simp; try go_bits
                  try rw [if_pos (by omega)]
                  try with_reducible rfl
                go_simp
                refine wpI_take (i := 4) (v := ?_) rfl (by kernel_rfl) (by kernel_rfl) (by kernel_rfl) (fun _ _ _ h => h) ⟨by rfl, ?_⟩ ?_
                rotate_left
                · intro X hI; obtain ⟨e0, e1, e2⟩ := FX.out X hI; go_simp; try go_bits
                  try rw [if_pos (by omega)]
                  try with_reducible rfl
                refine wpI_take (i := 5) (v := ?_) rfl (by kernel_rfl) (by kernel_rfl) (by kernel_rfl) (fun _ _ _ h => h) ⟨by rfl, ?_⟩ ?_
                rotate_left
                · intro X hI; obtain ⟨e0, e1, e2⟩ := FX.out X hI; go_simp; try go_bits
                  try rw [if_pos (by omega)]
                  try with_reducible rfl
                refine wpI_take (i := 6) (v := ?_) rfl (by kernel_rfl) (by kernel_rfl) (by kernel_rfl) (fun _ _ _ h => h) ⟨by rfl, ?_⟩ ?_
                rotate_left
                · intro X hI; obtain ⟨e0, e1, e2⟩ := FX.out X hI; go_simp; try go_bits
                  try rw [if_pos (by omega)]
                  try with_reducible rfl
                refine wpI_take (i := 7) (v := ?_) rfl (by kernel_rfl) (by kernel_rfl) (by kernel_rfl) (fun _ _ _ h => h) ⟨by rfl, ?_⟩ ?_
                rotate_left
                · intro X hI; obtain ⟨e0, e1, e2⟩ := FX.out X hI; go_simp; try go_bits
                  try rw [if_pos (by omega)]
                  try with_reducible rfl
                go_simp
                refine wpI_take (i := 8) (v := ?_) rfl (by kernel_rfl) (by kernel_rfl) (by kernel_rfl) (fun _ _ _ h => h) ⟨by rfl, ?_⟩ ?_
                rotate_left
                · intro X hI; obtain ⟨e0, e1, e2⟩ := FX.out X hI; go_simp; try go_bits
                  try rw [if_pos (by omega)]
                  try with_reducible rfl
                refine wpI_take (i := 9) (v := ?_) rfl (by kernel_rfl) (by kernel_rfl) (by kernel_rfl) (fun _ _ _ h => h) ⟨by rfl, ?_⟩ ?_
                rotate_left
                · intro X hI; obtain ⟨e0, e1, e2⟩ := FX.out X hI; go_simp; try go_bits
                  try rw [if_pos (by omega)]
                  try with_reducible rfl
                refine wpI_only (i := 10) rfl (by kernel_rfl) l0 (by rfl) ?_
                intro K hK
                go_simp
                go_wp2_with (go_at_call 21; (with_reducible refine (iD _).mono ?_); rintro e w5 ⟨rfl, hw⟩; obtain rfl := hw.symm)
                refine wpI_take (i := 11) (v := ?_) rfl (by kernel_rfl) (by kernel_rfl) (by kernel_rfl) (fun _ _ _ h => h) ⟨by rfl, ?_⟩ ?_
                rotate_left
                · intro X hI; obtain ⟨e0, e1, e2⟩ := FX.out X hI; go_simp; try go_bits
                  try rw [if_pos (by omega)]
                  try with_reducible rfl
                go_simp
                refine wpI_done l0 (by kernel_rfl) ?_ _
                go_wp2
                go_roundw
                case rel => exact ⟨k + 1, by go_num, by omega, bstep hB.out l0, HEN.out⟩
                case measure => simp [intOf]; omega
              · have HF : Hid (¬ Pok n m ns ls) := fun h => h2 (by have h3 := h.2.2.2.2 k h1; rw [HQ3.out] at h3; exact h3)
                have h5 : (((dcn ls (k : Int) m : Nat) : Int) != dors q) = true := bne_iff_ne.2 h2
                generalize dors q = dq at iD h5 h2 hdr
                generalize dcn ls (k : Int) m = dc at FX h5 h2 hle
                clear HQ3 a0
                refine wp_region_any (by kernel_rfl) ?_
                change wpAny _ _ _ _ _ _ _ (World.drew _)
                refine wpI_any (I := fun X => Below wr.heap.size wr X) _ _ _ _ ?_
                have l0 : Below wr.heap.size wr wr.drew := (Below.refl _ _).drew
                refine wpI_take (i := 0) (v := ?_) rfl (by kernel_rfl) (by kernel_rfl) (by kernel_rfl) (fun _ _ _ h => h) ⟨by rfl, ?_⟩ ?_
                rotate_left
                · intro X hI; obtain ⟨e0, e1, e2⟩ := FX.out X hI; go_simp; try go_bits
                  try rw [if_pos (by omega)]
                  try with_reducible rfl
                refine wpI_take (i := 1) (v := ?_) rfl (by kernel_rfl) (by kernel_rfl) (by kernel_rfl) (fun _ _ _ h => h) ⟨by rfl, ?_⟩ ?_
                rotate_left
                · intro X hI; obtain ⟨e0, e1, e2⟩ := FX.out X hI; go_simp; try go_bits
                  try rw [if_pos (by omega)]
                  try with_reducible rfl
                refine wpI_take (i := 2) (v := ?_) rfl (by kernel_rfl) (by kernel_rfl) (by kernel_rfl) (fun _ _ _ h => h) ⟨by rfl, ?_⟩ ?_
                rotate_left
                · intro X hI; obtain ⟨e0, e1, e2⟩ := FX.out X hI; go_simp; try go_bits
                  try rw [if_pos (by omega)]
                  try with_reducible rfl
                refine wpI_take (i := 3) (v := ?_) rfl (by kernel_rfl) (by kernel_rfl) (by kernel_rfl) (fun _ _ _ h => h) ⟨by rfl, ?_⟩ ?_
                rotate_left
                · intro X hI; obtain ⟨e0, e1, e2⟩ := FX.out X hI; go_simp; try go_bits
                  try rw [if_pos (by omega)]
                  try with_reducible rfl
                go_simp
                refine wpI_take (i := 4) (v := ?_) rfl (by kernel_rfl) (by kernel_rfl) (by kernel_rfl) (fun _ _ _ h => h) ⟨by rfl, ?_⟩ ?_
                rotate_left
                · intro X hI; obtain ⟨e0, e1, e2⟩ := FX.out X hI; go_simp; try go_bits
                  try rw [if_pos (by omega)]
                  try with_reducible rfl
                refine wpI_take (i := 5) (v := ?_) rfl (by kernel_rfl) (by kernel_rfl) (by kernel_rfl) (fun _ _ _ h => h) ⟨by rfl, ?_⟩ ?_
                rotate_left
                · intro X hI; obtain ⟨e0, e1, e2⟩ := FX.out X hI; go_simp; try go_bits
                  try rw [if_pos (by omega)]
                  try with_reducible rfl
                refine wpI_take (i := 6) (v := ?_) rfl (by kernel_rfl) (by kernel_rfl) (by kernel_rfl) (fun _ _ _ h => h) ⟨by rfl, ?_⟩ ?_
                rotate_left
                · intro X hI; obtain ⟨e0, e1, e2⟩ := FX.out X hI; go_simp; try go_bits
                  try rw [if_pos (by omega)]
                  try with_reducible rfl
                refine wpI_take (i := 7) (v := ?_) rfl (by kernel_rfl) (by kernel_rfl) (by kernel_rfl) (fun _ _ _ h => h) ⟨by rfl, ?_⟩ ?_
                rotate_left
                · intro X hI; obtain ⟨e0, e1, e2⟩ := FX.out X hI; go_simp; try go_bits
                  try rw [if_pos (by omega)]
                  try with_reducible rfl
                go_simp
                refine wpI_take (i := 8) (v := ?_) rfl (by kernel_rfl) (by kernel_rfl) (by kernel_rfl) (fun _ _ _ h => h) ⟨by rfl, ?_⟩ ?_
                rotate_left
                · intro X hI; obtain ⟨e0, e1, e2⟩ := FX.out X hI; go_simp; try go_bits
                  try rw [if_pos (by omega)]
                  try with_reducible rfl
                refine wpI_take (i := 9) (v := ?_) rfl (by kernel_rfl) (by kernel_rfl) (by kernel_rfl) (fun _ _ _ h => h) ⟨by rfl, ?_⟩ ?_
                rotate_left
                · intro X hI; obtain ⟨e0, e1, e2⟩ := FX.out X hI; go_simp; try go_bits
                  try rw [if_pos (by omega)]
                  try with_reducible rfl
                refine wpI_only (i := 10) rfl (by kernel_rfl) l0 (by rfl) ?_
                intro K hK
                go_simp
                go_wp2_with (go_at_call 21; (with_reducible refine (iD _).mono ?_); rintro e w5 ⟨rfl, hw⟩; obtain rfl := hw.symm)
                refine wpI_take (i := 11) (v := ?_) rfl (by kernel_rfl) (by kernel_rfl) (by kernel_rfl) (fun _ _ _ h => h) ⟨by rfl, ?_⟩ ?_
                rotate_left
                · intro X hI; obtain ⟨e0, e1, e2⟩ := FX.out X hI; go_simp; try go_bits
                  try rw [if_pos (by omega)]
                  try with_reducible rfl
                go_simp
                refine wpI_done l0 (by kernel_rfl) ?_ _
                go_wp2
                go_ret
                exact ⟨false, rfl, ⟨(fun h => nomatch h), fun h => absurd h HF.out⟩, bstep BW4.out l0⟩
            · have hkn : n = k := by omega
              subst hkn
              go_wp2
              go_ret
              exact ⟨true, rfl, ⟨fun _ => ⟨hn, hm, hG.out, hL.out, hE.out⟩, fun _ => rfl⟩, BW4.out⟩

end Go.Proofs.YtiadfabhpagmpaaDoor
