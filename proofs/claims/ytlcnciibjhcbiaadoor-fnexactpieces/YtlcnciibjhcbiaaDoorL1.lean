/- Lists of pairs: what a slice holds, a copy of it, and that two are the same. -/
import Derived.Test.YtlcnciibjhcbiaaDoorP3
import Derived.Laws.OwnMore
import Derived.Deep.Cut
namespace Go.Proofs.YtlcnciibjhcbiaaDoor
open Go.RowKit

/-- The slice holds the n pairs (xs, ys). -/
def Fp (w : World) (v : Value) (n : Nat) (xs ys : Nat → Nat) : Prop := ∃ ao cap, v = .slice ao n cap ∧ n ≤ cap ∧ (0 < n → ∃ b off, ao = some ⟨b, off, none⟩ ∧ b < w.heap.size ∧ ∀ k, k < n → w.cell? ⟨b, off + k * 2, none⟩ = some (.float .f64 (xs k)) ∧ w.cell? ⟨b, off + k * 2 + 1, none⟩ = some (.float .f64 (ys k)))

theorem Fp.below {w w' : World} {v : Value} {n : Nat} {xs ys : Nat → Nat} (h : Fp w v n xs ys) (hb : Below w.heap.size w w') : Fp w' v n xs ys := by
  obtain ⟨ao, cap, rfl, hcap, hc⟩ := h
  refine ⟨ao, cap, rfl, hcap, fun h0 => ?_⟩
  obtain ⟨b, off, rfl, hlt, hcell⟩ := hc h0
  exact ⟨b, off, rfl, Nat.lt_of_lt_of_le hlt hb.size, fun k hk => ⟨(hb.cell (p := ⟨b, off + k * 2, none⟩) hlt).trans (hcell k hk).1, (hb.cell (p := ⟨b, off + k * 2 + 1, none⟩) hlt).trans (hcell k hk).2⟩⟩

/-- A row of cells that the call made, by a function. -/
def Ow (W : World) (B g n cap : Nat) (f : Nat → Value) : Prop := W.ownsRow B 40 2 (.slice (some ⟨g, 0, none⟩) n cap) n ((List.range (n * 2)).map f)

theorem list_fun (L : List Value) : L = (List.range L.length).map (fun i => L.getD i (.bool false)) := by
  apply List.ext_getElem
  · simp
  · intro i h1 h2
    simp [h1]

theorem set_fun (m j : Nat) (f : Nat → Value) (u : Value) : ((List.range m).map f).set j u = (List.range m).map (fun i => if i = j then u else f i) := by
  apply List.ext_getElem
  · simp
  · intro i h1 h2
    simp only [List.getElem_set, List.getElem_map, List.getElem_range]
    by_cases h : j = i
    · subst h; simp
    · simp [h, Ne.symm h]

theorem Ow.cell {W : World} {B g n cap : Nat} {f : Nat → Value} (h : Ow W B g n cap f) {j : Nat} (hj : j < n * 2) : W.cell? ⟨g, j, none⟩ = some (f j) := by
  rw [World.ownsRow.cellAt h j hj]
  simp [hj]

theorem Ow.put {W : World} {B g n cap : Nat} {f : Nat → Value} (h : Ow W B g n cap f) (j : Nat) (u : Value) : Ow (W.setCell ⟨g, j, none⟩ u) B g n cap (fun i => if i = j then u else f i) := by
  have := (World.ownsRow.stored h j u).1
  rw [set_fun] at this
  exact this

theorem Ow.below {W W' : World} {B g n cap : Nat} {f : Nat → Value} (h : Ow W B g n cap f) (hb : Below W.heap.size W W') : Ow W' B g n cap f := by
  refine ⟨h.1, ?_⟩
  rcases h.2 with ⟨h', _⟩ | ⟨g', cap', cur, h', hb', hg, rest⟩
  · simp at h'
  · exact .inr ⟨g', cap', cur, h', hb', (hb.block g' (Array.getElem?_eq_some_iff.1 hg).1).trans hg, rest⟩

theorem Tryd.info40 : (Tryd.prog.info? 40).map (fun i => (i.zero, i.size, i.bytes)) = some (some (.agg #[.float .f64 0, .float .f64 0]), 2, 16) := by kernel_rfl

theorem info_parts {o : Option TypeInfo} {z : Value} {s b : Nat} (h : o.map (fun i => (i.zero, i.size, i.bytes)) = some (some z, s, b)) : ∃ i, o = some i ∧ i.zero = some z ∧ i.size = s ∧ i.bytes = b := by
  cases o with
  | none => cases h
  | some i =>
    simp only [Option.map_some, Option.some.injEq, Prod.mk.injEq] at h
    exact ⟨i, rfl, h.1, h.2.1, h.2.2⟩

set_option maxHeartbeats 1000000 in
/-- A copy of a list. -/
theorem copy_any {w : World} {v : Value} {n : Nat} {xs ys : Nat → Nat} (hv : Fp w v n xs ys) (hn : n ≤ 1048576) :
    Calls Tryd.prog 8 #[v] w fun e w' => Below w.heap.size w w' ∧ ∃ v', e = .returned v' ∧ Fp w' v' n xs ys := by
  obtain ⟨i0, hi, hz0, hz1, hz2⟩ := info_parts Tryd.info40
  obtain ⟨ao, cap, rfl, hcap, hc⟩ := hv
  have HC : Hid _ := hc
  clear hc
  obtain ⟨w1, hm, hrow, hgr⟩ := run_makeSlice_full (P := Tryd.prog) w w.heap.size 24 40 i0 (.agg #[.float .f64 0, .float .f64 0]) 2 Tryd.underlying24 hi hz0 hz1 .i64 .i64 n (by omega) (by rw [hz2]; omega) (by unfold maxLen; omega) (Nat.le_refl _)
  have hbl : Below w.heap.size w w1 := (Below.refl _ _).grown hgr (Nat.le_refl _) (fun _ h => by cases h)
  generalize hL : (madeCells (Value.agg #[.float .f64 0, .float .f64 0]).cells (n * 2)).toList = L at hrow
  have hLn : L.length = n * 2 := by rw [← hL, Array.length_toList, size_madeCells]
  rw [list_fun L, hLn] at hrow
  have HR : Hid (∃ f, Ow w1 w.heap.size w.heap.size n n f) := ⟨_, hrow⟩
  have HB : Hid (Below w.heap.size w w1) := hbl
  clear hrow hbl hL hgr hi hz0 hz1 hz2 hLn
  have hST := rStore
  go_enter Tryd.func8, Tryd.ntmps8
  go_wp2
  go_loopw [4] (fun i wr => ∃ k : Nat, i = .int .i64 k ∧ k ≤ n ∧ Hid ((∃ f, Ow wr w.heap.size w.heap.size n n f ∧ ∀ i, i < k → f (i * 2) = .float .f64 (xs i) ∧ f (i * 2 + 1) = .float .f64 (ys i)) ∧ Below w.heap.size w wr)) (fun i _ => n - (intOf i).toNat)
  case atStart =>
    obtain ⟨f, hf⟩ := HR.out
    exact ⟨0, rfl, by omega, ⟨f, hf, fun i hi => by omega⟩, HB.out⟩
  case round =>
    obtain ⟨k, rfl, hk, hrel⟩ := hrel
    obtain ⟨⟨f, hf, hfx⟩, hbl⟩ := hrel.out
    by_cases h1 : k < n
    · obtain ⟨b, off, rfl, hlt, hcell⟩ := HC.out (by omega)
      have c : wr.cell? ⟨b, off + k * 2, none⟩ = some (.float .f64 (xs k)) := (hbl.cell (p := ⟨b, off + k * 2, none⟩) hlt).trans (hcell k h1).1
      have c' : wr.cell? ⟨b, off + k * 2 + 1, none⟩ = some (.float .f64 (ys k)) := (hbl.cell (p := ⟨b, off + k * 2 + 1, none⟩) hlt).trans (hcell k h1).2
      have hT := fun W => toPair_any (xs k) (ys k) W
      have HF : Hid (Ow wr w.heap.size w.heap.size n n f) := hf
      have HX : Hid _ := hfx
      have HBL : Hid _ := hbl
      clear hf hfx hbl hrel hcell
      go_wp2_with (go_at_call 26; refine (hT _).mono ?_; rintro e w2 ⟨rfl, hb2⟩; have o2 := Ow.below HF.out hb2; have d0 := o2.cell (j := k * 2) (by omega); have d1 := o2.cell (j := k * 2 + 1) (by omega); have z0 := World.ownsRow.frozenAt o2 (k * 2); have z1 := World.ownsRow.frozenAt o2 (k * 2 + 1); have OP : Hid _ := (o2.put (k * 2) (.float .f64 (xs k))).put (k * 2 + 1) (.float .f64 (ys k)); have HB2 : Hid _ := bstep HBL.out hb2; clear o2 hb2)
      go_roundw
      case rel =>
        refine ⟨k + 1, by go_num, by omega, ⟨_, OP.out, fun i hi => ?_⟩, (HB2.out.setCell (Nat.le_refl _) _).setCell (Nat.le_refl _) _⟩
        by_cases hik : i = k
        · subst hik; simp
        · obtain ⟨x1, x2⟩ := HX.out i (by omega)
          constructor
          · rw [if_neg (by omega), if_neg (by omega), x1]
          · rw [if_neg (by omega), if_neg (by omega), x2]
      case measure => simp [intOf]; omega
    · obtain rfl : k = n := by omega
      have HF : Hid (Ow wr w.heap.size w.heap.size k k f) := hf
      clear hf hrel
      go_wp2
      go_ret
      refine ⟨hbl, _, rfl, _, _, rfl, Nat.le_refl _, fun h0 => ⟨_, 0, rfl, ?_, fun j hj => ?_⟩⟩
      · exact (World.ownsRow.lt HF.out _ rfl).2
      · obtain ⟨x1, x2⟩ := hfx j hj
        rw [Nat.zero_add, Ow.cell HF.out (by omega), Ow.cell HF.out (by omega), x1, x2]
        exact ⟨rfl, rfl⟩

set_option maxHeartbeats 1000000 in
/-- Two lists that hold the same: eqPairS says so. -/
theorem eq_yes {w : World} {v u : Value} {n : Nat} {xs ys xs' ys' : Nat → Nat} (hv : Fp w v n xs ys) (hu : Fp w u n xs' ys') (hn : n ≤ 1048576) (he : ∀ k, k < n → cn (xs k) = cn (xs' k) ∧ cn (ys k) = cn (ys' k)) :
    Calls Tryd.prog 10 #[v, u] w fun e w' => e = .returned (.bool true) ∧ Below w.heap.size w w' := by
  obtain ⟨ao, cap, rfl, hcap, hc⟩ := hv
  obtain ⟨bo, cap2, rfl, hcap2, hc2⟩ := hu
  have HC : Hid _ := hc
  have HC2 : Hid _ := hc2
  have HE : Hid _ := he
  clear hc hc2 he
  go_enter Tryd.func10, Tryd.ntmps10
  go_wp2
  go_loopw [5] (fun i wr => ∃ k : Nat, i = .int .i64 k ∧ k ≤ n ∧ Hid (Below w.heap.size w wr)) (fun i _ => n - (intOf i).toNat)
  case atStart => exact ⟨0, rfl, by omega, Below.refl _ _⟩
  case round =>
    obtain ⟨k, rfl, hk, hbl⟩ := hrel
    by_cases h1 : k < n
    · obtain ⟨b, off, rfl, hlt, hcell⟩ := HC.out (by omega)
      obtain ⟨b2, off2, rfl, hlt2, hcell2⟩ := HC2.out (by omega)
      have ra : ∀ X, Below w.heap.size w X → X.cell? ⟨b, off + k * 2, none⟩ = some (.float .f64 (xs k)) ∧ X.cell? ⟨b, off + k * 2 + 1, none⟩ = some (.float .f64 (ys k)) := fun X hX => ⟨(hX.cell (p := ⟨b, off + k * 2, none⟩) hlt).trans (hcell k h1).1, (hX.cell (p := ⟨b, off + k * 2 + 1, none⟩) hlt).trans (hcell k h1).2⟩
      have rb : ∀ X, Below w.heap.size w X → X.cell? ⟨b2, off2 + k * 2, none⟩ = some (.float .f64 (xs' k)) ∧ X.cell? ⟨b2, off2 + k * 2 + 1, none⟩ = some (.float .f64 (ys' k)) := fun X hX => ⟨(hX.cell (p := ⟨b2, off2 + k * 2, none⟩) hlt2).trans (hcell2 k h1).1, (hX.cell (p := ⟨b2, off2 + k * 2 + 1, none⟩) hlt2).trans (hcell2 k h1).2⟩
      have hs := fun w => eqPair_yes (xs k) (ys k) (xs' k) (ys' k) w (HE.out k h1).1 (HE.out k h1).2
      have l0 : Below w.heap.size w wr.drew := hbl.out.drew
      clear hcell hcell2 hlt hlt2
      go_upto_region 6 with fail
      refine wp_region_any (by kernel_rfl) ?_
      change wpAny _ _ _ _ _ _ _ (World.drew _)
      refine wpI_any (I := fun X => Below w.heap.size w X) _ _ _ _ ?_
      refine wpI_take (i := 0) (v := ?_) rfl (by kernel_rfl) (by kernel_rfl) (by kernel_rfl) (fun _ _ _ h => h) ⟨by rfl, ?_⟩ ?_
      rotate_left
      · intro X _; go_simp; with_reducible rfl
      refine wpI_take (i := 1) (v := ?_) rfl (by kernel_rfl) (by kernel_rfl) (by kernel_rfl) (fun _ _ _ h => h) ⟨by rfl, ?_⟩ ?_
      rotate_left
      · intro X _; go_simp; with_reducible rfl
      refine wpI_take (i := 2) (v := ?_) rfl (by kernel_rfl) (by kernel_rfl) (by kernel_rfl) (fun _ _ _ h => h) ⟨by rfl, ?_⟩ ?_
      rotate_left
      · intro X _; go_simp; with_reducible rfl
      refine wpI_take (i := 3) (v := ?_) rfl (by kernel_rfl) (by kernel_rfl) (by kernel_rfl) (fun _ _ _ h => h) ⟨by rfl, ?_⟩ ?_
      rotate_left
      · intro X hI; obtain ⟨c0, c1⟩ := ra X hI; go_simp; with_reducible rfl
      refine wpI_take (i := 4) (v := ?_) rfl (by kernel_rfl) (by kernel_rfl) (by kernel_rfl) (fun _ _ _ h => h) ⟨by rfl, ?_⟩ ?_
      rotate_left
      · intro X _; go_simp; with_reducible rfl
      refine wpI_take (i := 5) (v := ?_) rfl (by kernel_rfl) (by kernel_rfl) (by kernel_rfl) (fun _ _ _ h => h) ⟨by rfl, ?_⟩ ?_
      rotate_left
      · intro X _; go_simp; with_reducible rfl
      refine wpI_take (i := 6) (v := ?_) rfl (by kernel_rfl) (by kernel_rfl) (by kernel_rfl) (fun _ _ _ h => h) ⟨by rfl, ?_⟩ ?_
      rotate_left
      · intro X _; go_simp; with_reducible rfl
      refine wpI_take (i := 7) (v := ?_) rfl (by kernel_rfl) (by kernel_rfl) (by kernel_rfl) (fun _ _ _ h => h) ⟨by rfl, ?_⟩ ?_
      rotate_left
      · intro X hI; obtain ⟨c0, c1⟩ := rb X hI; go_simp; with_reducible rfl
      refine wpI_only (i := 8) rfl (by kernel_rfl) l0 (by rfl) ?_
      intro K hK
      go_simp
      go_wp2_with (go_at_call 35; refine (hs _).mono ?_; rintro e x8 ⟨rfl, hb8⟩; have l1 := l0.trans (hb8.mono l0.size))
      refine wpI_only (i := 9) rfl (by kernel_rfl) l1 (by rfl) ?_
      intro K hK
      go_simp
      refine hK _ _ ?_
      refine wpI_done l1 (by kernel_rfl) ?_ _
      go_wp2
      go_roundw
      case rel => exact ⟨k + 1, by go_num, by omega, l1⟩
      case measure => simp [intOf]; omega
    · obtain rfl : k = n := by omega
      go_wp2
      go_ret
      exact ⟨rfl, hbl.out⟩
end Go.Proofs.YtlcnciibjhcbiaaDoor
