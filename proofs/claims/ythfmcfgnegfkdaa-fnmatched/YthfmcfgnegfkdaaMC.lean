/- Match: the program. -/
import Derived.Test.YthfmcfgnegfkdaaMB
namespace Go.Proofs.Ythfmcfgnegfkdaa
open Go.RowKit Go.Shelf
attribute [local go_sem] Oper.semAt_some

theorem boxed_stays {β : Type} (B : Nat) (t : TypeId) (v : Value) : Own (fun (_ : β) W => Boxed W B t v) := by
  rintro s X Y row hv hg hrow
  refine hv.kept hg (fun e' => ?_)
  obtain ⟨o, ho, hc⟩ := hrow B e'.symm
  rw [show X.heap[B]? = _ from hv] at ho; cases ho; cases hc

theorem map_ils (ps xs : Nat → Int) (m J : Nat) : ((fsm ps xs m J).map fun x => Value.int .i64 x.2) = ils (fun i => dsm ps xs i m) J := by
  simp [fsm, ils]

set_option maxRecDepth 100000 in
set_option maxHeartbeats 4000000 in
theorem iMatch_good {w : World} {v u : Value} {n m : Nat} {xs ps : Nat → Int} (hv : Il w v n xs) (hu : Il w u m ps) (h : GM n xs m ps) :
    Calls Try.prog 6 #[v, u] w fun e w' => Pst w w' e (n - m + 1) (fun i => dsm ps xs i m) true := by
  obtain ⟨i0, hi, hz0, hz1, hz2⟩ := info_parts Try.info3
  have hn := h.1.1.1
  have hm := h.2.2.1
  have hmn := h.2.2.2
  have OW : Hid ((w.alloc (.cells #[] 3)).ownsRow w.heap.size 3 1 (.slice (some ⟨w.heap.size, 0, none⟩) 0 0) 0 []) := own_empty w 3 1
  obtain ⟨A1, hA1⟩ : ∃ A1, w.alloc (.cells #[] 3) = A1 := ⟨_, rfl⟩
  have S1 : A1.heap.size = w.heap.size + 1 := by rw [← hA1]; simp
  have BL1 : Hid (Below w.heap.size w A1) := by rw [← hA1]; exact below_one _ _
  rw [hA1] at OW
  have OW2 : Hid ((A1.alloc (.cells #[.slice (some ⟨w.heap.size, 0, none⟩) 0 0] 24)).ownsRow w.heap.size 3 1 (.slice (some ⟨w.heap.size, 0, none⟩) 0 0) 0 []) := own_below OW.out (below_one _ _)
  have BX : Hid (Boxed (A1.alloc (.cells #[.slice (some ⟨w.heap.size, 0, none⟩) 0 0] 24)) (w.heap.size + 1) 24 (.slice (some ⟨w.heap.size, 0, none⟩) 0 0)) := by rw [← S1]; exact Boxed.new _ _ _
  have BL2 : Hid (Below w.heap.size w (A1.alloc (.cells #[.slice (some ⟨w.heap.size, 0, none⟩) 0 0] 24))) := bstep BL1.out (below_one _ _)
  obtain ⟨A2, hA2⟩ : ∃ A2, A1.alloc (.cells #[.slice (some ⟨w.heap.size, 0, none⟩) 0 0] 24) = A2 := ⟨_, rfl⟩
  have S2 : A2.heap.size = w.heap.size + 2 := by rw [← hA2]; simp; omega
  rw [hA2] at OW2 BX BL2
  have i1 := places_any (hv.below BL2.out) (hu.below BL2.out) (by omega) (by omega)
  rw [decide_eq_true h] at i1
  have HH : Hid (GM n xs m ps) := h
  obtain ⟨ao, cap, rfl, hcap, hc⟩ := hv
  obtain ⟨b, off, rfl, hlt, hcell⟩ := hc (by omega)
  obtain ⟨bo, cap2, rfl, hcap2, hc2⟩ := hu
  obtain ⟨b2, off2, rfl, hlt2, hcell2⟩ := hc2 (by omega)
  have HCL : Hid ((b < w.heap.size ∧ ∀ k, k < n → w.cell? ⟨b, off + k, none⟩ = some (.int .i64 (xs k))) ∧ (b2 < w.heap.size ∧ ∀ k, k < m → w.cell? ⟨b2, off2 + k, none⟩ = some (.int .i64 (ps k)))) := ⟨⟨hlt, hcell⟩, hlt2, hcell2⟩
  clear hc hc2 hcell hcell2 hlt hlt2 h
  have i2 := mt_mk (.slice (some ⟨b, off, none⟩) n cap) (.slice (some ⟨b2, off2, none⟩) m cap2) _ _ n m cap cap2 rfl rfl A2
  rw [S2] at i2
  have B1 : Hid (Boxed ((A2.alloc (.cells #[.slice (some ⟨b, off, none⟩) n cap] 24)).alloc (.cells #[.slice (some ⟨b2, off2, none⟩) m cap2] 24)) (w.heap.size + 2) 24 (.slice (some ⟨b, off, none⟩) n cap)) := by rw [← S2]; exact (Boxed.new _ _ _).alloc _
  have B2 : Hid (Boxed ((A2.alloc (.cells #[.slice (some ⟨b, off, none⟩) n cap] 24)).alloc (.cells #[.slice (some ⟨b2, off2, none⟩) m cap2] 24)) (w.heap.size + 2 + 1) 24 (.slice (some ⟨b2, off2, none⟩) m cap2)) := by
    have := Boxed.new (A2.alloc (.cells #[.slice (some ⟨b, off, none⟩) n cap] 24)) 24 (.slice (some ⟨b2, off2, none⟩) m cap2)
    rw [World.size_alloc, S2] at this
    exact this
  have BX4 : Hid (Boxed ((A2.alloc (.cells #[.slice (some ⟨b, off, none⟩) n cap] 24)).alloc (.cells #[.slice (some ⟨b2, off2, none⟩) m cap2] 24)) (w.heap.size + 1) 24 (.slice (some ⟨w.heap.size, 0, none⟩) 0 0)) := (BX.out.alloc _).alloc _
  have OW4 : Hid (((A2.alloc (.cells #[.slice (some ⟨b, off, none⟩) n cap] 24)).alloc (.cells #[.slice (some ⟨b2, off2, none⟩) m cap2] 24)).ownsRow w.heap.size 3 1 (.slice (some ⟨w.heap.size, 0, none⟩) 0 0) 0 []) := own_below (own_below OW2.out (below_one _ _)) (below_one _ _)
  have BL4 : Hid (Below w.heap.size w ((A2.alloc (.cells #[.slice (some ⟨b, off, none⟩) n cap] 24)).alloc (.cells #[.slice (some ⟨b2, off2, none⟩) m cap2] 24))) := bstep (bstep BL2.out (below_one _ _)) (below_one _ _)
  have S4 : ((A2.alloc (.cells #[.slice (some ⟨b, off, none⟩) n cap] 24)).alloc (.cells #[.slice (some ⟨b2, off2, none⟩) m cap2] 24)).heap.size = w.heap.size + 4 := by simp; omega
  obtain ⟨A4, hA4⟩ : ∃ A4, (A2.alloc (.cells #[.slice (some ⟨b, off, none⟩) n cap] 24)).alloc (.cells #[.slice (some ⟨b2, off2, none⟩) m cap2] 24) = A4 := ⟨_, rfl⟩
  rw [hA4] at i2 B1 B2 BX4 OW4 BL4 S4
  refine (callsIn_wide (n := 3)).1 ?_
  refine callsIn_of_wp_marks Try.func6 rfl trivial ?_ rfl
  simp only [Try.ntmps6, List.size_toArray, List.length_cons, List.length_nil, Nat.reduceAdd, Nat.reduceSub, Array.replicate_succ, Array.replicate_zero, List.push_toArray, List.append_toArray, List.nil_append, List.cons_append]
  gi_wp2_with (first
    | (refine ⟨trivial, ?_⟩; gi_at_call 16; refine (callsIn_wide.2 i1).mono ?_; rintro e w' ⟨rfl, hw⟩; obtain rfl := hw.symm)
    | (refine ⟨trivial, ?_⟩; gi_at_call 17; refine (callsIn_wide.2 i2).mono ?_; rintro e w' ⟨rfl, hw⟩; obtain rfl := hw.symm))
  clear i1 i2 hA1 hA2 hA4 OW OW2 BX BL1 BL2 S1 S2
  have SQ := mt_stops Fence.wide 2 trivial rfl (by omega) w.heap.size (w.heap.size + 2) (w.heap.size + 2 + 1) b off b2 off2 n m (n - m + 1) cap cap2 xs ps HH.out.1.2 HH.out.2.1.2 hn hm hmn hcap hcap2 rfl A4 BL4.out.size B1.out B2.out HCL.out.1.1 HCL.out.2.1
    (fun k hk => (BL4.out.cell (p := ⟨b, off + k, none⟩) HCL.out.1.1).trans (HCL.out.1.2 k hk)) (fun k hk => (BL4.out.cell (p := ⟨b2, off2 + k, none⟩) HCL.out.2.1).trans (HCL.out.2.2 k hk))
  refine wpIn_rangeFunc_ownF rfl (by omega) (gf := 27) (lb := #[.pointer (some ⟨w.heap.size + 2, 0, none⟩), .pointer (some ⟨w.heap.size + 2 + 1, 0, none⟩)]) rfl trivial (enters_of Try.func27 (by kernel_rfl) rfl) SQ (fun h k => h.t k)
    (fun W l o o' hl h h1 h2 => ⟨belowK_b (n₀ := w.heap.size) (w := A4) BL4.out.size W l o o' hl h h1 h2, World.putObj_heap_other (by omega), World.putObj_heap_other (by omega)⟩) (Below.refl _ _) (fun _ => rfl)
    (fun pre W => (∃ vv, Boxed W (w.heap.size + 1) 24 vv ∧ W.ownsRow w.heap.size 3 1 vv pre.length (pre.map fun x => .int .i64 x.2) ∧ True) ∧ (Boxed W (w.heap.size + 2) 24 (.slice (some ⟨b, off, none⟩) n cap) ∧ Boxed W (w.heap.size + 2 + 1) 24 (.slice (some ⟨b2, off2, none⟩) m cap2)) ∧ Below w.heap.size w W)
    (fun _ _ _ => False)
    (OwnFrom.and (Own.from (holdsRow_own w.heap.size (w.heap.size + 1) 24 3 1 (fun (pre : List Pl) => pre.length) (fun pre => pre.map fun x => .int .i64 x.2) (fun _ _ => True)) _) (OwnFrom.and (OwnFrom.and ((boxed_stays _ _ _).from _) ((boxed_stays _ _ _).from _)) (ownFrom_below (Nat.le_refl _) BL4.out.size)))
    (fun _ _ _ _ _ hs _ _ => hs)
    ⟨⟨_, BX4.out, OW4.out, trivial⟩, ⟨B1.out, B2.out⟩, BL4.out⟩
    (fun x => { tmps := #[.slice (some ⟨b, off, none⟩) n cap, .slice (some ⟨b2, off2, none⟩) m cap2, undef, undef, .slice none 0 0, .bool false, .pointer (some ⟨w.heap.size + 1, 0, none⟩), undef, .int .i64 x.2, .slice (some ⟨w.heap.size, 0, none⟩) 0 0, .slice (some ⟨b, off, none⟩) n cap, .slice (some ⟨b2, off2, none⟩) m cap2, .bool true, .bool false, undef, .slice (some ⟨b, off, none⟩) n cap, .slice (some ⟨b2, off2, none⟩) m cap2, .func (.func 27) #[] #[.pointer (some ⟨w.heap.size + 2, 0, none⟩), .pointer (some ⟨w.heap.size + 2 + 1, 0, none⟩)], .int .i64 (x.1 : Int), .int .i64 x.2, undef, undef, undef, undef, undef], defers := [] }) ?assign ?body ?done ?stop
  case assign =>
    intro l x W K hK
    unfold enp
    gi_wp2
    exact hK
  case body =>
    rintro l pre ⟨q, z⟩ W ⟨⟨vv, hb, hr, _⟩, ⟨hB1, hB2⟩, hBl⟩ hlen
    dsimp only
    have k1 := hb.cell
    have HB1 : Hid (Boxed W (w.heap.size + 2) 24 (.slice (some ⟨b, off, none⟩) n cap)) := hB1
    have HB2 : Hid (Boxed W (w.heap.size + 2 + 1) 24 (.slice (some ⟨b2, off2, none⟩) m cap2)) := hB2
    have HBl : Hid (Below w.heap.size w W) := hBl
    have hsz := hBl.size
    clear hB1 hB2 hBl
    gi_wp2_with (first
      | (gi_at_builtin; refine wpListIn_append_own _ rfl _ _ 24 rfl w.heap.size 3 i0 (.int .i64 0) 1 8 Try.underlying24 hi hz0 hz1 hz2 rfl (by decide) _ _ _ rfl (hr.alloc _) ⟨W.heap.size, 0, none⟩ 1 1 [.int .i64 z] rfl rfl (cell_one_new _ _ _) (by simp [Value.oneCell']) (by unfold maxLen; omega) (by omega) (by simp; omega) ?_; intro v' w1 hown' hgrow _; obtain ⟨g', cap', rfl⟩ := ownsRow_succ hown'; obtain ⟨hv1, hv2, hr2, hk2, hb2⟩ := hb.appended (by decide) hr hsz (by omega) hown' hgrow; have hc1 := hv1.cell; have hf1 := hv1.frozen; have F1 : Hid (Boxed (w1.setCell ⟨w.heap.size + 1, 0, none⟩ (.slice (some ⟨g', 0, none⟩) (pre.length + 1) cap')) (w.heap.size + 2) 24 (.slice (some ⟨b, off, none⟩) n cap)) := (((HB1.out.alloc _).kept hgrow (HB1.out.not_row (by decide) hr)).kept (grownBy_setCell' _ _ _) (by simp)); have F2 : Hid (Boxed (w1.setCell ⟨w.heap.size + 1, 0, none⟩ (.slice (some ⟨g', 0, none⟩) (pre.length + 1) cap')) (w.heap.size + 2 + 1) 24 (.slice (some ⟨b2, off2, none⟩) m cap2)) := (((HB2.out.alloc _).kept hgrow (HB2.out.not_row (by decide) hr)).kept (grownBy_setCell' _ _ _) (by simp)); have F3 : Hid (_ ∧ _ ∧ _ ∧ _) := ⟨hv2, hr2, hk2, hb2⟩; clear hv1 hv2 hr2 hk2 hb2 hown' hgrow))
    refine ⟨F3.out.2.2.1, ⟨F3.out.2.2.2, F1.out.trans HB1.out.symm, F2.out.trans HB2.out.symm⟩, ⟨_, F3.out.1, ?_, trivial⟩, ⟨F1.out, F2.out⟩, HBl.out.trans F3.out.2.2.2⟩
    have := F3.out.2.1
    rw [List.length_append, List.map_append]
    exact this
  case done =>
    rintro D ys W hD rfl ⟨⟨vv, hb, hr, _⟩, _, hBl⟩ hK
    have k1 := hb.cell
    rw [fsm_len, map_ils] at hr
    obtain ⟨g, cg, rfl⟩ := ownsRow_succ hr
    have HR : Hid (W.ownsRow w.heap.size 3 1 (.slice (some ⟨g, 0, none⟩) (n - m + 1) cg) (n - m + 1) (ils (fun i => dsm ps xs i m) (n - m + 1))) := hr
    have HD : Hid (w.heap.size ≤ D) := by show _ ≤ _; omega
    have HBl : Hid (Below w.heap.size w W) := hBl
    clear hr hBl hD
    gi_wp2
    refine ⟨by simp, .inl ⟨_, _, rfl, run_takeDeferred hK, ?_⟩⟩
    exact ⟨_, results_tmp2 rfl _ _ _, ⟨_, rfl, ownsRow_putObj HR.out _ hK rfl, HBl.out.trans (belowK_b (w := w) (Nat.le_refl _) W D _ _ HD.out hK rfl rfl)⟩⟩
  case stop =>
    rintro D c pre W _ _ h _
    exact h.elim

set_option maxRecDepth 100000 in
set_option maxHeartbeats 4000000 in
theorem iMatch_bad {w : World} {v u : Value} {n m : Nat} {xs ps : Nat → Int} (hv : Il w v n xs) (hu : Il w u m ps) (hn : n ≤ 1048576) (hm : m ≤ 1048576) (h : ¬ GM n xs m ps) (ys : Nat → Int) :
    Calls Try.prog 6 #[v, u] w fun e w' => Pst w w' e 0 ys false := by
  have OW : Hid ((w.alloc (.cells #[] 3)).ownsRow w.heap.size 3 1 (.slice (some ⟨w.heap.size, 0, none⟩) 0 0) 0 (ils ys 0)) := own_empty w 3 1
  obtain ⟨A1, hA1⟩ : ∃ A1, w.alloc (.cells #[] 3) = A1 := ⟨_, rfl⟩
  have S1 : A1.heap.size = w.heap.size + 1 := by rw [← hA1]; simp
  have BL1 : Hid (Below w.heap.size w A1) := by rw [← hA1]; exact below_one _ _
  rw [hA1] at OW
  have OW2 : Hid ((A1.alloc (.cells #[.slice (some ⟨w.heap.size, 0, none⟩) 0 0] 24)).ownsRow w.heap.size 3 1 (.slice (some ⟨w.heap.size, 0, none⟩) 0 0) 0 (ils ys 0)) := own_below OW.out (below_one _ _)
  have BX := Boxed.new A1 24 (.slice (some ⟨w.heap.size, 0, none⟩) 0 0)
  rw [S1] at BX
  have k1 := BX.cell
  have BL2 : Hid (Below w.heap.size w (A1.alloc (.cells #[.slice (some ⟨w.heap.size, 0, none⟩) 0 0] 24))) := bstep BL1.out (below_one _ _)
  clear BX
  obtain ⟨A2, hA2⟩ : ∃ A2, A1.alloc (.cells #[.slice (some ⟨w.heap.size, 0, none⟩) 0 0] 24) = A2 := ⟨_, rfl⟩
  rw [hA2] at OW2 BL2 k1
  have i1 := places_any (hv.below BL2.out) (hu.below BL2.out) hn hm
  rw [decide_eq_false h] at i1
  obtain ⟨ao, cap, rfl, hcap, hc⟩ := hv
  obtain ⟨bo, cap2, rfl, hcap2, hc2⟩ := hu
  clear hc hc2 h
  refine (callsIn_wide (n := 3)).1 ?_
  refine callsIn_of_wp_marks Try.func6 rfl trivial ?_ rfl
  simp only [Try.ntmps6, List.size_toArray, List.length_cons, List.length_nil, Nat.reduceAdd, Nat.reduceSub, Array.replicate_succ, Array.replicate_zero, List.push_toArray, List.append_toArray, List.nil_append, List.cons_append]
  gi_wp2_with (first
    | (refine ⟨trivial, ?_⟩; gi_at_call 16; refine (callsIn_wide.2 i1).mono ?_; rintro e w' ⟨rfl, hw⟩; obtain rfl := hw.symm)
    | (refine ⟨trivial, ?_⟩))
  exact ⟨_, results_tmp2 rfl _ _ _, ⟨_, rfl, OW2.out, BL2.out⟩⟩
end Go.Proofs.Ythfmcfgnegfkdaa
