/- Best: both sides. -/
import Derived.Test.YthfmcfgnegfkdaaMC
namespace Go.Proofs.Ythfmcfgnegfkdaa
open Go.RowKit Go.Shelf
attribute [local go_sem] Oper.semAt_some

/-- Where the first greatest of the first k lies. -/
def bsw (f : Nat → Int) : Nat → Nat
  | 0 => 0
  | k + 1 => if f (bsw f k) < f k then k else bsw f k

theorem bsw_lt (f : Nat → Int) : ∀ k, 0 < k → bsw f k < k
  | 0, h => absurd h (Nat.lt_irrefl _)
  | k + 1, _ => by
    rw [bsw]
    split
    · omega
    · by_cases h : 0 < k
      · have := bsw_lt f k h; omega
      · obtain rfl : k = 0 := by omega
        exact Nat.zero_lt_one

/-- The best of what has come. -/
def bf (pre : List Pl) : Int × Int := pre.foldl (fun p x => if p.1 < 0 ∨ p.2 < x.2 then ((x.1 : Int), x.2) else p) (-1, 0)

theorem bf_snoc (pre : List Pl) (x : Pl) : bf (pre ++ [x]) = if (bf pre).1 < 0 ∨ (bf pre).2 < x.2 then ((x.1 : Int), x.2) else bf pre := by unfold bf; rw [List.foldl_append]; rfl

theorem bf_fsm (ps xs : Nat → Int) (m : Nat) : ∀ k, bf (fsm ps xs m (k + 1)) = ((bsw (fun i => dsm ps xs i m) (k + 1) : Int), dsm ps xs (bsw (fun i => dsm ps xs i m) (k + 1)) m)
  | 0 => by simp [fsm, bf, bsw]
  | k + 1 => by
    rw [fsm_succ, bf_snoc, bf_fsm ps xs m k, show bsw (fun i => dsm ps xs i m) (k + 1 + 1) = if dsm ps xs (bsw (fun i => dsm ps xs i m) (k + 1)) m < dsm ps xs (k + 1) m then k + 1 else bsw (fun i => dsm ps xs i m) (k + 1) from rfl]
    dsimp only
    by_cases h : dsm ps xs (bsw (fun i => dsm ps xs i m) (k + 1)) m < dsm ps xs (k + 1) m
    · rw [if_pos (.inr h), if_pos h]
    · rw [if_neg (by omega), if_neg h]

set_option maxRecDepth 100000 in
set_option maxHeartbeats 4000000 in
theorem iBest_good {w : World} {v u : Value} {n m J : Nat} {xs ps : Nat → Int} (hv : Il w v n xs) (hu : Il w u m ps) (h : GM n xs m ps) (hJ : J = n - m + 1) :
    Calls Try.prog 8 #[v, u] w fun e w' => e = .returned (.tuple #[.int .i64 (bsw (fun i => dsm ps xs i m) J : Int), .int .i64 (dsm ps xs (bsw (fun i => dsm ps xs i m) J) m)]) ∧ Below w.heap.size w w' := by
  have hn := h.1.1.1
  have hm := h.2.2.1
  have hmn := h.2.2.2
  have i1 := places_any hv hu (by omega) (by omega)
  rw [decide_eq_true h] at i1
  have BX0 : Hid (Boxed ((w.alloc (.cells #[.int .i64 (-1)] 3)).alloc (.cells #[.int .i64 0] 3)) w.heap.size 3 (.int .i64 (-1))) := (Boxed.new _ _ _).alloc _
  have BX1 : Hid (Boxed ((w.alloc (.cells #[.int .i64 (-1)] 3)).alloc (.cells #[.int .i64 0] 3)) (w.heap.size + 1) 3 (.int .i64 0)) := by
    have := Boxed.new (w.alloc (.cells #[.int .i64 (-1)] 3)) 3 (.int .i64 0)
    rw [World.size_alloc] at this
    exact this
  have BL2 : Hid (Below w.heap.size w ((w.alloc (.cells #[.int .i64 (-1)] 3)).alloc (.cells #[.int .i64 0] 3))) := bstep (below_one _ _) (below_one _ _)
  obtain ⟨A2, hA2⟩ : ∃ A2, (w.alloc (.cells #[.int .i64 (-1)] 3)).alloc (.cells #[.int .i64 0] 3) = A2 := ⟨_, rfl⟩
  have S2 : A2.heap.size = w.heap.size + 2 := by rw [← hA2]; simp
  rw [hA2] at BX0 BX1 BL2
  have HA2 : Hid ((w.alloc (.cells #[.int .i64 (-1)] 3)).alloc (.cells #[.int .i64 0] 3) = A2) := hA2
  clear hA2
  have HH : Hid (GM n xs m ps) := h
  obtain ⟨ao, cap, rfl, hcap, hc⟩ := hv
  obtain ⟨b, off, rfl, hlt, hcell⟩ := hc (by omega)
  obtain ⟨bo, cap2, rfl, hcap2, hc2⟩ := hu
  obtain ⟨b2, off2, rfl, hlt2, hcell2⟩ := hc2 (by omega)
  have HCL : Hid ((b < w.heap.size ∧ ∀ k, k < n → w.cell? ⟨b, off + k, none⟩ = some (.int .i64 (xs k))) ∧ (b2 < w.heap.size ∧ ∀ k, k < m → w.cell? ⟨b2, off2 + k, none⟩ = some (.int .i64 (ps k)))) := ⟨⟨hlt, hcell⟩, hlt2, hcell2⟩
  clear hc hc2 hcell hcell2 hlt hlt2 h
  have i2 := mt_mk (.slice (some ⟨b, off, none⟩) n cap) (.slice (some ⟨b2, off2, none⟩) m cap2) _ _ n m cap cap2 rfl rfl A2
  rw [S2] at i2
  have B1 : Hid (Boxed ((A2.alloc (.cells #[.slice (some ⟨b, off, none⟩) n cap] 24)).alloc (.cells #[.slice (some ⟨b2, off2, none⟩) m cap2] 24)) (w.heap.size + 2) 24 (.slice (some ⟨b, off, none⟩) n cap)) := by rw [← S2]; exact (Boxed.new _ _ _).alloc _
  have B2 : Hid (Boxed ((A2.alloc (.cells #[.slice (some ⟨b, off, none⟩) n cap] 24)).alloc (.cells #[.slice (some ⟨b2, off2, none⟩) m cap2] 24)) (w.heap.size + 2 + 1) 24 (.slice (some ⟨b2, off2, none⟩) m cap2)) := by
    have := Boxed.new (A2.alloc (.cells #[.slice (some ⟨b, off, none⟩) n cap] 24)) 24 (.slice (some ⟨b2, off2, none⟩) m cap2)
    rw [World.size_alloc, S2] at this
    exact this
  have BX4 : Hid (Boxed ((A2.alloc (.cells #[.slice (some ⟨b, off, none⟩) n cap] 24)).alloc (.cells #[.slice (some ⟨b2, off2, none⟩) m cap2] 24)) w.heap.size 3 (.int .i64 (-1)) ∧ Boxed ((A2.alloc (.cells #[.slice (some ⟨b, off, none⟩) n cap] 24)).alloc (.cells #[.slice (some ⟨b2, off2, none⟩) m cap2] 24)) (w.heap.size + 1) 3 (.int .i64 0)) := ⟨(BX0.out.alloc _).alloc _, (BX1.out.alloc _).alloc _⟩
  have BL4 : Hid (Below w.heap.size w ((A2.alloc (.cells #[.slice (some ⟨b, off, none⟩) n cap] 24)).alloc (.cells #[.slice (some ⟨b2, off2, none⟩) m cap2] 24))) := bstep (bstep BL2.out (below_one _ _)) (below_one _ _)
  have S4 : ((A2.alloc (.cells #[.slice (some ⟨b, off, none⟩) n cap] 24)).alloc (.cells #[.slice (some ⟨b2, off2, none⟩) m cap2] 24)).heap.size = w.heap.size + 4 := by simp; omega
  obtain ⟨A4, hA4⟩ : ∃ A4, (A2.alloc (.cells #[.slice (some ⟨b, off, none⟩) n cap] 24)).alloc (.cells #[.slice (some ⟨b2, off2, none⟩) m cap2] 24) = A4 := ⟨_, rfl⟩
  rw [hA4] at i2 B1 B2 BX4 BL4 S4
  refine (callsIn_wide (n := 3)).1 ?_
  refine callsIn_of_wp_marks Try.func8 rfl trivial ?_ rfl
  simp only [Try.ntmps8, List.size_toArray, List.length_cons, List.length_nil, Nat.reduceAdd, Nat.reduceSub, Array.replicate_succ, Array.replicate_zero, List.push_toArray, List.append_toArray, List.nil_append, List.cons_append]
  gi_wp2_with (first
    | (refine ⟨trivial, ?_⟩; gi_at_call 16; refine (callsIn_wide.2 i1).mono ?_; rintro e w' ⟨rfl, hw⟩; obtain rfl := hw.symm)
    | (refine ⟨trivial, ?_⟩; gi_at_call 17; rw [HA2.out]; refine (callsIn_wide.2 i2).mono ?_; rintro e w' ⟨rfl, hw⟩; obtain rfl := hw.symm))
  clear i1 i2 HA2 hA4 BX0 BX1 BL2 S2
  have SQ := mt_stops Fence.wide 2 trivial rfl (by omega) w.heap.size (w.heap.size + 2) (w.heap.size + 2 + 1) b off b2 off2 n m J cap cap2 xs ps HH.out.1.2 HH.out.2.1.2 hn hm hmn hcap hcap2 hJ A4 BL4.out.size B1.out B2.out HCL.out.1.1 HCL.out.2.1
    (fun k hk => (BL4.out.cell (p := ⟨b, off + k, none⟩) HCL.out.1.1).trans (HCL.out.1.2 k hk)) (fun k hk => (BL4.out.cell (p := ⟨b2, off2 + k, none⟩) HCL.out.2.1).trans (HCL.out.2.2 k hk))
  refine wpIn_rangeFunc_ownF rfl (by omega) (gf := 27) (lb := #[.pointer (some ⟨w.heap.size + 2, 0, none⟩), .pointer (some ⟨w.heap.size + 2 + 1, 0, none⟩)]) rfl trivial (enters_of Try.func27 (by kernel_rfl) rfl) SQ (fun h k => h.t k)
    (fun W l o o' hl h h1 h2 => ⟨belowK_b (n₀ := w.heap.size) (w := A4) BL4.out.size W l o o' hl h h1 h2, World.putObj_heap_other (by omega), World.putObj_heap_other (by omega)⟩) (Below.refl _ _) (fun _ => rfl)
    (fun pre W => (Boxed W w.heap.size 3 (.int .i64 (bf pre).1) ∧ Boxed W (w.heap.size + 1) 3 (.int .i64 (bf pre).2)) ∧ (Boxed W (w.heap.size + 2) 24 (.slice (some ⟨b, off, none⟩) n cap) ∧ Boxed W (w.heap.size + 2 + 1) 24 (.slice (some ⟨b2, off2, none⟩) m cap2)) ∧ Below w.heap.size w W)
    (fun _ _ _ => False)
    (OwnFrom.and (OwnFrom.and ((boxed_own _ _ (fun (pre : List Pl) => .int .i64 (bf pre).1)).from _) ((boxed_own _ _ (fun (pre : List Pl) => .int .i64 (bf pre).2)).from _)) (OwnFrom.and (OwnFrom.and ((boxed_stays _ _ _).from _) ((boxed_stays _ _ _).from _)) (ownFrom_below (Nat.le_refl _) BL4.out.size)))
    (fun _ _ _ _ _ hs _ _ => hs)
    ⟨BX4.out, ⟨B1.out, B2.out⟩, BL4.out⟩
    (fun x => { tmps := #[.slice (some ⟨b, off, none⟩) n cap, .slice (some ⟨b2, off2, none⟩) m cap2, undef, undef, .int .i64 0, .int .i64 0, .pointer (some ⟨w.heap.size, 0, none⟩), .pointer (some ⟨w.heap.size + 1, 0, none⟩), .int .i64 (x.1 : Int), .int .i64 x.2, .slice (some ⟨b, off, none⟩) n cap, .slice (some ⟨b2, off2, none⟩) m cap2, .bool true, .bool false, .slice (some ⟨b, off, none⟩) n cap, .slice (some ⟨b2, off2, none⟩) m cap2, .func (.func 27) #[] #[.pointer (some ⟨w.heap.size + 2, 0, none⟩), .pointer (some ⟨w.heap.size + 2 + 1, 0, none⟩)], .int .i64 (x.1 : Int), .int .i64 x.2, undef, undef, undef, undef, undef, undef, undef, undef, undef, undef, undef], defers := [] }) ?assign ?body ?done ?stop
  case assign =>
    intro l x W K hK
    unfold enp
    gi_wp2
    exact hK
  case body =>
    rintro l pre ⟨q, z⟩ W ⟨⟨hb0, hb1⟩, ⟨hB1, hB2⟩, hBl⟩ hlen
    dsimp only
    have k0 := hb0.cell
    have k1 := hb1.cell
    have HB1 : Hid (Boxed W (w.heap.size + 2) 24 (.slice (some ⟨b, off, none⟩) n cap)) := hB1
    have HB2 : Hid (Boxed W (w.heap.size + 2 + 1) 24 (.slice (some ⟨b2, off2, none⟩) m cap2)) := hB2
    have HBl : Hid (Below w.heap.size w W) := hBl
    have G0 : Hid (Boxed W w.heap.size 3 (.int .i64 (bf pre).1)) := hb0
    have G1 : Hid (Boxed W (w.heap.size + 1) 3 (.int .i64 (bf pre).2)) := hb1
    have z0 := hb0.frozen
    have z1 := hb1.frozen
    have hbf := bf_snoc pre (q, z)
    clear hB1 hB2 hBl hb0 hb1
    have YES : (bf pre).1 < 0 ∨ (bf pre).2 < z → ∀ W', W' = (W.setCell ⟨w.heap.size, 0, none⟩ (.int .i64 (q : Int))).setCell ⟨w.heap.size + 1, 0, none⟩ (.int .i64 z) → KeepsOthers W W' ∧ Kp w.heap.size (w.heap.size + 2) (w.heap.size + 2 + 1) W W' ∧ ((Boxed W' w.heap.size 3 (.int .i64 (bf (pre ++ [(q, z)])).1) ∧ Boxed W' (w.heap.size + 1) 3 (.int .i64 (bf (pre ++ [(q, z)])).2)) ∧ (Boxed W' (w.heap.size + 2) 24 (.slice (some ⟨b, off, none⟩) n cap) ∧ Boxed W' (w.heap.size + 2 + 1) 24 (.slice (some ⟨b2, off2, none⟩) m cap2)) ∧ Below w.heap.size w W') := by
      intro hc W' hW'
      rw [if_pos hc] at hbf
      rw [hbf]
      have a0 : Boxed W' w.heap.size 3 (.int .i64 (q : Int)) := by rw [hW']; exact (G0.out.set _).kept (grownBy_setCell' _ _ _) (by simp)
      have a1 : Boxed W' (w.heap.size + 1) 3 (.int .i64 z) := by rw [hW']; exact (G1.out.kept (grownBy_setCell' _ _ _) (by simp)).set _
      have a2 : Boxed W' (w.heap.size + 2) 24 (.slice (some ⟨b, off, none⟩) n cap) := by rw [hW']; exact (HB1.out.kept (grownBy_setCell' _ _ _) (by simp)).kept (grownBy_setCell' _ _ _) (by simp)
      have a3 : Boxed W' (w.heap.size + 2 + 1) 24 (.slice (some ⟨b2, off2, none⟩) m cap2) := by rw [hW']; exact (HB2.out.kept (grownBy_setCell' _ _ _) (by simp; omega)).kept (grownBy_setCell' _ _ _) (by simp)
      have a4 : Below w.heap.size W W' := by rw [hW']; exact ((Below.refl _ W).setCell (p := ⟨w.heap.size, 0, none⟩) (Nat.le_refl _) _).setCell (p := ⟨w.heap.size + 1, 0, none⟩) (by show w.heap.size ≤ w.heap.size + 1; omega) _
      refine ⟨by rw [hW']; exact (KeepsOthers.setCell _ _ _).trans (KeepsOthers.setCell _ _ _), ⟨a4, a2.trans HB1.out.symm, a3.trans HB2.out.symm⟩, ⟨a0, a1⟩, ⟨a2, a3⟩, HBl.out.trans a4⟩
    have NO : ¬ ((bf pre).1 < 0 ∨ (bf pre).2 < z) → KeepsOthers W W ∧ Kp w.heap.size (w.heap.size + 2) (w.heap.size + 2 + 1) W W ∧ ((Boxed W w.heap.size 3 (.int .i64 (bf (pre ++ [(q, z)])).1) ∧ Boxed W (w.heap.size + 1) 3 (.int .i64 (bf (pre ++ [(q, z)])).2)) ∧ (Boxed W (w.heap.size + 2) 24 (.slice (some ⟨b, off, none⟩) n cap) ∧ Boxed W (w.heap.size + 2 + 1) 24 (.slice (some ⟨b2, off2, none⟩) m cap2)) ∧ Below w.heap.size w W) := by
      intro hc
      rw [if_neg hc] at hbf
      rw [hbf]
      exact ⟨KeepsOthers.refl _, Kp.r _ _ _ _, ⟨G0.out, G1.out⟩, ⟨HB1.out, HB2.out⟩, HBl.out⟩
    have YY : Hid _ := YES
    have NN : Hid _ := NO
    clear YES NO hbf G0 G1 HB1 HB2
    obtain ⟨B0, hB0⟩ : ∃ B0, B0 = (bf pre).1 := ⟨_, rfl⟩
    obtain ⟨M0, hM0⟩ : ∃ M0, M0 = (bf pre).2 := ⟨_, rfl⟩
    rw [← hB0] at k0 YY NN
    rw [← hM0] at k1 YY NN
    clear hB0 hM0
    by_cases g1 : B0 < 0
    · gi_wp2
      exact YY.out (.inl g1) _ rfl
    · by_cases g2 : M0 < z
      · gi_wp2
        exact YY.out (.inr g2) _ rfl
      · gi_wp2
        exact NN.out (by omega)
  case done =>
    rintro D ys W hD rfl ⟨⟨hb0, hb1⟩, _, hBl⟩ hK
    obtain ⟨j, rfl⟩ : ∃ j, J = j + 1 := ⟨n - m, hJ⟩
    rw [bf_fsm] at hb0 hb1
    dsimp only at hb0 hb1
    obtain ⟨R, hR⟩ : ∃ R, R = bsw (fun i => dsm ps xs i m) (j + 1) := ⟨_, rfl⟩
    rw [← hR] at hb0 hb1
    obtain ⟨E, hE⟩ : ∃ E, E = dsm ps xs R m := ⟨_, rfl⟩
    rw [← hE] at hb1
    have HRE : Hid (R = bsw (fun i => dsm ps xs i m) (j + 1) ∧ E = dsm ps xs R m) := ⟨hR, hE⟩
    clear hR hE
    have k0 := hb0.cell
    have k1 := hb1.cell
    have HD : Hid (w.heap.size ≤ D) := by show _ ≤ _; omega
    have HBl : Hid (Below w.heap.size w W) := hBl
    clear hBl hD hb0 hb1
    have hmix : Try.prog.follows .mixedOrders = true := by kernel_rfl
    have HK : W.drew.heap[D]? = some (.deferred (some [])) := hK
    gi_wp2
    gi_region
    all_goals gi_wp2
    all_goals
      refine ⟨by simp, .inl ⟨_, _, rfl, run_takeDeferred HK, ?_⟩⟩
      exact ⟨_, results_tmp2 rfl _ _ _, by rw [← HRE.out.1, ← HRE.out.2]; rfl, HBl.out.drew.trans (belowK_b (w := w) (Nat.le_refl _) W.drew D _ _ HD.out HK rfl rfl)⟩
  case stop =>
    rintro D c pre W _ _ h _
    exact h.elim
end Go.Proofs.Ythfmcfgnegfkdaa
