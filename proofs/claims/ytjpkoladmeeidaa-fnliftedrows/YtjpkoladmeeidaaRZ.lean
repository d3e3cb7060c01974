/- Lift2 and Unlift2: the model. -/
import Derived.Test.YtjpkoladmeeidaaRY
import Derived.Test.YtjpkoladmeeidaaRX
namespace Go.Proofs.Ytjpkoladmeeidaa
open Go.RowKit

/-- Rows told. -/
def PsI (w w' : World) (e : Ending) (n m : Nat) (Z : Nat → Nat → Int) (ok : Bool) : Prop := ∃ u, e = .returned (.tuple #[u, .bool ok]) ∧ Ipp w' u n (fun _ => m) Z ∧ Below w.heap.size w w'

theorem made_nil (n : Nat) : (madeCells (Value.slice none 0 0).cells (n * 1)).toList = (List.range n).map (fun _ => Value.slice none 0 0) := by
  apply List.ext_getElem?
  intro i
  by_cases h : i < n
  · simp [madeCells, Value.cells, h, Nat.mod_one]
  · rw [List.getElem?_eq_none (by rw [Array.length_toList, size_madeCells]; omega), List.getElem?_eq_none (by simp; omega)]

/-- Rows of no numbers, made. -/
theorem ipp_made {w w1 : World} {n : Nat} (h : w1.ownsRow w.heap.size 29 1 (.slice (some ⟨w.heap.size, 0, none⟩) n n) n (madeCells (Value.slice none 0 0).cells (n * 1)).toList) (Z : Nat → Nat → Int) : Ipp w1 (.slice (some ⟨w.heap.size, 0, none⟩) n n) n (fun _ => 0) Z := by
  rw [made_nil] at h
  refine ⟨_, n, rfl, Nat.le_refl _, fun _ => ⟨w.heap.size, 0, fun _ => .slice none 0 0, rfl, (World.ownsRow.lt h _ rfl).2, fun k hk => ⟨?_, none, 0, rfl, Nat.le_refl _, fun h0 => absurd h0 (Nat.lt_irrefl 0)⟩⟩⟩
  have := World.ownsRow.cellAt h k (by omega)
  rw [Nat.zero_add, this]
  simp [hk]

set_option maxRecDepth 20000 in
set_option maxHeartbeats 8000000 in
theorem sL2_good {w : World} {v : Value} {n m : Nat} {ms : Nat → Nat} {X : Nat → Nat → Int} {kind : Int} (hk : Knd kind) (hv : Ipp w v n ms X) (hg : Pln 1000000000 n ms X) (hms : ∀ k, k < n → ms k = m) (hm64 : m ≤ 64) :
    Calls Try.prog 7 #[.int .i64 kind, v] w fun e w' => PsI w w' e n m (Z2 kind n m X) true := by
  have i1 := sKind_any kind
  rw [decide_eq_true hk] at i1
  have i2 := sRows9 hv (by have := hg.1; omega) (fun k hk => by have := (hg.2 k hk).2.1; omega)
  have hn := hg.1
  have HV : Hid (∀ W, Below w.heap.size w W → Ipp W v n (fun _ => m) X) := fun W hW => (hv.cast hms).below hW
  have HXA : Hid (∀ k, k < n → Wth 1000000000 m (X k)) := fun k hk2 => by have := (hg.2 k hk2).2.2; rw [hms k hk2] at this; exact this
  have HG : Hid (Pln 1000000000 n ms X) := hg
  have a2 : Calls Try.prog 21 #[v, .int .i64 1000000000] w fun e w' => e = .returned (.bool true) ∧ Below w.heap.size w w' := i2.mono (by
    rintro e w' ⟨⟨d, rfl, hd⟩, m', rfl⟩
    obtain rfl := hd.2 HG.out
    exact ⟨rfl, below_drewN (Below.refl _ _) _⟩)
  clear hg i2 HG hms
  by_cases h0 : n = 0
  · obtain ⟨i0, hi, hz0, hz1, hz2⟩ := info_parts Try.info29
    obtain ⟨ao, cap, rfl, hcap, _⟩ := hv
    have hmk := fun W : World => run_makeSlice_full (P := Try.prog) W W.heap.size 24 29 i0 (.slice none 0 0) 1 Try.underlying24 hi hz0 hz1 .i64 .i64 n (by omega) (by rw [hz2]; omega) (by unfold maxLen; omega) (Nat.le_refl _)
    have hb0 : ((n : Int) == 0) = true := by simp; omega
    have H0 : Hid (n = 0) := h0
    clear h0
    go_enter Try.func7, Try.ntmps7
    go_upto_region 3 with (first
      | (go_at_call 20; (with_reducible refine (i1 _).mono ?_); rintro e w' ⟨rfl, hw⟩; obtain rfl := hw.symm)
      | (go_at_call 21; (with_reducible refine a2.mono ?_); rintro e W0 ⟨rfl, hb⟩; have B0 : Hid (Below w.heap.size w W0) := hb; clear hb; obtain ⟨w1, hm, hrow, hgr⟩ := hmk W0))
    have B1 : Hid (Below W0.heap.size W0 w1) := (Below.refl _ _).grown hgr (Nat.le_refl _) (fun _ h => by cases h)
    have HR : Hid (Ipp w1 (.slice (some ⟨W0.heap.size, 0, none⟩) n n) n (fun _ => m) (Z2 kind n m X)) := (ipp_made hrow _).cast (fun k hk2 => absurd hk2 (by have := H0.out; omega))
    clear hrow hgr
    go_wp2
    go_ret2
    exact ⟨_, rfl, HR.out, bstep B0.out B1.out⟩
  · have n0 : 0 < n := by omega
    have n0' : (0 : Int) < n := by omega
    have hb0 : ((n : Int) == 0) = false := beq_eq_false_iff_ne.2 (by omega)
    have HC0 : Hid (∃ b off qa qc cap, v = .slice (some ⟨b, off, none⟩) n cap ∧ n ≤ cap ∧ m ≤ qc ∧ ∀ W, Below w.heap.size w W → W.cell? ⟨b, off, none⟩ = some (.slice qa m qc)) := by
      obtain ⟨ao, cap, rfl, hcap, hc⟩ := HV.out w (Below.refl _ _)
      obtain ⟨b, off, R, rfl, hlt, hr⟩ := hc n0
      obtain ⟨h1, qa, qc, h2, h3, _⟩ := hr 0 n0
      exact ⟨b, off, qa, qc, cap, rfl, hcap, h3, fun W hW => by have := hW.cell (p := ⟨b, off + 0, none⟩) hlt; rw [h1, h2] at this; exact this⟩
    obtain ⟨b, off, qa, qc, cap, rfl, hcap, hqc, hcell⟩ := HC0.out
    have HCE : Hid (∀ W, Below w.heap.size w W → W.cell? ⟨b, off, none⟩ = some (.slice qa m qc)) := hcell
    clear hcell HC0 h0 hv
    by_cases hm0 : m = 0
    · obtain ⟨i0, hi, hz0, hz1, hz2⟩ := info_parts Try.info29
      have hmk := fun W : World => run_makeSlice_full (P := Try.prog) W W.heap.size 24 29 i0 (.slice none 0 0) 1 Try.underlying24 hi hz0 hz1 .i64 .i64 n (by omega) (by rw [hz2]; omega) (by unfold maxLen; omega) (Nat.le_refl _)
      have hb1 : ((m : Int) == 0) = true := by simp; omega
      have H0 : Hid (m = 0) := hm0
      clear hm0
      go_enter Try.func7, Try.ntmps7
      go_upto_region 3 with (first
        | (go_at_call 20; (with_reducible refine (i1 _).mono ?_); rintro e w' ⟨rfl, hw⟩; obtain rfl := hw.symm)
        | (go_at_call 21; (with_reducible refine a2.mono ?_); rintro e W0 ⟨rfl, hb⟩; have B0 : Hid (Below w.heap.size w W0) := hb; clear hb; obtain ⟨w1, hm, hrow, hgr⟩ := hmk W0))
      have c := HCE.out W0 B0.out
      have B1 : Hid (Below W0.heap.size W0 w1) := (Below.refl _ _).grown hgr (Nat.le_refl _) (fun _ h => by cases h)
      have HR : Hid (Ipp w1 (.slice (some ⟨W0.heap.size, 0, none⟩) n n) n (fun _ => m) (Z2 kind n m X)) := (ipp_made hrow _).cast (fun k hk2 => H0.out.symm)
      clear hrow hgr
      go_wp2
      go_ret2
      exact ⟨_, rfl, HR.out, bstep B0.out B1.out⟩
    · have hb1 : ((m : Int) == 0) = false := beq_eq_false_iff_ne.2 (by omega)
      have HX0 : Hid (∀ k, k < n → Wth 1000000000 m (X k)) := HXA.out
      have HX2 : Hid (∀ j, j < m → Wth (5 * 1000000000) n ((fun j i => lft kind m (X i) j) j)) := fun j hj i hi => (chg_lift hk).wth (by omega) (HXA.out i hi) j hj
      go_enter Try.func7, Try.ntmps7
      go_upto_region 3 with (first
        | (go_at_call 20; (with_reducible refine (i1 _).mono ?_); rintro e w' ⟨rfl, hw⟩; obtain rfl := hw.symm)
        | (go_at_call 21; (with_reducible refine a2.mono ?_); rintro e W0 ⟨rfl, hb⟩; have B0 : Hid (Below w.heap.size w W0) := hb; clear hb))
      have c := HCE.out W0 B0.out
      have HW0 : Hid (Ipp W0 (.slice (some ⟨b, off, none⟩) n cap) n (fun _ => m) X) := HV.out W0 B0.out
      have j0 := sEachF hk HW0.out (by omega) (by omega) (show (4 : Int) ≤ 1000000000 by omega) (show (1000000000 : Int) ≤ 1000000000000000 by omega) HX0.out
      go_wp2_with (first
        | (go_at_call 23; (with_reducible refine j0.mono ?_); rintro e W1 ⟨v1, rfl, ho, hb⟩; have G1 : Hid (Gr W0.heap.size W1 v1 n (fun _ => m) (fun k => lft kind m (X k))) := ho; have B1 : Hid (Below W0.heap.size W0 W1) := hb; clear ho hb; have j1 := sTurn_any (Gr.ipp G1.out) (by omega) (by omega) (by omega))
        | (go_at_call 22; (with_reducible refine j1.mono ?_); rintro e W2 ⟨v2, rfl, ho, hb⟩; have G2 : Hid (Gr W1.heap.size W2 v2 m (fun _ => n) (fun j i => lft kind m (X i) j)) := ho; have B2 : Hid (Below W1.heap.size W1 W2) := hb; clear ho hb; have j2 := sEachF hk (Gr.ipp G2.out) (by omega) (by omega) (show (4 : Int) ≤ 5 * 1000000000 by omega) (show (5 * 1000000000 : Int) ≤ 1000000000000000 by omega) HX2.out)
        | (go_at_call 23; (with_reducible refine j2.mono ?_); rintro e W3 ⟨v3, rfl, ho, hb⟩; have G3 : Hid (Gr W2.heap.size W3 v3 m (fun _ => n) (fun j => lft kind n (fun i => lft kind m (X i) j))) := ho; have B3 : Hid (Below W2.heap.size W2 W3) := hb; clear ho hb; have j3 := sTurn_any (Gr.ipp G3.out) (by omega) (by omega) (by omega))
        | (go_at_call 22; (with_reducible refine j3.mono ?_); rintro e W4 ⟨v4, rfl, ho, hb⟩; have G4 : Hid (Gr W3.heap.size W4 v4 n (fun _ => m) (Z2 kind n m X)) := ho; have B4 : Hid (Below W3.heap.size W3 W4) := hb; clear ho hb))
      go_ret2
      exact ⟨_, rfl, Gr.ipp G4.out, bstep B0.out (bstep (bstep (bstep B1.out B2.out) B3.out) B4.out)⟩

set_option maxRecDepth 20000 in
set_option maxHeartbeats 8000000 in
theorem sU2_good {w : World} {v : Value} {n m : Nat} {ms : Nat → Nat} {X : Nat → Nat → Int} {kind : Int} (hk : Knd kind) (hv : Ipp w v n ms X) (hg : Pln 8000000000 n ms X) (hms : ∀ k, k < n → ms k = m) (hm64 : m ≤ 64) :
    Calls Try.prog 10 #[.int .i64 kind, v] w fun e w' => PsI w w' e n m (U2 kind n m X) true := by
  have i1 := sKind_any kind
  rw [decide_eq_true hk] at i1
  have i2 := sRows8 hv (by have := hg.1; omega) (fun k hk => by have := (hg.2 k hk).2.1; omega)
  have hn := hg.1
  have HV : Hid (∀ W, Below w.heap.size w W → Ipp W v n (fun _ => m) X) := fun W hW => (hv.cast hms).below hW
  have HXA : Hid (∀ k, k < n → Wth 8000000000 m (X k)) := fun k hk2 => by have := (hg.2 k hk2).2.2; rw [hms k hk2] at this; exact this
  have HG : Hid (Pln 8000000000 n ms X) := hg
  have a2 : Calls Try.prog 21 #[v, .int .i64 8000000000] w fun e w' => e = .returned (.bool true) ∧ Below w.heap.size w w' := i2.mono (by
    rintro e w' ⟨⟨d, rfl, hd⟩, m', rfl⟩
    obtain rfl := hd.2 HG.out
    exact ⟨rfl, below_drewN (Below.refl _ _) _⟩)
  clear hg i2 HG hms
  by_cases h0 : n = 0
  · obtain ⟨i0, hi, hz0, hz1, hz2⟩ := info_parts Try.info29
    obtain ⟨ao, cap, rfl, hcap, _⟩ := hv
    have hmk := fun W : World => run_makeSlice_full (P := Try.prog) W W.heap.size 24 29 i0 (.slice none 0 0) 1 Try.underlying24 hi hz0 hz1 .i64 .i64 n (by omega) (by rw [hz2]; omega) (by unfold maxLen; omega) (Nat.le_refl _)
    have hb0 : ((n : Int) == 0) = true := by simp; omega
    have H0 : Hid (n = 0) := h0
    clear h0
    go_enter Try.func10, Try.ntmps10
    go_upto_region 3 with (first
      | (go_at_call 20; (with_reducible refine (i1 _).mono ?_); rintro e w' ⟨rfl, hw⟩; obtain rfl := hw.symm)
      | (go_at_call 21; (with_reducible refine a2.mono ?_); rintro e W0 ⟨rfl, hb⟩; have B0 : Hid (Below w.heap.size w W0) := hb; clear hb; obtain ⟨w1, hm, hrow, hgr⟩ := hmk W0))
    have B1 : Hid (Below W0.heap.size W0 w1) := (Below.refl _ _).grown hgr (Nat.le_refl _) (fun _ h => by cases h)
    have HR : Hid (Ipp w1 (.slice (some ⟨W0.heap.size, 0, none⟩) n n) n (fun _ => m) (U2 kind n m X)) := (ipp_made hrow _).cast (fun k hk2 => absurd hk2 (by have := H0.out; omega))
    clear hrow hgr
    go_wp2
    go_ret2
    exact ⟨_, rfl, HR.out, bstep B0.out B1.out⟩
  · have n0 : 0 < n := by omega
    have n0' : (0 : Int) < n := by omega
    have hb0 : ((n : Int) == 0) = false := beq_eq_false_iff_ne.2 (by omega)
    have HC0 : Hid (∃ b off qa qc cap, v = .slice (some ⟨b, off, none⟩) n cap ∧ n ≤ cap ∧ m ≤ qc ∧ ∀ W, Below w.heap.size w W → W.cell? ⟨b, off, none⟩ = some (.slice qa m qc)) := by
      obtain ⟨ao, cap, rfl, hcap, hc⟩ := HV.out w (Below.refl _ _)
      obtain ⟨b, off, R, rfl, hlt, hr⟩ := hc n0
      obtain ⟨h1, qa, qc, h2, h3, _⟩ := hr 0 n0
      exact ⟨b, off, qa, qc, cap, rfl, hcap, h3, fun W hW => by have := hW.cell (p := ⟨b, off + 0, none⟩) hlt; rw [h1, h2] at this; exact this⟩
    obtain ⟨b, off, qa, qc, cap, rfl, hcap, hqc, hcell⟩ := HC0.out
    have HCE : Hid (∀ W, Below w.heap.size w W → W.cell? ⟨b, off, none⟩ = some (.slice qa m qc)) := hcell
    clear hcell HC0 h0 hv
    by_cases hm0 : m = 0
    · obtain ⟨i0, hi, hz0, hz1, hz2⟩ := info_parts Try.info29
      have hmk := fun W : World => run_makeSlice_full (P := Try.prog) W W.heap.size 24 29 i0 (.slice none 0 0) 1 Try.underlying24 hi hz0 hz1 .i64 .i64 n (by omega) (by rw [hz2]; omega) (by unfold maxLen; omega) (Nat.le_refl _)
      have hb1 : ((m : Int) == 0) = true := by simp; omega
      have H0 : Hid (m = 0) := hm0
      clear hm0
      go_enter Try.func10, Try.ntmps10
      go_upto_region 3 with (first
        | (go_at_call 20; (with_reducible refine (i1 _).mono ?_); rintro e w' ⟨rfl, hw⟩; obtain rfl := hw.symm)
        | (go_at_call 21; (with_reducible refine a2.mono ?_); rintro e W0 ⟨rfl, hb⟩; have B0 : Hid (Below w.heap.size w W0) := hb; clear hb; obtain ⟨w1, hm, hrow, hgr⟩ := hmk W0))
      have c := HCE.out W0 B0.out
      have B1 : Hid (Below W0.heap.size W0 w1) := (Below.refl _ _).grown hgr (Nat.le_refl _) (fun _ h => by cases h)
      have HR : Hid (Ipp w1 (.slice (some ⟨W0.heap.size, 0, none⟩) n n) n (fun _ => m) (U2 kind n m X)) := (ipp_made hrow _).cast (fun k hk2 => H0.out.symm)
      clear hrow hgr
      go_wp2
      go_ret2
      exact ⟨_, rfl, HR.out, bstep B0.out B1.out⟩
    · have hb1 : ((m : Int) == 0) = false := beq_eq_false_iff_ne.2 (by omega)
      have HX1 : Hid (∀ j, j < m → Wth 8000000000 n ((fun j i => X i j) j)) := fun j hj i hi => HXA.out i hi j hj
      have HX3 : Hid (∀ i, i < n → Wth (5 * 8000000000) m ((fun i j => ubk kind n (fun i => X i j) i) i)) := fun i hi j hj => (chg_back hk).wth (n := n) (xs := fun i => X i j) (by omega) (fun k hk2 => HXA.out k hk2 j hj) i hi
      go_enter Try.func10, Try.ntmps10
      go_upto_region 3 with (first
        | (go_at_call 20; (with_reducible refine (i1 _).mono ?_); rintro e w' ⟨rfl, hw⟩; obtain rfl := hw.symm)
        | (go_at_call 21; (with_reducible refine a2.mono ?_); rintro e W0 ⟨rfl, hb⟩; have B0 : Hid (Below w.heap.size w W0) := hb; clear hb))
      have c := HCE.out W0 B0.out
      have HW0 : Hid (Ipp W0 (.slice (some ⟨b, off, none⟩) n cap) n (fun _ => m) X) := HV.out W0 B0.out
      have j0 := sTurn_any HW0.out (by omega) (by omega) (by omega)
      go_wp2_with (first
        | (go_at_call 22; (with_reducible refine j0.mono ?_); rintro e W1 ⟨v1, rfl, ho, hb⟩; have G1 : Hid (Gr W0.heap.size W1 v1 m (fun _ => n) (fun j i => X i j)) := ho; have B1 : Hid (Below W0.heap.size W0 W1) := hb; clear ho hb; have j1 := sEachT hk (Gr.ipp G1.out) (by omega) (by omega) (show (4 : Int) ≤ 8000000000 by omega) (show (8000000000 : Int) ≤ 1000000000000000 by omega) HX1.out)
        | (go_at_call 23; (with_reducible refine j1.mono ?_); rintro e W2 ⟨v2, rfl, ho, hb⟩; have G2 : Hid (Gr W1.heap.size W2 v2 m (fun _ => n) (fun j => ubk kind n (fun i => X i j))) := ho; have B2 : Hid (Below W1.heap.size W1 W2) := hb; clear ho hb; have j2 := sTurn_any (Gr.ipp G2.out) (by omega) (by omega) (by omega))
        | (go_at_call 22; (with_reducible refine j2.mono ?_); rintro e W3 ⟨v3, rfl, ho, hb⟩; have G3 : Hid (Gr W2.heap.size W3 v3 n (fun _ => m) (fun i j => ubk kind n (fun i => X i j) i)) := ho; have B3 : Hid (Below W2.heap.size W2 W3) := hb; clear ho hb; have j3 := sEachT hk (Gr.ipp G3.out) (by omega) (by omega) (show (4 : Int) ≤ 5 * 8000000000 by omega) (show (5 * 8000000000 : Int) ≤ 1000000000000000 by omega) HX3.out)
        | (go_at_call 23; (with_reducible refine j3.mono ?_); rintro e W4 ⟨v4, rfl, ho, hb⟩; have G4 : Hid (Gr W3.heap.size W4 v4 n (fun _ => m) (U2 kind n m X)) := ho; have B4 : Hid (Below W3.heap.size W3 W4) := hb; clear ho hb))
      go_ret2
      exact ⟨_, rfl, Gr.ipp G4.out, bstep B0.out (bstep (bstep (bstep B1.out B2.out) B3.out) B4.out)⟩

set_option maxHeartbeats 4000000 in
theorem sL2_bad {w : World} {v : Value} {n : Nat} {ms : Nat → Nat} {X : Nat → Nat → Int} {kind : Int} (hv : Ipp w v n ms X) (hn : n ≤ 1048576) (hms : ∀ k, k < n → ms k ≤ 1048576) (hg : ¬ (Knd kind ∧ Pln 1000000000 n ms X)) (Z : Nat → Nat → Int) :
    Calls Try.prog 7 #[.int .i64 kind, v] w fun e w' => PsI w w' e 0 0 Z false := by
  have i1 := sKind_any kind
  have i2 := sRows9 hv hn hms
  by_cases hk : Knd kind
  · rw [decide_eq_true hk] at i1
    have HG : Hid (¬ Pln 1000000000 n ms X) := fun h => hg ⟨hk, h⟩
    clear hg hk
    have a2 : Calls Try.prog 21 #[v, .int .i64 1000000000] w fun e w' => e = .returned (.bool false) ∧ Below w.heap.size w w' := i2.mono (by
      rintro e w' ⟨⟨d, rfl, hd⟩, m', rfl⟩
      obtain rfl := not_of hd HG.out
      exact ⟨rfl, below_drewN (Below.refl _ _) _⟩)
    clear i2
    go_enter Try.func7, Try.ntmps7
    go_wp2_with (first
      | (go_at_call 20; (with_reducible refine (i1 _).mono ?_); rintro e w' ⟨rfl, hw⟩; obtain rfl := hw.symm)
      | (go_at_call 21; (with_reducible refine a2.mono ?_); rintro e W0 ⟨rfl, hb⟩; have B0 : Hid (Below w.heap.size w W0) := hb; clear hb))
    go_ret2
    exact ⟨_, rfl, Gr.ipp (Gr.start W0 _ _), bstep B0.out (below_one _ _)⟩
  · rw [decide_eq_false hk] at i1
    go_enter Try.func7, Try.ntmps7
    go_wp2_with (first
      | (go_at_call 20; (with_reducible refine (i1 _).mono ?_); rintro e w' ⟨rfl, hw⟩; obtain rfl := hw.symm))
    go_ret2
    exact ⟨_, rfl, Gr.ipp (Gr.start w _ _), below_one _ _⟩

set_option maxHeartbeats 4000000 in
theorem sU2_bad {w : World} {v : Value} {n : Nat} {ms : Nat → Nat} {X : Nat → Nat → Int} {kind : Int} (hv : Ipp w v n ms X) (hn : n ≤ 1048576) (hms : ∀ k, k < n → ms k ≤ 1048576) (hg : ¬ (Knd kind ∧ Pln 8000000000 n ms X)) (Z : Nat → Nat → Int) :
    Calls Try.prog 10 #[.int .i64 kind, v] w fun e w' => PsI w w' e 0 0 Z false := by
  have i1 := sKind_any kind
  have i2 := sRows8 hv hn hms
  by_cases hk : Knd kind
  · rw [decide_eq_true hk] at i1
    have HG : Hid (¬ Pln 8000000000 n ms X) := fun h => hg ⟨hk, h⟩
    clear hg hk
    have a2 : Calls Try.prog 21 #[v, .int .i64 8000000000] w fun e w' => e = .returned (.bool false) ∧ Below w.heap.size w w' := i2.mono (by
      rintro e w' ⟨⟨d, rfl, hd⟩, m', rfl⟩
      obtain rfl := not_of hd HG.out
      exact ⟨rfl, below_drewN (Below.refl _ _) _⟩)
    clear i2
    go_enter Try.func10, Try.ntmps10
    go_wp2_with (first
      | (go_at_call 20; (with_reducible refine (i1 _).mono ?_); rintro e w' ⟨rfl, hw⟩; obtain rfl := hw.symm)
      | (go_at_call 21; (with_reducible refine a2.mono ?_); rintro e W0 ⟨rfl, hb⟩; have B0 : Hid (Below w.heap.size w W0) := hb; clear hb))
    go_ret2
    exact ⟨_, rfl, Gr.ipp (Gr.start W0 _ _), bstep B0.out (below_one _ _)⟩
  · rw [decide_eq_false hk] at i1
    go_enter Try.func10, Try.ntmps10
    go_wp2_with (first
      | (go_at_call 20; (with_reducible refine (i1 _).mono ?_); rintro e w' ⟨rfl, hw⟩; obtain rfl := hw.symm))
    go_ret2
    exact ⟨_, rfl, Gr.ipp (Gr.start w _ _), below_one _ _⟩

end Go.Proofs.Ytjpkoladmeeidaa
