/- Nodes that are right. -/
import Derived.Test.YtiadfabhpagmpaaDoorPA
import Derived.Test.YtiadfabhpagmpaaDoorNE
import Derived.WalkKit
import Derived.WalkSpells
import Derived.WalkLawsBesides
import Derived.Deep.QuietTactic
import Derived.BigQuiet
import Derived.BigRegion
import Derived.Deep.Cut
namespace Go.Proofs.YtiadfabhpagmpaaDoor
open Go.RowKit

/-- By kind: how many links go in, the bounds of N. -/
def dors (q : Nat) : Int := if q = 4 then 2 else if q ≤ 1 then 0 else 1
def klo (q : Nat) : Int := if q = 3 then -1000 else if 5 ≤ q then 1 else 0
def khi (q : Nat) : Int := if q = 3 then 1000 else if 5 ≤ q then 64 else 0

/-- The kinds and the errors, as they lie in memory. -/
structure Kds (w : World) : Prop where
  kc : ∀ q, q < 9 → ∃ s, w.cell? ⟨4, q * 4, none⟩ = some (.string s) ∧ w.cell? ⟨4, q * 4 + 1, none⟩ = some (.int .i64 (dors q)) ∧ w.cell? ⟨4, q * 4 + 2, none⟩ = some (.int .i64 (klo q)) ∧ w.cell? ⟨4, q * 4 + 3, none⟩ = some (.int .i64 (khi q))
  er : ∀ i, i < 4 → ∃ u x, w.cell? ⟨i, 0, none⟩ = some (.iface u x)

theorem Kds.below {w w' : World} (h : Kds w) (hb : Below w.heap.size w w') : Kds w' := by
  refine ⟨fun q hq => ?_, fun i hi => ?_⟩
  · obtain ⟨s, c0, c1, c2, c3⟩ := h.kc q hq
    have hl : 4 < w.heap.size := World.block_lt_of_cell? w _ c0
    exact ⟨s, (hb.cell (p := ⟨4, q * 4, none⟩) hl).trans c0, (hb.cell (p := ⟨4, q * 4 + 1, none⟩) hl).trans c1, (hb.cell (p := ⟨4, q * 4 + 2, none⟩) hl).trans c2, (hb.cell (p := ⟨4, q * 4 + 3, none⟩) hl).trans c3⟩
  · obtain ⟨u, x, c⟩ := h.er i hi
    exact ⟨u, x, (hb.cell (p := ⟨i, 0, none⟩) (World.block_lt_of_cell? w _ c)).trans c⟩

/-- A node that is right. -/
def Ndok (x : Nd) : Prop := nmr x.nm x.nm.size 0 0 = true ∧ (1 ≤ x.kd ∧ x.kd ≤ 8) ∧ klo x.kd.toNat ≤ x.nn ∧ x.nn ≤ khi x.kd.toNat
instance (x : Nd) : Decidable (Ndok x) := by unfold Ndok; infer_instance

set_option maxHeartbeats 4000000 in
theorem iNode_any (x : Nd) (hs : x.nm.size ≤ 1048576) {w : World} (hk : Kds w) : Calls Tryd.prog 38 #[x.v] w fun e w' => e = .returned (.bool (decide (Ndok x))) ∧ Below w.heap.size w w' := by
  obtain ⟨d, hd⟩ : ∃ d, d = decide (Ndok x) := ⟨_, rfl⟩
  rw [← hd]
  have HD : Hid (d = decide (Ndok x)) := hd
  have HK : Hid (Kds w) := hk
  clear hd hk
  have BX : Hid (Below w.heap.size w (w.alloc (.cells #[.string x.nm, .int .i64 x.kd, .int .i64 x.nn] 47))) := below_one w _
  have i1 := fun W => iName_any x.nm hs W
  have i2 := fun W => count_any x.kd 8 W
  by_cases h1 : nmr x.nm x.nm.size 0 0 = true
  rotate_left
  · have h1' : nmr x.nm x.nm.size 0 0 = false := by cases h : nmr x.nm x.nm.size 0 0 <;> simp_all
    rw [h1'] at i1
    have HF : Hid (d = false) := by show d = false; rw [HD.out]; exact decide_eq_false (fun h => h1 h.1)
    clear h1 h1'
    go_enter Tryd.func38, Tryd.ntmps38
    go_wp2_with (go_at_call 47; (with_reducible refine (i1 _).mono ?_); rintro e w1 ⟨rfl, hb⟩; have B1 : Hid (Below w.heap.size w w1) := bstep BX.out hb; clear hb)
    go_ret
    exact ⟨by rw [HF.out]; rfl, B1.out⟩
  rw [h1] at i1
  have H1 : Hid (nmr x.nm x.nm.size 0 0 = true) := h1
  clear h1
  by_cases h2 : 1 ≤ x.kd ∧ x.kd ≤ 8
  rotate_left
  · rw [decide_eq_false h2] at i2
    have HF : Hid (d = false) := by show d = false; rw [HD.out]; exact decide_eq_false (fun h => h2 h.2.1)
    clear h2
    go_enter Tryd.func38, Tryd.ntmps38
    go_wp2_with (first
      | (go_at_call 47; (with_reducible refine (i1 _).mono ?_); rintro e w1 ⟨rfl, hb⟩; have c1 := keepc hb (show (w.alloc (.cells #[.string x.nm, .int .i64 x.kd, .int .i64 x.nn] 47)).cell? ⟨w.heap.size, 1, none⟩ = some (.int .i64 x.kd) by simp); have B1 : Hid (Below w.heap.size w w1) := bstep BX.out hb; clear hb)
      | (go_at_call 48; (with_reducible refine (i2 _).mono ?_); rintro e w' ⟨rfl, hw⟩; obtain rfl := hw.symm))
    go_ret
    exact ⟨by rw [HF.out]; rfl, B1.out⟩
  rw [decide_eq_true h2] at i2
  obtain ⟨q, hq⟩ : ∃ q : Nat, x.kd = (q : Int) := ⟨x.kd.toNat, by omega⟩
  have hq9 : q < 9 := by omega
  have HQ : Hid (d = decide (klo q ≤ x.nn ∧ x.nn ≤ khi q)) := by
    show d = _
    rw [HD.out]
    by_cases h3 : klo q ≤ x.nn ∧ x.nn ≤ khi q
    · rw [decide_eq_true h3, decide_eq_true ⟨H1.out, h2, by rw [hq]; exact h3⟩]
    · rw [decide_eq_false h3, decide_eq_false (fun h => h3 (by have := h.2.2; rw [hq] at this; exact this))]
  clear h2
  have HKD : Hid (x.kd = (q : Int)) := hq
  clear hq
  have K1 : ∀ W, Below w.heap.size w W → ∃ s, W.cell? ⟨4, q * 4, none⟩ = some (.string s) ∧ W.cell? ⟨4, q * 4 + 1, none⟩ = some (.int .i64 (dors q)) ∧ W.cell? ⟨4, q * 4 + 2, none⟩ = some (.int .i64 (klo q)) ∧ W.cell? ⟨4, q * 4 + 3, none⟩ = some (.int .i64 (khi q)) := fun W hb => (HK.out.below hb).kc q hq9
  have K1 : Hid (∀ W, Below w.heap.size w W → ∃ s, W.cell? ⟨4, q * 4, none⟩ = some (.string s) ∧ W.cell? ⟨4, q * 4 + 1, none⟩ = some (.int .i64 (dors q)) ∧ W.cell? ⟨4, q * 4 + 2, none⟩ = some (.int .i64 (klo q)) ∧ W.cell? ⟨4, q * 4 + 3, none⟩ = some (.int .i64 (khi q))) := K1
  go_enter Tryd.func38, Tryd.ntmps38
  go_upto_region 3 with (first
    | (go_at_call 47; (with_reducible refine (i1 _).mono ?_); rintro e w1 ⟨rfl, hb⟩; have c1 := keepc hb (show (w.alloc (.cells #[.string x.nm, .int .i64 x.kd, .int .i64 x.nn] 47)).cell? ⟨w.heap.size, 1, none⟩ = some (.int .i64 x.kd) by simp); have c2 := keepc hb (show (w.alloc (.cells #[.string x.nm, .int .i64 x.kd, .int .i64 x.nn] 47)).cell? ⟨w.heap.size, 2, none⟩ = some (.int .i64 x.nn) by simp); have B1 : Hid (Below w.heap.size w w1) := bstep BX.out hb; clear hb)
    | (go_at_call 48; (with_reducible refine (i2 _).mono ?_); rintro e w' ⟨rfl, hw⟩; obtain rfl := hw.symm))
  rw [HKD.out] at c1
  obtain ⟨sx, k0, k1, k2, k3⟩ := K1.out _ B1.out
  have hlt : w.heap.size < w1.heap.size := World.block_lt_of_cell? _ _ c2
  have h4 : 4 < w1.heap.size := World.block_lt_of_cell? _ _ k0
  clear i1 i2 K1 BX HK H1 HD
  generalize klo q = lo at k2 HQ
  generalize khi q = hi at k3 HQ
  go_upto_region 4 with fail
  by_cases h5 : lo ≤ x.nn
  · by_cases h6 : x.nn ≤ hi
    · go_wp2
      go_ret
      exact ⟨by rw [HQ.out, decide_eq_true ⟨h5, h6⟩]; rfl, bstep B1.out (below_one _ _)⟩
    · go_wp2
      go_ret
      exact ⟨by rw [HQ.out, decide_eq_false (by omega)]; rfl, bstep B1.out (below_one _ _)⟩
  · go_wp2
    go_ret
    exact ⟨by rw [HQ.out, decide_eq_false (by omega)]; rfl, bstep B1.out (below_one _ _)⟩

end Go.Proofs.YtiadfabhpagmpaaDoor
