/- A plan handed over, and marked. -/
import Derived.Test.YtiadfabhpagmpaaDoorRF
import Derived.WalkKit
import Derived.WalkSpells
import Derived.WalkLawsBesides
import Derived.Deep.QuietTactic
import Derived.BigQuiet
import Derived.BigRegion
import Derived.Deep.Cut
import Derived.BigRegion
namespace Go.Proofs.YtiadfabhpagmpaaDoor
open Go.RowKit

set_option maxHeartbeats 8000000 in
theorem toPlan_own {w : World} {v u : Value} {n m : Nat} {ns : Nat → Nd} {ls : Nat → Lk} (hv : Nl w v n ns) (hu : Ll w u m ls) (hn : n ≤ 1048576) (hm : m ≤ 1048576) :
    Calls Tryd.prog 7 #[.agg #[v, u]] w fun e w' => Below w.heap.size w w' ∧ ∃ v' u', e = .returned (.agg #[v', u']) ∧ w'.ownsRow w.heap.size 47 3 v' n (vls (ndc ns) (n * 3)) ∧ w'.ownsRow w.heap.size 50 2 u' m (vls (lkc ls) (m * 2)) ∧ Apart u' v' := by
  obtain ⟨ao, cap, rfl, hcap⟩ := hv.open
  obtain ⟨bo, cap2, rfl, hcap2⟩ := hu.open
  have HV : Hid (Nl w (.slice ao n cap) n ns) := hv
  have HU : Hid (Ll w (.slice bo m cap2) m ls) := hu
  clear hv hu
  obtain ⟨wa, hwa⟩ : ∃ wa, wa = w.alloc (.cells #[.slice ao n cap, .slice bo m cap2] 25) := ⟨_, rfl⟩
  obtain ⟨wb, hwb⟩ : ∃ wb, wb = wa.alloc (.cells #[.slice none 0 0, .slice none 0 0] 31) := ⟨_, rfl⟩
  obtain ⟨w1, hw1⟩ : ∃ w1, w1 = wb.alloc (.cells #[.slice none 0 0, .slice none 0 0] 31) := ⟨_, rfl⟩
  have sa : wa.heap.size = w.heap.size + 1 := by rw [hwa]; simp
  have sb : wb.heap.size = w.heap.size + 1 + 1 := by rw [hwb, ← sa]; simp
  have s1 : w1.heap.size = w.heap.size + 3 := by rw [hw1]; simp [sb]
  have Ba : Below w.heap.size w wa := by rw [hwa]; exact below_one _ _
  have Bb : Below wa.heap.size wa wb := by rw [hwb]; exact below_one _ _
  have Bc : Below wb.heap.size wb w1 := by rw [hw1]; exact below_one _ _
  have BX : Hid (Below w.heap.size w w1) := bstep (bstep Ba Bb) Bc
  have p0 : w1.cell? ⟨w.heap.size, 0, none⟩ = some (.slice ao n cap) := keepc Bc (keepc Bb (by rw [hwa]; simp))
  have p1 : w1.cell? ⟨w.heap.size, 1, none⟩ = some (.slice bo m cap2) := keepc Bc (keepc Bb (by rw [hwa]; simp))
  have r0 : w1.cell? ⟨w.heap.size + 1, 0, none⟩ = some (.slice none 0 0) := by rw [← sa]; exact keepc Bc (by rw [hwb]; simp)
  have r1 : w1.cell? ⟨w.heap.size + 1, 1, none⟩ = some (.slice none 0 0) := by rw [← sa]; exact keepc Bc (by rw [hwb]; simp)
  have o0 : w1.cell? ⟨w.heap.size + 1 + 1, 0, none⟩ = some (.slice none 0 0) := by rw [← sb, hw1]; simp
  have o1 : w1.cell? ⟨w.heap.size + 1 + 1, 1, none⟩ = some (.slice none 0 0) := by rw [← sb, hw1]; simp
  have rf : ∀ o, w1.frozen? ⟨w.heap.size + 1, o, none⟩ = false := fun o => by rw [← sa, hw1, hwb]; simp
  have of : ∀ o, w1.frozen? ⟨w.heap.size + 1 + 1, o, none⟩ = false := fun o => by rw [← sb, hw1]; simp
  go_enter Tryd.func7, Tryd.ntmps7
  go_upto_region 2 with fail
  rw [← hwa, ← hwb, ← hw1]
  clear hwa hwb hw1 Ba Bb Bc sa sb
  obtain ⟨A, hA⟩ : ∃ A, A = w.heap.size := ⟨_, rfl⟩
  have HA : Hid (A = w.heap.size) := hA
  have hlt : A < w1.heap.size ∧ A + 1 < w1.heap.size ∧ A + 1 + 1 < w1.heap.size := by omega
  rw [← hA] at p0 p1 r0 r1 o0 o1 rf of ⊢
  have P1 : Hid (w1.cell? ⟨A, 1, none⟩ = some (.slice bo m cap2)) := p1
  have R0 : Hid (w1.cell? ⟨A + 1, 0, none⟩ = some (.slice none 0 0)) := r0
  have R1 : Hid (w1.cell? ⟨A + 1, 1, none⟩ = some (.slice none 0 0)) := r1
  have O0 : Hid (w1.cell? ⟨A + 1 + 1, 0, none⟩ = some (.slice none 0 0)) := o0
  have O1 : Hid (w1.cell? ⟨A + 1 + 1, 1, none⟩ = some (.slice none 0 0)) := o1
  have RF : Hid (∀ o, w1.frozen? ⟨A + 1, o, none⟩ = false) := rf
  have OF : Hid (∀ o, w1.frozen? ⟨A + 1 + 1, o, none⟩ = false) := of
  clear p1 r0 r1 o0 o1 rf of s1 hA
  have t1 := toNodes_any (HV.out.below BX.out) hn
  go_upto_region 3 with (go_at_call 22; (with_reducible refine t1.mono ?_); rintro e w5 ⟨hb5, v5, rfl, ho5⟩; obtain ⟨va, vc, rfl⟩ := own_op ho5; have B5 : Hid (Below w1.heap.size w1 w5) := hb5; have V5 : Hid (w5.ownsRow w1.heap.size 47 3 (.slice va n vc) n (vls (ndc ns) (n * 3))) := ho5; have c5 := keepc hb5 O0.out; have f5 : w5.frozen? ⟨A + 1 + 1, 0, none⟩ = false := (hb5.frozen (p := ⟨A + 1 + 1, 0, none⟩) hlt.2.2).trans (OF.out 0); clear hb5 ho5)
  clear t1 p0 c5 f5
  have HGE : Hid (w.heap.size ≤ A + 1 + 1) := by show w.heap.size ≤ A + 1 + 1; rw [← HA.out]; omega
  have B6 : Hid (Below w.heap.size w (w5.setCell ⟨A + 1 + 1, 0, none⟩ (.slice va n vc))) := (bstep BX.out B5.out).setCell (p := ⟨A + 1 + 1, 0, none⟩) HGE.out _
  have V6 : Hid ((w5.setCell ⟨A + 1 + 1, 0, none⟩ (.slice va n vc)).ownsRow w1.heap.size 47 3 (.slice va n vc) n (vls (ndc ns) (n * 3))) := own_other V5.out (fun e => by have := (World.ownsRow.lt V5.out _ e).1; omega)
  have C0 : Hid ((w5.setCell ⟨A + 1 + 1, 0, none⟩ (.slice va n vc)).cell? ⟨A + 1 + 1, 0, none⟩ = some (.slice va n vc)) := World.cell?_setCell_same' _ _ _ (by rw [keepc B5.out O0.out]; rfl)
  have C1 : Hid ((w5.setCell ⟨A + 1 + 1, 0, none⟩ (.slice va n vc)).cell? ⟨A + 1 + 1, 1, none⟩ = some (.slice none 0 0)) := (World.cell?_setCell_other _ _ _ _ (by simp)).trans (keepc B5.out O1.out)
  have D0 : Hid ((w5.setCell ⟨A + 1 + 1, 0, none⟩ (.slice va n vc)).cell? ⟨A + 1, 0, none⟩ = some (.slice none 0 0)) := (World.cell?_setCell_other _ _ _ _ (by simp)).trans (keepc B5.out R0.out)
  have D1 : Hid ((w5.setCell ⟨A + 1 + 1, 0, none⟩ (.slice va n vc)).cell? ⟨A + 1, 1, none⟩ = some (.slice none 0 0)) := (World.cell?_setCell_other _ _ _ _ (by simp)).trans (keepc B5.out R1.out)
  have p1 : (w5.setCell ⟨A + 1 + 1, 0, none⟩ (.slice va n vc)).cell? ⟨A, 1, none⟩ = some (.slice bo m cap2) := (World.cell?_setCell_other _ _ _ _ (by simp)).trans (keepc B5.out P1.out)
  have DF : Hid (∀ o, (w5.setCell ⟨A + 1 + 1, 0, none⟩ (.slice va n vc)).frozen? ⟨A + 1, o, none⟩ = false) := fun o => by have := (B5.out.frozen (p := ⟨A + 1, o, none⟩) hlt.2.1).trans (RF.out o); simpa using this
  have CF : Hid (∀ o, (w5.setCell ⟨A + 1 + 1, 0, none⟩ (.slice va n vc)).frozen? ⟨A + 1 + 1, o, none⟩ = false) := fun o => by have := (B5.out.frozen (p := ⟨A + 1 + 1, o, none⟩) hlt.2.2).trans (OF.out o); simpa using this
  have S6 : w1.heap.size ≤ (w5.setCell ⟨A + 1 + 1, 0, none⟩ (.slice va n vc)).heap.size := by simpa [World.setCell] using B5.out.size
  generalize w5.setCell ⟨A + 1 + 1, 0, none⟩ (.slice va n vc) = w6 at B6 V6 C0 C1 D0 D1 p1 DF CF S6 ⊢
  have t2 := toLinks_any (HU.out.below B6.out) hm
  have hpl : A < w6.heap.size := by omega
  go_upto_region 4 with (go_at_call 23; (with_reducible refine t2.mono ?_); rintro e w7 ⟨hb7, u7, rfl, ho7⟩; obtain ⟨ua, uc, rfl⟩ := own_op ho7; have B7 : Hid (Below w6.heap.size w6 w7) := hb7; have U7 : Hid (w7.ownsRow w6.heap.size 50 2 (.slice ua m uc) m (vls (lkc ls) (m * 2))) := ho7; have c7 := keepc hb7 C1.out; have f7 : w7.frozen? ⟨A + 1 + 1, 1, none⟩ = false := (hb7.frozen (p := ⟨A + 1 + 1, 1, none⟩) (by show A + 1 + 1 < w6.heap.size; omega)).trans (CF.out 1); clear hb7 ho7)
  clear t2 c7 f7 p1 hpl
  have B8 : Hid (Below w.heap.size w (w7.setCell ⟨A + 1 + 1, 1, none⟩ (.slice ua m uc))) := (bstep B6.out B7.out).setCell (p := ⟨A + 1 + 1, 1, none⟩) HGE.out _
  have V8 : Hid ((w7.setCell ⟨A + 1 + 1, 1, none⟩ (.slice ua m uc)).ownsRow w1.heap.size 47 3 (.slice va n vc) n (vls (ndc ns) (n * 3))) := own_other (own_below V6.out B7.out) (fun e => by have := (World.ownsRow.lt V6.out _ e).1; omega)
  have U8 : Hid ((w7.setCell ⟨A + 1 + 1, 1, none⟩ (.slice ua m uc)).ownsRow w6.heap.size 50 2 (.slice ua m uc) m (vls (lkc ls) (m * 2))) := own_other U7.out (fun e => by have := (World.ownsRow.lt U7.out _ e).1; omega)
  have e0 : (w7.setCell ⟨A + 1 + 1, 1, none⟩ (.slice ua m uc)).cell? ⟨A + 1 + 1, 0, none⟩ = some (.slice va n vc) := (World.cell?_setCell_other _ _ _ _ (by simp)).trans (keepc B7.out C0.out)
  have e1 : (w7.setCell ⟨A + 1 + 1, 1, none⟩ (.slice ua m uc)).cell? ⟨A + 1 + 1, 1, none⟩ = some (.slice ua m uc) := World.cell?_setCell_same' _ _ _ (by rw [keepc B7.out C1.out]; rfl)
  have d0 : (w7.setCell ⟨A + 1 + 1, 1, none⟩ (.slice ua m uc)).cell? ⟨A + 1, 0, none⟩ = some (.slice none 0 0) := (World.cell?_setCell_other _ _ _ _ (by simp)).trans (keepc B7.out D0.out)
  have d1 : (w7.setCell ⟨A + 1 + 1, 1, none⟩ (.slice ua m uc)).cell? ⟨A + 1, 1, none⟩ = some (.slice none 0 0) := (World.cell?_setCell_other _ _ _ _ (by simp)).trans (keepc B7.out D1.out)
  have df : ∀ o, (w7.setCell ⟨A + 1 + 1, 1, none⟩ (.slice ua m uc)).frozen? ⟨A + 1, o, none⟩ = false := fun o => by have := (B7.out.frozen (p := ⟨A + 1, o, none⟩) (by show A + 1 < w6.heap.size; omega)).trans (DF.out o); simpa using this
  have S8 : w6.heap.size ≤ (w7.setCell ⟨A + 1 + 1, 1, none⟩ (.slice ua m uc)).heap.size := by simpa [World.setCell] using B7.out.size
  generalize w7.setCell ⟨A + 1 + 1, 1, none⟩ (.slice ua m uc) = w8 at B8 V8 U8 e0 e1 d0 d1 df S8 ⊢
  have f0 := df 0
  have f1 := df 1
  clear df
  have APA : Hid (Apart (.slice ua m uc) (.slice va n vc)) := by
    by_cases hq : (Value.slice ua m uc).ownBlock = none
    · exact .inl hq
    · obtain ⟨q, hq⟩ := Option.ne_none_iff_exists'.1 hq
      refine .inr (fun e => ?_)
      have h1 := (World.ownsRow.lt U7.out q hq).1
      have h2 := (World.ownsRow.lt V6.out q (e.symm.trans hq)).2
      omega
  go_wp2
  refine bodyPost_ret (v := .agg #[.slice va n vc, .slice ua m uc]) (by simp [results, go_sem, d0, d1]) rfl ?_
  have HG1 : w.heap.size ≤ A + 1 := by rw [← HA.out]; omega
  refine ⟨(B8.out.setCell (p := ⟨A + 1, 0, none⟩) HG1 _).setCell (p := ⟨A + 1, 1, none⟩) HG1 _, _, _, rfl, own_base (own_other (own_other V8.out (fun e => by have := (World.ownsRow.lt V8.out _ e).1; omega)) (fun e => by have := (World.ownsRow.lt V8.out _ e).1; omega)) BX.out.size, own_base (own_other (own_other U8.out (fun e => by have := (World.ownsRow.lt U8.out _ e).1; omega)) (fun e => by have := (World.ownsRow.lt U8.out _ e).1; omega)) B6.out.size, APA.out⟩

set_option maxHeartbeats 1000000 in
theorem markNodes_nil (w : World) (K : Int) : Calls Tryd.prog 31 #[.slice none 0 0, .int .i64 K] w fun e w' => e = .returned (.int .i64 K) ∧ w' = w := by
  go_enter Tryd.func31, Tryd.ntmps31
  go_wp2
  go_loopw [1, 5] (fun kk i wr => i = .int .i64 0 ∧ kk = .int .i64 K ∧ wr = w) (fun _ _ _ => 0)
  case atStart => exact ⟨rfl, rfl, rfl⟩
  case round =>
    obtain ⟨rfl, rfl, rfl⟩ := hrel
    go_wp2
    go_ret
    exact ⟨rfl, rfl⟩

set_option maxHeartbeats 1000000 in
theorem markLinks_nil (w : World) (K : Int) : Calls Tryd.prog 32 #[.slice none 0 0, .int .i64 K] w fun e w' => e = .returned (.int .i64 K) ∧ w' = w := by
  go_enter Tryd.func32, Tryd.ntmps32
  go_wp2
  go_loopw [1, 5] (fun kk i wr => i = .int .i64 0 ∧ kk = .int .i64 K ∧ wr = w) (fun _ _ _ => 0)
  case atStart => exact ⟨rfl, rfl, rfl⟩
  case round =>
    obtain ⟨rfl, rfl, rfl⟩ := hrel
    go_wp2
    go_ret
    exact ⟨rfl, rfl⟩

theorem markedN {w : World} {B n : Nat} {v : Value} {f : Nat → Value} {K : Int} (h : w.ownsRow B 47 3 v n (vls f (n * 3))) (hn : n ≤ 1048576) (hK : 0 ≤ K ∧ K ≤ 1073741824) :
    Calls Tryd.prog 31 #[v, .int .i64 K] w fun e w' => e = .returned (.int .i64 (K + 3 * (n : Int))) ∧ w.grownBy w' v.ownBlock := by
  rcases h.2 with ⟨rfl, rfl⟩ | ⟨g, cap, cur, rfl, hb, hg, _⟩
  · refine (markNodes_nil w K).mono ?_
    rintro e w' ⟨rfl, rfl⟩
    exact ⟨by simp, gb_refl _ _⟩
  · exact markNodes_any h hn hK

theorem markedL {w : World} {B n : Nat} {v : Value} {f : Nat → Value} {K : Int} (h : w.ownsRow B 50 2 v n (vls f (n * 2))) (hn : n ≤ 1048576) (hK : 0 ≤ K ∧ K ≤ 1073741824) :
    Calls Tryd.prog 32 #[v, .int .i64 K] w fun e w' => e = .returned (.int .i64 (K + 2 * (n : Int))) ∧ w.grownBy w' v.ownBlock := by
  rcases h.2 with ⟨rfl, rfl⟩ | ⟨g, cap, cur, rfl, hb, hg, _⟩
  · refine (markLinks_nil w K).mono ?_
    rintro e w' ⟨rfl, rfl⟩
    exact ⟨by simp, gb_refl _ _⟩
  · exact markLinks_any h hn hK

set_option maxHeartbeats 4000000 in
theorem markPlan_any {w : World} {B n m : Nat} {v u : Value} {f f2 : Nat → Value} (hv : w.ownsRow B 47 3 v n (vls f (n * 3))) (hu : w.ownsRow B 50 2 u m (vls f2 (m * 2))) (ha : Apart u v) (hn : n ≤ 1048576) (hm : m ≤ 1048576) :
    Calls Tryd.prog 13 #[.agg #[v, u], .int .i64 1] w fun e w' => (∃ K : Int, e = .returned (.int .i64 K) ∧ 0 ≤ K) ∧ ∃ wm, w.grownBy wm v.ownBlock ∧ wm.grownBy w' u.ownBlock := by
  obtain ⟨ao, cap, rfl⟩ := own_op hv
  obtain ⟨bo, cap2, rfl⟩ := own_op hu
  have HV : Hid (w.ownsRow B 47 3 (.slice ao n cap) n (vls f (n * 3))) := hv
  have HU : Hid (w.ownsRow B 50 2 (.slice bo m cap2) m (vls f2 (m * 2))) := hu
  have HA : Hid (Apart (.slice bo m cap2) (.slice ao n cap)) := ha
  have hsv : Hid (∀ q, (Value.slice ao n cap).ownBlock = some q → q < w.heap.size) := fun q hq => (World.ownsRow.lt hv q hq).2
  clear hv hu ha
  obtain ⟨w1, hw1⟩ : ∃ w1, w1 = w.alloc (.cells #[.slice ao n cap, .slice bo m cap2] 31) := ⟨_, rfl⟩
  have BX : Hid (Below w.heap.size w w1) := by rw [hw1]; exact below_one _ _
  have p0 : w1.cell? ⟨w.heap.size, 0, none⟩ = some (.slice ao n cap) := by rw [hw1]; simp
  have P1 : Hid (w1.cell? ⟨w.heap.size, 1, none⟩ = some (.slice bo m cap2)) := by show w1.cell? _ = _; rw [hw1]; simp
  go_enter Tryd.func13, Tryd.ntmps13
  go_upto_region 1 with fail
  rw [← hw1]
  clear hw1
  have hpl := World.block_lt_of_cell? _ _ p0
  have i1 := markedN (K := 1) (own_below HV.out BX.out) hn (by omega)
  go_upto_region 2 with (go_at_call 31; (with_reducible refine i1.mono ?_); rintro e w5 ⟨rfl, hg⟩; have G5 : Hid (w1.grownBy w5 (Value.slice ao n cap).ownBlock) := hg; clear hg)
  clear i1 p0 hpl
  have p1 : w5.cell? ⟨w.heap.size, 1, none⟩ = some (.slice bo m cap2) := (World.cell?_of_block (G5.out.block w.heap.size (World.block_lt_of_cell? _ _ P1.out) (fun e => by have := hsv.out _ e.symm; omega))).trans P1.out
  have hpl := World.block_lt_of_cell? _ _ p1
  have i2 := markedL (K := 1 + 3 * (n : Int)) (own_grown (own_below HU.out BX.out) G5.out HA.out) hm (by omega)
  go_upto_region 3 with (go_at_call 32; (with_reducible refine i2.mono ?_); rintro e w6 ⟨rfl, hg⟩; have G6 : Hid (w5.grownBy w6 (Value.slice bo m cap2).ownBlock) := hg; clear hg)
  clear i2 p1 hpl
  go_wp2
  go_ret
  exact ⟨⟨_, rfl, by omega⟩, w5, gb_trans (gb_below BX.out _) G5.out, G6.out⟩

end Go.Proofs.YtiadfabhpagmpaaDoor
