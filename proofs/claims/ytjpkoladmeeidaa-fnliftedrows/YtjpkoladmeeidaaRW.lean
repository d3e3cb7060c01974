/- Lift2: the model turns rows into columns. -/
import Derived.Test.YtjpkoladmeeidaaRV
import Derived.Test.YtjpkoladmeeidaaLB
namespace Go.Proofs.Ytjpkoladmeeidaa
open Go.RowKit

set_option maxRecDepth 20000 in
set_option maxHeartbeats 8000000 in
theorem sTurn_any {w : World} {v : Value} {n m : Nat} {X : Nat → Nat → Int} (hv : Ipp w v n (fun _ => m) X) (n0 : 0 < n) (hn : n ≤ 64) (hm : m ≤ 64) :
    Calls Try.prog 22 #[v] w fun e w' => ∃ u, e = .returned u ∧ Gr w.heap.size w' u m (fun _ => n) (fun j i => X i j) ∧ Below w.heap.size w w' := by
  obtain ⟨i0, hi, hz0, hz1, hz2⟩ := info_parts Try.info3
  obtain ⟨ao, cap, rfl, hcap, hc⟩ := hv
  obtain ⟨b, off, Q, rfl, hlt, hcell⟩ := hc n0
  have HCELL : Hid (∀ k, k < n → w.cell? ⟨b, off + k, none⟩ = some (Q k) ∧ Il w (Q k) m (X k)) := hcell
  clear hc hcell
  have G0 : Hid (Gr w.heap.size (w.alloc (.cells #[] 29)) (.slice (some ⟨w.heap.size, 0, none⟩) 0 0) 0 (fun _ => n) (fun j i => X i j)) := Gr.start w _ _
  have n0' : (0 : Int) < n := by omega
  go_enter Try.func22, Try.ntmps22
  go_wp2
  go_loopw [3, 4] (fun o i wr => ∃ p : Nat, i = .int .i64 p ∧ p ≤ m ∧ Hid (Gr w.heap.size wr o p (fun _ => n) (fun j i => X i j) ∧ Below w.heap.size w wr)) (fun _ i _ => m - (intOf i).toNat)
  case atStart => exact ⟨0, rfl, by omega, G0.out, below_one _ _⟩
  case round =>
    obtain ⟨p, rfl, hp, hrel⟩ := hrel
    obtain ⟨hc1, hfp⟩ := HCELL.out 0 n0
    obtain ⟨qa, qc, hq, hqc, _⟩ := hfp
    have c : wr.cell? ⟨b, off, none⟩ = some (.slice qa m qc) := by have := hrel.out.2.cell (p := ⟨b, off + 0, none⟩) hlt; rw [hc1, hq] at this; exact this
    clear hc1 hq
    by_cases h2 : p < m
    · have K0 : Hid (Gr w.heap.size wr u3 p (fun _ => n) (fun j i => X i j)) := hrel.out.1
      have B0 : Hid (Below w.heap.size w wr) := hrel.out.2
      have E0 : Hid ((wr.alloc (.cells #[] 3)).ownsRow wr.heap.size 3 1 (.slice (some ⟨wr.heap.size, 0, none⟩) 0 0) 0 (ils (fun i => X i p) 0)) := own_empty wr 3 1
      have E1 : Hid (Below wr.heap.size wr (wr.alloc (.cells #[] 3))) := below_one _ _
      have sz0 : w.heap.size ≤ wr.heap.size := hrel.out.2.size
      clear hrel
      go_wp2
      generalize wr.alloc (.cells #[] 3) = W1 at *
      generalize wr = W0 at *
      go_loopw [5, 6] (fun c i wr4 => ∃ q : Nat, i = .int .i64 q ∧ q ≤ n ∧ Hid (wr4.ownsRow W0.heap.size 3 1 c q (ils (fun i => X i p) q) ∧ Below W0.heap.size W0 wr4)) (fun _ i _ => n - (intOf i).toNat)
      case atStart => exact ⟨0, rfl, by omega, E0.out, E1.out⟩
      case round =>
        obtain ⟨q, rfl, hq, hrel⟩ := hrel
        by_cases h3 : q < n
        · have HBq : Hid (Below w.heap.size w wr) := bstep B0.out hrel.out.2
          obtain ⟨e1, e2⟩ := HCELL.out q h3
          obtain ⟨qa', qc', e3, e4, e5⟩ := e2
          obtain ⟨b2, off2, rfl, hlt2, e6⟩ := e5 (by omega)
          have e7 := e6 p h2
          rw [e3] at e1
          have c1 : wr.cell? ⟨b, off + q, none⟩ = some (.slice (some ⟨b2, off2, none⟩) m qc') := (HBq.out.cell (p := ⟨b, off + q, none⟩) hlt).trans e1
          have c2 : wr.cell? ⟨b2, off2 + p, none⟩ = some (.int .i64 (X q p)) := (HBq.out.cell (p := ⟨b2, off2 + p, none⟩) hlt2).trans e7
          have bx := below_one wr (.cells #[.int .i64 (X q p)] 3)
          have HO3 : Hid _ := own_below hrel.out.1 bx
          have HB3 : Hid (Below W0.heap.size W0 (wr.alloc (.cells #[.int .i64 (X q p)] 3))) := bstep hrel.out.2 bx
          clear e1 e3 e6 e7 bx
          go_wp2_with (first | (at_builtin; refine wpList_app _ rfl _ _ 29 rfl W0.heap.size 3 i0 (.int .i64 0) 1 8 Try.underlying29 hi hz0 hz1 hz2 rfl (by decide) _ _ _ rfl HO3.out ⟨wr.heap.size, 0, none⟩ 1 1 [.int .i64 (X q p)] rfl rfl (one_new _ _ _) (by simp [Value.oneCell']) (by unfold maxLen; omega) (by omega) HB3.out.size (by decide) ?_))
          intro v' w4 hown' hgrow hkeep
          rw [← ils_snoc (fun i => X i p)] at hown'
          have O4 : Hid (w4.ownsRow W0.heap.size 3 1 v' (q + 1) (ils (fun i => X i p) (q + 1))) := hown'
          have B4 : Hid (Below W0.heap.size W0 w4) := grown_below HB3.out (Nat.le_refl _) HO3.out hgrow
          clear hown' hgrow hkeep HO3 HB3
          go_wp2
          go_roundw
          case rel => exact ⟨q + 1, by go_num, by omega, O4.out, B4.out⟩
          case measure => simp [intOf]; omega
        · obtain rfl : n = q := by omega
          obtain ⟨va, vc, hu5, hvc, _⟩ := il_of_own hrel.out.1
          subst hu5
          have bx := below_one wr (.cells #[.slice va n vc] 29)
          have O5 : Hid ((wr.alloc (.cells #[.slice va n vc] 29)).ownsRow W0.heap.size 3 1 (.slice va n vc) n (ils (fun i => X i p) n)) := own_below hrel.out.1 bx
          have B5 : Hid (Below W0.heap.size W0 (wr.alloc (.cells #[.slice va n vc] 29))) := bstep hrel.out.2 bx
          have G5 : Hid (Gr w.heap.size (wr.alloc (.cells #[.slice va n vc] 29)) u3 p (fun _ => n) (fun j i => X i j)) := K0.out.below B5.out
          have A5 : Hid (Apart (.slice va n vc) u3) := K0.out.apart O5.out (Nat.le_refl _)
          have c5 : Hid ((wr.alloc (.cells #[.slice va n vc] 29)).cell? ⟨wr.heap.size, 0, none⟩ = some (.slice va n vc)) := one_new wr (.slice va n vc) 29 0 (.slice va n vc) rfl
          have o5 := oneS O5.out
          clear hrel bx
          go_wp2_with (first | (at_builtin; refine wpList_appS rfl _ _ rfl rfl rfl G5.out (own_base O5.out sz0) A5.out c5.out (by omega) (bstep B0.out B5.out).size ?_))
          intro v' w6 hG6 hgrow
          have G6 : Hid (Gr w.heap.size w6 v' (p + 1) (fun _ => n) (fun j i => X i j)) := hG6
          have B6 : Hid (Below w.heap.size w w6) := G5.out.below_grown (bstep B0.out B5.out) (Nat.le_refl _) hgrow
          clear hG6 hgrow
          go_wp2
          go_roundw
          case rel => exact ⟨p + 1, by go_num, by omega, G6.out, B6.out⟩
          case measure => simp [intOf]; omega
    · obtain rfl : m = p := by omega
      have K0 : Hid _ := hrel.out
      clear hrel
      go_wp2
      go_ret
      exact ⟨_, rfl, K0.out.1, K0.out.2⟩
end Go.Proofs.Ytjpkoladmeeidaa
