/- Tap: the law. -/
import Derived.Test.YtphnoghnoacfiaaPB
import Derived.Test.YtphnoghnoacfiaaI1
namespace Go.Proofs.Ytphnoghnoacfiaa
open Go.RowKit

theorem tap_long {w : World} {ao : Option Addr} {n cap : Nat} (o b : Int) (hn : n ≤ 9223372036854775807) (h : 1048576 < n) : Calls Try.prog 4 #[.agg #[.slice ao n cap, .int .i64 o], .int .i64 b] w fun e w' => e = .returned (.bool true) ∧ Below w.heap.size w w' := by
  have b1 : Hid (Below w.heap.size w (w.alloc (.cells #[.slice ao n cap, .int .i64 o] 24))) := below_one w _
  have i1 := szRing_any (w := w.alloc (.cells #[.slice ao n cap, .int .i64 o] 24)) (ao := ao) (cap := cap) o hn
  rw [if_neg (by omega)] at i1
  go_enter Try.func4, Try.ntmps4
  go_wp2_with (first | (go_at_call 5; (with_reducible refine i1.mono ?_); rintro e w2 ⟨rfl, hb⟩; have B2 : Hid (Below w.heap.size w w2) := bstep b1.out hb; clear hb))
  go_ret
  exact ⟨rfl, B2.out⟩

set_option maxRecDepth 20000 in
set_option maxHeartbeats 4000000 in
theorem wtap_of {w : World} {v : Value} {n : Nat} {xs : Nat → Int} (hv : Il w v n xs) (h : n ≤ 1048576) (o b z : Int) (ok : Bool)
    (hs : ∀ W u, Il W u n xs → Calls Try.prog 16 #[.agg #[u, .int .i64 o], .int .i64 b] W fun e w' => e = .returned (.tuple #[.int .i64 z, .bool ok]) ∧ Below W.heap.size W w')
    (hi : ∀ W u, Il W u n xs → Calls Try.prog 17 #[.agg #[u, .int .i64 o], .int .i64 b] W fun e w' => e = .returned (.tuple #[.int .i64 z, .bool ok]) ∧ Below W.heap.size W w') :
    Calls Try.prog 4 #[.agg #[v, .int .i64 o], .int .i64 b] w fun e w' => e = .returned (.bool true) ∧ Below w.heap.size w w' := by
  have HS : Hid (∀ W u, Il W u n xs → Calls Try.prog 16 #[.agg #[u, .int .i64 o], .int .i64 b] W fun e w' => e = .returned (.tuple #[.int .i64 z, .bool ok]) ∧ Below W.heap.size W w') := hs
  have HI : Hid (∀ W u, Il W u n xs → Calls Try.prog 17 #[.agg #[u, .int .i64 o], .int .i64 b] W fun e w' => e = .returned (.tuple #[.int .i64 z, .bool ok]) ∧ Below W.heap.size W w') := hi
  have b1 := below_one w (.cells #[v, .int .i64 o] 24)
  have R1 := Rg.new w v (.int .i64 o) 24
  have FV := hv.below b1
  obtain ⟨ao, cap, rfl, hcap, hc⟩ := hv
  clear hc hs hi
  have i1 := szRing_any (w := w.alloc (.cells #[.slice ao n cap, .int .i64 o] 24)) (ao := ao) (n := n) (cap := cap) o (by omega)
  rw [if_pos h] at i1
  have BW : Hid (Below w.heap.size w (w.alloc (.cells #[.slice ao n cap, .int .i64 o] 24))) := b1
  have VI : Hid (Il (w.alloc (.cells #[.slice ao n cap, .int .i64 o] 24)) (.slice ao n cap) n xs) := FV
  have RV : Hid (Rg (w.alloc (.cells #[.slice ao n cap, .int .i64 o] 24)) w.heap.size (.slice ao n cap) (.int .i64 o)) := R1
  clear FV b1 R1
  have hz : (z != z) = false := by simp
  have hok : (ok != ok) = false := by simp
  go_enter Try.func4, Try.ntmps4
  go_upto_region 10 with (first
    | (go_at_call 5; (with_reducible refine i1.mono ?_); rintro e w2 ⟨rfl, hb⟩; have BW : Hid (Below w.heap.size w w2) := bstep BW.out hb; have VI : Hid (Il w2 (.slice ao n cap) n xs) := VI.out.below hb; have RV : Hid (Rg w2 w.heap.size (.slice ao n cap) (.int .i64 o)) := RV.out.call hb; have c0 := RV.out.c0; have c1 := RV.out.c1; clear hb)
    | (go_at_call 7; (fail_if_success have := M1); (with_reducible refine (toRing_any VI.out h o).mono ?_); rintro e w3 ⟨u, rfl, ho, hb⟩; have M1 : Hid True := trivial; have UI : Hid (Il w3 u n xs) := il_of_own ho; have BW : Hid (Below w.heap.size w w3) := bstep BW.out hb; have VI : Hid (Il w3 (.slice ao n cap) n xs) := VI.out.below hb; have RV : Hid (Rg w3 w.heap.size (.slice ao n cap) (.int .i64 o)) := RV.out.call hb; clear ho hb)
    | (go_at_call 16; (with_reducible refine (HS.out _ _ UI.out).mono ?_); rintro e w4 ⟨rfl, hb⟩; have BW : Hid (Below w.heap.size w w4) := bstep BW.out hb; have VI : Hid (Il w4 (.slice ao n cap) n xs) := VI.out.below hb; have RV : Hid (Rg w4 w.heap.size (.slice ao n cap) (.int .i64 o)) := RV.out.call hb; have c0 := RV.out.c0; have c1 := RV.out.c1; clear hb)
    | (go_at_call 7; have Z := M1; (with_reducible refine (toRing_any VI.out h o).mono ?_); rintro e w5 ⟨x, rfl, ho, hb⟩; obtain ⟨xo, xc, rfl, hxc, hcx⟩ := il_of_own ho; clear hcx; have ba := below_one w5 (.cells #[.slice xo n xc, .int .i64 o] 26); have XI : Hid (Il (w5.alloc (.cells #[.slice xo n xc, .int .i64 o] 26)) (.slice xo n xc) n xs) := (il_of_own ho).below ba; have XR : Hid (Rg (w5.alloc (.cells #[.slice xo n xc, .int .i64 o] 26)) w5.heap.size (.slice xo n xc) (.int .i64 o)) := Rg.new _ _ _ _; have BW : Hid (Below w.heap.size w (w5.alloc (.cells #[.slice xo n xc, .int .i64 o] 26))) := bstep (bstep BW.out hb) ba; have VI : Hid (Il (w5.alloc (.cells #[.slice xo n xc, .int .i64 o] 26)) (.slice ao n cap) n xs) := (VI.out.below hb).below ba; have RV : Hid (Rg (w5.alloc (.cells #[.slice xo n xc, .int .i64 o] 26)) w.heap.size (.slice ao n cap) (.int .i64 o)) := (RV.out.call hb).call ba; clear ho hb ba)
    | (go_at_call 17; (with_reducible refine (HI.out _ _ XI.out).mono ?_); rintro e w6 ⟨rfl, hb⟩; have XI : Hid (Il w6 (.slice xo n xc) n xs) := XI.out.below hb; have XR : Hid (Rg w6 w5.heap.size (.slice xo n xc) (.int .i64 o)) := XR.out.call hb; have BW : Hid (Below w.heap.size w w6) := bstep BW.out hb; have VI : Hid (Il w6 (.slice ao n cap) n xs) := VI.out.below hb; have RV : Hid (Rg w6 w.heap.size (.slice ao n cap) (.int .i64 o)) := RV.out.call hb; have c0 := RV.out.c0; have c1 := RV.out.c1; have d0 := XR.out.c0; have d1 := XR.out.c1; clear hb))
  clear i1 HS HI
  refine wp_region_any (by kernel_rfl) ?_
  change wpAny _ _ _ _ _ _ _ (World.drew _)
  refine wpI_any (I := fun X => Below w6.heap.size w6 X) _ _ _ _ ?_
  have l0 : Below w6.heap.size w6 w6.drew := (Below.refl _ _).drew
  refine wpI_take (i := 0) (v := ?_) rfl (by kernel_rfl) (by kernel_rfl) (by kernel_rfl) (fun _ _ _ h => h) ⟨by rfl, ?_⟩ ?_
  rotate_left
  · intro X hI; obtain ⟨c0, c1, _, _⟩ := XR.out.call hI; go_simp; with_reducible rfl
  refine wpI_take (i := 1) (v := ?_) rfl (by kernel_rfl) (by kernel_rfl) (by kernel_rfl) (fun _ _ _ h => h) ⟨by rfl, ?_⟩ ?_
  rotate_left
  · intro X hI; obtain ⟨c0, c1, _, _⟩ := RV.out.call hI; go_simp; with_reducible rfl
  refine wpI_only (i := 2) rfl (by kernel_rfl) l0 (by rfl) ?_
  intro K hK
  go_simp
  go_wp2_with (go_at_call 7; refine (toRing_any (VI.out.below l0) h o).mono ?_; rintro e x1 ⟨y, rfl, ho, hb1⟩; have l1 := bstep l0 hb1; have YI : Hid (Il x1 y n xs) := il_of_own ho; clear ho)
  refine wpI_only (i := 3) rfl (by kernel_rfl) l1 (by rfl) ?_
  intro K hK
  go_simp
  go_wp2_with (go_at_call 10; refine (eqRing_any (XI.out.below l1) YI.out h o).mono ?_; rintro e x2 ⟨rfl, hb2⟩; have l2 := bstep l1 hb2)
  refine wpI_only (i := 4) rfl (by kernel_rfl) l2 (by rfl) ?_
  intro K hK
  go_simp
  refine hK _ _ ?_
  clear hK K
  refine wpI_done l2 (by kernel_rfl) ?_ _
  go_wp2
  go_ret
  exact ⟨rfl, bstep BW.out l2⟩

theorem walk_tap {w : World} {v : Value} {n : Nat} {xs : Nat → Int} (hv : Il w v n xs) (hn : n ≤ 9223372036854775807) (o b : Int) : Calls Try.prog 4 #[.agg #[v, .int .i64 o], .int .i64 b] w fun e w' => e = .returned (.bool true) ∧ Below w.heap.size w w' := by
  rcases Nat.lt_or_ge 1048576 n with h | h
  · obtain ⟨ao, cap, rfl, _, _⟩ := hv
    exact tap_long o b hn h
  · by_cases g : GTp n xs o b
    · exact wtap_of hv h o b _ _ (fun W u hu => sTap_good hu g) (fun W u hu => iTap_good hu g)
    · exact wtap_of hv h o b 0 false (fun W u hu => sTap_bad hu h g) (fun W u hu => iTap_bad hu h g)
end Go.Proofs.Ytphnoghnoacfiaa
