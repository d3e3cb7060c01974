/- Rings: Tap refused; rings handed over. -/
import Derived.Test.YtlflpgikmfdloaaPA
import Derived.Test.YtlflpgikmfdloaaMK
namespace Go.Proofs.Ytlflpgikmfdloaa
open Go.RowKit

set_option maxHeartbeats 2000000 in
theorem iTap_bad {w : World} {v : Value} {n : Nat} {xs : Nat → Int} (hv : Il w v n xs) (hn : n ≤ 1048576) {o b : Int} (h : ¬ GTp n xs o b) : Calls Try.prog 8 #[.agg #[v, .int .i64 o], .int .i64 b] w fun e w' => e = .returned (.tuple #[.int .i64 0, .bool false]) ∧ Below w.heap.size w w' := by
  have b1 := below_one w (.cells #[v, .int .i64 o] 26)
  have R1 := Rg.new w v (.int .i64 o) 26
  have i1 := iRing_any (hv.below b1) hn o
  have HW : Hid (Below w.heap.size w (w.alloc (.cells #[v, .int .i64 o] 26))) := b1
  obtain ⟨ao, cap, rfl, hcap, hc⟩ := hv
  have RR : Hid (Rg (w.alloc (.cells #[.slice ao n cap, .int .i64 o] 26)) w.heap.size (.slice ao n cap) (.int .i64 o)) := R1
  clear hc b1 R1
  by_cases c1 : Rgo n xs o
  · rw [decide_eq_true c1] at i1
    have hx : b < 1 ∨ (n : Int) < b := by
      by_cases h1 : 1 ≤ b
      · exact .inr (by by_cases h2 : b ≤ n; exact absurd ⟨c1, h1, h2⟩ h; omega)
      · exact .inl (by omega)
    clear h c1
    rcases hx with hx | hx
    · go_enter Try.func8, Try.ntmps8
      go_wp2_with (first | (go_at_call 14; (with_reducible refine i1.mono ?_); rintro e w2 ⟨rfl, hb2⟩; have HB : Hid (Below w.heap.size w w2) := bstep HW.out hb2; have R2 : Hid (Rg w2 w.heap.size (.slice ao n cap) (.int .i64 o)) := RR.out.block (hb2.block _ (by simp)); have d0 := R2.out.c0; have d1 := R2.out.c1; clear hb2))
      go_ret2
      exact ⟨rfl, HB.out⟩
    · go_enter Try.func8, Try.ntmps8
      go_wp2_with (first | (go_at_call 14; (with_reducible refine i1.mono ?_); rintro e w2 ⟨rfl, hb2⟩; have HB : Hid (Below w.heap.size w w2) := bstep HW.out hb2; have R2 : Hid (Rg w2 w.heap.size (.slice ao n cap) (.int .i64 o)) := RR.out.block (hb2.block _ (by simp)); have d0 := R2.out.c0; have d1 := R2.out.c1; clear hb2))
      go_ret2
      exact ⟨rfl, HB.out⟩
  · rw [decide_eq_false c1] at i1
    clear h c1
    go_enter Try.func8, Try.ntmps8
    go_wp2_with (first | (go_at_call 14; (with_reducible refine i1.mono ?_); rintro e w2 ⟨rfl, hb2⟩; have HB : Hid (Below w.heap.size w w2) := bstep HW.out hb2; have R2 : Hid (Rg w2 w.heap.size (.slice ao n cap) (.int .i64 o)) := RR.out.block (hb2.block _ (by simp)); have d0 := R2.out.c0; have d1 := R2.out.c1; clear hb2))
    go_ret2
    exact ⟨rfl, HB.out⟩

theorem Rg.call {W W' : World} {g : Nat} {x y : Value} (h : Rg W g x y) (hb : Below W.heap.size W W') : Rg W' g x y := h.block (hb.block g h.lt)

theorem Rg.other {W : World} {g g' : Nat} {x y : Value} (h : Rg W g x y) (hne : g ≠ g') (j : Nat) (u : Value) : Rg (W.setCell ⟨g', j, none⟩ u) g x y := h.block (Below.heap_setCell _ _ _ _ hne)

end Go.Proofs.Ytlflpgikmfdloaa
