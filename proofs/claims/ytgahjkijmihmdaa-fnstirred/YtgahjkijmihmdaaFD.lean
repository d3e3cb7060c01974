/- Follow and UnFollow: the program's. -/
import Derived.Test.YtgahjkijmihmdaaFC
namespace Go.Proofs.Ytgahjkijmihmdaa
open Go.RowKit

set_option maxHeartbeats 4000000 in
theorem iFollow_good {w : World} {v : Value} {n t : Nat} {xs : Nat → Int} (hv : Il w v n xs) (h : GFo n xs (t : Int)) :
    Calls Try.prog 9 #[v, .int .i64 (t : Int)] w fun e w' => Pst w w' e n (fol false t xs) true := by
  obtain ⟨h, ht0, ht⟩ := h
  have h5 := h.1
  have HBT : Hid (∀ k, k < n → Bit (xs k)) := h.2
  have i1 := iBits_any hv (by omega)
  rw [decide_eq_true h] at i1
  have i2 := reg_any (t : Int)
  rw [decide_eq_true (by omega)] at i2
  have q4 : IntKind.u16.wrap (t : Int) = (t : Int) := by rw [IntKind.wrap_u16]; omega
  have OW : Hid ((w.alloc (.cells #[] 3)).ownsRow w.heap.size 3 1 (.slice (some ⟨w.heap.size, 0, none⟩) 0 0) 0 []) := own_empty w 3 1
  have BL : Hid (Below w.heap.size w (w.alloc (.cells #[] 3))) := below_one _ _
  have HV : Hid (Il (w.alloc (.cells #[] 3)) v n xs) := hv.below BL.out
  have HV0 : Hid (Il w v n xs) := hv
  obtain ⟨ao, cap, rfl, hcap, hc⟩ := hv
  clear hc h
  go_enter Try.func9, Try.ntmps9
  go_wp2_with (first | (go_at_call 23; (with_reducible refine (i1).mono ?_); rintro e w' ⟨rfl, hw⟩; obtain rfl := hw.symm) | (go_at_call 24; (with_reducible refine (i2 _).mono ?_); rintro e w' ⟨rfl, hw⟩; obtain rfl := hw.symm) | (at_builtin; refine wpList_appi rfl _ _ rfl w.heap.size _ _ 0 n [] xs rfl rfl OW.out HV.out (by omega) BL.out.size ?_))
  intro v' w2 ho hg
  try rw [Nat.zero_add, List.nil_append] at ho
  have HO : Hid (w2.ownsRow w.heap.size 3 1 v' n (ils xs n)) := ho
  have HB : Hid (Below w.heap.size w w2) := grown_below BL.out (Nat.le_refl _) OW.out hg
  clear i1 i2 hg OW BL HV
  rcases ho.2 with ⟨rfl, hnil⟩ | ⟨g, cap', cur, rfl, hbg, hcur, hcc, _⟩
  · obtain rfl : n = 0 := hnil
    have i3 := follow_nil (w := w2) (fed := .slice none 0 0) (t := t)
    clear ho
    go_wp2_with (first | (go_at_call 25; (with_reducible refine i3.mono ?_); rintro e w' ⟨rfl, hw⟩; obtain rfl := hw.symm))
    go_ret2
    exact ⟨_, rfl, HO.out, HB.out⟩
  · have i3 := follow_false ho (by omega) (show t < 65536 by omega) HBT.out
    clear ho hcur
    go_wp2_with (first | (go_at_call 25; (with_reducible refine i3.mono ?_); rintro e w3 ⟨rfl, ho3, hon⟩; have HO3 : Hid (w3.ownsRow w.heap.size 3 1 (.slice (some ⟨g, 0, none⟩) n cap') n (ils (fol false t xs) n)) := ho3; have HB3 : Hid (Below w.heap.size w w3) := Below.only HB.out hon hbg; clear ho3 hon))
    go_ret2
    exact ⟨_, rfl, HO3.out, HB3.out⟩

set_option maxHeartbeats 2000000 in
theorem iFollow_bad {w : World} {v : Value} {n : Nat} {xs : Nat → Int} {t : Int} (hv : Il w v n xs) (hn : n ≤ 1048576) (h : ¬ GFo n xs t) (ys : Nat → Int) :
    Calls Try.prog 9 #[v, .int .i64 t] w fun e w' => Pst w w' e 0 ys false := by
  have i1 := iBits_any hv hn
  have i2 := reg_any t
  obtain ⟨ao, cap, rfl, hcap, hc⟩ := hv
  clear hc
  by_cases c1 : Bts n xs
  · rw [decide_eq_true c1] at i1
    rw [decide_eq_false (fun c2 => h ⟨c1, c2⟩)] at i2
    clear h c1
    go_enter Try.func9, Try.ntmps9
    go_wp2_with (first | (go_at_call 23; (with_reducible refine (i1).mono ?_); rintro e w' ⟨rfl, hw⟩; obtain rfl := hw.symm) | (go_at_call 24; (with_reducible refine (i2 _).mono ?_); rintro e w' ⟨rfl, hw⟩; obtain rfl := hw.symm))
    go_ret2
    exact ⟨_, rfl, own_empty w 3 1, below_one _ _⟩
  · rw [decide_eq_false c1] at i1
    clear h c1
    clear i2
    go_enter Try.func9, Try.ntmps9
    go_wp2_with (first | (go_at_call 23; (with_reducible refine (i1).mono ?_); rintro e w' ⟨rfl, hw⟩; obtain rfl := hw.symm))
    go_ret2
    exact ⟨_, rfl, own_empty w 3 1, below_one _ _⟩
set_option maxHeartbeats 4000000 in
theorem iUnFollow_good {w : World} {v : Value} {n t : Nat} {xs : Nat → Int} (hv : Il w v n xs) (h : GFo n xs (t : Int)) :
    Calls Try.prog 10 #[v, .int .i64 (t : Int)] w fun e w' => Pst w w' e n (fol true t xs) true := by
  obtain ⟨h, ht0, ht⟩ := h
  have h5 := h.1
  have HBT : Hid (∀ k, k < n → Bit (xs k)) := h.2
  have i1 := iBits_any hv (by omega)
  rw [decide_eq_true h] at i1
  have i2 := reg_any (t : Int)
  rw [decide_eq_true (by omega)] at i2
  have q4 : IntKind.u16.wrap (t : Int) = (t : Int) := by rw [IntKind.wrap_u16]; omega
  have OW : Hid ((w.alloc (.cells #[] 3)).ownsRow w.heap.size 3 1 (.slice (some ⟨w.heap.size, 0, none⟩) 0 0) 0 []) := own_empty w 3 1
  have BL : Hid (Below w.heap.size w (w.alloc (.cells #[] 3))) := below_one _ _
  have HV : Hid (Il (w.alloc (.cells #[] 3)) v n xs) := hv.below BL.out
  have HV0 : Hid (Il w v n xs) := hv
  obtain ⟨ao, cap, rfl, hcap, hc⟩ := hv
  clear hc h
  go_enter Try.func10, Try.ntmps10
  go_wp2_with (first | (go_at_call 23; (with_reducible refine (i1).mono ?_); rintro e w' ⟨rfl, hw⟩; obtain rfl := hw.symm) | (go_at_call 24; (with_reducible refine (i2 _).mono ?_); rintro e w' ⟨rfl, hw⟩; obtain rfl := hw.symm) | (at_builtin; refine wpList_appi rfl _ _ rfl w.heap.size _ _ 0 n [] xs rfl rfl OW.out HV.out (by omega) BL.out.size ?_))
  intro v' w2 ho hg
  try rw [Nat.zero_add, List.nil_append] at ho
  have HO : Hid (w2.ownsRow w.heap.size 3 1 v' n (ils xs n)) := ho
  have HB : Hid (Below w.heap.size w w2) := grown_below BL.out (Nat.le_refl _) OW.out hg
  clear i1 i2 hg OW BL HV
  rcases ho.2 with ⟨rfl, hnil⟩ | ⟨g, cap', cur, rfl, hbg, hcur, hcc, _⟩
  · obtain rfl : n = 0 := hnil
    have i3 := follow_nil (w := w2) (fed := .slice ao 0 cap) (t := t)
    clear ho
    go_wp2_with (first | (go_at_call 25; (with_reducible refine i3.mono ?_); rintro e w' ⟨rfl, hw⟩; obtain rfl := hw.symm))
    go_ret2
    exact ⟨_, rfl, HO.out, HB.out⟩
  · have HC2 : Hid (0 < n → ∃ b off, ao = some ⟨b, off, none⟩ ∧ b < w2.heap.size ∧ b ≠ g ∧ ∀ k, k < n → w2.cell? ⟨b, off + k, none⟩ = some (.int .i64 (xs k))) := by
      intro h0
      obtain ⟨ao2, cap2, he, _, hc⟩ := HV0.out
      injection he with he1 he2 he3
      subst he1
      obtain ⟨b, off, rfl, hlt, hcell⟩ := hc h0
      exact ⟨b, off, rfl, Nat.lt_of_lt_of_le hlt HB.out.size, by omega, fun k hk => (HB.out.cell (p := ⟨b, off + k, none⟩) hlt).trans (hcell k hk)⟩
    have i3 := follow_true ho (by omega) (show t < 65536 by omega) HBT.out hcap (HC2.out)
    clear ho hcur
    go_wp2_with (first | (go_at_call 25; (with_reducible refine i3.mono ?_); rintro e w3 ⟨rfl, ho3, hon⟩; have HO3 : Hid (w3.ownsRow w.heap.size 3 1 (.slice (some ⟨g, 0, none⟩) n cap') n (ils (fol true t xs) n)) := ho3; have HB3 : Hid (Below w.heap.size w w3) := Below.only HB.out hon hbg; clear ho3 hon))
    go_ret2
    exact ⟨_, rfl, HO3.out, HB3.out⟩

set_option maxHeartbeats 2000000 in
theorem iUnFollow_bad {w : World} {v : Value} {n : Nat} {xs : Nat → Int} {t : Int} (hv : Il w v n xs) (hn : n ≤ 1048576) (h : ¬ GFo n xs t) (ys : Nat → Int) :
    Calls Try.prog 10 #[v, .int .i64 t] w fun e w' => Pst w w' e 0 ys false := by
  have i1 := iBits_any hv hn
  have i2 := reg_any t
  obtain ⟨ao, cap, rfl, hcap, hc⟩ := hv
  clear hc
  by_cases c1 : Bts n xs
  · rw [decide_eq_true c1] at i1
    rw [decide_eq_false (fun c2 => h ⟨c1, c2⟩)] at i2
    clear h c1
    go_enter Try.func10, Try.ntmps10
    go_wp2_with (first | (go_at_call 23; (with_reducible refine (i1).mono ?_); rintro e w' ⟨rfl, hw⟩; obtain rfl := hw.symm) | (go_at_call 24; (with_reducible refine (i2 _).mono ?_); rintro e w' ⟨rfl, hw⟩; obtain rfl := hw.symm))
    go_ret2
    exact ⟨_, rfl, own_empty w 3 1, below_one _ _⟩
  · rw [decide_eq_false c1] at i1
    clear h c1
    clear i2
    go_enter Try.func10, Try.ntmps10
    go_wp2_with (first | (go_at_call 23; (with_reducible refine (i1).mono ?_); rintro e w' ⟨rfl, hw⟩; obtain rfl := hw.symm))
    go_ret2
    exact ⟨_, rfl, own_empty w 3 1, below_one _ _⟩
end Go.Proofs.Ytgahjkijmihmdaa
