/- Rings: Tap refused; rings handed over. -/
import Derived.Test.YtphnoghnoacfiaaPA
import Derived.Test.YtphnoghnoacfiaaMK
namespace Go.Proofs.Ytphnoghnoacfiaa
open Go.RowKit

set_option maxHeartbeats 2000000 in
theorem iTap_bad {w : World} {v : Value} {n : Nat} {xs : Nat → Int} (hv : Il w v n xs) (hn : n ≤ 1048576) {o b : Int} (h : ¬ GTp n xs o b) : Calls Try.prog 17 #[.agg #[v, .int .i64 o], .int .i64 b] w fun e w' => e = .returned (.tuple #[.int .i64 0, .bool false]) ∧ Below w.heap.size w w' := by
  have b1 := below_one w (.cells #[v, .int .i64 o] 26)
  have R1 := Rg.new w v (.int .i64 o) 26
  have i1 := iRing_any (hv.below b1) hn o
  have HW : Hid (Below w.heap.size w (w.alloc (.cells #[v, .int .i64 o] 26))) := b1
  obtain ⟨ao, cap, rfl, hcap, hc⟩ := hv
  have RR : Hid (Rg (w.alloc (.cells #[.slice ao n cap, .int .i64 o] 26)) w.heap.size (.slice ao n cap) (.int .i64 o)) := R1
  clear hc b1 R1
  by_cases c1 : Rgo n xs o
  · rw [decide_eq_true c1] at i1
    have hx : b < 1 ∨ (n : Int) < b := by
      by_cases h1 : 1 ≤ b
      · exact .inr (by by_cases h2 : b ≤ n; exact absurd ⟨c1, h1, h2⟩ h; omega)
      · exact .inl (by omega)
    clear h c1
    rcases hx with hx | hx
    · go_enter Try.func17, Try.ntmps17
      go_wp2_with (first | (go_at_call 21; (with_reducible refine i1.mono ?_); rintro e w2 ⟨rfl, hb2⟩; have HB : Hid (Below w.heap.size w w2) := bstep HW.out hb2; have R2 : Hid (Rg w2 w.heap.size (.slice ao n cap) (.int .i64 o)) := RR.out.block (hb2.block _ (by simp)); have d0 := R2.out.c0; have d1 := R2.out.c1; clear hb2))
      go_ret2
      exact ⟨rfl, HB.out⟩
    · go_enter Try.func17, Try.ntmps17
      go_wp2_with (first | (go_at_call 21; (with_reducible refine i1.mono ?_); rintro e w2 ⟨rfl, hb2⟩; have HB : Hid (Below w.heap.size w w2) := bstep HW.out hb2; have R2 : Hid (Rg w2 w.heap.size (.slice ao n cap) (.int .i64 o)) := RR.out.block (hb2.block _ (by simp)); have d0 := R2.out.c0; have d1 := R2.out.c1; clear hb2))
      go_ret2
      exact ⟨rfl, HB.out⟩
  · rw [decide_eq_false c1] at i1
    clear h c1
    go_enter Try.func17, Try.ntmps17
    go_wp2_with (first | (go_at_call 21; (with_reducible refine i1.mono ?_); rintro e w2 ⟨rfl, hb2⟩; have HB : Hid (Below w.heap.size w w2) := bstep HW.out hb2; have R2 : Hid (Rg w2 w.heap.size (.slice ao n cap) (.int .i64 o)) := RR.out.block (hb2.block _ (by simp)); have d0 := R2.out.c0; have d1 := R2.out.c1; clear hb2))
    go_ret2
    exact ⟨rfl, HB.out⟩

set_option maxHeartbeats 2000000 in
theorem sTap_bad {w : World} {v : Value} {n : Nat} {xs : Nat → Int} (hv : Il w v n xs) (hn : n ≤ 1048576) {o b : Int} (h : ¬ GTp n xs o b) : Calls Try.prog 16 #[.agg #[v, .int .i64 o], .int .i64 b] w fun e w' => e = .returned (.tuple #[.int .i64 0, .bool false]) ∧ Below w.heap.size w w' := by
  have b1 := below_one w (.cells #[v, .int .i64 o] 26)
  have R1 := Rg.new w v (.int .i64 o) 26
  have i1 := sRing_any (hv.below b1) hn o
  have HW : Hid (Below w.heap.size w (w.alloc (.cells #[v, .int .i64 o] 26))) := b1
  obtain ⟨ao, cap, rfl, hcap, hc⟩ := hv
  have RR : Hid (Rg (w.alloc (.cells #[.slice ao n cap, .int .i64 o] 26)) w.heap.size (.slice ao n cap) (.int .i64 o)) := R1
  clear hc b1 R1
  by_cases c1 : Rgo n xs o
  · rw [decide_eq_true c1] at i1
    have i2 := in_any b 1 (n : Int)
    rw [decide_eq_false (fun c2 => h ⟨c1, c2⟩)] at i2
    clear h c1
    go_enter Try.func16, Try.ntmps16
    go_wp2_with (first | (go_at_call 19; (with_reducible refine i1.mono ?_); rintro e w2 ⟨rfl, hb2⟩; have HB : Hid (Below w.heap.size w w2) := bstep HW.out hb2; have R2 : Hid (Rg w2 w.heap.size (.slice ao n cap) (.int .i64 o)) := RR.out.block (hb2.block _ (by simp)); have d0 := R2.out.c0; have d1 := R2.out.c1; clear hb2) | (go_at_call 25; (with_reducible refine (i2 _).mono ?_); rintro e w' ⟨rfl, hw⟩; obtain rfl := hw.symm))
    go_ret2
    exact ⟨rfl, HB.out⟩
  · rw [decide_eq_false c1] at i1
    clear h c1
    go_enter Try.func16, Try.ntmps16
    go_wp2_with (first | (go_at_call 19; (with_reducible refine i1.mono ?_); rintro e w2 ⟨rfl, hb2⟩; have HB : Hid (Below w.heap.size w w2) := bstep HW.out hb2; have R2 : Hid (Rg w2 w.heap.size (.slice ao n cap) (.int .i64 o)) := RR.out.block (hb2.block _ (by simp)); have d0 := R2.out.c0; have d1 := R2.out.c1; clear hb2))
    go_ret2
    exact ⟨rfl, HB.out⟩


theorem Rg.call {W W' : World} {g : Nat} {x y : Value} (h : Rg W g x y) (hb : Below W.heap.size W W') : Rg W' g x y := h.block (hb.block g h.lt)

theorem Rg.other {W : World} {g g' : Nat} {x y : Value} (h : Rg W g x y) (hne : g ≠ g') (j : Nat) (u : Value) : Rg (W.setCell ⟨g', j, none⟩ u) g x y := h.block (Below.heap_setCell _ _ _ _ hne)

set_option maxHeartbeats 4000000 in
theorem toRing_any {w : World} {v : Value} {n : Nat} {xs : Nat → Int} (hv : Il w v n xs) (hn : n ≤ 1048576) (o : Int) : Calls Try.prog 7 #[.agg #[v, .int .i64 o]] w fun e w' => ∃ u, e = .returned (.agg #[u, .int .i64 o]) ∧ w'.ownsRow w.heap.size 3 1 u n (ils xs n) ∧ Below w.heap.size w w' := by
  have b1 := below_one w (.cells #[v, .int .i64 o] 24)
  have R1 := Rg.new w v (.int .i64 o) 24
  have s1 : (w.alloc (.cells #[v, .int .i64 o] 24)).heap.size = w.heap.size + 1 := by simp
  generalize hW1 : w.alloc (.cells #[v, .int .i64 o] 24) = W1 at *
  have b2 := below_one W1 (.cells #[.slice none 0 0, .int .i64 0] 26)
  have R2 := Rg.new W1 (.slice none 0 0) (.int .i64 0) 26
  have s2 : (W1.alloc (.cells #[.slice none 0 0, .int .i64 0] 26)).heap.size = w.heap.size + 2 := by simp [s1]
  generalize hW2 : W1.alloc (.cells #[.slice none 0 0, .int .i64 0] 26) = W2 at *
  have b3 := below_one W2 (.cells #[.slice none 0 0, .int .i64 0] 26)
  have R3 := Rg.new W2 (.slice none 0 0) (.int .i64 0) 26
  have s3 : (W2.alloc (.cells #[.slice none 0 0, .int .i64 0] 26)).heap.size = w.heap.size + 3 := by simp [s2]
  generalize hW3 : W2.alloc (.cells #[.slice none 0 0, .int .i64 0] 26) = W3 at *
  rw [s1] at R2
  rw [s2] at R3
  have BW : Hid (Below w.heap.size w W3) := bstep (bstep b1 b2) b3
  have i1 := copy_own (((hv.below b1).below b2).below b3) hn
  have q1 : Hid (Rg W3 w.heap.size v (.int .i64 o)) := (R1.call b2).call b3
  have q2 : Hid (Rg W3 (w.heap.size + 1) (.slice none 0 0) (.int .i64 0)) := R2.call b3
  have q3 : Hid (Rg W3 (w.heap.size + 2) (.slice none 0 0) (.int .i64 0)) := R3
  have S3 : Hid (W3.heap.size = w.heap.size + 3) := s3
  obtain ⟨ao, cap, rfl, hcap, hc⟩ := hv
  clear hc b1 b2 b3 R1 R2 R3
  go_enter Try.func7, Try.ntmps7
  go_upto_region 2 with fail
  clear hW1 hW2 hW3 s1 s2 s3
  have c0 := q1.out.c0
  have c1 := q1.out.c1
  go_upto_region 3 with (first
    | (go_at_call 8; (with_reducible refine i1.mono ?_); rintro e w4 ⟨hb4, u, rfl, hf4, ho4⟩; have BX : Hid (Below w.heap.size w w4) := bstep BW.out hb4; have O4 : Hid (w4.ownsRow W3.heap.size 3 1 u n (ils xs n)) := ho4; have q1 : Hid (Rg w4 w.heap.size (.slice ao n cap) (.int .i64 o)) := q1.out.call hb4; have q2 : Hid (Rg w4 (w.heap.size + 1) (.slice none 0 0) (.int .i64 0)) := q2.out.call hb4; have q3 : Hid (Rg w4 (w.heap.size + 2) (.slice none 0 0) (.int .i64 0)) := q3.out.call hb4; have c0 := q3.out.c0; have c1 := q3.out.c1; have z0 := q3.out.z0; have z1 := q3.out.z1; obtain ⟨uo, uc, rfl, huc, hcu⟩ := hf4; clear hb4 ho4 hcu))
  have BX2 : Hid (Below w.heap.size w (w4.setCell ⟨w.heap.size + 2, 0, none⟩ (.slice uo n uc))) := BX.out.setCell (p := ⟨w.heap.size + 2, 0, none⟩) (by show w.heap.size ≤ w.heap.size + 2; omega) _
  have O5 : Hid ((w4.setCell ⟨w.heap.size + 2, 0, none⟩ (.slice uo n uc)).ownsRow W3.heap.size 3 1 (.slice uo n uc) n (ils xs n)) := own_only O4.out ((Only.refl (w.heap.size + 2) w4).put 0 _) (by have := S3.out; omega)
  have p1 : Hid (Rg (w4.setCell ⟨w.heap.size + 2, 0, none⟩ (.slice uo n uc)) w.heap.size (.slice ao n cap) (.int .i64 o)) := q1.out.other (by omega) _ _
  have p2 : Hid (Rg (w4.setCell ⟨w.heap.size + 2, 0, none⟩ (.slice uo n uc)) (w.heap.size + 1) (.slice none 0 0) (.int .i64 0)) := q2.out.other (by omega) _ _
  have p3 : Hid (Rg (w4.setCell ⟨w.heap.size + 2, 0, none⟩ (.slice uo n uc)) (w.heap.size + 2) (.slice uo n uc) (.int .i64 0)) := q3.out.put0 _
  generalize w4.setCell ⟨w.heap.size + 2, 0, none⟩ (.slice uo n uc) = w5 at BX2 O5 p1 p2 p3 ⊢
  clear q1 q2 q3 BX O4 c0 c1 z0 z1 i1 BW
  have c1 := p1.out.c1
  have d1 := p3.out.c1
  have z1 := p3.out.z1
  go_upto_region 4 with fail
  have BX3 : Hid (Below w.heap.size w (w5.setCell ⟨w.heap.size + 2, 1, none⟩ (.int .i64 o))) := BX2.out.setCell (p := ⟨w.heap.size + 2, 1, none⟩) (by show w.heap.size ≤ w.heap.size + 2; omega) _
  have O6 : Hid ((w5.setCell ⟨w.heap.size + 2, 1, none⟩ (.int .i64 o)).ownsRow W3.heap.size 3 1 (.slice uo n uc) n (ils xs n)) := own_only O5.out ((Only.refl (w.heap.size + 2) w5).put 1 _) (by have := S3.out; omega)
  have r2 : Hid (Rg (w5.setCell ⟨w.heap.size + 2, 1, none⟩ (.int .i64 o)) (w.heap.size + 1) (.slice none 0 0) (.int .i64 0)) := p2.out.other (by omega) _ _
  have r3 : Hid (Rg (w5.setCell ⟨w.heap.size + 2, 1, none⟩ (.int .i64 o)) (w.heap.size + 2) (.slice uo n uc) (.int .i64 o)) := p3.out.put1 _
  generalize w5.setCell ⟨w.heap.size + 2, 1, none⟩ (.int .i64 o) = w6 at BX3 O6 r2 r3 ⊢
  clear p1 p2 p3 BX2 O5 c1 d1 z1
  have c0 := r3.out.c0
  have c1 := r3.out.c1
  have d0 := r2.out.c0
  have d1 := r2.out.c1
  have z0 := r2.out.z0
  have z1 := r2.out.z1
  have BX4 : Hid (Below w.heap.size w ((w6.setCell ⟨w.heap.size + 1, 0, none⟩ (.slice uo n uc)).setCell ⟨w.heap.size + 1, 1, none⟩ (.int .i64 o))) := (BX3.out.setCell (p := ⟨w.heap.size + 1, 0, none⟩) (by show w.heap.size ≤ w.heap.size + 1; omega) _).setCell (p := ⟨w.heap.size + 1, 1, none⟩) (by show w.heap.size ≤ w.heap.size + 1; omega) _
  have O7 : Hid (((w6.setCell ⟨w.heap.size + 1, 0, none⟩ (.slice uo n uc)).setCell ⟨w.heap.size + 1, 1, none⟩ (.int .i64 o)).ownsRow W3.heap.size 3 1 (.slice uo n uc) n (ils xs n)) := own_only O6.out (((Only.refl (w.heap.size + 1) w6).put 0 _).put 1 _) (by have := S3.out; omega)
  have t2 : Hid (Rg ((w6.setCell ⟨w.heap.size + 1, 0, none⟩ (.slice uo n uc)).setCell ⟨w.heap.size + 1, 1, none⟩ (.int .i64 o)) (w.heap.size + 1) (.slice uo n uc) (.int .i64 o)) := (r2.out.put0 _).put1 _
  go_wp2
  generalize (w6.setCell ⟨w.heap.size + 1, 0, none⟩ (.slice uo n uc)).setCell ⟨w.heap.size + 1, 1, none⟩ (.int .i64 o) = w7 at BX4 O7 t2 ⊢
  have c0 := t2.out.c0
  have c1 := t2.out.c1
  refine bodyPost_ret (v := .agg #[.slice uo n uc, .int .i64 o]) (by simp [results, Try.results7, go_sem, c0, c1]) rfl ?_
  exact ⟨_, rfl, own_base O7.out (by have := S3.out; omega), BX4.out⟩

set_option maxHeartbeats 4000000 in
theorem eqRing_any {w : World} {u v : Value} {n : Nat} {xs : Nat → Int} (hu : Il w u n xs) (hv : Il w v n xs) (hn : n ≤ 1048576) (o : Int) : Calls Try.prog 10 #[.agg #[u, .int .i64 o], .agg #[v, .int .i64 o]] w fun e w' => e = .returned (.bool true) ∧ Below w.heap.size w w' := by
  have b1 := below_one w (.cells #[u, .int .i64 o] 26)
  have R1 := Rg.new w u (.int .i64 o) 26
  have s1 : (w.alloc (.cells #[u, .int .i64 o] 26)).heap.size = w.heap.size + 1 := by simp
  generalize hW1 : w.alloc (.cells #[u, .int .i64 o] 26) = W1 at *
  have b2 := below_one W1 (.cells #[v, .int .i64 o] 26)
  have R2 := Rg.new W1 v (.int .i64 o) 26
  generalize hW2 : W1.alloc (.cells #[v, .int .i64 o] 26) = W2 at *
  rw [s1] at R2
  have BW : Hid (Below w.heap.size w W2) := bstep b1 b2
  have i1 := eq_yes ((hu.below b1).below b2) ((hv.below b1).below b2) hn
  have q1 : Hid (Rg W2 w.heap.size u (.int .i64 o)) := R1.call b2
  have q2 : Hid (Rg W2 (w.heap.size + 1) v (.int .i64 o)) := R2
  obtain ⟨ao, cap, rfl, hcap, hc⟩ := hu
  obtain ⟨ao2, cap2, rfl, hcap2, hc2⟩ := hv
  clear hc hc2 b1 b2 R1 R2
  go_enter Try.func10, Try.ntmps10
  go_upto_region 1 with fail
  clear hW1 hW2 s1
  have c0 := q1.out.c0
  have c1 := q2.out.c0
  go_wp2_with (first
    | (go_at_call 11; (with_reducible refine i1.mono ?_); rintro e w3 ⟨rfl, hb3⟩; have B3 : Hid (Below w.heap.size w w3) := bstep BW.out hb3; have q1 : Hid (Rg w3 w.heap.size (.slice ao n cap) (.int .i64 o)) := q1.out.call hb3; have q2 : Hid (Rg w3 (w.heap.size + 1) (.slice ao2 n cap2) (.int .i64 o)) := q2.out.call hb3; have e0 := q1.out.c1; have e1 := q2.out.c1; clear hb3))
  go_ret
  exact ⟨rfl, B3.out⟩

set_option maxHeartbeats 2000000 in
theorem szRing_any {w : World} {ao : Option Addr} {n cap : Nat} (o : Int) (hn : n ≤ 9223372036854775807) : Calls Try.prog 5 #[.agg #[.slice ao n cap, .int .i64 o], .int .i64 1048576] w fun e w' => e = .returned (.int .i64 (if n ≤ 1048576 then 1048576 - (n : Int) else -1)) ∧ Below w.heap.size w w' := by
  have b1 : Hid (Below w.heap.size w (w.alloc (.cells #[.slice ao n cap, .int .i64 o] 24))) := below_one w _
  have i1 : ∀ W, Calls Try.prog 18 #[.slice ao n cap, .int .i64 1048576] W fun e w' => e = .returned (.int .i64 (if n ≤ 1048576 then 1048576 - (n : Int) else -1)) ∧ w' = W := by
    intro W
    by_cases h : n ≤ 1048576
    · rw [if_pos h]
      go_enter Try.func18, Try.ntmps18
      go_wp2
      go_ret
      exact ⟨rfl, rfl⟩
    · rw [if_neg h]
      go_enter Try.func18, Try.ntmps18
      go_wp2
      go_ret
      exact ⟨rfl, rfl⟩
  by_cases h : n ≤ 1048576
  · rw [if_pos h] at i1 ⊢
    go_enter Try.func5, Try.ntmps5
    go_wp2_with (first | (go_at_call 18; (with_reducible refine (i1 _).mono ?_); rintro e w' ⟨rfl, hw⟩; obtain rfl := hw.symm))
    go_ret
    exact ⟨rfl, b1.out⟩
  · rw [if_neg h] at i1 ⊢
    go_enter Try.func5, Try.ntmps5
    go_wp2_with (first | (go_at_call 18; (with_reducible refine (i1 _).mono ?_); rintro e w' ⟨rfl, hw⟩; obtain rfl := hw.symm))
    go_ret
    exact ⟨rfl, b1.out⟩
end Go.Proofs.Ytphnoghnoacfiaa
