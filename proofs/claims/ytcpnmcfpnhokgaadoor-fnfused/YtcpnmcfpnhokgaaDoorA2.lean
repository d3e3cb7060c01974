/- The model's sum of two finite numbers: the walk. -/
import Derived.Test.YtcpnmcfpnhokgaaDoorR2
import Derived.RegionTactic
import Derived.Deep.RegionWith
namespace Go.Proofs.YtcpnmcfpnhokgaaDoor
open Go.RowKit

theorem Nt.len {w : World} {v : Value} {m N : Nat} (h : Nt w v m N) : ∃ ao n cap, v = .slice ao n cap ∧ (n = 0 ↔ N = 0) ∧ n ≤ m := by
  obtain ⟨n, hn, hh, ht⟩ := h
  have h1 := hh.1
  obtain ⟨ao, cap, rfl, _, _⟩ := hh.shape
  refine ⟨ao, n, cap, rfl, ⟨fun h0 => ?_, fun h0 => ?_⟩, hn⟩
  · subst h0; simpa using h1
  · rcases ht with ht | ht
    · exact ht
    · have := Nat.pow_pos (n := n - 1) (show 0 < 4294967296 by decide)
      omega

set_option maxRecDepth 100000 in
set_option maxHeartbeats 1000000 in
/-- Both are 0. -/
theorem sum_zero {f wd p t S D : Int} (hF : Form f wd p t S D) (mode ea eb : Int) (na nb : Bool) {w : World} {va vb : Value} (ha : Nt w va 5 0) (hb : Nt w vb 5 0) :
    Calls Tryd.prog 32 #[.int .i64 f, .int .i64 mode, .bool na, va, .int .i64 ea, .bool nb, vb, .int .i64 eb] w fun e w' => e = .returned (.tuple #[.int .u64 (if (na && nb || (na != nb) && (mode == 5)) then S else 0), .int .i64 0]) ∧ Below w.heap.size w w' := by
  obtain ⟨ao, n, cap, rfl, hn, _⟩ := ha.len
  obtain ⟨bo, k, cap2, rfl, hk, _⟩ := hb.len
  obtain rfl : n = 0 := hn.2 rfl
  obtain rfl : k = 0 := hk.2 rfl
  have hs := fun b w => l1Sign_any hF b w
  clear hn hk ha hb hF
  cases na <;> cases nb <;> cases hm : (mode == 5)
  all_goals
    go_enter Tryd.func32, Tryd.ntmps32
    go_wp2_with (go_at_call 44; refine (hs _ _).mono ?_; rintro e w' ⟨rfl, hw⟩; obtain rfl := hw.symm)
    go_ret2
    exact ⟨rfl, Below.refl _ _⟩

set_option maxRecDepth 100000 in
set_option maxHeartbeats 1000000 in
/-- The first is 0, the second not. -/
theorem sum_left (f mode ea eb V F : Int) (na nb : Bool) {w : World} {va vb : Value} {B : Nat} (hB : B ≠ 0) (ha : Nt w va 5 0) (hb : Nt w vb 5 B)
    (hR : Calls Tryd.prog 45 #[.int .i64 f, .int .i64 mode, .bool nb, vb, .int .i64 eb, .bool false] w fun e w' => e = .returned (.tuple #[.int .u64 V, .int .i64 F]) ∧ Below w.heap.size w w') :
    Calls Tryd.prog 32 #[.int .i64 f, .int .i64 mode, .bool na, va, .int .i64 ea, .bool nb, vb, .int .i64 eb] w fun e w' => e = .returned (.tuple #[.int .u64 V, .int .i64 F]) ∧ Below w.heap.size w w' := by
  obtain ⟨ao, n, cap, rfl, hn, _⟩ := ha.len
  obtain ⟨bo, k, cap2, rfl, hk, _⟩ := hb.len
  obtain rfl : n = 0 := hn.2 rfl
  have k0 : ((k : Int) == 0) = false := by simp; omega
  clear hn hk ha hb
  go_enter Tryd.func32, Tryd.ntmps32
  go_wp2_with (go_at_call 45; refine hR.mono ?_; rintro e w' ⟨rfl, hb⟩)
  go_ret2
  exact ⟨rfl, hb⟩

set_option maxRecDepth 100000 in
set_option maxHeartbeats 1000000 in
/-- The second is 0, the first not. -/
theorem sum_right (f mode ea eb V F : Int) (na nb : Bool) {w : World} {va vb : Value} {A : Nat} (hA : A ≠ 0) (ha : Nt w va 5 A) (hb : Nt w vb 5 0)
    (hR : Calls Tryd.prog 45 #[.int .i64 f, .int .i64 mode, .bool na, va, .int .i64 ea, .bool false] w fun e w' => e = .returned (.tuple #[.int .u64 V, .int .i64 F]) ∧ Below w.heap.size w w') :
    Calls Tryd.prog 32 #[.int .i64 f, .int .i64 mode, .bool na, va, .int .i64 ea, .bool nb, vb, .int .i64 eb] w fun e w' => e = .returned (.tuple #[.int .u64 V, .int .i64 F]) ∧ Below w.heap.size w w' := by
  obtain ⟨ao, n, cap, rfl, hn, _⟩ := ha.len
  obtain ⟨bo, k, cap2, rfl, hk, _⟩ := hb.len
  obtain rfl : k = 0 := hk.2 rfl
  have n0 : ((n : Int) == 0) = false := by simp; omega
  clear hn hk ha hb
  go_enter Tryd.func32, Tryd.ntmps32
  go_wp2_with (go_at_call 45; refine hR.mono ?_; rintro e w' ⟨rfl, hb⟩)
  go_ret2
  exact ⟨rfl, hb⟩

set_option maxRecDepth 100000 in
set_option maxHeartbeats 4000000 in
/-- Neither is 0: the first's exponent is the greater. -/
theorem sum_hi (f mode ea eb V F : Int) (na nb : Bool) {w : World} {va vb : Value} {A B : Nat} (hA : A ≠ 0) (hB : B ≠ 0) (ha : Nt w va 5 A) (hb : Nt w vb 5 B) (he : eb < ea) (e0 : -20000 ≤ eb) (e1 : ea ≤ 20000)
    (hZ : na ≠ nb → A * 2 ^ (ea - eb).toNat = B → F = 0 ∧ ∀ W, Calls Tryd.prog 44 #[.int .i64 f, .bool (mode == 5)] W fun e w' => e = .returned (.int .u64 V) ∧ w' = W)
    (hR : ∀ (W : World) (v : Value) (s : Bool) (R : Nat), ((na = nb ∧ s = na ∧ R = A * 2 ^ (ea - eb).toNat + B) ∨ (na ≠ nb ∧ B < A * 2 ^ (ea - eb).toNat ∧ s = na ∧ R = A * 2 ^ (ea - eb).toNat - B) ∨ (na ≠ nb ∧ A * 2 ^ (ea - eb).toNat < B ∧ s = nb ∧ R = B - A * 2 ^ (ea - eb).toNat)) → Nt W v 40001 R → Calls Tryd.prog 45 #[.int .i64 f, .int .i64 mode, .bool s, v, .int .i64 eb, .bool false] W fun e w' => e = .returned (.tuple #[.int .u64 V, .int .i64 F]) ∧ Below W.heap.size W w') :
    Calls Tryd.prog 32 #[.int .i64 f, .int .i64 mode, .bool na, va, .int .i64 ea, .bool nb, vb, .int .i64 eb] w fun e w' => e = .returned (.tuple #[.int .u64 V, .int .i64 F]) ∧ Below w.heap.size w w' := by
  have hsh := shl_at ha (by omega) (ea - eb) (by omega) (by omega)
  have HA : Hid (Nt w va 5 A) := ha
  have HB : Hid (Nt w vb 5 B) := hb
  obtain ⟨ao, n, cap, rfl, hn, _⟩ := ha.len
  obtain ⟨bo, k, cap2, rfl, hk, _⟩ := hb.len
  have n0 : ((n : Int) == 0) = false := by simp; omega
  have k0 : ((k : Int) == 0) = false := by simp; omega
  have w1 := wrap_small (ea - eb) (by omega) (by omega)
  have he1 : eb < ea := he
  generalize A * 2 ^ (ea - eb).toNat = C at *
  clear hn hk ha hb hA hB e0 e1 he
  by_cases hs : na = nb
  · have hs1 : (na == nb) = true := by simp [hs]
    have HR : Hid _ := fun W v hv => hR W v na (C + B) (Or.inl ⟨hs, rfl, rfl⟩) hv
    clear hR hZ hs
    go_enter Tryd.func32, Tryd.ntmps32
    go_wp2_with (first
      | (go_at_call 69; refine hsh.mono ?_; rintro e w1 ⟨hb1, v1, rfl, hv1⟩; have HX : Hid (Nt w1 _ 40000 C) := hv1; have HY : Hid (Nt w1 _ 40000 B) := (HB.out.below hb1).mono (by decide); have HW : Hid _ := hb1; clear hv1 hb1)
      | (go_at_call 70; refine (add_any HX.out HY.out (by decide)).mono ?_; rintro e w2 ⟨hb2, v2, rfl, hv2⟩; have HV : Hid _ := hv2; have HW : Hid _ := bstep HW.out hb2; clear hv2 hb2)
      | (go_at_call 45; refine (HR.out _ _ HV.out).mono ?_; rintro e w3 ⟨rfl, hb3⟩; have HW : Hid _ := bstep HW.out hb3; clear hb3))
    go_ret2
    exact ⟨rfl, HW.out⟩
  · have hs1 : (na == nb) = false := by simpa using hs
    rcases Nat.lt_trichotomy C B with h | h | h
    · have hc : cmpOf C B = -1 := by unfold cmpOf; rw [if_pos h]
      have HR : Hid _ := fun W v hv => hR W v nb (B - C) (Or.inr (Or.inr ⟨hs, h, rfl, rfl⟩)) hv
      have HL : Hid _ := Nat.le_of_lt h
      clear hR hZ hs h
      go_enter Tryd.func32, Tryd.ntmps32
      go_wp2_with (first
        | (go_at_call 69; refine hsh.mono ?_; rintro e w1 ⟨hb1, v1, rfl, hv1⟩; have HX : Hid (Nt w1 _ 40000 C) := hv1; have HY : Hid (Nt w1 _ 40000 B) := (HB.out.below hb1).mono (by decide); have HW : Hid _ := hb1; clear hv1 hb1)
        | (go_at_call 71; refine (cmp_any HX.out HY.out (by decide)).mono ?_; rintro e w2 ⟨rfl, hb2⟩; have HX : Hid (Nt w2 _ 40000 C) := HX.out.below hb2; have HY : Hid (Nt w2 _ 40000 B) := HY.out.below hb2; have HW : Hid _ := bstep HW.out hb2; clear hb2)
        | (go_at_call 72; refine (sub_any HY.out HX.out (by decide) HL.out).mono ?_; rintro e w2 ⟨hb2, v2, rfl, hv2⟩; have HV : Hid _ := hv2.mono (k := 40001) (by decide); have HW : Hid _ := bstep HW.out hb2; clear hv2 hb2)
        | (go_at_call 45; refine (HR.out _ _ HV.out).mono ?_; rintro e w3 ⟨rfl, hb3⟩; have HW : Hid _ := bstep HW.out hb3; clear hb3))
      go_ret2
      exact ⟨rfl, HW.out⟩
    · have hc : cmpOf C B = 0 := by unfold cmpOf; rw [if_neg (by omega), if_pos h]
      obtain ⟨hF0, hz⟩ := hZ hs h
      subst hF0
      clear hR hZ hs h
      go_enter Tryd.func32, Tryd.ntmps32
      go_wp2_with (first
        | (go_at_call 69; refine hsh.mono ?_; rintro e w1 ⟨hb1, v1, rfl, hv1⟩; have HX : Hid (Nt w1 _ 40000 C) := hv1; have HY : Hid (Nt w1 _ 40000 B) := (HB.out.below hb1).mono (by decide); have HW : Hid _ := hb1; clear hv1 hb1)
        | (go_at_call 71; refine (cmp_any HX.out HY.out (by decide)).mono ?_; rintro e w2 ⟨rfl, hb2⟩; have HW : Hid _ := bstep HW.out hb2; clear hb2)
        | (go_at_call 44; refine (hz _).mono ?_; rintro e w' ⟨rfl, hw⟩; obtain rfl := hw.symm))
      go_ret2
      exact ⟨rfl, HW.out⟩
    · have hc : cmpOf C B = 1 := by unfold cmpOf; rw [if_neg (by omega), if_neg (by omega)]
      have HR : Hid _ := fun W v hv => hR W v na (C - B) (Or.inr (Or.inl ⟨hs, h, rfl, rfl⟩)) hv
      have HL : Hid _ := Nat.le_of_lt h
      clear hR hZ hs h
      go_enter Tryd.func32, Tryd.ntmps32
      go_wp2_with (first
        | (go_at_call 69; refine hsh.mono ?_; rintro e w1 ⟨hb1, v1, rfl, hv1⟩; have HX : Hid (Nt w1 _ 40000 C) := hv1; have HY : Hid (Nt w1 _ 40000 B) := (HB.out.below hb1).mono (by decide); have HW : Hid _ := hb1; clear hv1 hb1)
        | (go_at_call 71; refine (cmp_any HX.out HY.out (by decide)).mono ?_; rintro e w2 ⟨rfl, hb2⟩; have HX : Hid (Nt w2 _ 40000 C) := HX.out.below hb2; have HY : Hid (Nt w2 _ 40000 B) := HY.out.below hb2; have HW : Hid _ := bstep HW.out hb2; clear hb2)
        | (go_at_call 72; refine (sub_any HX.out HY.out (by decide) HL.out).mono ?_; rintro e w2 ⟨hb2, v2, rfl, hv2⟩; have HV : Hid _ := hv2.mono (k := 40001) (by decide); have HW : Hid _ := bstep HW.out hb2; clear hv2 hb2)
        | (go_at_call 45; refine (HR.out _ _ HV.out).mono ?_; rintro e w3 ⟨rfl, hb3⟩; have HW : Hid _ := bstep HW.out hb3; clear hb3))
      go_ret2
      exact ⟨rfl, HW.out⟩

set_option maxRecDepth 100000 in
set_option maxHeartbeats 4000000 in
/-- Neither is 0: the second's exponent is not the lesser. -/
theorem sum_lo (f mode ea eb V F : Int) (na nb : Bool) {w : World} {va vb : Value} {A B : Nat} (hA : A ≠ 0) (hB : B ≠ 0) (ha : Nt w va 5 A) (hb : Nt w vb 5 B) (he : ea ≤ eb) (e0 : -20000 ≤ ea) (e1 : eb ≤ 20000)
    (hZ : na ≠ nb → A = B * 2 ^ (eb - ea).toNat → F = 0 ∧ ∀ W, Calls Tryd.prog 44 #[.int .i64 f, .bool (mode == 5)] W fun e w' => e = .returned (.int .u64 V) ∧ w' = W)
    (hR : ∀ (W : World) (v : Value) (s : Bool) (R : Nat), ((na = nb ∧ s = na ∧ R = A + B * 2 ^ (eb - ea).toNat) ∨ (na ≠ nb ∧ B * 2 ^ (eb - ea).toNat < A ∧ s = na ∧ R = A - B * 2 ^ (eb - ea).toNat) ∨ (na ≠ nb ∧ A < B * 2 ^ (eb - ea).toNat ∧ s = nb ∧ R = B * 2 ^ (eb - ea).toNat - A)) → Nt W v 40001 R → Calls Tryd.prog 45 #[.int .i64 f, .int .i64 mode, .bool s, v, .int .i64 ea, .bool false] W fun e w' => e = .returned (.tuple #[.int .u64 V, .int .i64 F]) ∧ Below W.heap.size W w') :
    Calls Tryd.prog 32 #[.int .i64 f, .int .i64 mode, .bool na, va, .int .i64 ea, .bool nb, vb, .int .i64 eb] w fun e w' => e = .returned (.tuple #[.int .u64 V, .int .i64 F]) ∧ Below w.heap.size w w' := by
  have hsh := shl_at hb (by omega) (eb - ea) (by omega) (by omega)
  have HA : Hid (Nt w va 5 A) := ha
  have HB : Hid (Nt w vb 5 B) := hb
  obtain ⟨ao, n, cap, rfl, hn, _⟩ := ha.len
  obtain ⟨bo, k, cap2, rfl, hk, _⟩ := hb.len
  have n0 : ((n : Int) == 0) = false := by simp; omega
  have k0 : ((k : Int) == 0) = false := by simp; omega
  have w1 := wrap_small (eb - ea) (by omega) (by omega)
  have he1 : ¬ eb < ea := by omega
  generalize B * 2 ^ (eb - ea).toNat = C at *
  clear hn hk ha hb hA hB e0 e1 he
  by_cases hs : na = nb
  · have hs1 : (na == nb) = true := by simp [hs]
    have HR : Hid _ := fun W v hv => hR W v na (A + C) (Or.inl ⟨hs, rfl, rfl⟩) hv
    clear hR hZ hs
    go_enter Tryd.func32, Tryd.ntmps32
    go_wp2_with (first
      | (go_at_call 69; refine hsh.mono ?_; rintro e w1 ⟨hb1, v1, rfl, hv1⟩; have HY : Hid (Nt w1 _ 40000 C) := hv1; have HX : Hid (Nt w1 _ 40000 A) := (HA.out.below hb1).mono (by decide); have HW : Hid _ := hb1; clear hv1 hb1)
      | (go_at_call 70; refine (add_any HX.out HY.out (by decide)).mono ?_; rintro e w2 ⟨hb2, v2, rfl, hv2⟩; have HV : Hid _ := hv2; have HW : Hid _ := bstep HW.out hb2; clear hv2 hb2)
      | (go_at_call 45; refine (HR.out _ _ HV.out).mono ?_; rintro e w3 ⟨rfl, hb3⟩; have HW : Hid _ := bstep HW.out hb3; clear hb3))
    go_ret2
    exact ⟨rfl, HW.out⟩
  · have hs1 : (na == nb) = false := by simpa using hs
    rcases Nat.lt_trichotomy A C with h | h | h
    · have hc : cmpOf A C = -1 := by unfold cmpOf; rw [if_pos h]
      have HR : Hid _ := fun W v hv => hR W v nb (C - A) (Or.inr (Or.inr ⟨hs, h, rfl, rfl⟩)) hv
      have HL : Hid _ := Nat.le_of_lt h
      clear hR hZ hs h
      go_enter Tryd.func32, Tryd.ntmps32
      go_wp2_with (first
        | (go_at_call 69; refine hsh.mono ?_; rintro e w1 ⟨hb1, v1, rfl, hv1⟩; have HY : Hid (Nt w1 _ 40000 C) := hv1; have HX : Hid (Nt w1 _ 40000 A) := (HA.out.below hb1).mono (by decide); have HW : Hid _ := hb1; clear hv1 hb1)
        | (go_at_call 71; refine (cmp_any HX.out HY.out (by decide)).mono ?_; rintro e w2 ⟨rfl, hb2⟩; have HX : Hid (Nt w2 _ 40000 A) := HX.out.below hb2; have HY : Hid (Nt w2 _ 40000 C) := HY.out.below hb2; have HW : Hid _ := bstep HW.out hb2; clear hb2)
        | (go_at_call 72; refine (sub_any HY.out HX.out (by decide) HL.out).mono ?_; rintro e w2 ⟨hb2, v2, rfl, hv2⟩; have HV : Hid _ := hv2.mono (k := 40001) (by decide); have HW : Hid _ := bstep HW.out hb2; clear hv2 hb2)
        | (go_at_call 45; refine (HR.out _ _ HV.out).mono ?_; rintro e w3 ⟨rfl, hb3⟩; have HW : Hid _ := bstep HW.out hb3; clear hb3))
      go_ret2
      exact ⟨rfl, HW.out⟩
    · have hc : cmpOf A C = 0 := by unfold cmpOf; rw [if_neg (by omega), if_pos h]
      obtain ⟨hF0, hz⟩ := hZ hs h
      subst hF0
      clear hR hZ hs h
      go_enter Tryd.func32, Tryd.ntmps32
      go_wp2_with (first
        | (go_at_call 69; refine hsh.mono ?_; rintro e w1 ⟨hb1, v1, rfl, hv1⟩; have HY : Hid (Nt w1 _ 40000 C) := hv1; have HX : Hid (Nt w1 _ 40000 A) := (HA.out.below hb1).mono (by decide); have HW : Hid _ := hb1; clear hv1 hb1)
        | (go_at_call 71; refine (cmp_any HX.out HY.out (by decide)).mono ?_; rintro e w2 ⟨rfl, hb2⟩; have HW : Hid _ := bstep HW.out hb2; clear hb2)
        | (go_at_call 44; refine (hz _).mono ?_; rintro e w' ⟨rfl, hw⟩; obtain rfl := hw.symm))
      go_ret2
      exact ⟨rfl, HW.out⟩
    · have hc : cmpOf A C = 1 := by unfold cmpOf; rw [if_neg (by omega), if_neg (by omega)]
      have HR : Hid _ := fun W v hv => hR W v na (A - C) (Or.inr (Or.inl ⟨hs, h, rfl, rfl⟩)) hv
      have HL : Hid _ := Nat.le_of_lt h
      clear hR hZ hs h
      go_enter Tryd.func32, Tryd.ntmps32
      go_wp2_with (first
        | (go_at_call 69; refine hsh.mono ?_; rintro e w1 ⟨hb1, v1, rfl, hv1⟩; have HY : Hid (Nt w1 _ 40000 C) := hv1; have HX : Hid (Nt w1 _ 40000 A) := (HA.out.below hb1).mono (by decide); have HW : Hid _ := hb1; clear hv1 hb1)
        | (go_at_call 71; refine (cmp_any HX.out HY.out (by decide)).mono ?_; rintro e w2 ⟨rfl, hb2⟩; have HX : Hid (Nt w2 _ 40000 A) := HX.out.below hb2; have HY : Hid (Nt w2 _ 40000 C) := HY.out.below hb2; have HW : Hid _ := bstep HW.out hb2; clear hb2)
        | (go_at_call 72; refine (sub_any HX.out HY.out (by decide) HL.out).mono ?_; rintro e w2 ⟨hb2, v2, rfl, hv2⟩; have HV : Hid _ := hv2.mono (k := 40001) (by decide); have HW : Hid _ := bstep HW.out hb2; clear hv2 hb2)
        | (go_at_call 45; refine (HR.out _ _ HV.out).mono ?_; rintro e w3 ⟨rfl, hb3⟩; have HW : Hid _ := bstep HW.out hb3; clear hb3))
      go_ret2
      exact ⟨rfl, HW.out⟩

end Go.Proofs.YtcpnmcfpnhokgaaDoor
