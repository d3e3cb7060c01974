/- Iir: the program. -/
import Derived.Test.YtmjgaocmmmcnfaaIB
namespace Go.Proofs.Ytmjgaocmmmcnfaa
open Go.RowKit

/-- What is told: a list, a past, a bool. -/
def Pip (w w' : World) (e : Ending) (N : Nat) (ys : Nat → Int) (p : Pa) (ok : Bool) : Prop := ∃ u, e = .returned (.tuple #[u, p.v, .bool ok]) ∧ w'.ownsRow w.heap.size 3 1 u N (ils ys N) ∧ Below w.heap.size w w'

theorem Il.at {w : World} {v : Value} {n : Nat} {xs : Nat → Int} (h : Il w v n xs) (hn : 0 < n) {b off n' c : Nat} (hv : v = .slice (some ⟨b, off, none⟩) n' c) : b < w.heap.size := by
  obtain ⟨ao, cap, rfl, _, hc⟩ := h
  obtain ⟨b', off', rfl, hlt, _⟩ := hc hn
  injection hv with h1
  injection h1 with h2
  injection h2 with h3
  omega

/-- A modest list. -/
abbrev Mds (n : Nat) (xs : Nat → Int) : Prop := n ≤ 512 ∧ Wth 1000000 n xs

theorem mds_sig {n : Nat} {xs : Nat → Int} : Mds n xs ↔ (Sig n xs ∧ Wth 1000000 n xs) := by
  constructor
  · rintro ⟨h1, h2⟩
    exact ⟨⟨h1, fun k hk => by have := h2 k hk; omega⟩, h2⟩
  · rintro ⟨⟨h1, _⟩, h2⟩
    exact ⟨h1, h2⟩

theorem iMds_any {w : World} {v : Value} {n : Nat} {xs : Nat → Int} (hv : Il w v n xs) (hn : n ≤ 1048576) : Calls Try.prog 25 #[v] w fun e w' => e = .returned (.bool (decide (Mds n xs))) ∧ w' = w := by
  have i1 := iSig_any hv hn
  have i2 := iWth_any hv hn (M := 1000000) (by omega)
  rw [show decide (Mds n xs) = decide (Sig n xs ∧ Wth 1000000 n xs) from decide_eq_decide.2 mds_sig]
  obtain ⟨ao, cap, rfl, hcap, hc⟩ := hv
  clear hc
  obtain ⟨d, hd⟩ : ∃ d, d = decide (Wth 1000000 n xs) := ⟨_, rfl⟩
  rw [← hd] at i2
  have HD : Hid _ := hd
  clear hd
  by_cases hs : Sig n xs
  · rw [decide_eq_true hs] at i1
    go_enter Try.func25, Try.ntmps25
    go_wp2_with (first
      | (go_at_call 31; (with_reducible refine i1.mono ?_); rintro e w' ⟨rfl, hw⟩; obtain rfl := hw.symm)
      | (go_at_call 30; (with_reducible refine i2.mono ?_); rintro e w' ⟨rfl, hw⟩; obtain rfl := hw.symm))
    go_ret
    exact ⟨congrArg (fun z => Ending.returned (.bool z)) (by rw [HD.out]; exact decide_eq_decide.2 ⟨fun h => ⟨hs, h⟩, fun h => h.2⟩), rfl⟩
  · rw [decide_eq_false hs] at i1
    go_enter Try.func25, Try.ntmps25
    go_wp2_with (first
      | (go_at_call 31; (with_reducible refine i1.mono ?_); rintro e w' ⟨rfl, hw⟩; obtain rfl := hw.symm))
    go_ret
    exact ⟨congrArg (fun z => Ending.returned (.bool z)) (decide_eq_false (fun h => hs h.1)).symm, rfl⟩

/-- Five cells that can be written. -/
structure Fz (W : World) (g : Nat) : Prop where
  z0 : W.frozen? ⟨g, 0, none⟩ = false
  z1 : W.frozen? ⟨g, 1, none⟩ = false
  z2 : W.frozen? ⟨g, 2, none⟩ = false
  z3 : W.frozen? ⟨g, 3, none⟩ = false
  z4 : W.frozen? ⟨g, 4, none⟩ = false

theorem Fz.new (w : World) (x1 x2 y1 y2 e : Int) (t : TypeId) : Fz (w.alloc (.cells #[.int .i64 x1, .int .i64 x2, .int .i64 y1, .int .i64 y2, .int .i64 e] t)) w.heap.size :=
  ⟨by simp, by simp, by simp, by simp, by simp⟩

theorem Fz.block {W W' : World} {g : Nat} (h : Fz W g) (hb : W'.heap[g]? = W.heap[g]?) : Fz W' g :=
  ⟨(World.frozen?_of_block (w := W) hb).trans h.z0, (World.frozen?_of_block (w := W) hb).trans h.z1, (World.frozen?_of_block (w := W) hb).trans h.z2, (World.frozen?_of_block (w := W) hb).trans h.z3, (World.frozen?_of_block (w := W) hb).trans h.z4⟩

abbrev zw (w : World) : World := w.alloc (.cells #[.int .i64 0, .int .i64 0, .int .i64 0, .int .i64 0, .int .i64 0] 27)

/-- What stands where Iir begins: the section, the past and the past that is told in blocks of their own. -/
structure I3 (w W : World) (s : Se) (p : Pa) : Prop where
  rs : R5 W w.heap.size s.b0 s.b1 s.b2 s.a1 s.a2
  rp : R5 W (w.heap.size + 1) p.x1 p.x2 p.y1 p.y2 p.e
  rz : R5 W (w.heap.size + 1 + 1) 0 0 0 0 0
  fp : Fz W (w.heap.size + 1)
  fz : Fz W (w.heap.size + 1 + 1)
  bl : Below w.heap.size w W
  sz : w.heap.size + 3 ≤ W.heap.size

theorem I3.start (w : World) (s : Se) (p : Pa) : I3 w (zw (p.w (s.w w))) s p := by
  have s1 : (s.w w).heap.size = w.heap.size + 1 := by simp
  have s2 : (p.w (s.w w)).heap.size = w.heap.size + 1 + 1 := by simp
  have hp := R5.new (s.w w) p.x1 p.x2 p.y1 p.y2 p.e 27
  have hf := Fz.new (s.w w) p.x1 p.x2 p.y1 p.y2 p.e 27
  have hz := R5.new (p.w (s.w w)) 0 0 0 0 0 27
  have hg := Fz.new (p.w (s.w w)) 0 0 0 0 0 27
  rw [s1] at hp hf
  rw [s2] at hz hg
  have b3 := below_one (p.w (s.w w)) (.cells #[.int .i64 0, .int .i64 0, .int .i64 0, .int .i64 0, .int .i64 0] 27)
  exact ⟨((R5.new w _ _ _ _ _ 30).block ((below_one (s.w w) _).block w.heap.size (by simp))).block (b3.block _ (by omega)), hp.block (b3.block _ (by omega)), hz, hf.block (b3.block _ (by omega)), hg, bstep (bstep (below_one _ _) (below_one _ _)) b3, by have := b3.size; simp⟩

theorem I3.below {w W W' : World} {s : Se} {p : Pa} (h : I3 w W s p) (hb : Below W.heap.size W W') : I3 w W' s p :=
  ⟨h.rs.block (hb.block _ (by have := h.sz; omega)), h.rp.block (hb.block _ (by have := h.sz; omega)), h.rz.block (hb.block _ (by have := h.sz; omega)), h.fp.block (hb.block _ (by have := h.sz; omega)), h.fz.block (hb.block _ (by have := h.sz; omega)), bstep h.bl hb, Nat.le_trans h.sz hb.size⟩

theorem I3.kd {w W W' : World} {s : Se} {p : Pa} {g : Nat} (h : I3 w W s p) (hb : Kd (fun k => k = g) W W') (hg : w.heap.size + 3 ≤ g) : I3 w W' s p :=
  ⟨h.rs.block (hb.block _ (by have := h.sz; omega) (by omega)), h.rp.block (hb.block _ (by have := h.sz; omega) (by omega)), h.rz.block (hb.block _ (by have := h.sz; omega) (by omega)), h.fp.block (hb.block _ (by have := h.sz; omega) (by omega)), h.fz.block (hb.block _ (by have := h.sz; omega) (by omega)), Kd.below h.bl hb (by have := h.sz; omega) (by rintro k rfl; omega), Nat.le_trans h.sz hb.size⟩

/-- Good for Iir. -/
abbrev GI (s : Se) (p : Pa) (n : Nat) (xs : Nat → Int) : Prop := (s.ok ∧ p.ok) ∧ Mds n xs

set_option maxHeartbeats 2000000 in
theorem iIir_good {w : World} {v : Value} {n : Nat} {xs : Nat → Int} {s : Se} {p : Pa} (hv : Il w v n xs) (hg : GI s p n xs) :
    Calls Try.prog 9 #[s.v, p.v, v] w fun e w' => Pip w w' e n (irs s p xs) (pas s p xs n) true := by
  have i1 := iSec_any s
  have i2 := iPas_any p
  rw [decide_eq_true hg.1.1] at i1
  rw [decide_eq_true hg.1.2] at i2
  have hn : n ≤ 1048576 := Nat.le_trans hg.2.1 (by omega)
  have HG : Hid (GI s p n xs) := hg
  have HV : Hid (Il w v n xs) := hv
  obtain ⟨ao, cap, rfl, hcap, hc⟩ := hv
  clear hc hg
  have I0 : Hid (I3 w (zw (p.w (s.w w))) s p) := I3.start w s p
  obtain ⟨p2, hp2⟩ : ∃ p2, p2 = pas s p xs n := ⟨_, rfl⟩
  rw [← hp2]
  have HP2 : Hid (p2 = pas s p xs n) := hp2
  clear hp2
  go_enter Try.func9, Try.ntmps9
  go_wp2_with (first
    | (go_at_call 23; (with_reducible refine (i1 _).mono ?_); rintro e w1 ⟨rfl, h1⟩; have I1 : Hid (I3 w w1 s p) := I0.out.below h1; clear h1; obtain ⟨d0, d1, d2, d3, d4⟩ := I1.out.rp)
    | (go_at_call 24; (with_reducible refine (i2 _).mono ?_); rintro e w2 ⟨rfl, h2⟩; have I2 : Hid (I3 w w2 s p) := I1.out.below h2; clear h2; obtain ⟨f0, f1, f2, f3, f4⟩ := I2.out.rp; obtain ⟨g0, g1, g2, g3, g4⟩ := I2.out.rs)
    | (go_at_call 25; have i3 := iMds_any (HV.out.below I2.out.bl) hn; rw [decide_eq_true HG.out.2] at i3; (with_reducible refine i3.mono ?_); rintro e w' ⟨rfl, hw⟩; obtain rfl := hw.symm)
    | (go_at_call 26; have RK : Hid (Rk (w2.alloc (.cells #[.int .i64 s.b0, .int .i64 s.b1, .int .i64 s.b2, .int .i64 s.a1, .int .i64 s.a2, .int .i64 p.x1, .int .i64 p.x2, .int .i64 p.y1, .int .i64 p.y2, .int .i64 p.e] 55)) w2.heap.size s p) := Rc.new _ _ _ _ _ _ _ _ _ _ _ _; have hb := below_one w2 (.cells #[.int .i64 s.b0, .int .i64 s.b1, .int .i64 s.b2, .int .i64 s.a1, .int .i64 s.a2, .int .i64 p.x1, .int .i64 p.x2, .int .i64 p.y1, .int .i64 p.y2, .int .i64 p.e] 55); (with_reducible refine (iirs_run (HV.out.below (bstep I2.out.bl hb)) hn HG.out.2.2 HG.out.1.1 HG.out.1.2 RK.out (fun hn0 b off n' c e => by have := HV.out.at hn0 e; have := I2.out.bl.size; omega)).mono ?_); rintro e w3 ⟨u, rfl, h5, h6, h7⟩; have H5 : Hid (w3.ownsRow (w.heap.size + 3) 3 1 u n (ils (irs s p xs) n)) := own_base h5 (Nat.le_trans I2.out.sz hb.size); have H6 : Hid (Rk w3 w2.heap.size s p2) := (by show Rk w3 w2.heap.size s p2; rw [HP2.out]; exact h6); have I4 : Hid (I3 w w3 s p) := (I2.out.below hb).kd h7 I2.out.sz; have N1 : w2.heap.size ≠ w.heap.size + 1 + 1 := (by have := I2.out.sz; omega); clear h5 h6 h7 hb; generalize w2.heap.size = G2 at H6 N1 ⊢; obtain ⟨_, _, _, _, _, r5, r6, r7, r8, r9, _, _, _, _, _, _, _, _, _, _⟩ := H6.out; obtain ⟨z0, z1, z2, z3, z4⟩ := I4.out.fz; obtain ⟨q0, q1, q2, q3, q4⟩ := I4.out.rz))
  go_region
  have RZ : Hid (R5 (((((w3.setCell ⟨w.heap.size + 1 + 1, 0, none⟩ (.int .i64 p2.x1)).setCell ⟨w.heap.size + 1 + 1, 1, none⟩ (.int .i64 p2.x2)).setCell ⟨w.heap.size + 1 + 1, 2, none⟩ (.int .i64 p2.y1)).setCell ⟨w.heap.size + 1 + 1, 3, none⟩ (.int .i64 p2.y2)).setCell ⟨w.heap.size + 1 + 1, 4, none⟩ (.int .i64 p2.e)).drew (w.heap.size + 1 + 1) p2.x1 p2.x2 p2.y1 p2.y2 p2.e) :=
    ⟨by simp [go_sem, q0], by simp [go_sem, q1], by simp [go_sem, q2], by simp [go_sem, q3], by simp [go_sem, q4]⟩
  have KZ : Kd (fun g => g = w.heap.size + 1 + 1) w3 (((((w3.setCell ⟨w.heap.size + 1 + 1, 0, none⟩ (.int .i64 p2.x1)).setCell ⟨w.heap.size + 1 + 1, 1, none⟩ (.int .i64 p2.x2)).setCell ⟨w.heap.size + 1 + 1, 2, none⟩ (.int .i64 p2.y1)).setCell ⟨w.heap.size + 1 + 1, 3, none⟩ (.int .i64 p2.y2)).setCell ⟨w.heap.size + 1 + 1, 4, none⟩ (.int .i64 p2.e)).drew :=
    ((((((Kd.refl (fun g => g = w.heap.size + 1 + 1) w3).put (.inl rfl) 0 _).put (.inl rfl) 1 _).put (.inl rfl) 2 _).put (.inl rfl) 3 _).put (.inl rfl) 4 _).drew
  have HO : Hid (World.ownsRow _ w.heap.size 3 1 u n (ils (irs s p xs) n)) := own_base (own_kd H5.out KZ (fun g hg hd => by have := (World.ownsRow.lt H5.out g hg).1; omega)) (by omega)
  have HB : Hid (Below w.heap.size w _) := Kd.below I4.out.bl KZ (by have := I4.out.sz; omega) (by rintro g rfl; omega)
  clear KZ z0 z1 z2 z3 z4 q0 q1 q2 q3 q4 r5 r6 r7 r8 r9
  generalize (((((w3.setCell ⟨w.heap.size + 1 + 1, 0, none⟩ (.int .i64 p2.x1)).setCell ⟨w.heap.size + 1 + 1, 1, none⟩ (.int .i64 p2.x2)).setCell ⟨w.heap.size + 1 + 1, 2, none⟩ (.int .i64 p2.y1)).setCell ⟨w.heap.size + 1 + 1, 3, none⟩ (.int .i64 p2.y2)).setCell ⟨w.heap.size + 1 + 1, 4, none⟩ (.int .i64 p2.e)).drew = W5 at RZ HO HB ⊢
  obtain ⟨q0, q1, q2, q3, q4⟩ := RZ.out
  go_wp2
  refine bodyPost_ret (v := .tuple #[u, p2.v, .bool true]) (by simp [results, Try.results9, go_sem, q0, q1, q2, q3, q4]) rfl ?_
  exact ⟨_, rfl, HO.out, HB.out⟩

set_option maxHeartbeats 2000000 in
theorem iIir_bad {w : World} {v : Value} {n : Nat} {xs : Nat → Int} {s : Se} {p : Pa} (hv : Il w v n xs) (hn : n ≤ 1048576) (hg : ¬ GI s p n xs) (ys : Nat → Int) :
    Calls Try.prog 9 #[s.v, p.v, v] w fun e w' => Pip w w' e 0 ys ⟨0, 0, 0, 0, 0⟩ false := by
  have i1 := iSec_any s
  have i2 := iPas_any p
  have HV : Hid (Il w v n xs) := hv
  obtain ⟨ao, cap, rfl, hcap, hc⟩ := hv
  clear hc
  have I0 : Hid (I3 w (zw (p.w (s.w w))) s p) := I3.start w s p
  by_cases h1 : s.ok
  · rw [decide_eq_true h1] at i1
    by_cases h2 : p.ok
    · rw [decide_eq_true h2] at i2
      have H3 : Hid (¬ Mds n xs) := fun h3 => hg ⟨⟨h1, h2⟩, h3⟩
      clear hg h1 h2
      go_enter Try.func9, Try.ntmps9
      go_wp2_with (first
        | (go_at_call 23; (with_reducible refine (i1 _).mono ?_); rintro e w1 ⟨rfl, h1⟩; have I1 : Hid (I3 w w1 s p) := I0.out.below h1; clear h1; obtain ⟨d0, d1, d2, d3, d4⟩ := I1.out.rp)
        | (go_at_call 24; (with_reducible refine (i2 _).mono ?_); rintro e w2 ⟨rfl, h2⟩; have I2 : Hid (I3 w w2 s p) := I1.out.below h2; clear h2)
        | (go_at_call 25; have i3 := iMds_any (HV.out.below I2.out.bl) hn; rw [decide_eq_false H3.out] at i3; (with_reducible refine i3.mono ?_); rintro e w' ⟨rfl, hw⟩; obtain rfl := hw.symm; have II : Hid (I3 w w2 s p) := I2.out; have IA : Hid (I3 w (w2.alloc (.cells #[] 3)) s p) := II.out.below (below_one _ _); have OE : Hid ((w2.alloc (.cells #[] 3)).ownsRow (w.heap.size + 3) 3 1 (.slice (some ⟨w2.heap.size, 0, none⟩) 0 0) 0 (ils ys 0)) := own_base (own_empty w2 3 1) II.out.sz; obtain ⟨v0, v1, v2, v3, v4⟩ := IA.out.rz; obtain ⟨z0, z1, z2, z3, z4⟩ := IA.out.fz))
      have RZ : Hid (R5 ((((((w2.alloc (.cells #[] 3)).setCell ⟨w.heap.size + 1 + 1, 0, none⟩ (.int .i64 0)).setCell ⟨w.heap.size + 1 + 1, 1, none⟩ (.int .i64 0)).setCell ⟨w.heap.size + 1 + 1, 2, none⟩ (.int .i64 0)).setCell ⟨w.heap.size + 1 + 1, 3, none⟩ (.int .i64 0)).setCell ⟨w.heap.size + 1 + 1, 4, none⟩ (.int .i64 0)) (w.heap.size + 1 + 1) 0 0 0 0 0) := ⟨by simp [go_sem, v0], by simp [go_sem, v1], by simp [go_sem, v2], by simp [go_sem, v3], by simp [go_sem, v4]⟩
      have KZ : Kd (fun g => g = w.heap.size + 1 + 1) (w2.alloc (.cells #[] 3)) ((((((w2.alloc (.cells #[] 3)).setCell ⟨w.heap.size + 1 + 1, 0, none⟩ (.int .i64 0)).setCell ⟨w.heap.size + 1 + 1, 1, none⟩ (.int .i64 0)).setCell ⟨w.heap.size + 1 + 1, 2, none⟩ (.int .i64 0)).setCell ⟨w.heap.size + 1 + 1, 3, none⟩ (.int .i64 0)).setCell ⟨w.heap.size + 1 + 1, 4, none⟩ (.int .i64 0)) := (((((Kd.refl (fun g => g = w.heap.size + 1 + 1) _).put (.inl rfl) 0 _).put (.inl rfl) 1 _).put (.inl rfl) 2 _).put (.inl rfl) 3 _).put (.inl rfl) 4 _
      have HO : Hid (World.ownsRow _ w.heap.size 3 1 _ 0 (ils ys 0)) := own_base (own_kd OE.out KZ (fun g hg hd => by have := (World.ownsRow.lt OE.out g hg).1; omega)) (by omega)
      have HB : Hid (Below w.heap.size w _) := Kd.below IA.out.bl KZ (by have := IA.out.sz; omega) (by rintro g rfl; omega)
      clear KZ z0 z1 z2 z3 z4 v0 v1 v2 v3 v4
      generalize ((((((w2.alloc (.cells #[] 3)).setCell ⟨w.heap.size + 1 + 1, 0, none⟩ (.int .i64 0)).setCell ⟨w.heap.size + 1 + 1, 1, none⟩ (.int .i64 0)).setCell ⟨w.heap.size + 1 + 1, 2, none⟩ (.int .i64 0)).setCell ⟨w.heap.size + 1 + 1, 3, none⟩ (.int .i64 0)).setCell ⟨w.heap.size + 1 + 1, 4, none⟩ (.int .i64 0)) = W5 at RZ HO HB ⊢
      obtain ⟨q0, q1, q2, q3, q4⟩ := RZ.out
      go_wp2
      refine bodyPost_ret (v := .tuple #[.slice (some ⟨w2.heap.size, 0, none⟩) 0 0, Pa.v ⟨0, 0, 0, 0, 0⟩, .bool false]) (by simp [results, Try.results9, go_sem, q0, q1, q2, q3, q4]) rfl ?_
      exact ⟨_, rfl, HO.out, HB.out⟩
    · rw [decide_eq_false h2] at i2
      clear hg h1 h2
      go_enter Try.func9, Try.ntmps9
      go_wp2_with (first
        | (go_at_call 23; (with_reducible refine (i1 _).mono ?_); rintro e w1 ⟨rfl, h1⟩; have I1 : Hid (I3 w w1 s p) := I0.out.below h1; clear h1; obtain ⟨d0, d1, d2, d3, d4⟩ := I1.out.rp)
        | (go_at_call 24; (with_reducible refine (i2 _).mono ?_); rintro e w2 ⟨rfl, h2⟩; have I2 : Hid (I3 w w2 s p) := I1.out.below h2; clear h2; have II : Hid (I3 w w2 s p) := I2.out; have IA : Hid (I3 w (w2.alloc (.cells #[] 3)) s p) := II.out.below (below_one _ _); have OE : Hid ((w2.alloc (.cells #[] 3)).ownsRow (w.heap.size + 3) 3 1 (.slice (some ⟨w2.heap.size, 0, none⟩) 0 0) 0 (ils ys 0)) := own_base (own_empty w2 3 1) II.out.sz; obtain ⟨v0, v1, v2, v3, v4⟩ := IA.out.rz; obtain ⟨z0, z1, z2, z3, z4⟩ := IA.out.fz))
      have RZ : Hid (R5 ((((((w2.alloc (.cells #[] 3)).setCell ⟨w.heap.size + 1 + 1, 0, none⟩ (.int .i64 0)).setCell ⟨w.heap.size + 1 + 1, 1, none⟩ (.int .i64 0)).setCell ⟨w.heap.size + 1 + 1, 2, none⟩ (.int .i64 0)).setCell ⟨w.heap.size + 1 + 1, 3, none⟩ (.int .i64 0)).setCell ⟨w.heap.size + 1 + 1, 4, none⟩ (.int .i64 0)) (w.heap.size + 1 + 1) 0 0 0 0 0) := ⟨by simp [go_sem, v0], by simp [go_sem, v1], by simp [go_sem, v2], by simp [go_sem, v3], by simp [go_sem, v4]⟩
      have KZ : Kd (fun g => g = w.heap.size + 1 + 1) (w2.alloc (.cells #[] 3)) ((((((w2.alloc (.cells #[] 3)).setCell ⟨w.heap.size + 1 + 1, 0, none⟩ (.int .i64 0)).setCell ⟨w.heap.size + 1 + 1, 1, none⟩ (.int .i64 0)).setCell ⟨w.heap.size + 1 + 1, 2, none⟩ (.int .i64 0)).setCell ⟨w.heap.size + 1 + 1, 3, none⟩ (.int .i64 0)).setCell ⟨w.heap.size + 1 + 1, 4, none⟩ (.int .i64 0)) := (((((Kd.refl (fun g => g = w.heap.size + 1 + 1) _).put (.inl rfl) 0 _).put (.inl rfl) 1 _).put (.inl rfl) 2 _).put (.inl rfl) 3 _).put (.inl rfl) 4 _
      have HO : Hid (World.ownsRow _ w.heap.size 3 1 _ 0 (ils ys 0)) := own_base (own_kd OE.out KZ (fun g hg hd => by have := (World.ownsRow.lt OE.out g hg).1; omega)) (by omega)
      have HB : Hid (Below w.heap.size w _) := Kd.below IA.out.bl KZ (by have := IA.out.sz; omega) (by rintro g rfl; omega)
      clear KZ z0 z1 z2 z3 z4 v0 v1 v2 v3 v4
      generalize ((((((w2.alloc (.cells #[] 3)).setCell ⟨w.heap.size + 1 + 1, 0, none⟩ (.int .i64 0)).setCell ⟨w.heap.size + 1 + 1, 1, none⟩ (.int .i64 0)).setCell ⟨w.heap.size + 1 + 1, 2, none⟩ (.int .i64 0)).setCell ⟨w.heap.size + 1 + 1, 3, none⟩ (.int .i64 0)).setCell ⟨w.heap.size + 1 + 1, 4, none⟩ (.int .i64 0)) = W5 at RZ HO HB ⊢
      obtain ⟨q0, q1, q2, q3, q4⟩ := RZ.out
      go_wp2
      refine bodyPost_ret (v := .tuple #[.slice (some ⟨w2.heap.size, 0, none⟩) 0 0, Pa.v ⟨0, 0, 0, 0, 0⟩, .bool false]) (by simp [results, Try.results9, go_sem, q0, q1, q2, q3, q4]) rfl ?_
      exact ⟨_, rfl, HO.out, HB.out⟩
  · rw [decide_eq_false h1] at i1
    clear hg h1
    go_enter Try.func9, Try.ntmps9
    go_wp2_with (first
      | (go_at_call 23; (with_reducible refine (i1 _).mono ?_); rintro e w1 ⟨rfl, h1⟩; have I1 : Hid (I3 w w1 s p) := I0.out.below h1; clear h1; obtain ⟨d0, d1, d2, d3, d4⟩ := I1.out.rp; have II : Hid (I3 w w1 s p) := I1.out; have IA : Hid (I3 w (w1.alloc (.cells #[] 3)) s p) := II.out.below (below_one _ _); have OE : Hid ((w1.alloc (.cells #[] 3)).ownsRow (w.heap.size + 3) 3 1 (.slice (some ⟨w1.heap.size, 0, none⟩) 0 0) 0 (ils ys 0)) := own_base (own_empty w1 3 1) II.out.sz; obtain ⟨v0, v1, v2, v3, v4⟩ := IA.out.rz; obtain ⟨z0, z1, z2, z3, z4⟩ := IA.out.fz))
    have RZ : Hid (R5 ((((((w1.alloc (.cells #[] 3)).setCell ⟨w.heap.size + 1 + 1, 0, none⟩ (.int .i64 0)).setCell ⟨w.heap.size + 1 + 1, 1, none⟩ (.int .i64 0)).setCell ⟨w.heap.size + 1 + 1, 2, none⟩ (.int .i64 0)).setCell ⟨w.heap.size + 1 + 1, 3, none⟩ (.int .i64 0)).setCell ⟨w.heap.size + 1 + 1, 4, none⟩ (.int .i64 0)) (w.heap.size + 1 + 1) 0 0 0 0 0) := ⟨by simp [go_sem, v0], by simp [go_sem, v1], by simp [go_sem, v2], by simp [go_sem, v3], by simp [go_sem, v4]⟩
    have KZ : Kd (fun g => g = w.heap.size + 1 + 1) (w1.alloc (.cells #[] 3)) ((((((w1.alloc (.cells #[] 3)).setCell ⟨w.heap.size + 1 + 1, 0, none⟩ (.int .i64 0)).setCell ⟨w.heap.size + 1 + 1, 1, none⟩ (.int .i64 0)).setCell ⟨w.heap.size + 1 + 1, 2, none⟩ (.int .i64 0)).setCell ⟨w.heap.size + 1 + 1, 3, none⟩ (.int .i64 0)).setCell ⟨w.heap.size + 1 + 1, 4, none⟩ (.int .i64 0)) := (((((Kd.refl (fun g => g = w.heap.size + 1 + 1) _).put (.inl rfl) 0 _).put (.inl rfl) 1 _).put (.inl rfl) 2 _).put (.inl rfl) 3 _).put (.inl rfl) 4 _
    have HO : Hid (World.ownsRow _ w.heap.size 3 1 _ 0 (ils ys 0)) := own_base (own_kd OE.out KZ (fun g hg hd => by have := (World.ownsRow.lt OE.out g hg).1; omega)) (by omega)
    have HB : Hid (Below w.heap.size w _) := Kd.below IA.out.bl KZ (by have := IA.out.sz; omega) (by rintro g rfl; omega)
    clear KZ z0 z1 z2 z3 z4 v0 v1 v2 v3 v4
    generalize ((((((w1.alloc (.cells #[] 3)).setCell ⟨w.heap.size + 1 + 1, 0, none⟩ (.int .i64 0)).setCell ⟨w.heap.size + 1 + 1, 1, none⟩ (.int .i64 0)).setCell ⟨w.heap.size + 1 + 1, 2, none⟩ (.int .i64 0)).setCell ⟨w.heap.size + 1 + 1, 3, none⟩ (.int .i64 0)).setCell ⟨w.heap.size + 1 + 1, 4, none⟩ (.int .i64 0)) = W5 at RZ HO HB ⊢
    obtain ⟨q0, q1, q2, q3, q4⟩ := RZ.out
    go_wp2
    refine bodyPost_ret (v := .tuple #[.slice (some ⟨w1.heap.size, 0, none⟩) 0 0, Pa.v ⟨0, 0, 0, 0, 0⟩, .bool false]) (by simp [results, Try.results9, go_sem, q0, q1, q2, q3, q4]) rfl ?_
    exact ⟨_, rfl, HO.out, HB.out⟩
end Go.Proofs.Ytmjgaocmmmcnfaa
