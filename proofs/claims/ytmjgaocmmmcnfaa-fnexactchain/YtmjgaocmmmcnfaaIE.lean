/- Iir: the model's loop. -/
import Derived.Test.YtmjgaocmmmcnfaaID
namespace Go.Proofs.Ytmjgaocmmmcnfaa
open Go.RowKit

/-- A past turned into the next one, number by number. -/
abbrev pst5 (W : World) (P : Nat) (x x1 y y1 r : Int) : World := ((((W.setCell ⟨P, 4, none⟩ (.int .i64 r)).setCell ⟨P, 1, none⟩ (.int .i64 x1)).setCell ⟨P, 0, none⟩ (.int .i64 x)).setCell ⟨P, 3, none⟩ (.int .i64 y1)).setCell ⟨P, 2, none⟩ (.int .i64 y)

theorem kd_pst5 (W : World) (P : Nat) (x x1 y y1 r : Int) : Kd (fun g => g = P) W (pst5 W P x x1 y y1 r) :=
  (((((Kd.refl (fun g => g = P) W).put (.inl rfl) 4 _).put (.inl rfl) 1 _).put (.inl rfl) 0 _).put (.inl rfl) 3 _).put (.inl rfl) 2 _

theorem r5_pst5 {W : World} {P : Nat} {a b c d e : Int} (h : R5 W P a b c d e) (x x1 y y1 r : Int) : R5 (pst5 W P x x1 y y1 r) P x x1 y y1 r := by
  obtain ⟨c0, c1, c2, c3, c4⟩ := h
  exact ⟨by simp [go_sem, c0], by simp [go_sem, c1], by simp [go_sem, c2], by simp [go_sem, c3], by simp [go_sem, c4]⟩

theorem fz_pst5 {W : World} {P : Nat} (h : Fz W P) (x x1 y y1 r : Int) : Fz (pst5 W P x x1 y y1 r) P := by
  obtain ⟨c0, c1, c2, c3, c4⟩ := h
  exact ⟨by simp [go_sem, c0], by simp [go_sem, c1], by simp [go_sem, c2], by simp [go_sem, c3], by simp [go_sem, c4]⟩

theorem I3.pst {w W : World} {s : Se} {p : Pa} (h : I3 w W s p) (x x1 y y1 r : Int) : I3 w (pst5 W (w.heap.size + 1) x x1 y y1 r) s ⟨x, x1, y, y1, r⟩ := by
  have k := kd_pst5 W (w.heap.size + 1) x x1 y y1 r
  exact ⟨h.rs.block (k.block _ (by have := h.sz; omega) (by omega)), r5_pst5 h.rp _ _ _ _ _, h.rz.block (k.block _ (by have := h.sz; omega) (by omega)), fz_pst5 h.fp _ _ _ _ _, h.fz.block (k.block _ (by have := h.sz; omega) (by omega)), Kd.below h.bl k (by have := h.sz; omega) (by rintro g rfl; omega), Nat.le_trans h.sz k.size⟩

theorem I3.low {w W W' : World} {s : Se} {p : Pa} (h : I3 w W s p) (hb : Below (w.heap.size + 3) W W') : I3 w W' s p :=
  ⟨h.rs.block (hb.block _ (by omega)), h.rp.block (hb.block _ (by omega)), h.rz.block (hb.block _ (by omega)), h.fp.block (hb.block _ (by omega)), h.fz.block (hb.block _ (by omega)), h.bl.trans (hb.mono (by omega)), Nat.le_trans h.sz hb.size⟩

set_option maxHeartbeats 4000000 in
theorem sIir_good {w : World} {v : Value} {n : Nat} {xs : Nat → Int} {s : Se} {p : Pa} (hv : Il w v n xs) (hg : GI s p n xs) :
    Calls Try.prog 5 #[s.v, p.v, v] w fun e w' => Pip w w' e n (irs s p xs) (pas s p xs n) true := by
  obtain ⟨i0, hi, hz0, hz1, hz2⟩ := info_parts Try.info3
  have hn : n ≤ 1048576 := Nat.le_trans hg.2.1 (by omega)
  have I0 : Hid (I3 w (zw (p.w (s.w w))) s p) := I3.start w s p
  have i1 := sGI_any (s := s) (p := p) (hv.below (bstep I0.out.bl (below_one _ (.cells #[] 3)))) hn
  rw [decide_eq_true hg] at i1
  have h512 := hg.2.1
  have HG : Hid (GI s p n xs) := hg
  obtain ⟨ao, cap, rfl, hcap, hc⟩ := hv
  have HC : Hid (0 < n → ∃ b off, ao = some ⟨b, off, none⟩ ∧ b < w.heap.size ∧ ∀ k, k < n → w.cell? ⟨b, off + k, none⟩ = some (.int .i64 (xs k))) := hc
  clear hc hg
  obtain ⟨p2, hp2⟩ : ∃ p2, p2 = pas s p xs n := ⟨_, rfl⟩
  rw [← hp2]
  have HP2 : Hid (p2 = pas s p xs n) := hp2
  clear hp2
  go_enter Try.func5, Try.ntmps5
  go_wp2_with (first
    | (go_at_call 20; (with_reducible refine i1.mono ?_); rintro e w1 ⟨rfl, h1⟩; have I1 : Hid (I3 w w1 s p) := (I0.out.below (below_one _ _)).below h1; have HO : Hid (w1.ownsRow (w.heap.size + 3) 3 1 (.slice (some ⟨w.heap.size + 1 + 1 + 1, 0, none⟩) 0 0) 0 (ils (irs s p xs) 0)) := own_below (by have := own_base (own_empty (zw (p.w (s.w w))) 3 1) I0.out.sz; rw [show (zw (p.w (s.w w))).heap.size = w.heap.size + 1 + 1 + 1 by simp] at this; exact this) h1; clear h1))
  go_loopw [9, 10, 11, 12, 13, 14] (fun o i _ _ _ _ wr => ∃ k : Nat, i = .int .i64 k ∧ k ≤ n ∧ Hid (wr.ownsRow (w.heap.size + 3) 3 1 o k (ils (irs s p xs) k) ∧ I3 w wr s (pas s p xs k))) (fun _ i _ _ _ _ _ => n - (intOf i).toNat)
  case atStart => exact ⟨0, rfl, by omega, HO.out, I1.out⟩
  case round =>
    obtain ⟨k, rfl, hk, hrel⟩ := hrel
    by_cases h1 : k < n
    · obtain ⟨b, off, rfl, hlt, hcell⟩ := HC.out (by omega)
      have c : wr.cell? ⟨b, off + k, none⟩ = some (.int .i64 (xs k)) := (hrel.out.2.bl.cell (p := ⟨b, off + k, none⟩) hlt).trans (hcell k h1)
      clear hcell
      have gp := rgd HG.out.1.1 (pas_ok (s := s) HG.out.1.2 HG.out.2.2 k (by omega))
      have HY : Hid (irs s p xs k = yy s (pas s p xs k) (xs k)) := rfl
      have HP : Hid (pas s p xs (k + 1) = nx s (pas s p xs k) (xs k)) := rfl
      have hx := HG.out.2.2 k h1
      have HIO : Hid (wr.ownsRow (w.heap.size + 3) 3 1 _ k (ils (irs s p xs) k)) := hrel.out.1
      have HI3 : Hid (I3 w wr s (pas s p xs k)) := hrel.out.2
      clear hrel
      generalize xs k = x at c HY HP hx
      generalize pas s p xs k = pk at gp HY HP HI3
      have m0 := mul_bounds gp.f0 hx (by omega) (by omega)
      have m1 := mul_bounds gp.f1 gp.p1 (by omega) (by omega)
      have m2 := mul_bounds gp.f2 gp.p2 (by omega) (by omega)
      have m3 := mul_bounds gp.f3 gp.p3 (by omega) (by omega)
      have m4 := mul_bounds gp.f4 gp.p4 (by omega) (by omega)
      have p5 := gp.p5
      obtain ⟨t, ht⟩ : ∃ t, t = tt s pk x := ⟨_, rfl⟩
      have et : s.b0 * x + s.b1 * pk.x1 + s.b2 * pk.x2 - s.a1 * pk.y1 - s.a2 * pk.y2 + pk.e = t := ht.symm
      have bt : -327680016383 ≤ t ∧ t ≤ 327680016383 := by omega
      obtain ⟨q, hq⟩ : ∃ q, q = t / 16384 := ⟨_, rfl⟩
      obtain ⟨y, hy⟩ : ∃ y, y = tap q := ⟨_, rfl⟩
      obtain ⟨r0, hr⟩ : ∃ r0, r0 = t % 16384 := ⟨_, rfl⟩
      have er1 : t - 16384 * q = r0 := by omega
      have bq : -20000002 ≤ q ∧ q ≤ 20000002 := by omega
      have br : 0 ≤ r0 ∧ r0 ≤ 16383 := by omega
      have i2 := floor_any t 16384 (by omega) (by omega)
      have i3 := sEnd_any q
      rw [← hq] at i2
      rw [← hy] at i3
      have by1 := tap_bounds q
      rw [← hy] at by1
      have HYV : Hid (irs s p xs k = y) := by show irs s p xs k = y; rw [HY.out, hy, hq, ht]; rfl
      have HPV : Hid (pas s p xs (k + 1) = ⟨x, pk.x1, y, pk.y1, r0⟩) := by show pas s p xs (k + 1) = ⟨x, pk.x1, y, pk.y1, r0⟩; rw [HP.out, hy, hq, hr, ht]; rfl
      clear ht hq hy hr HY HP gp
      obtain ⟨g0, g1, g2, g3, g4⟩ := HI3.out.rs
      obtain ⟨d0, d1, d2, d3, d4⟩ := HI3.out.rp
      obtain ⟨z0, z1, z2, z3, z4⟩ := HI3.out.fp
      have KP : Hid (Kd (fun g => g = w.heap.size + 1) wr (pst5 wr (w.heap.size + 1) x pk.x1 y pk.y1 r0)) := kd_pst5 _ _ _ _ _ _ _
      have IP : Hid (I3 w (pst5 wr (w.heap.size + 1) x pk.x1 y pk.y1 r0) s ⟨x, pk.x1, y, pk.y1, r0⟩) := HI3.out.pst _ _ _ _ _
      have OP : Hid ((pst5 wr (w.heap.size + 1) x pk.x1 y pk.y1 r0).ownsRow (w.heap.size + 3) 3 1 _ k (ils (irs s p xs) k)) := own_kd HIO.out KP.out (fun g hg hd => by have := (World.ownsRow.lt HIO.out g hg).1; omega)
      have SP : (pst5 wr (w.heap.size + 1) x pk.x1 y pk.y1 r0).heap.size = wr.heap.size := by simp
      have HSP : Hid _ := SP
      have hb3 := below_one (pst5 wr (w.heap.size + 1) x pk.x1 y pk.y1 r0) (.cells #[.int .i64 y] 3)
      have HO3 := own_below OP.out hb3
      have HI4 : Hid (I3 w ((pst5 wr (w.heap.size + 1) x pk.x1 y pk.y1 r0).alloc (.cells #[.int .i64 y] 3)) s ⟨x, pk.x1, y, pk.y1, r0⟩) := IP.out.below hb3
      have ON := one_new (pst5 wr (w.heap.size + 1) x pk.x1 y pk.y1 r0) (.int .i64 y) 3
      rw [SP] at ON
      clear SP hb3
      go_wp2_with (first
        | (go_at_call 21; (with_reducible refine (i2 _).mono ?_); rintro e w' ⟨rfl, hw⟩; obtain rfl := hw.symm)
        | (go_at_call 22; (with_reducible refine (i3 _).mono ?_); rintro e w' ⟨rfl, hw⟩; obtain rfl := hw.symm)
        | (at_builtin; refine wpList_append_own _ rfl _ _ 26 rfl (w.heap.size + 3) 3 i0 (.int .i64 0) 1 8 Try.underlying26 hi hz0 hz1 hz2 rfl (by decide) _ _ _ rfl HO3 ⟨wr.heap.size, 0, none⟩ 1 1 [.int .i64 y] rfl rfl ON (by simp [Value.oneCell']) (by unfold maxLen; omega) (by omega) HI4.out.sz ?_))
      intro v' w4 hown' hgrow _
      have B4 : Below (w.heap.size + 3) _ w4 := grown_below (Below.refl _ _) HI4.out.sz HO3 hgrow
      have HI5 : Hid (I3 w w4 s (pas s p xs (k + 1))) := by show I3 w w4 s (pas s p xs (k + 1)); rw [HPV.out]; exact HI4.out.low B4
      rw [← HYV.out, ← ils_snoc (irs s p xs) k] at hown'
      have HO4 : Hid _ := hown'
      clear hown' hgrow HO3 B4 ON
      go_wp2
      go_roundw
      case rel => exact ⟨k + 1, by go_num, by omega, HO4.out, HI5.out⟩
      case measure => simp [intOf]; omega
    · obtain rfl : k = n := by omega
      have H5 : Hid (wr.ownsRow (w.heap.size + 3) 3 1 u9 k (ils (irs s p xs) k)) := hrel.out.1
      have I4 : Hid (I3 w wr s p2) := by show I3 w wr s p2; rw [HP2.out]; exact hrel.out.2
      clear hrel
      obtain ⟨d0, d1, d2, d3, d4⟩ := I4.out.rp
      obtain ⟨z0, z1, z2, z3, z4⟩ := I4.out.fz
      obtain ⟨q0, q1, q2, q3, q4⟩ := I4.out.rz
      go_wp2
      go_region
      have RZ : Hid (R5 ((((((wr.setCell ⟨w.heap.size + 1 + 1, 0, none⟩ (.int .i64 p2.x1)).setCell ⟨w.heap.size + 1 + 1, 1, none⟩ (.int .i64 p2.x2)).setCell ⟨w.heap.size + 1 + 1, 2, none⟩ (.int .i64 p2.y1)).setCell ⟨w.heap.size + 1 + 1, 3, none⟩ (.int .i64 p2.y2)).setCell ⟨w.heap.size + 1 + 1, 4, none⟩ (.int .i64 p2.e)).drew) (w.heap.size + 1 + 1) p2.x1 p2.x2 p2.y1 p2.y2 p2.e) := ⟨by simp [go_sem, q0], by simp [go_sem, q1], by simp [go_sem, q2], by simp [go_sem, q3], by simp [go_sem, q4]⟩
      have KZ : Kd (fun g => g = w.heap.size + 1 + 1) wr ((((((wr.setCell ⟨w.heap.size + 1 + 1, 0, none⟩ (.int .i64 p2.x1)).setCell ⟨w.heap.size + 1 + 1, 1, none⟩ (.int .i64 p2.x2)).setCell ⟨w.heap.size + 1 + 1, 2, none⟩ (.int .i64 p2.y1)).setCell ⟨w.heap.size + 1 + 1, 3, none⟩ (.int .i64 p2.y2)).setCell ⟨w.heap.size + 1 + 1, 4, none⟩ (.int .i64 p2.e)).drew) := ((((((Kd.refl (fun g => g = w.heap.size + 1 + 1) wr).put (.inl rfl) 0 _).put (.inl rfl) 1 _).put (.inl rfl) 2 _).put (.inl rfl) 3 _).put (.inl rfl) 4 _).drew
      have HO5 : Hid (World.ownsRow _ w.heap.size 3 1 u9 k (ils (irs s p xs) k)) := own_base (own_kd H5.out KZ (fun g hg hd => by have := (World.ownsRow.lt H5.out g hg).1; omega)) (by omega)
      have HB : Hid (Below w.heap.size w _) := Kd.below I4.out.bl KZ (by have := I4.out.sz; omega) (by rintro g rfl; omega)
      clear KZ z0 z1 z2 z3 z4 q0 q1 q2 q3 q4 d0 d1 d2 d3 d4
      generalize ((((((wr.setCell ⟨w.heap.size + 1 + 1, 0, none⟩ (.int .i64 p2.x1)).setCell ⟨w.heap.size + 1 + 1, 1, none⟩ (.int .i64 p2.x2)).setCell ⟨w.heap.size + 1 + 1, 2, none⟩ (.int .i64 p2.y1)).setCell ⟨w.heap.size + 1 + 1, 3, none⟩ (.int .i64 p2.y2)).setCell ⟨w.heap.size + 1 + 1, 4, none⟩ (.int .i64 p2.e)).drew) = W5 at RZ HO5 HB ⊢
      obtain ⟨q0, q1, q2, q3, q4⟩ := RZ.out
      go_wp2
      refine bodyPost_ret (v := .tuple #[u9, p2.v, .bool true]) (by simp [results, Try.results5, go_sem, q0, q1, q2, q3, q4]) rfl ?_
      exact ⟨_, rfl, HO5.out, HB.out⟩

set_option maxHeartbeats 4000000 in
theorem sIir_bad {w : World} {v : Value} {n : Nat} {xs : Nat → Int} {s : Se} {p : Pa} (hv : Il w v n xs) (hn : n ≤ 1048576) (hg : ¬ GI s p n xs) (ys : Nat → Int) :
    Calls Try.prog 5 #[s.v, p.v, v] w fun e w' => Pip w w' e 0 ys ⟨0, 0, 0, 0, 0⟩ false := by
  have I0 : Hid (I3 w (zw (p.w (s.w w))) s p) := I3.start w s p
  have i1 := sGI_any (s := s) (p := p) (hv.below (bstep I0.out.bl (below_one _ (.cells #[] 3)))) hn
  rw [decide_eq_false hg] at i1
  obtain ⟨ao, cap, rfl, hcap, hc⟩ := hv
  clear hc hg
  go_enter Try.func5, Try.ntmps5
  go_wp2_with (first
    | (go_at_call 20; (with_reducible refine i1.mono ?_); rintro e w1 ⟨rfl, h1⟩; have I4 : Hid (I3 w w1 s p) := (I0.out.below (below_one _ _)).below h1; have H5 : Hid (w1.ownsRow (w.heap.size + 3) 3 1 (.slice (some ⟨w.heap.size + 1 + 1 + 1, 0, none⟩) 0 0) 0 (ils ys 0)) := own_below (by have := own_base (own_empty (zw (p.w (s.w w))) 3 1) I0.out.sz; rw [show (zw (p.w (s.w w))).heap.size = w.heap.size + 1 + 1 + 1 by simp] at this; exact this) h1; clear h1; obtain ⟨z0, z1, z2, z3, z4⟩ := I4.out.fz; obtain ⟨q0, q1, q2, q3, q4⟩ := I4.out.rz))
  have RZ : Hid (R5 (((((w1.setCell ⟨w.heap.size + 1 + 1, 0, none⟩ (.int .i64 0)).setCell ⟨w.heap.size + 1 + 1, 1, none⟩ (.int .i64 0)).setCell ⟨w.heap.size + 1 + 1, 2, none⟩ (.int .i64 0)).setCell ⟨w.heap.size + 1 + 1, 3, none⟩ (.int .i64 0)).setCell ⟨w.heap.size + 1 + 1, 4, none⟩ (.int .i64 0)) (w.heap.size + 1 + 1) 0 0 0 0 0) := ⟨by simp [go_sem, q0], by simp [go_sem, q1], by simp [go_sem, q2], by simp [go_sem, q3], by simp [go_sem, q4]⟩
  have KZ : Kd (fun g => g = w.heap.size + 1 + 1) w1 (((((w1.setCell ⟨w.heap.size + 1 + 1, 0, none⟩ (.int .i64 0)).setCell ⟨w.heap.size + 1 + 1, 1, none⟩ (.int .i64 0)).setCell ⟨w.heap.size + 1 + 1, 2, none⟩ (.int .i64 0)).setCell ⟨w.heap.size + 1 + 1, 3, none⟩ (.int .i64 0)).setCell ⟨w.heap.size + 1 + 1, 4, none⟩ (.int .i64 0)) := (((((Kd.refl (fun g => g = w.heap.size + 1 + 1) w1).put (.inl rfl) 0 _).put (.inl rfl) 1 _).put (.inl rfl) 2 _).put (.inl rfl) 3 _).put (.inl rfl) 4 _
  have HO5 : Hid (World.ownsRow _ w.heap.size 3 1 (.slice (some ⟨w.heap.size + 1 + 1 + 1, 0, none⟩) 0 0) 0 (ils ys 0)) := own_base (own_kd H5.out KZ (fun g hg hd => by have := (World.ownsRow.lt H5.out g hg).1; omega)) (by omega)
  have HB : Hid (Below w.heap.size w _) := Kd.below I4.out.bl KZ (by have := I4.out.sz; omega) (by rintro g rfl; omega)
  clear KZ z0 z1 z2 z3 z4 q0 q1 q2 q3 q4
  generalize (((((w1.setCell ⟨w.heap.size + 1 + 1, 0, none⟩ (.int .i64 0)).setCell ⟨w.heap.size + 1 + 1, 1, none⟩ (.int .i64 0)).setCell ⟨w.heap.size + 1 + 1, 2, none⟩ (.int .i64 0)).setCell ⟨w.heap.size + 1 + 1, 3, none⟩ (.int .i64 0)).setCell ⟨w.heap.size + 1 + 1, 4, none⟩ (.int .i64 0)) = W5 at RZ HO5 HB ⊢
  obtain ⟨q0, q1, q2, q3, q4⟩ := RZ.out
  go_wp2
  refine bodyPost_ret (v := .tuple #[(.slice (some ⟨w.heap.size + 1 + 1 + 1, 0, none⟩) 0 0), Pa.v ⟨0, 0, 0, 0, 0⟩, .bool false]) (by simp [results, Try.results5, go_sem, q0, q1, q2, q3, q4]) rfl ?_
  exact ⟨_, rfl, HO5.out, HB.out⟩
end Go.Proofs.Ytmjgaocmmmcnfaa
