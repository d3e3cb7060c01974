/- FnIirPieces: the law. -/
import Derived.Test.YtjngkpmkeehpeaaII
namespace Go.Proofs.Ytjngkpmkeehpeaa
open Go.RowKit

/-- What stands while the law goes on: the section in block g, the past in block g + 1, the list. -/
structure Ib (w X : World) (s : Se) (p : Pa) (g : Nat) (lv : Value) (N : Nat) (xs : Nat → Int) : Prop where
  rs : R5 X g s.b0 s.b1 s.b2 s.a1 s.a2
  rp : R5 X (g + 1) p.x1 p.x2 p.y1 p.y2 p.e
  l : Il X lv N xs
  bw : Below w.heap.size w X

theorem Ib.below {w X X' : World} {s : Se} {p : Pa} {g N : Nat} {lv : Value} {xs : Nat → Int} (h : Ib w X s p g lv N xs) (hb : Below X.heap.size X X') : Ib w X' s p g lv N xs :=
  ⟨h.rs.call hb, h.rp.call hb, h.l.below hb, bstep h.bw hb⟩

theorem Ib.new {w w1 : World} {lv : Value} {N : Nat} {xs : Nat → Int} (s : Se) (p : Pa) (hl : Il w1 lv N xs) (hb : Below w.heap.size w w1) : Ib w (p.w (s.w w1)) s p w1.heap.size lv N xs := by
  have b2 := bstep (below_one w1 (.cells #[.int .i64 s.b0, .int .i64 s.b1, .int .i64 s.b2, .int .i64 s.a1, .int .i64 s.a2] 25)) (below_one _ (.cells #[.int .i64 p.x1, .int .i64 p.x2, .int .i64 p.y1, .int .i64 p.y2, .int .i64 p.e] 27))
  have hp := R5.new (s.w w1) p.x1 p.x2 p.y1 p.y2 p.e 27
  rw [show (s.w w1).heap.size = w1.heap.size + 1 by simp] at hp
  exact ⟨(R5.new w1 _ _ _ _ _ 25).call (below_one _ _), hp, hl.below b2, bstep hb b2⟩

theorem iIir_two {W : World} {v : Value} {N k : Nat} {xs : Nat → Int} {s : Se} {p : Pa} (hv : Il W v (N - k) (fun j => xs (k + j))) (hg : GI s p N xs) (hk : k ≤ N) :
    Calls Try.prog 6 #[s.v, (pas s p xs k).v, v] W fun e w' => Pip W w' e (N - k) (fun j => irs s p xs (k + j)) (pas s p xs N) true := by
  have h := iIir_good hv (gi_hi hg hk)
  rw [pas_more, show k + (N - k) = N by omega, show irs s (pas s p xs k) (fun j => xs (k + j)) = fun j => irs s p xs (k + j) from funext fun j => irs_more s p xs k j] at h
  exact h

theorem iIir_lit (W : World) : Calls Try.prog 6 #[.agg #[.int .i64 16384, .int .i64 0, .int .i64 0, .int .i64 0, .int .i64 0], .agg #[.int .i64 0, .int .i64 0, .int .i64 0, .int .i64 0, .int .i64 0], .slice (some ⟨W.heap.size, 0, none⟩) 1 1] (W.alloc (.cells #[.int .i64 7] 3)) fun e w' => ∃ (u : Value) (q : Pa), e = .returned (.tuple #[u, q.v, .bool true]) ∧ Il w' u 1 (fun _ => 7) ∧ Below W.heap.size W w' := by
  have h := iIir_good (s := ⟨16384, 0, 0, 0, 0⟩) (p := ⟨0, 0, 0, 0, 0⟩) (il_seven W) gi_lit
  refine h.mono ?_
  rintro e w' ⟨u, rfl, q1, q4⟩
  have q2 := il_of_own q1
  refine ⟨u, _, rfl, ?_, bstep (below_one _ _) q4⟩
  obtain ⟨ao, cap, rfl, hcap, hc⟩ := q2
  refine ⟨ao, cap, rfl, hcap, fun h0 => ?_⟩
  obtain ⟨b, off, hb, hlt, hcell⟩ := hc h0
  refine ⟨b, off, hb, hlt, fun k hk => ?_⟩
  obtain rfl : k = 0 := by omega
  rw [hcell 0 hk, irs_lit]

theorem il_end {w : World} {lo : Option Addr} {N lc k : Nat} {xs : Nat → Int} (h : Il w (.slice lo N lc) N xs) (hk : k ≤ N) (hl : N ≤ lc) : Il w (.slice (if lc = k then lo else Option.map (fun x => x.add k) lo) (N - k) (lc - k)) (N - k) (fun j => xs (k + j)) :=
  il_hi h hk _ (fun hlt b off e => by subst e; rw [if_neg (by omega)]; simp [Addr.add])

set_option maxRecDepth 20000 in
set_option maxHeartbeats 8000000 in
theorem walk_iirp {w : World} {a : Option Addr} {len cap : Nat} (hr : Row w a len) (hlen : len ≤ 9223372036854775807) : Calls Try.prog 3 #[.slice a len cap] w fun e w' => e = .returned (.bool true) ∧ Below w.heap.size w w' := by
  have ib := big_x (w := w) a len cap hlen
  by_cases hl : len ≤ 1048576
  · rw [decide_eq_false (by omega)] at ib
    have HR : Hid (Row w a len) := hr
    have id := diir_x (cap := cap) hr hl
    clear hr
    go_enter Try.func3, Try.ntmps3
    go_upto_region 4 with (first
      | (go_at_call 4; (with_reducible refine ib.mono ?_); rintro e w' ⟨rfl, hw⟩; obtain rfl := hw.symm)
      | (go_at_call 5; (with_reducible refine id.mono ?_); rintro e w1 ⟨s, p, lv, rfl, hq⟩))
    obtain ⟨⟨N, xs, hN, hx⟩, hb⟩ := hq.out
    have I1 : Hid (Ib w ((w1.alloc (.cells #[.int .i64 s.b0, .int .i64 s.b1, .int .i64 s.b2, .int .i64 s.a1, .int .i64 s.a2] 25)).alloc (.cells #[.int .i64 p.x1, .int .i64 p.x2, .int .i64 p.y1, .int .i64 p.y2, .int .i64 p.e] 27)) s p w1.heap.size lv N xs) := Ib.new s p hx hb
    obtain ⟨lo, lc, rfl, hlc, hcc⟩ := hx
    clear hq id ib hb hcc
    generalize hW : ((w1.alloc (.cells #[.int .i64 s.b0, .int .i64 s.b1, .int .i64 s.b2, .int .i64 s.a1, .int .i64 s.a2] 25)).alloc (.cells #[.int .i64 p.x1, .int .i64 p.x2, .int .i64 p.y1, .int .i64 p.y2, .int .i64 p.e] 27)) = W1 at I1 ⊢
    clear hW
    generalize w1.heap.size = g at I1 ⊢
    clear w1
    by_cases h : GI s p N xs
    · have HG : Hid (GI s p N xs) := h
      clear h
      obtain ⟨c0, c1, c2, c3, c4⟩ := I1.out.rs
      obtain ⟨d0, d1, d2, d3, d4⟩ := I1.out.rp
      go_upto_region 5 with (go_at_call 6; refine (iIir_good I1.out.l HG.out).mono ?_; rintro e w2 ⟨u0, rfl, q1, q4⟩; have I2 : Hid (Ib w w2 s p g (.slice lo N lc) N xs) := I1.out.below q4; have U2 : Hid (Il w2 u0 N (irs s p xs)) := il_of_own q1; clear q1 q4)
      have BQ := below_one w2 (.cells #[.int .i64 (pas s p xs N).x1, .int .i64 (pas s p xs N).x2, .int .i64 (pas s p xs N).y1, .int .i64 (pas s p xs N).y2, .int .i64 (pas s p xs N).e] 27)
      have I3 : Hid (Ib w (w2.alloc (.cells #[.int .i64 (pas s p xs N).x1, .int .i64 (pas s p xs N).x2, .int .i64 (pas s p xs N).y1, .int .i64 (pas s p xs N).y2, .int .i64 (pas s p xs N).e] 27)) s p g (.slice lo N lc) N xs) := I2.out.below BQ
      have U3 : Hid (Il (w2.alloc (.cells #[.int .i64 (pas s p xs N).x1, .int .i64 (pas s p xs N).x2, .int .i64 (pas s p xs N).y1, .int .i64 (pas s p xs N).y2, .int .i64 (pas s p xs N).e] 27)) u0 N (irs s p xs)) := U2.out.below BQ
      have E3 : Hid (R5 (w2.alloc (.cells #[.int .i64 (pas s p xs N).x1, .int .i64 (pas s p xs N).x2, .int .i64 (pas s p xs N).y1, .int .i64 (pas s p xs N).y2, .int .i64 (pas s p xs N).e] 27)) w2.heap.size (pas s p xs N).x1 (pas s p xs N).x2 (pas s p xs N).y1 (pas s p xs N).y2 (pas s p xs N).e) := R5.new _ _ _ _ _ _ _
      clear BQ I1 I2 U2
      generalize (w2.alloc (.cells #[.int .i64 (pas s p xs N).x1, .int .i64 (pas s p xs N).x2, .int .i64 (pas s p xs N).y1, .int .i64 (pas s p xs N).y2, .int .i64 (pas s p xs N).e] 27)) = W3 at I3 U3 E3 ⊢
      generalize w2.heap.size = ge at E3 ⊢
      clear c0 c1 c2 c3 c4 d0 d1 d2 d3 d4
      obtain ⟨c0, c1, c2, c3, c4⟩ := I3.out.rs
      obtain ⟨d0, d1, d2, d3, d4⟩ := I3.out.rp
      go_upto_region 12 with (first
        | (go_at_call 7; refine (sIir_good I3.out.l HG.out).mono ?_; rintro e w4 ⟨_, rfl, _, q4⟩; have BP : Hid (Below W3.heap.size W3 (w4.alloc (.cells #[.int .i64 (pas s p xs N).x1, .int .i64 (pas s p xs N).x2, .int .i64 (pas s p xs N).y1, .int .i64 (pas s p xs N).y2, .int .i64 (pas s p xs N).e] 27))) := bstep q4 (below_one _ _); have I4 : Hid (Ib w (w4.alloc (.cells #[.int .i64 (pas s p xs N).x1, .int .i64 (pas s p xs N).x2, .int .i64 (pas s p xs N).y1, .int .i64 (pas s p xs N).y2, .int .i64 (pas s p xs N).e] 27)) s p g (.slice lo N lc) N xs) := I3.out.below BP.out; have U4 : Hid (Il (w4.alloc (.cells #[.int .i64 (pas s p xs N).x1, .int .i64 (pas s p xs N).x2, .int .i64 (pas s p xs N).y1, .int .i64 (pas s p xs N).y2, .int .i64 (pas s p xs N).e] 27)) u0 N (irs s p xs)) := U3.out.below BP.out; have E4 : Hid (R5 (w4.alloc (.cells #[.int .i64 (pas s p xs N).x1, .int .i64 (pas s p xs N).x2, .int .i64 (pas s p xs N).y1, .int .i64 (pas s p xs N).y2, .int .i64 (pas s p xs N).e] 27)) ge (pas s p xs N).x1 (pas s p xs N).x2 (pas s p xs N).y1 (pas s p xs N).y2 (pas s p xs N).e) := E3.out.call BP.out; clear q4)
        | (go_at_call 9; refine (at_x (HR.out.below I4.out.bw) hl).mono ?_; rintro e w' ⟨m0, hm0, rfl, hw⟩; obtain rfl := hw.symm; obtain ⟨k, hk⟩ : ∃ k : Nat, m0 % ((N : Int) + 1) = (k : Int) := ⟨(m0 % ((N : Int) + 1)).toNat, (by have := Int.emod_nonneg m0 (show ((N : Int) + 1) ≠ 0 by omega); omega)⟩; have hkN : k ≤ N := (by have := Int.emod_lt_of_pos m0 (show (0 : Int) < (N : Int) + 1 by omega); omega); have hN0 : ¬ ((N : Int) + 1 = 0) := (by omega)))
      rw [hk]
      clear hk hm0 c0 c1 c2 c3 c4 d0 d1 d2 d3 d4 BP I3 U3 E3
      generalize (w4.alloc (.cells #[.int .i64 (pas s p xs N).x1, .int .i64 (pas s p xs N).x2, .int .i64 (pas s p xs N).y1, .int .i64 (pas s p xs N).y2, .int .i64 (pas s p xs N).e] 27)) = W4 at I4 U4 E4 ⊢
      go_cut [16, 17, 18] from 71 (fun a b c wx => ∃ gm, b = .pointer (some ⟨gm, 0, none⟩) ∧ c = .bool true ∧ Hid ((∃ B, wx.ownsRow B 3 1 a k (ils (irs s p xs) k)) ∧ R5 wx gm (pas s p xs k).x1 (pas s p xs k).x2 (pas s p xs k).y1 (pas s p xs k).y2 (pas s p xs k).e ∧ Below W4.heap.size W4 wx))
      case first =>
        refine wp_region_any (by kernel_rfl) ?_
        change wpAny _ _ _ _ _ _ _ (World.drew _)
        refine wpI_any (I := fun X => Below W4.heap.size W4 X) _ _ _ _ ?_
        have l0 : Below W4.heap.size W4 W4.drew := (Below.refl _ _).drew
        refine wpI_take (i := 0) (v := ?_) rfl (by kernel_rfl) (by kernel_rfl) (by kernel_rfl) (fun _ _ _ h => h) ⟨by rfl, ?_⟩ ?_
        rotate_left
        · intro X hI; obtain ⟨c0, c1, c2, c3, c4⟩ := R5.call I4.out.rs hI; go_simp; with_reducible rfl
        refine wpI_take (i := 1) (v := ?_) rfl (by kernel_rfl) (by kernel_rfl) (by kernel_rfl) (fun _ _ _ h => h) ⟨by rfl, ?_⟩ ?_
        rotate_left
        · intro X hI; obtain ⟨c0, c1, c2, c3, c4⟩ := R5.call I4.out.rp hI; go_simp; with_reducible rfl
        refine wpI_take (i := 2) (v := ?_) rfl (by kernel_rfl) (by kernel_rfl) (by kernel_rfl) (fun _ _ _ h => h) ⟨by rfl, ?_⟩ ?_
        rotate_left
        · intro X _; go_simp; with_reducible rfl
        refine wpI_take (i := 3) (v := ?_) rfl (by kernel_rfl) (by kernel_rfl) (by kernel_rfl) (fun _ _ _ h => h) ⟨by rfl, ?_⟩ ?_
        rotate_left
        · intro X _; go_simp; with_reducible rfl
        refine wpI_take (i := 4) (v := .slice lo k lc) rfl (by kernel_rfl) (by kernel_rfl) (by kernel_rfl) (fun _ _ _ h => h) ⟨by rfl, ?_⟩ ?_
        · intro X _; go_simp; intro h; omega
        refine wpI_two (i := 5) (j := 10) rfl rfl (by kernel_rfl) l0 (by rfl) (by rfl) ?_ ?_
        · intro K hK
          go_simp
          go_wp2_with (go_at_call 6; refine (iIir_good ((il_lo I4.out.l hkN).below l0) (gi_lo HG.out hkN)).mono ?_; rintro e x1 ⟨u1, rfl, ou1, hb1⟩; have l1 := bstep l0 hb1)
          refine wpI_take (i := 6) (v := ?_) rfl (by kernel_rfl) (by kernel_rfl) (by kernel_rfl) (fun _ _ _ h => h) ⟨by rfl, ?_⟩ ?_
          rotate_left
          · intro X _; go_simp; with_reducible rfl
          refine wpI_take (i := 7) (v := ?_) rfl (by kernel_rfl) (by kernel_rfl) (by kernel_rfl) (fun _ _ _ h => h) ⟨by rfl, ?_⟩ ?_
          rotate_left
          · intro X _; go_simp; with_reducible rfl
          refine wpI_take (i := 8) (v := ?_) rfl (by kernel_rfl) (by kernel_rfl) (by kernel_rfl) (fun _ _ _ h => h) ⟨by rfl, ?_⟩ ?_
          rotate_left
          · intro X _; go_simp; with_reducible rfl
          refine wpI_take (i := 9) (v := ?_) rfl (by kernel_rfl) (by kernel_rfl) (by kernel_rfl) (fun _ _ _ h => h) ⟨by rfl, ?_⟩ ?_
          rotate_left
          · intro X _; go_simp; with_reducible rfl
          refine wpI_only (i := 10) rfl (by kernel_rfl) l1 (by rfl) ?_
          intro K hK
          have n2 : Zf (x1.alloc (.cells #[.int .i64 0, .int .i64 0, .int .i64 0, .int .i64 0, .int .i64 0] 27)) x1.heap.size := Zf.new _ _
          have gl2 : W4.heap.size ≤ x1.heap.size := l1.size
          have l2 := l1.alloc l1.size (.cells #[.int .i64 0, .int .i64 0, .int .i64 0, .int .i64 0, .int .i64 0] 27)
          have u_2 := own_below ou1 (below_one x1 (.cells #[.int .i64 0, .int .i64 0, .int .i64 0, .int .i64 0, .int .i64 0] 27))
          go_simp
          refine hK _ _ ?_
          clear hK K
          refine wpI_only (i := 11) rfl (by kernel_rfl) l2 (by rfl) ?_
          intro K hK
          go_simp
          refine hK _ _ ?_
          clear hK K
          refine wpI_only (i := 12) rfl (by kernel_rfl) l2 (by rfl) ?_
          intro K hK
          have m3 : R5 (x1.alloc (.cells #[.int .i64 (pas s p xs k).x1, .int .i64 (pas s p xs k).x2, .int .i64 (pas s p xs k).y1, .int .i64 (pas s p xs k).y2, .int .i64 (pas s p xs k).e] 27)) x1.heap.size (pas s p xs k).x1 (pas s p xs k).x2 (pas s p xs k).y1 (pas s p xs k).y2 (pas s p xs k).e := R5.new _ _ _ _ _ _ _
          have l3 := l1.alloc l1.size (.cells #[.int .i64 (pas s p xs k).x1, .int .i64 (pas s p xs k).x2, .int .i64 (pas s p xs k).y1, .int .i64 (pas s p xs k).y2, .int .i64 (pas s p xs k).e] 27)
          have u_3 := own_below ou1 (below_one x1 (.cells #[.int .i64 (pas s p xs k).x1, .int .i64 (pas s p xs k).x2, .int .i64 (pas s p xs k).y1, .int .i64 (pas s p xs k).y2, .int .i64 (pas s p xs k).e] 27))
          obtain ⟨⟨c0, c1, c2, c3, c4⟩, ⟨z0, z1, z2, z3, z4⟩⟩ := n2
          go_simp
          refine hK _ _ ?_
          clear hK K
          refine wpI_only (i := 13) rfl (by kernel_rfl) l3 (by rfl) ?_
          intro K hK
          go_simp
          refine hK _ _ ?_
          clear hK K
          refine wpI_done l3 (by kernel_rfl) ?_ _
          go_wp2
          go_meet
          exact ⟨_, rfl, rfl, ⟨_, u_3⟩, m3, l3⟩
        · intro K hK
          have n4 : Zf (W4.drew.alloc (.cells #[.int .i64 0, .int .i64 0, .int .i64 0, .int .i64 0, .int .i64 0] 27)) W4.heap.size := Zf.new _ _
          have gl4 : W4.heap.size ≤ W4.heap.size := l0.size
          have l4 := l0.alloc l0.size (.cells #[.int .i64 0, .int .i64 0, .int .i64 0, .int .i64 0, .int .i64 0] 27)
          go_simp
          refine hK _ _ ?_
          clear hK K
          refine wpI_only (i := 5) rfl (by kernel_rfl) l4 (by rfl) ?_
          intro K hK
          go_simp
          go_wp2_with (go_at_call 6; refine (iIir_good ((il_lo I4.out.l hkN).below l4) (gi_lo HG.out hkN)).mono ?_; rintro e x5 ⟨u5, rfl, ou5, hb5⟩; have l5 := bstep l4 hb5; have n5 := Zf.call n4 hb5)
          refine wpI_take (i := 6) (v := ?_) rfl (by kernel_rfl) (by kernel_rfl) (by kernel_rfl) (fun _ _ _ h => h) ⟨by rfl, ?_⟩ ?_
          rotate_left
          · intro X _; go_simp; with_reducible rfl
          refine wpI_take (i := 7) (v := ?_) rfl (by kernel_rfl) (by kernel_rfl) (by kernel_rfl) (fun _ _ _ h => h) ⟨by rfl, ?_⟩ ?_
          rotate_left
          · intro X _; go_simp; with_reducible rfl
          refine wpI_take (i := 8) (v := ?_) rfl (by kernel_rfl) (by kernel_rfl) (by kernel_rfl) (fun _ _ _ h => h) ⟨by rfl, ?_⟩ ?_
          rotate_left
          · intro X _; go_simp; with_reducible rfl
          refine wpI_take (i := 9) (v := ?_) rfl (by kernel_rfl) (by kernel_rfl) (by kernel_rfl) (fun _ _ _ h => h) ⟨by rfl, ?_⟩ ?_
          rotate_left
          · intro X _; go_simp; with_reducible rfl
          refine wpI_only (i := 11) rfl (by kernel_rfl) l5 (by rfl) ?_
          intro K hK
          go_simp
          refine hK _ _ ?_
          clear hK K
          refine wpI_only (i := 12) rfl (by kernel_rfl) l5 (by rfl) ?_
          intro K hK
          have m6 : R5 (((((x5.setCell ⟨W4.heap.size, 0, none⟩ (.int .i64 (pas s p xs k).x1)).setCell ⟨W4.heap.size, 1, none⟩ (.int .i64 (pas s p xs k).x2)).setCell ⟨W4.heap.size, 2, none⟩ (.int .i64 (pas s p xs k).y1)).setCell ⟨W4.heap.size, 3, none⟩ (.int .i64 (pas s p xs k).y2)).setCell ⟨W4.heap.size, 4, none⟩ (.int .i64 (pas s p xs k).e)) W4.heap.size (pas s p xs k).x1 (pas s p xs k).x2 (pas s p xs k).y1 (pas s p xs k).y2 (pas s p xs k).e := r5_put n5.1 _ _ _ _ _
          have k6 : Kd (fun q => q = W4.heap.size) x5 (((((x5.setCell ⟨W4.heap.size, 0, none⟩ (.int .i64 (pas s p xs k).x1)).setCell ⟨W4.heap.size, 1, none⟩ (.int .i64 (pas s p xs k).x2)).setCell ⟨W4.heap.size, 2, none⟩ (.int .i64 (pas s p xs k).y1)).setCell ⟨W4.heap.size, 3, none⟩ (.int .i64 (pas s p xs k).y2)).setCell ⟨W4.heap.size, 4, none⟩ (.int .i64 (pas s p xs k).e)) := kd_put5 _ _ _ _ _ _ _
          have l6 : Below W4.heap.size W4 (((((x5.setCell ⟨W4.heap.size, 0, none⟩ (.int .i64 (pas s p xs k).x1)).setCell ⟨W4.heap.size, 1, none⟩ (.int .i64 (pas s p xs k).x2)).setCell ⟨W4.heap.size, 2, none⟩ (.int .i64 (pas s p xs k).y1)).setCell ⟨W4.heap.size, 3, none⟩ (.int .i64 (pas s p xs k).y2)).setCell ⟨W4.heap.size, 4, none⟩ (.int .i64 (pas s p xs k).e)) := Kd.below l5 k6 l5.size (by rintro q rfl; exact gl4)
          have u_6 := own_kd ou5 k6 (fun q hq hd => by have := (World.ownsRow.lt ou5 q hq).1; have := n4.1.lt; omega)
          obtain ⟨⟨c0, c1, c2, c3, c4⟩, ⟨z0, z1, z2, z3, z4⟩⟩ := n5
          go_simp
          refine hK _ _ ?_
          clear hK K
          refine wpI_only (i := 13) rfl (by kernel_rfl) l6 (by rfl) ?_
          intro K hK
          go_simp
          refine hK _ _ ?_
          clear hK K
          refine wpI_done l6 (by kernel_rfl) ?_ _
          go_wp2
          go_meet
          exact ⟨_, rfl, rfl, ⟨_, u_6⟩, m6, l6⟩
      case rest =>
        obtain ⟨gm, rfl, rfl, hq⟩ := hcut
        have I5 : Hid (Ib w wc s p g (.slice lo N lc) N xs) := I4.out.below hq.out.2.2
        have U5 : Hid (Il wc u0 N (irs s p xs)) := U4.out.below hq.out.2.2
        have E5 : Hid (R5 wc ge (pas s p xs N).x1 (pas s p xs N).x2 (pas s p xs N).y1 (pas s p xs N).y2 (pas s p xs N).e) := E4.out.call hq.out.2.2
        have A5 : Hid (∃ B, wc.ownsRow B 3 1 u16 k (ils (irs s p xs) k)) := hq.out.1
        have M5 : Hid (R5 wc gm (pas s p xs k).x1 (pas s p xs k).x2 (pas s p xs k).y1 (pas s p xs k).y2 (pas s p xs k).e) := hq.out.2.1
        clear hq I4 U4 E4
        rename World => V0
        go_upto_region 13 with fail
        obtain ⟨hi, hhi⟩ : ∃ hi : Option Addr, Hid (hi = if lc = k then lo else Option.map (fun x => x.add k) lo) := ⟨_, rfl⟩
        have L5 : Hid (Il V0 (.slice hi (N - k) (lc - k)) (N - k) (fun j => xs (k + j))) := by rw [hhi.out]; exact il_end I5.out.l hkN hlc
        go_cut [19, 20, 21] from 81 (fun a b c wx => ∃ gd, b = .pointer (some ⟨gd, 0, none⟩) ∧ c = .bool true ∧ Hid ((∃ B, wx.ownsRow B 3 1 a (N - k) (ils (fun j => irs s p xs (k + j)) (N - k))) ∧ R5 wx gd (pas s p xs N).x1 (pas s p xs N).x2 (pas s p xs N).y1 (pas s p xs N).y2 (pas s p xs N).e ∧ Below V0.heap.size V0 wx))
        case first =>
          refine wp_region_any (by kernel_rfl) ?_
          change wpAny _ _ _ _ _ _ _ (World.drew _)
          refine wpI_any (I := fun X => Below V0.heap.size V0 X) _ _ _ _ ?_
          have l0 : Below V0.heap.size V0 V0.drew := (Below.refl _ _).drew
          refine wpI_take (i := 0) (v := ?_) rfl (by kernel_rfl) (by kernel_rfl) (by kernel_rfl) (fun _ _ _ h => h) ⟨by rfl, ?_⟩ ?_
          rotate_left
          · intro X hI; obtain ⟨c0, c1, c2, c3, c4⟩ := R5.call I5.out.rs hI; go_simp; with_reducible rfl
          refine wpI_take (i := 1) (v := ?_) rfl (by kernel_rfl) (by kernel_rfl) (by kernel_rfl) (fun _ _ _ h => h) ⟨by rfl, ?_⟩ ?_
          rotate_left
          · intro X hI; obtain ⟨c0, c1, c2, c3, c4⟩ := R5.call M5.out hI; go_simp; with_reducible rfl
          refine wpI_take (i := 2) (v := ?_) rfl (by kernel_rfl) (by kernel_rfl) (by kernel_rfl) (fun _ _ _ h => h) ⟨by rfl, ?_⟩ ?_
          rotate_left
          · intro X _; go_simp; with_reducible rfl
          refine wpI_take (i := 3) (v := ?_) rfl (by kernel_rfl) (by kernel_rfl) (by kernel_rfl) (fun _ _ _ h => h) ⟨by rfl, ?_⟩ ?_
          rotate_left
          · intro X _; go_simp; with_reducible rfl
          refine wpI_take (i := 4) (v := .slice hi (N - k) (lc - k)) rfl (by kernel_rfl) (by kernel_rfl) (by kernel_rfl) (fun _ _ _ h => h) ⟨by rfl, ?_⟩ ?_
          · intro X _; rw [hhi.out]; go_simp
          refine wpI_two (i := 5) (j := 10) rfl rfl (by kernel_rfl) l0 (by rfl) (by rfl) ?_ ?_
          · intro K hK
            go_simp
            go_wp2_with (go_at_call 6; refine (iIir_two (L5.out.below l0) HG.out hkN).mono ?_; rintro e x1 ⟨u1, rfl, ou1, hb1⟩; have l1 := bstep l0 hb1)
            refine wpI_take (i := 6) (v := ?_) rfl (by kernel_rfl) (by kernel_rfl) (by kernel_rfl) (fun _ _ _ h => h) ⟨by rfl, ?_⟩ ?_
            rotate_left
            · intro X _; go_simp; with_reducible rfl
            refine wpI_take (i := 7) (v := ?_) rfl (by kernel_rfl) (by kernel_rfl) (by kernel_rfl) (fun _ _ _ h => h) ⟨by rfl, ?_⟩ ?_
            rotate_left
            · intro X _; go_simp; with_reducible rfl
            refine wpI_take (i := 8) (v := ?_) rfl (by kernel_rfl) (by kernel_rfl) (by kernel_rfl) (fun _ _ _ h => h) ⟨by rfl, ?_⟩ ?_
            rotate_left
            · intro X _; go_simp; with_reducible rfl
            refine wpI_take (i := 9) (v := ?_) rfl (by kernel_rfl) (by kernel_rfl) (by kernel_rfl) (fun _ _ _ h => h) ⟨by rfl, ?_⟩ ?_
            rotate_left
            · intro X _; go_simp; with_reducible rfl
            refine wpI_only (i := 10) rfl (by kernel_rfl) l1 (by rfl) ?_
            intro K hK
            have n2 : Zf (x1.alloc (.cells #[.int .i64 0, .int .i64 0, .int .i64 0, .int .i64 0, .int .i64 0] 27)) x1.heap.size := Zf.new _ _
            have gl2 : V0.heap.size ≤ x1.heap.size := l1.size
            have l2 := l1.alloc l1.size (.cells #[.int .i64 0, .int .i64 0, .int .i64 0, .int .i64 0, .int .i64 0] 27)
            have u_2 := own_below ou1 (below_one x1 (.cells #[.int .i64 0, .int .i64 0, .int .i64 0, .int .i64 0, .int .i64 0] 27))
            go_simp
            refine hK _ _ ?_
            clear hK K
            refine wpI_only (i := 11) rfl (by kernel_rfl) l2 (by rfl) ?_
            intro K hK
            go_simp
            refine hK _ _ ?_
            clear hK K
            refine wpI_only (i := 12) rfl (by kernel_rfl) l2 (by rfl) ?_
            intro K hK
            have m3 : R5 (x1.alloc (.cells #[.int .i64 (pas s p xs N).x1, .int .i64 (pas s p xs N).x2, .int .i64 (pas s p xs N).y1, .int .i64 (pas s p xs N).y2, .int .i64 (pas s p xs N).e] 27)) x1.heap.size (pas s p xs N).x1 (pas s p xs N).x2 (pas s p xs N).y1 (pas s p xs N).y2 (pas s p xs N).e := R5.new _ _ _ _ _ _ _
            have l3 := l1.alloc l1.size (.cells #[.int .i64 (pas s p xs N).x1, .int .i64 (pas s p xs N).x2, .int .i64 (pas s p xs N).y1, .int .i64 (pas s p xs N).y2, .int .i64 (pas s p xs N).e] 27)
            have u_3 := own_below ou1 (below_one x1 (.cells #[.int .i64 (pas s p xs N).x1, .int .i64 (pas s p xs N).x2, .int .i64 (pas s p xs N).y1, .int .i64 (pas s p xs N).y2, .int .i64 (pas s p xs N).e] 27))
            obtain ⟨⟨c0, c1, c2, c3, c4⟩, ⟨z0, z1, z2, z3, z4⟩⟩ := n2
            go_simp
            refine hK _ _ ?_
            clear hK K
            refine wpI_only (i := 13) rfl (by kernel_rfl) l3 (by rfl) ?_
            intro K hK
            go_simp
            refine hK _ _ ?_
            clear hK K
            refine wpI_done l3 (by kernel_rfl) ?_ _
            go_wp2
            go_meet
            exact ⟨_, rfl, rfl, ⟨_, u_3⟩, m3, l3⟩
          · intro K hK
            have n4 : Zf (V0.drew.alloc (.cells #[.int .i64 0, .int .i64 0, .int .i64 0, .int .i64 0, .int .i64 0] 27)) V0.heap.size := Zf.new _ _
            have gl4 : V0.heap.size ≤ V0.heap.size := l0.size
            have l4 := l0.alloc l0.size (.cells #[.int .i64 0, .int .i64 0, .int .i64 0, .int .i64 0, .int .i64 0] 27)
            go_simp
            refine hK _ _ ?_
            clear hK K
            refine wpI_only (i := 5) rfl (by kernel_rfl) l4 (by rfl) ?_
            intro K hK
            go_simp
            go_wp2_with (go_at_call 6; refine (iIir_two (L5.out.below l4) HG.out hkN).mono ?_; rintro e x5 ⟨u5, rfl, ou5, hb5⟩; have l5 := bstep l4 hb5; have n5 := Zf.call n4 hb5)
            refine wpI_take (i := 6) (v := ?_) rfl (by kernel_rfl) (by kernel_rfl) (by kernel_rfl) (fun _ _ _ h => h) ⟨by rfl, ?_⟩ ?_
            rotate_left
            · intro X _; go_simp; with_reducible rfl
            refine wpI_take (i := 7) (v := ?_) rfl (by kernel_rfl) (by kernel_rfl) (by kernel_rfl) (fun _ _ _ h => h) ⟨by rfl, ?_⟩ ?_
            rotate_left
            · intro X _; go_simp; with_reducible rfl
            refine wpI_take (i := 8) (v := ?_) rfl (by kernel_rfl) (by kernel_rfl) (by kernel_rfl) (fun _ _ _ h => h) ⟨by rfl, ?_⟩ ?_
            rotate_left
            · intro X _; go_simp; with_reducible rfl
            refine wpI_take (i := 9) (v := ?_) rfl (by kernel_rfl) (by kernel_rfl) (by kernel_rfl) (fun _ _ _ h => h) ⟨by rfl, ?_⟩ ?_
            rotate_left
            · intro X _; go_simp; with_reducible rfl
            refine wpI_only (i := 11) rfl (by kernel_rfl) l5 (by rfl) ?_
            intro K hK
            go_simp
            refine hK _ _ ?_
            clear hK K
            refine wpI_only (i := 12) rfl (by kernel_rfl) l5 (by rfl) ?_
            intro K hK
            have m6 : R5 (((((x5.setCell ⟨V0.heap.size, 0, none⟩ (.int .i64 (pas s p xs N).x1)).setCell ⟨V0.heap.size, 1, none⟩ (.int .i64 (pas s p xs N).x2)).setCell ⟨V0.heap.size, 2, none⟩ (.int .i64 (pas s p xs N).y1)).setCell ⟨V0.heap.size, 3, none⟩ (.int .i64 (pas s p xs N).y2)).setCell ⟨V0.heap.size, 4, none⟩ (.int .i64 (pas s p xs N).e)) V0.heap.size (pas s p xs N).x1 (pas s p xs N).x2 (pas s p xs N).y1 (pas s p xs N).y2 (pas s p xs N).e := r5_put n5.1 _ _ _ _ _
            have k6 : Kd (fun q => q = V0.heap.size) x5 (((((x5.setCell ⟨V0.heap.size, 0, none⟩ (.int .i64 (pas s p xs N).x1)).setCell ⟨V0.heap.size, 1, none⟩ (.int .i64 (pas s p xs N).x2)).setCell ⟨V0.heap.size, 2, none⟩ (.int .i64 (pas s p xs N).y1)).setCell ⟨V0.heap.size, 3, none⟩ (.int .i64 (pas s p xs N).y2)).setCell ⟨V0.heap.size, 4, none⟩ (.int .i64 (pas s p xs N).e)) := kd_put5 _ _ _ _ _ _ _
            have l6 : Below V0.heap.size V0 (((((x5.setCell ⟨V0.heap.size, 0, none⟩ (.int .i64 (pas s p xs N).x1)).setCell ⟨V0.heap.size, 1, none⟩ (.int .i64 (pas s p xs N).x2)).setCell ⟨V0.heap.size, 2, none⟩ (.int .i64 (pas s p xs N).y1)).setCell ⟨V0.heap.size, 3, none⟩ (.int .i64 (pas s p xs N).y2)).setCell ⟨V0.heap.size, 4, none⟩ (.int .i64 (pas s p xs N).e)) := Kd.below l5 k6 l5.size (by rintro q rfl; exact gl4)
            have u_6 := own_kd ou5 k6 (fun q hq hd => by have := (World.ownsRow.lt ou5 q hq).1; have := n4.1.lt; omega)
            obtain ⟨⟨c0, c1, c2, c3, c4⟩, ⟨z0, z1, z2, z3, z4⟩⟩ := n5
            go_simp
            refine hK _ _ ?_
            clear hK K
            refine wpI_only (i := 13) rfl (by kernel_rfl) l6 (by rfl) ?_
            intro K hK
            go_simp
            refine hK _ _ ?_
            clear hK K
            refine wpI_done l6 (by kernel_rfl) ?_ _
            go_wp2
            go_meet
            exact ⟨_, rfl, rfl, ⟨_, u_6⟩, m6, l6⟩
        case rest =>
          obtain ⟨gd, rfl, rfl, hq⟩ := hcut
          have I6 : Hid (Ib w wc s p g (.slice lo N lc) N xs) := I5.out.below hq.out.2.2
          have U6 : Hid (Il wc u0 N (irs s p xs)) := U5.out.below hq.out.2.2
          have E6 : Hid (R5 wc ge (pas s p xs N).x1 (pas s p xs N).x2 (pas s p xs N).y1 (pas s p xs N).y2 (pas s p xs N).e) := E5.out.call hq.out.2.2
          have D6 : Hid (R5 wc gd (pas s p xs N).x1 (pas s p xs N).x2 (pas s p xs N).y1 (pas s p xs N).y2 (pas s p xs N).e) := hq.out.2.1
          obtain ⟨BA, hA⟩ := A5.out
          have hA6 := own_below hA hq.out.2.2
          obtain ⟨BB, hB⟩ := hq.out.1
          have bE : Below wc.heap.size wc (wc.alloc (.cells #[] 3)) := below_one _ _
          have sE : (wc.alloc (.cells #[] 3)).heap.size = wc.heap.size + 1 := by simp
          obtain ⟨v1, w10, hap1, ho1, hg1⟩ := app_run (own_empty wc 3 1) (own_below hA6 bE) (by omega) (by omega)
          have b10 : Below wc.heap.size wc w10 := grown_below bE (Nat.le_refl _) (own_empty wc 3 1) hg1
          obtain ⟨v2, w11, hap2, ho2, hg2⟩ := app_run ho1 (own_below hB b10) (by omega) b10.size
          have b11 : Hid (Below wc.heap.size wc w11) := grown_below b10 (Nat.le_refl _) ho1 hg2
          have I2 : Hid (Il w11 v2 N (irs s p xs)) := by
            have e1 : (0 + k) + (N - k) = N := by omega
            rw [e1, show ([] ++ ils (irs s p xs) k) ++ ils (fun j => irs s p xs (k + j)) (N - k) = ils (irs s p xs) N from ils_two _ _ hkN (fun j _ => rfl)] at ho2
            exact il_of_own ho2
          have HAP1 : Hid _ := hap1
          have HAP2 : Hid _ := hap2
          obtain ⟨uo, uc, rfl, huc, hcc⟩ := U6.out
          clear hq hA hA6 hB bE sE b10 ho1 hg1 ho2 hg2 hap1 hap2 A5 M5 I5 U5 E5 hcc
          go_wp2_with (first
            | (at_builtin; (fail_if_success have := MA1); refine wpList_appg rfl _ _ rfl rfl rfl rfl HAP1.out ?_; have MA1 : Hid True := trivial)
            | (at_builtin; have Z := MA1; (fail_if_success have := MA2); refine wpList_appg rfl _ _ rfl rfl rfl rfl HAP2.out ?_; have MA2 : Hid True := trivial)
            | (go_at_call 8; refine (same_yes I2.out (U6.out.below b11.out) (by omega) (fun _ _ => rfl)).mono ?_; rintro e w12 ⟨rfl, q5⟩; have B12 : Hid (Below w.heap.size w w12) := bstep (bstep I6.out.bw b11.out) q5; obtain ⟨c0, c1, c2, c3, c4⟩ := (E6.out.call b11.out).call q5; obtain ⟨d0, d1, d2, d3, d4⟩ := (D6.out.call b11.out).call q5; clear q5))
          go_ret
          exact ⟨rfl, B12.out⟩
    · have HG : Hid (¬ GI s p N xs) := h
      clear h
      have hN2 : N ≤ 1048576 := by omega
      obtain ⟨c0, c1, c2, c3, c4⟩ := I1.out.rs
      obtain ⟨d0, d1, d2, d3, d4⟩ := I1.out.rp
      go_upto_region 5 with (go_at_call 6; refine (iIir_bad I1.out.l hN2 HG.out (fun _ => 0)).mono ?_; rintro e w2 ⟨u0, rfl, q1, q4⟩; have I2 : Hid (Ib w (w2.alloc (.cells #[.int .i64 0, .int .i64 0, .int .i64 0, .int .i64 0, .int .i64 0] 27)) s p g (.slice lo N lc) N xs) := I1.out.below (bstep q4 (below_one _ _)); clear q1 q4)
      generalize (w2.alloc (.cells #[.int .i64 0, .int .i64 0, .int .i64 0, .int .i64 0, .int .i64 0] 27)) = W3 at I2 ⊢
      clear c0 c1 c2 c3 c4 d0 d1 d2 d3 d4
      obtain ⟨c0, c1, c2, c3, c4⟩ := I2.out.rs
      obtain ⟨d0, d1, d2, d3, d4⟩ := I2.out.rp
      go_upto_region 9 with (go_at_call 7; refine (sIir_bad I2.out.l hN2 HG.out (fun _ => 0)).mono ?_; rintro e w4 ⟨u1, rfl, q1, q4⟩; have B4 : Hid (Below w.heap.size w (w4.alloc (.cells #[.int .i64 0, .int .i64 0, .int .i64 0, .int .i64 0, .int .i64 0] 27))) := bstep I2.out.bw (bstep q4 (below_one _ _)); clear q1 q4)
      generalize (w4.alloc (.cells #[.int .i64 0, .int .i64 0, .int .i64 0, .int .i64 0, .int .i64 0] 27)) = W5 at B4 ⊢
      clear c0 c1 c2 c3 c4 d0 d1 d2 d3 d4
      go_wp2_with (first
        | (go_at_call 6; refine (iIir_lit _).mono ?_; rintro e w6 ⟨u2, q, rfl, q1, q4⟩; have B6 : Hid (Below w.heap.size w (w6.alloc (.cells #[.int .i64 q.x1, .int .i64 q.x2, .int .i64 q.y1, .int .i64 q.y2, .int .i64 q.e] 27))) := bstep (bstep B4.out q4) (below_one _ _); have Y6 : Hid (Il (w6.alloc (.cells #[.int .i64 q.x1, .int .i64 q.x2, .int .i64 q.y1, .int .i64 q.y2, .int .i64 q.e] 27)) u2 1 (fun _ => 7)) := q1.below (below_one _ _); have Z6 : Hid (Il ((w6.alloc (.cells #[.int .i64 q.x1, .int .i64 q.x2, .int .i64 q.y1, .int .i64 q.y2, .int .i64 q.e] 27)).alloc (.cells #[.int .i64 7] 3)) (.slice (some ⟨w6.heap.size + 1, 0, none⟩) 1 1) 1 (fun _ => 7)) := (by have hh := il_seven (w6.alloc (.cells #[.int .i64 q.x1, .int .i64 q.x2, .int .i64 q.y1, .int .i64 q.y2, .int .i64 q.e] 27)); rw [show (w6.alloc (.cells #[.int .i64 q.x1, .int .i64 q.x2, .int .i64 q.y1, .int .i64 q.y2, .int .i64 q.e] 27)).heap.size = w6.heap.size + 1 by simp] at hh; exact hh); clear q1 q4)
        | (go_at_call 8; refine (same_yes (Y6.out.below (below_one _ _)) Z6.out (by omega) (fun _ _ => rfl)).mono ?_; rintro e w8 ⟨rfl, q4⟩; have B8 : Hid (Below w.heap.size w w8) := bstep (bstep B6.out (below_one _ _)) q4; clear q4))
      go_ret
      exact ⟨rfl, B8.out⟩
  · rw [decide_eq_true (by omega)] at ib
    clear hr
    go_enter Try.func3, Try.ntmps3
    go_wp2_with (go_at_call 4; (with_reducible refine ib.mono ?_); rintro e w' ⟨rfl, hw⟩; obtain rfl := hw.symm)
    go_ret
    exact ⟨rfl, Below.refl _ _⟩
end Go.Proofs.Ytjngkpmkeehpeaa
