/- The program's Fma. -/
import Derived.Test.YtcpnmcfpnhokgaaDoorHM5
import Derived.Test.YtcpnmcfpnhokgaaDoorHA5
import Derived.Test.YtcpnmcfpnhokgaaDoorX1
namespace Go.Proofs.YtcpnmcfpnhokgaaDoor
open Go.RowKit

set_option maxRecDepth 100000 in
set_option maxHeartbeats 1000000 in
theorem addW_nan (mode kb ea eb A B la lb : Int) (na nb : Bool) : Rets 26 #[.int .i64 mode, v5 3 ea A la na, v5 kb eb B lb nb] (v5 3 ea A la na) := by
  intro w
  go_enter Tryd.func26, Tryd.ntmps26
  go_wp2
  exact bodyPost_ret (v := v5 _ ea A la na) (by simp [results, Tryd.results26, go_sem]) rfl ⟨rfl, below_34 _ _ _⟩

set_option maxRecDepth 100000 in
theorem ifma_early (f mode x y z V F : Int) (w : World)
    (hE : Calls Tryd.prog 24 #[.int .i64 f, .int .i64 mode, .slice (some ⟨w.heap.size, 0, none⟩) 3 3] (w.alloc (.cells #[.int .u64 x, .int .u64 y, .int .u64 z] 24)) fun e w' => e = .returned (.tuple #[.int .u64 V, .int .i64 F, .bool true]) ∧ Below (w.alloc (.cells #[.int .u64 x, .int .u64 y, .int .u64 z] 24)).heap.size (w.alloc (.cells #[.int .u64 x, .int .u64 y, .int .u64 z] 24)) w') :
    Calls Tryd.prog 17 #[.int .i64 f, .int .i64 mode, .int .u64 x, .int .u64 y, .int .u64 z] w fun e w' => e = .returned (.tuple #[.int .u64 V, .int .i64 F]) ∧ Below w.heap.size w w' := by
  go_enter Tryd.func17, Tryd.ntmps17
  go_wp2_with (go_at_call 24; refine hE.mono ?_; rintro e w1 ⟨rfl, hb⟩)
  go_ret2
  exact ⟨rfl, bstep (below_one _) hb⟩

set_option maxRecDepth 100000 in
set_option maxHeartbeats 2000000 in
theorem ifma_on (f mode x y z V F : Int) (va vb : Value) (km em Mm lm kc ec C : Int) (nm nc : Bool) (vm vn : Value) (w : World) (hs : Shp w) (hj : Brj w)
    (hE : Calls Tryd.prog 24 #[.int .i64 f, .int .i64 mode, .slice (some ⟨w.heap.size, 0, none⟩) 3 3] (w.alloc (.cells #[.int .u64 x, .int .u64 y, .int .u64 z] 24)) fun e w' => e = .returned (.tuple #[.int .u64 0, .int .i64 0, .bool false]) ∧ Below (w.alloc (.cells #[.int .u64 x, .int .u64 y, .int .u64 z] 24)).heap.size (w.alloc (.cells #[.int .u64 x, .int .u64 y, .int .u64 z] 24)) w')
    (hUa : ∀ W, Shp W → Brj W → Calls Tryd.prog 11 #[.int .i64 f, .int .u64 x] W fun e w' => e = .returned va ∧ Below W.heap.size W w')
    (hUb : ∀ W, Shp W → Brj W → Calls Tryd.prog 11 #[.int .i64 f, .int .u64 y] W fun e w' => e = .returned vb ∧ Below W.heap.size W w')
    (hUc : ∀ W, Shp W → Brj W → Calls Tryd.prog 11 #[.int .i64 f, .int .u64 z] W fun e w' => e = .returned (.agg #[.int .i64 kc, .bool nc, .int .i64 ec, .int .u64 C]) ∧ Below W.heap.size W w')
    (hX : Rets 28 #[va, vb] (v5 km em Mm lm nm))
    (hM : Rets 26 #[.int .i64 mode, v5 km em Mm lm nm, v5 kc ec C 0 nc] vm)
    (hN : Rets 27 #[vm] vn)
    (hS : ∀ W, Shp W → Calls Tryd.prog 25 #[.int .i64 f, .int .i64 mode, vn] W fun e w' => e = .returned (.tuple #[.int .u64 V, .int .i64 F]) ∧ Below W.heap.size W w') :
    Calls Tryd.prog 17 #[.int .i64 f, .int .i64 mode, .int .u64 x, .int .u64 y, .int .u64 z] w fun e w' => e = .returned (.tuple #[.int .u64 V, .int .i64 F]) ∧ Below w.heap.size w w' := by
  have kS : ∀ W, Below w.heap.size w W → Shp W := fun W hb => shp_below hs (shp_pos hs) hb
  have kJ : ∀ W, Below w.heap.size w W → Brj W := fun W hb => hj.below hb
  clear hs hj
  go_enter Tryd.func17, Tryd.ntmps17
  go_wp2_with (first | (go_at_call 24; refine hE.mono ?_; rintro e w1 ⟨rfl, hb1⟩; have b1 := bstep (below_one _) hb1; have s1 := kS _ b1; have j1 := kJ _ b1) | (go_at_call 11; with_reducible refine (hUa _ s1 j1).mono ?_; rintro e w2 ⟨rfl, hb2⟩; have b2 := bstep b1 hb2; have s2 := kS _ b2; have j2 := kJ _ b2) | (go_at_call 11; with_reducible refine (hUb _ s2 j2).mono ?_; rintro e w3 ⟨rfl, hb3⟩; have b3 := bstep b2 hb3) | (go_at_call 28; refine (hX _).mono ?_; rintro e w4 ⟨rfl, hb4⟩; have b4 := bstep b3 hb4; have s4 := kS _ b4; have j4 := kJ _ b4) | (go_at_call 11; with_reducible refine (hUc _ s4 j4).mono ?_; rintro e w5 ⟨rfl, hb5⟩; have b5 := bstep b4 hb5) | (go_at_call 26; refine (hM _).mono ?_; rintro e w6 ⟨rfl, hb6⟩; have b6 := bstep (bstep b5 (below_two _ _)) hb6) | (go_at_call 27; refine (hN _).mono ?_; rintro e w7 ⟨rfl, hb7⟩; have b7 := bstep b6 hb7) | (go_at_call 25; refine (hS _ (kS _ b7)).mono ?_; rintro e w8 ⟨rfl, hb8⟩; have b8 := bstep b7 hb8))
  go_ret2
  exact ⟨rfl, b8⟩
end Go.Proofs.YtcpnmcfpnhokgaaDoor

/- The program's Fma, told by a function of plain numbers. -/
namespace Go.Proofs.YtcpnmcfpnhokgaaDoor
open Go.RowKit

theorem lu_three (x y z : Int) (W : World) (C : Nat) (hC : W.heap.size = C) : Lu (W.alloc (.cells #[.int .u64 x, .int .u64 y, .int .u64 z] 24)) (.slice (some ⟨C, 0, none⟩) 3 3) 3 (fun k => if k = 0 then x else if k = 1 then y else z) := by
  subst hC
  refine ⟨W.heap.size, 3, rfl, by simp, fun k hk => ?_⟩
  match k, hk with
  | 0, _ => simp
  | 1, _ => simp
  | 2, _ => simp

theorem early3 {f mode x y z : Int} (v : Value) (hv : ∀ W v', Shp W → Lu W v' 3 (fun k => if k = 0 then x else if k = 1 then y else z) → Calls Tryd.prog 24 #[.int .i64 f, .int .i64 mode, v'] W fun e w' => e = .returned v ∧ Below W.heap.size W w') (w : World) (hs : Tabs w) :
    Calls Tryd.prog 24 #[.int .i64 f, .int .i64 mode, .slice (some ⟨w.heap.size, 0, none⟩) 3 3] (w.alloc (.cells #[.int .u64 x, .int .u64 y, .int .u64 z] 24)) fun e w' => e = .returned v ∧ Below (w.alloc (.cells #[.int .u64 x, .int .u64 y, .int .u64 z] 24)).heap.size (w.alloc (.cells #[.int .u64 x, .int .u64 y, .int .u64 z] 24)) w' :=
  hv _ _ (shp_below hs.shp (shp_pos hs.shp) (below_one _)) (lu_three x y z w w.heap.size rfl)

theorem fma_bad {f mode x y z : Int} (hx0 : 0 ≤ x) (hx1 : x < 18446744073709551616) (hy0 : 0 ≤ y) (hy1 : y < 18446744073709551616) (hz0 : 0 ≤ z) (hz1 : z < 18446744073709551616)
    (hb : ¬ ∃ wd p t S D h q : Int, Frm f wd p t S D h q ∧ 1 ≤ mode ∧ mode ≤ 5 ∧ x < D ∧ y < D ∧ z < D) (w : World) (hs : Tabs w) :
    Calls Tryd.prog 17 #[.int .i64 f, .int .i64 mode, .int .u64 x, .int .u64 y, .int .u64 z] w fun e w' => e = .returned (.tuple #[.int .u64 0, .int .i64 0]) ∧ Below w.heap.size w w' := by
  rcases front_or f mode 3 (fun k => if k = 0 then x else if k = 1 then y else z) (by decide) (by decide) (fun k _ => by split <;> (try split) <;> omega) with ⟨h33, h37⟩ | ⟨wd, p, t, S, D, h, q, hF, m1, m5, hk⟩
  · exact ifma_early f mode x y z 0 0 w (early3 _ h37 w hs)
  · exact absurd ⟨wd, p, t, S, D, h, q, hF, m1, m5, hk 0 (by decide), hk 1 (by decide), hk 2 (by decide)⟩ hb

/-- The flags of three words, one of them a NaN. -/
def nfg3 (t h S x y z : Int) : Int := fgB (fun k => sigOf t h S (if k = 0 then x else if k = 1 then y else z)) 3

theorem fr3 {f wd p t S D h q : Int} (hF : Frm f wd p t S D h q) (mode : Int) (m1 : 1 ≤ mode) (m5 : mode ≤ 5) {x y z : Int} (hx0 : 0 ≤ x) (hxD : x < D) (hy0 : 0 ≤ y) (hyD : y < D) (hz0 : 0 ≤ z) (hzD : z < D) :
    ∀ W v, Shp W → Lu W v 3 (fun k => if k = 0 then x else if k = 1 then y else z) → Calls Tryd.prog 24 #[.int .i64 f, .int .i64 mode, v] W fun e w' => e = .returned (eaV true ((decide ((2 * t + 1) * h < sz S x) || decide ((2 * t + 1) * h < sz S y)) || decide ((2 * t + 1) * h < sz S z)) ((2 * t + 1) * h + h / 2) (nfg3 t h S x y z)) ∧ Below W.heap.size W w' := by
  have hD64 : D ≤ 18446744073709551616 := by rcases hF with ⟨_, _, _, _, _, rfl, _⟩ | ⟨_, _, _, _, _, rfl, _⟩ | ⟨_, _, _, _, _, rfl, _⟩ <;> decide
  exact (front_good hF mode m1 m5 3 (fun k => if k = 0 then x else if k = 1 then y else z) (by decide) (fun k _ => by split <;> (try split) <;> omega) (fun k _ => by split <;> (try split) <;> omega)).2.2

theorem fma_nan {f wd p t S D h q : Int} (hF : Frm f wd p t S D h q) (mode : Int) (m1 : 1 ≤ mode) (m5 : mode ≤ 5) {x y z ka ea kb eb kc ec : Int} {A B C : Nat} {na nb nc : Bool} (ux : Up f p t S D h x ka ea A na) (uy : Up f p t S D h y kb eb B nb) (uz : Up f p t S D h z kc ec C nc) (hn : ka = 3 ∨ kb = 3 ∨ kc = 3) (w : World) (hs : Tabs w) :
    Calls Tryd.prog 17 #[.int .i64 f, .int .i64 mode, .int .u64 x, .int .u64 y, .int .u64 z] w fun e w' => e = .returned (.tuple #[.int .u64 ((2 * t + 1) * h + h / 2), .int .i64 (nfg3 t h S x y z)]) ∧ Below w.heap.size w w' := by
  have h37 := fr3 hF mode m1 m5 ux.x0 ux.xD uy.x0 uy.xD uz.x0 uz.xD
  have e : ((decide ((2 * t + 1) * h < sz S x) || decide ((2 * t + 1) * h < sz S y)) || decide ((2 * t + 1) * h < sz S z)) = true := by
    rcases hn with hn | hn | hn
    · simp [ux.nan.1 hn]
    · simp [uy.nan.1 hn]
    · simp [uz.nan.1 hn]
  rw [e] at h37
  exact ifma_early f mode x y z _ _ w (early3 _ h37 w hs)

set_option maxRecDepth 100000 in
set_option maxHeartbeats 1000000 in
/-- The program's Fma, at numbers that are no NaNs. -/
theorem fma_at {f wd p t S D h q : Int} (hF : Frm f wd p t S D h q) (mode : Int) (m1 : 1 ≤ mode) (m5 : mode ≤ 5) {x y z ka ea kb eb kc ec : Int} {A B C : Nat} {na nb nc : Bool} (ux : Up f p t S D h x ka ea A na) (uy : Up f p t S D h y kb eb B nb) (uz : Up f p t S D h z kc ec C nc) (na3 : ka ≠ 3) (nb3 : kb ≠ 3) (nc3 : kc ≠ 3) :
    ∀ w, Tabs w → Calls Tryd.prog 17 #[.int .i64 f, .int .i64 mode, .int .u64 x, .int .u64 y, .int .u64 z] w fun e w' => e = .returned (.tuple #[.int .u64 (fmV p t h S mode ka ea na A kb eb nb B kc ec nc C), .int .i64 (fmF p t h mode ka ea na A kb eb nb B kc ec nc C)]) ∧ Below w.heap.size w w' := by
  have h37 := fr3 hF mode m1 m5 ux.x0 ux.xD uy.x0 uy.xD uz.x0 uz.xD
  have han : ((decide ((2 * t + 1) * h < sz S x) || decide ((2 * t + 1) * h < sz S y)) || decide ((2 * t + 1) * h < sz S z)) = false := by
    have n1 : ¬ (2 * t + 1) * h < sz S x := fun e => na3 (ux.nan.2 e)
    have n2 : ¬ (2 * t + 1) * h < sz S y := fun e => nb3 (uy.nan.2 e)
    have n3 : ¬ (2 * t + 1) * h < sz S z := fun e => nc3 (uz.nan.2 e)
    simp [n1, n2, n3]
  rw [han] at h37
  replace h37 : ∀ W v, Shp W → Lu W v 3 (fun k => if k = 0 then x else if k = 1 then y else z) → Calls Tryd.prog 24 #[.int .i64 f, .int .i64 mode, v] W fun e w' => e = .returned (.tuple #[.int .u64 0, .int .i64 0, .bool false]) ∧ Below W.heap.size W w' := h37
  have hp1 : p ≤ 53 := by rcases hF with ⟨_, _, rfl, _⟩ | ⟨_, _, rfl, _⟩ | ⟨_, _, rfl, _⟩ <;> decide
  have ua2 := ux.impl
  have ub2 := uy.impl
  have uc2 := uz.impl
  have ha1 := ux.fin
  have ha0 := ux.none
  have hb1 := uy.fin
  have hb0 := uy.none
  have hc1 := uz.fin
  have hc0 := uz.none
  have hka := ux.k
  have hkb := uy.k
  have hkc := uz.k
  have oth : ∀ (km em Mm lm : Int) (nm : Bool) (K E : Int) (M : Nat) (n : Bool) (l : Int), K ≠ 1 → Rets 28 #[.agg #[.int .i64 ka, .bool na, .int .i64 ea, .int .u64 (A : Int)], .agg #[.int .i64 kb, .bool nb, .int .i64 eb, .int .u64 (B : Int)]] (v5 km em Mm lm nm) → Rets 26 #[.int .i64 mode, v5 km em Mm lm nm, v5 kc ec C 0 nc] (v5 K E M l n) → ∀ w, Tabs w → Calls Tryd.prog 17 #[.int .i64 f, .int .i64 mode, .int .u64 x, .int .u64 y, .int .u64 z] w fun e w' => e = .returned (.tuple #[.int .u64 (pkV p t h S mode K E n M), .int .i64 (if K = 3 then 16 else pkF p t h mode K E n M)]) ∧ Below w.heap.size w w' := fun km em Mm lm nm K E M n l hK hX hW w hs =>
    ifma_on f mode x y z _ _ _ _ _ _ _ _ _ _ _ _ _ _ _ w hs.shp hs.brj (early3 _ h37 w hs) ua2 ub2 uc2 hX hW (fun W => narrow_no K E n M l W (by simpa using hK)) (fun W hs' => settle_any hF mode K E n M W hs' (fun e => absurd e hK))
  have fin : ∀ (km em Mm lm : Int) (nm : Bool) (E : Int) (R : Nat) (n : Bool), 0 < R → R < 340282366920938463463374607431768211456 → -60000 ≤ E → E ≤ 60000 → Rets 28 #[.agg #[.int .i64 ka, .bool na, .int .i64 ea, .int .u64 (A : Int)], .agg #[.int .i64 kb, .bool nb, .int .i64 eb, .int .u64 (B : Int)]] (v5 km em Mm lm nm) → Rets 26 #[.int .i64 mode, v5 km em Mm lm nm, v5 kc ec C 0 nc] (v5 1 E (R / 18446744073709551616 : Nat) (R % 18446744073709551616 : Nat) n) → ∀ w, Tabs w → Calls Tryd.prog 17 #[.int .i64 f, .int .i64 mode, .int .u64 x, .int .u64 y, .int .u64 z] w fun e w' => e = .returned (.tuple #[.int .u64 (rndV p t h S mode (E - 64) n R false), .int .i64 (rndF p t h mode (E - 64) n R false)]) ∧ Below w.heap.size w w' := fun km em Mm lm nm E R n r0 r1 e0 e1 hX hW w hs =>
    ifma_on f mode x y z _ _ _ _ _ _ _ _ _ _ _ _ _ _ _ w hs.shp hs.brj (early3 _ h37 w hs) ua2 ub2 uc2 hX hW (fun W => narrow_yes E n R W r0 r1 (by omega) (by omega)) (fun W hs' => settle_wide hF mode E n R r0 r1 e0 e1 W hs')
  have whole : ∀ M : Nat, M * 18446744073709551616 / 18446744073709551616 = M ∧ M * 18446744073709551616 % 18446744073709551616 = 0 := fun M => by omega
  have hka' : ka = 0 ∨ ka = 1 ∨ ka = 2 := by omega
  have hkb' : kb = 0 ∨ kb = 1 ∨ kb = 2 := by omega
  unfold fmV fmF
  intro w hs
  by_cases hinf : ka = 2 ∨ kb = 2
  · rw [if_pos hinf, if_pos hinf]
    have hno : ¬ (ka = 1 ∧ kb = 1) := by omega
    have hX : Rets 28 #[.agg #[.int .i64 ka, .bool na, .int .i64 ea, .int .u64 (A : Int)], .agg #[.int .i64 kb, .bool nb, .int .i64 eb, .int .u64 (B : Int)]] (v5 (mulK ka kb) 0 0 0 (mulN ka kb (na != nb))) := fun W => mulNums_no ka kb ea eb A B na nb W hka' hkb' hno
    by_cases hzero : ka = 0 ∨ kb = 0
    · rw [show mulK ka kb = 3 by unfold mulK; rw [if_pos ⟨hinf, hzero⟩], show mulN ka kb (na != nb) = false by unfold mulN; rw [if_pos ⟨hinf, hzero⟩]] at hX
      have := oth _ _ _ _ _ 3 0 0 false 0 (by decide) hX (addW_nan mode kc 0 ec 0 C 0 0 false nc) w hs
      rw [if_pos (Or.inl hzero), if_pos (Or.inl hzero)]
      simpa [pkV] using this
    · rw [show mulK ka kb = 2 by unfold mulK; rw [if_neg (by omega), if_pos hinf], show mulN ka kb (na != nb) = (na != nb) by unfold mulN; rw [if_neg (by omega)]] at hX
      by_cases hci : kc = 2 ∧ nc ≠ (na != nb)
      · have := oth _ _ _ _ _ 3 0 0 false 0 (by decide) hX (by rw [hci.1]; exact addW_n mode 0 ec 0 C 0 0 (na != nb) nc (fun e => hci.2 e.symm)) w hs
        rw [if_pos (Or.inr hci), if_pos (Or.inr hci)]
        simpa [pkV] using this
      · have hor : ¬ ((ka = 0 ∨ kb = 0) ∨ (kc = 2 ∧ nc ≠ (na != nb))) := by
          rintro (e | e)
          · exact hzero e
          · exact hci e
        rw [if_neg hor, if_neg hor]
        by_cases hc2 : kc = 2
        · have hn : nc = (na != nb) := Classical.byContradiction fun e => hci ⟨hc2, e⟩
          have := oth _ _ _ _ _ 2 0 0 (na != nb) 0 (by decide) hX (addW_x mode 2 kc 0 ec 0 C 0 0 (na != nb) nc (Or.inr (Or.inl ⟨rfl, hc2, hn.symm⟩))) w hs
          simpa [pkV, pkF] using this
        · have := oth _ _ _ _ _ 2 0 0 (na != nb) 0 (by decide) hX (addW_x mode 2 kc 0 ec 0 C 0 0 (na != nb) nc (Or.inl ⟨rfl, by omega⟩)) w hs
          simpa [pkV, pkF] using this
  rw [if_neg hinf, if_neg hinf]
  have hA1 : A < 9007199254740992 := by
    rcases hka' with e | e | e
    · have := (ha0 (by omega)).1; omega
    · exact (ha1 e).2.1
    · omega
  have hB1 : B < 9007199254740992 := by
    rcases hkb' with e | e | e
    · have := (hb0 (by omega)).1; omega
    · exact (hb1 e).2.1
    · omega
  have hE : -2148 ≤ ea + eb ∧ ea + eb ≤ 4000 := by
    have h1 : -1074 ≤ ea ∧ ea ≤ 2000 := by
      rcases hka' with e | e | e
      · have := (ha0 (by omega)).2; omega
      · exact (ha1 e).2.2
      · omega
    have h2 : -1074 ≤ eb ∧ eb ≤ 2000 := by
      rcases hkb' with e | e | e
      · have := (hb0 (by omega)).2; omega
      · exact (hb1 e).2.2
      · omega
    omega
  have hX : ∃ (km em : Int) (N : Nat), Rets 28 #[.agg #[.int .i64 ka, .bool na, .int .i64 ea, .int .u64 (A : Int)], .agg #[.int .i64 kb, .bool nb, .int .i64 eb, .int .u64 (B : Int)]] (v5 km em (N / 18446744073709551616 : Nat) (N % 18446744073709551616 : Nat) (na != nb)) ∧ N = A * B ∧ ((km = 0 ∧ N = 0 ∧ em = 0) ∨ (km = 1 ∧ 0 < N ∧ em = ea + eb + 64)) := by
    by_cases hb : ka = 1 ∧ kb = 1
    · obtain ⟨rfl, rfl⟩ := hb
      obtain ⟨A0, -, a2, a3⟩ := ha1 rfl
      obtain ⟨B0, -, b2, b3⟩ := hb1 rfl
      exact ⟨1, ea + eb + 64, A * B, fun W => mulNums_fin ea eb na nb A B W (by omega) (by omega) (by omega) (by omega) (by omega) (by omega), rfl, Or.inr ⟨rfl, Nat.mul_pos A0 B0, rfl⟩⟩
    · have hz : A * B = 0 := by
        by_cases e : ka = 1
        · rw [(hb0 (by omega)).1, Nat.mul_zero]
        · rw [(ha0 e).1, Nat.zero_mul]
      refine ⟨0, 0, 0, fun W => ?_, hz.symm, Or.inl ⟨rfl, rfl, rfl⟩⟩
      have := mulNums_no ka kb ea eb A B na nb W hka' hkb' hb
      rw [show mulK ka kb = 0 by unfold mulK; rw [if_neg (by omega), if_neg hinf], show mulN ka kb (na != nb) = (na != nb) by unfold mulN; rw [if_neg (by omega)]] at this
      exact this
  obtain ⟨km, em, N, hX, hN, hkm⟩ := hX
  have hN1 : N < 81129638414606681695789005144064 := by
    rw [hN]
    exact Nat.mul_lt_mul'' hA1 hB1
  rw [← hN]
  by_cases hci : kc = 2
  · rw [if_pos hci, if_pos hci]
    have := oth _ _ _ _ _ kc ec C nc 0 (by omega) hX (addW_y mode km kc em ec _ C _ 0 (na != nb) nc (Or.inl ⟨by omega, hci⟩)) w hs
    rw [show pkV p t h S mode kc ec nc C = (2 * t + 1) * h + (if nc then S else 0) by subst hci; simp [pkV], show (if kc = 3 then (16 : Int) else pkF p t h mode kc ec nc C) = 0 by subst hci; simp [pkF]] at this
    exact this
  rw [if_neg hci, if_neg hci]
  have hkc' : kc = 0 ∨ kc = 1 := by omega
  have hC1 : C < 9007199254740992 := by
    rcases hkc' with e | e
    · have := (hc0 (by omega)).1; omega
    · exact (hc1 e).2.1
  generalize (na != nb) = s at *
  rcases hkm with ⟨rfl, hN0, rfl⟩ | ⟨rfl, N0, rfl⟩ <;> rcases hkc' with hc' | hc'
  · obtain ⟨cz, ez⟩ := hc0 (by omega)
    rw [hN0] at hX ⊢
    rw [cz] at oth uc2 ⊢
    rw [ez] at oth
    rw [hc'] at oth
    rw [Nat.zero_mul, Nat.zero_mul, (sm_both p t h S mode s nc).1, (sm_both p t h S mode s nc).2]
    by_cases hn : s = nc
    · have := oth _ _ _ _ _ 0 0 0 nc 0 (by decide) hX (addW_y mode 0 0 0 0 _ _ _ 0 s nc (Or.inr (Or.inl ⟨rfl, rfl, hn⟩))) w hs
      subst hn
      simpa [pkV, pkF] using this
    · have := oth _ _ _ _ _ 0 0 0 (mode == 5) 0 (by decide) hX (addW_c mode 0 0 _ _ _ 0 s nc hn) w hs
      have e1 : (s && nc || (s != nc) && (mode == 5)) = (mode == 5) := by
        cases s <;> cases nc <;> simp_all
      rw [e1]
      simpa [pkV, pkF] using this
  · obtain ⟨C0, -, c2, c3⟩ := hc1 hc'
    rw [hN0] at hX ⊢
    rw [hc'] at fin
    have hC2 : 0 < C * 2 ^ (ec + 9000).toNat := Nat.mul_pos C0 (Nat.pow_pos (by decide))
    obtain ⟨l1, l2⟩ := rnd_low (p := p) (t := t) (h := h) (S := S) (mode := mode) (e := ec) nc C0 (by omega)
    rw [Nat.zero_mul, (sm_left p t h S mode s nc hC2).1, (sm_left p t h S mode s nc hC2).2, l1, l2]
    have := fin _ _ _ _ _ ec (C * 18446744073709551616) nc (by omega) (by omega) (by omega) (by omega) hX (by rw [(whole C).1, (whole C).2]; exact addW_y mode 0 1 0 ec _ C _ 0 s nc (Or.inr (Or.inr ⟨rfl, rfl⟩))) w hs
    have r := rnd_scale (p := p) (t := t) (h := h) (S := S) (mode := mode) (e := ec) nc (N := C) (s := 64) C0
    rw [show ec - ((64 : Nat) : Int) = ec - 64 by omega, show (2 : Nat) ^ 64 = 18446744073709551616 by decide] at r
    rw [r.1, r.2] at this
    exact this
  · obtain ⟨cz, ez⟩ := hc0 (by omega)
    rw [cz] at fin uc2 ⊢
    rw [hc'] at fin
    have hN2 : 0 < N * 2 ^ (ea + eb + 9000).toNat := Nat.mul_pos N0 (Nat.pow_pos (by decide))
    obtain ⟨l1, l2⟩ := rnd_low (p := p) (t := t) (h := h) (S := S) (mode := mode) (e := ea + eb) s N0 (by omega)
    rw [Nat.zero_mul, (sm_right p t h S mode s nc hN2).1, (sm_right p t h S mode s nc hN2).2, l1, l2]
    have := fin _ _ _ _ _ (ea + eb + 64) N s N0 (by omega) (by omega) (by omega) hX (addW_x mode 1 0 (ea + eb + 64) ec _ _ _ 0 s nc (Or.inr (Or.inr ⟨rfl, rfl⟩))) w hs
    rw [show ea + eb + 64 - 64 = ea + eb by omega] at this
    exact this
  · obtain ⟨C0, -, c2, c3⟩ := hc1 hc'
    rw [hc'] at fin oth
    obtain ⟨K, E, R, n, hW, hS⟩ := addF_any mode (ea + eb + 64) ec (-9000) s nc N (C * 18446744073709551616) N0 (by omega) (by omega) (by omega) (by omega) (by omega) (by omega) (by omega) (by omega) (by omega)
    rw [(whole C).1, (whole C).2] at hW
    have hW' := addW_f mode (ea + eb + 64) ec _ C _ 0 K E _ _ s nc n hW
    have eP : N * 2 ^ (ea + eb + 64 - 64 - -9000).toNat = N * 2 ^ (ea + eb + 9000).toNat := by
      rw [show ea + eb + 64 - 64 - -9000 = ea + eb + 9000 by omega]
    have eQ : C * 18446744073709551616 * 2 ^ (ec - 64 - -9000).toNat = C * 2 ^ (ec + 9000).toNat := by
      rw [show (ec + 9000).toNat = 64 + (ec - 64 - -9000).toNat by omega, Nat.pow_add, Nat.mul_assoc]
    rw [eP, eQ] at hS
    have hN2 : 0 < N * 2 ^ (ea + eb + 9000).toNat := Nat.mul_pos N0 (Nat.pow_pos (by decide))
    obtain ⟨s1, s2⟩ := sm_of (p := p) (t := t) (h := h) (S := S) hS hp1 hN2
    rw [← s1, ← s2]
    rcases hS with ⟨_, _, rfl, rfl, rfl, rfl⟩ | ⟨rfl, r0, r1, e0, e1, _⟩
    · have := oth _ _ _ _ _ 0 0 0 (mode == 5) 0 (by decide) hX hW' w hs
      simpa [pkV, pkF] using this
    · rw [if_neg (by decide), if_neg (by decide)]
      exact fin _ _ _ _ _ E R n r0 r1 e0 e1 hX hW' w hs
end Go.Proofs.YtcpnmcfpnhokgaaDoor
