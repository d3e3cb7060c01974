/- Waves: the program. -/
import Derived.Test.YtlccicbgepfbbaaCF
import Derived.Test.YtlccicbgepfbbaaBH
import Derived.Maps.OwnSet
namespace Go.Proofs.Ytlccicbgepfbbaa
open Go.RowKit Go.Maps

theorem own_capn {w : World} {B n c tg : Nat} {e : TypeId} {xs : List Value} (h : w.ownsRow B e 1 (.slice (some ⟨tg, 0, none⟩) n c) n xs) : n ≤ c := by
  rcases h.2 with ⟨h1, _⟩ | ⟨g, cap, cur, h1, _, _, h2, _⟩
  · cases h1
  · injection h1 with _ _ h3
    omega

theorem own_cut {w : World} {B n q c tg : Nat} {f : Nat → Int} (h : w.ownsRow B 3 1 (.slice (some ⟨tg, 0, none⟩) n c) n (ils f n)) (hq : q ≤ n) : w.ownsRow B 3 1 (.slice (some ⟨tg, 0, none⟩) q c) q (ils f q) := by
  rcases h.2 with ⟨h1, _⟩ | ⟨g, cap, cur, h1, h2, h3, h4, h5, h6, h7⟩
  · cases h1
  · injection h1 with e1 e2 e3
    injection e1 with e1
    injection e1 with e1 e4
    subst e3
    subst e1
    refine ⟨by rw [ils_length]; omega, .inr ⟨tg, c, cur, rfl, h2, h3, by omega, h5, h6, ?_⟩⟩
    have h8 := congrArg (List.take (q * 1)) h7
    rw [List.take_take, Nat.min_eq_left (by omega)] at h8
    rw [h8, Nat.mul_one]
    unfold ils
    rw [← List.map_take, List.take_range, Nat.min_eq_left hq]

theorem Gr.open {B : Nat} {W : World} {o : Value} {j : Nat} {ms : Nat → Nat} {T : Nat → Nat → Int} (h : Gr B W o j ms T) : ∃ ao cap, o = .slice ao j cap := by
  obtain ⟨R, h1, _⟩ := h
  obtain ⟨ao, cap, e, _⟩ := own_open h1
  exact ⟨ao, cap, e⟩

theorem gr_lo {B : Nat} {W : World} {o : Value} {j : Nat} {ms : Nat → Nat} {T : Nat → Nat → Int} (h : Gr B W o j ms T) : ∀ g, o.ownBlock = some g → B ≤ g := fun g hg => by
  obtain ⟨R, h1, _⟩ := h
  exact (World.ownsRow.lt h1 g hg).1

theorem Rnd.grown {w w' : World} {B G M : Nat} {po : Option Addr} {pc n m : Nat} {ss : Nat → Wr} {lf : Nat → Nat} {h : Nat → Int} {row : Option Nat} (r : Rnd w B G M po pc n m ss lf h) (hg : w.grownBy w' row) (hr : ∀ g, row = some g → G < g) : Rnd w' B G M po pc n m ss lf h := by
  obtain ⟨D, hd, hm⟩ := r.om
  have hk : Kd (fun g => row = some g) w w' := ⟨hg.os, hg.tape, hg.output, hg.size, fun k hk hd => hg.block k hk (fun e => hd e.symm)⟩
  have hmg := r.mg
  exact ⟨rg_kd r.rg hk (fun e => by have := hr G e; omega), own_kd r.on hk (fun g hg e => by have := hr g e; have := r.pm g hg; omega), ⟨D, hd, hm.kept hg (fun e => by have := hr M e.symm; omega)⟩, r.pm, r.mb, r.mg⟩

theorem Gr.kd {D : Nat → Prop} {B : Nat} {W W' : World} {o : Value} {j : Nat} {ms : Nat → Nat} {T : Nat → Nat → Int} (h : Gr B W o j ms T) (hk : Kd D W W') (hd : ∀ g, D g → g < B) : Gr B W' o j ms T := by
  obtain ⟨R, h1, h2⟩ := h
  have ne : ∀ {v : Value} {xs : List Value} {n s : Nat} {e : TypeId}, W.ownsRow B e s v n xs → ∀ g, v.ownBlock = some g → ¬ D g := fun ho g hg hx => by
    have := (World.ownsRow.lt ho g hg).1
    have := hd g hx
    omega
  exact ⟨R, own_kd h1 hk (ne h1), fun k hk2 => ⟨own_kd (h2 k hk2).1 hk (ne (h2 k hk2).1), (h2 k hk2).2⟩⟩

set_option maxHeartbeats 4000000 in
theorem iWav_bad {w : World} {v : Value} {m : Nat} {ss : Nat → Wr} (n most : Int) (_ : Il5 w v m ss) (h : ∀ ys, Calls Try.prog 11 #[.int .i64 n, v] w fun e w' => Pst w w' e 0 ys false) (ms : Nat → Nat) (T : Nat → Nat → Int) :
    Calls Try.prog 43 #[.int .i64 n, v, .int .i64 most] w fun e w' => ∃ u, e = .returned (.tuple #[u, .bool false]) ∧ Gr w.heap.size w' u 0 ms T ∧ Below w.heap.size w w' := by
  have i1 := h (fun _ => 0)
  go_enter Try.func43, Try.ntmps43
  go_wp2_with (go_at_call 11; (with_reducible refine i1.mono ?_); rintro e w2 ⟨x, rfl, _, hb⟩; have BX : Hid (Below w.heap.size w w2) := hb; clear hb)
  go_ret2
  exact ⟨_, rfl, (Gr.start w2 ms T).base BX.out.size, bstep BX.out (below_one _ _)⟩

set_option maxRecDepth 20000 in
set_option maxHeartbeats 16000000 in
theorem iWav_any {w : World} {v : Value} {n m most : Nat} {ss : Nat → Wr} {r : Nat → Nat} (hv : Ow w v m ss) (hw : Wok (n : Int) m ss) (hr : Lst (wsn ss) n m r) (hm1 : 1 ≤ most) (_ : most ≤ 20) :
    Calls Try.prog 43 #[.int .i64 (n : Int), v, .int .i64 (most : Int)] w fun e w' => (∃ K, Wend n m ss r most K ∧ ∃ u, e = .returned (.tuple #[u, .bool true]) ∧ Gr w.heap.size w' u K (fun k => (wvl n m ss most (wst n m ss r most k)).length) (fun k j => (wvf n m ss most (wst n m ss r most k) j : Int)) ∧ Below w.heap.size w w') ∨ (∃ K, Wstk n m ss r most K ∧ ∃ u, e = .returned (.tuple #[u, .bool false]) ∧ Gr w.heap.size w' u 0 (fun k => (wvl n m ss most (wst n m ss r most k)).length) (fun k j => (wvf n m ss most (wst n m ss r most k) j : Int)) ∧ Below w.heap.size w w') := by
  have h40 := hw.2.1
  have n20 : n ≤ 20 := by have := hw.1; omega
  have HW : Hid (Wok (n : Int) m ss) := hw
  have HV : Hid (Ow w v m ss) := hv
  have HRB : Hid (∀ b, b < n → 1 ≤ r b ∧ r b ≤ 2000) := fun b hb => ⟨hr.1.1 b hb, by have h1 := smN_one (f := r) hb; have h2 := hr.1.2.2; omega⟩
  have HRS : Hid (smN n r ≤ 2000) := hr.1.2.2
  have i1 := (iBal_any hv.il5 hw).mono fun e w' hb => bpo_yes hb hr
  clear hv hw hr
  go_enter Try.func43, Try.ntmps43
  go_wp2_with (first
    | (go_at_call 11; (with_reducible refine i1.mono ?_); rintro e V ⟨x, rfl, ho, hb⟩; obtain ⟨xo, xc, rfl, _⟩ := own_open ho; have X0 : Hid (Il V (.slice xo n xc) n (fun i => (r i : Int))) := il_of_own ho; have BX : Hid (Below w.heap.size w V) := hb; clear hb ho)
    | (go_at_call 70; (with_reducible refine (newR_any (HV.out.below BX.out) X0.out h40 n20 HRB.out).mono ?_); rintro e V2 ⟨G, M, po, pc, rfl, h5, h6⟩; have RN0 : Hid _ := h5; have BY : Hid (Below w.heap.size w V2) := bstep BX.out h6; have VB : Hid (V.heap.size ≤ V2.heap.size) := h6.size; clear h5 h6))
  clear i1
  have G0 : Hid (Gr V2.heap.size (V2.alloc (.cells #[] 27)) (.slice (some ⟨V2.heap.size, 0, none⟩) 0 0) 0 (fun k => (wvl n m ss most (wst n m ss r most k)).length) (fun k j => (wvf n m ss most (wst n m ss r most k) j : Int))) := Gr.start V2 _ _
  have RN1 : Hid _ := RN0.out.below (below_one V2 (.cells #[] 27))
  have B1 : Hid (Below w.heap.size w (V2.alloc (.cells #[] 27))) := bstep BY.out (below_one _ _)
  have HGV : Hid (G < V2.heap.size) := RN0.out.rg.lt
  have HGB0 : Hid (V2.heap.size ≤ (V2.alloc (.cells #[] 27)).heap.size) := (below_one V2 (.cells #[] 27)).size
  clear RN0
  generalize V2.alloc (.cells #[] 27) = W0 at *
  obtain ⟨GB, hGB⟩ : ∃ g, g = V2.heap.size := ⟨_, rfl⟩
  have HGB : Hid (w.heap.size ≤ GB) := by show _ ≤ _; rw [hGB]; exact BY.out.size
  rw [← hGB] at G0 HGV HGB0 ⊢
  clear hGB
  go_loopw [11, 12, 13] (fun u _ _ wr => ∃ (k F : Nat) (uo : Option Addr) (uc : Nat), u = .slice uo k uc ∧ k ≤ F ∧ F ≤ 2000 ∧ Hid (GB ≤ wr.heap.size) ∧ Hid (Rnd wr V.heap.size G M po pc n m ss (wst n m ss r most k).1 (wst n m ss r most k).2 ∧ Wsi n m F (wst n m ss r most k) ∧ (∀ j, j < k → nz n (wst n m ss r most j).1 ≠ 0 ∧ wvl n m ss most (wst n m ss r most j) ≠ []) ∧ Gr GB wr (.slice uo k uc) k (fun k => (wvl n m ss most (wst n m ss r most k)).length) (fun k j => (wvf n m ss most (wst n m ss r most k) j : Int)) ∧ Below w.heap.size w wr)) (fun u _ _ _ => match u with | .slice _ l _ => 2001 - l | _ => 0)
  case atStart => exact ⟨0, 0, _, _, rfl, by omega, by omega, HGB0.out, RN1.out, ⟨by (show smN n (fun b => if b < n then r b else 0) + 0 ≤ 2000); rw [smN_congr (g := r) fun k hk => if_pos hk]; exact HRS.out, fun i hi => by have h9 := HW.out.2.2 i hi; unfold Wgd at h9; show _ ≤ hav ss i ∧ hav ss i ≤ _; unfold hav; omega⟩, fun j hj => by omega, G0.out, B1.out⟩
  case round =>
    obtain ⟨k, FF, uo, uc, rfl, hkF, hF, HGBW, hrel⟩ := hrel
    have HRN : Hid (Rnd wr V.heap.size G M po pc n m ss (wst n m ss r most k).1 (wst n m ss r most k).2) := hrel.out.1
    have HWS : Hid (Wsi n m FF (wst n m ss r most k)) := hrel.out.2.1
    have HNF : Hid ((∀ j, j < k → nz n (wst n m ss r most j).1 ≠ 0 ∧ wvl n m ss most (wst n m ss r most j) ≠ [])) := hrel.out.2.2.1
    have HGR : Hid (Gr GB wr (.slice uo k uc) k (fun k => (wvl n m ss most (wst n m ss r most k)).length) (fun k j => (wvf n m ss most (wst n m ss r most k) j : Int))) := hrel.out.2.2.2.1
    have HBL : Hid (Below w.heap.size w wr) := hrel.out.2.2.2.2
    clear hrel
    have c1 := HRN.out.rg.c1
    obtain ⟨D, hd, hmo⟩ := HRN.out.om
    have HDZ : Hid (Maps.size D = nz n (wst n m ss r most k).1) := hd.size
    have HMO : Hid (wr.ownsMap Try.prog 3 (plainElem Try.prog 3) M (Maps.size D) D) := hmo
    have hz20 : Maps.size D ≤ 20 := by rw [hd.size]; exact Nat.le_trans (nz_le n _) n20
    obtain ⟨zz, hzz⟩ : ∃ z, z = Maps.size D := ⟨_, rfl⟩
    have HZZ : Hid (zz = Maps.size D) := hzz
    rw [← hzz] at hz20
    clear hd hmo hzz
    by_cases hz : zz = 0
    · have HEND : Hid (Wend n m ss r most k) := ⟨HNF.out, by rw [← HDZ.out, ← HZZ.out]; exact hz⟩
      have hzi : (zz : Int) = 0 := by omega
      clear hz
      go_wp2_with (first
        | (at_len; refine wpList_len_own _ rfl _ 96 rfl 3 3 Try.underlying96 _ M (Maps.size D) D rfl HMO.out ?_; rw [← HZZ.out])
        | go_in)
      go_ret2
      exact .inl ⟨k, HEND.out, _, rfl, HGR.out.base HGB.out, HBL.out⟩
    · have hzi : 0 < (zz : Int) := by omega
      have HNZ : Hid (nz n (wst n m ss r most k).1 ≠ 0) := by show _ ≠ _; rw [← HDZ.out, ← HZZ.out]; exact hz
      have ird := ready_any HRN.out h40 n20
      obtain ⟨ql, hql⟩ : ∃ q, q = (rdl n m ss (wst n m ss r most k).1 (wst n m ss r most k).2).length := ⟨_, rfl⟩
      have HQL : Hid (ql = (rdl n m ss (wst n m ss r most k).1 (wst n m ss r most k).2).length) := hql
      have hq20 : ql ≤ 20 := by rw [hql]; exact Nat.le_trans (List.length_filter_le _ _) (by rw [List.length_range]; exact n20)
      rw [← hql] at ird
      clear hql hz
      by_cases hq0 : ql = 0
      · have HSTK : Hid (Wstk n m ss r most k) := ⟨HNF.out, HNZ.out, by
          have hnil : rdl n m ss (wst n m ss r most k).1 (wst n m ss r most k).2 = [] := List.eq_nil_of_length_eq_zero (by rw [← HQL.out]; exact hq0)
          unfold wvl
          rw [hnil]
          exact List.take_nil⟩
        have hqi : (ql : Int) = 0 := by omega
        clear hq0
        go_wp2_with (first
          | (at_len; refine wpList_len_own _ rfl _ 96 rfl 3 3 Try.underlying96 _ M (Maps.size D) D rfl HMO.out ?_; rw [← HZZ.out])
          | (go_at_call 71; (with_reducible refine ird.mono ?_); rintro e V3 ⟨tg, tc, rfl, _, hb⟩; have B3 : Hid (Below w.heap.size w V3) := bstep HBL.out hb; clear hb)
          | go_in)
        go_ret2
        exact .inr ⟨k, HSTK.out, _, rfl, (Gr.start V3 _ _).base B3.out.size, bstep B3.out (below_one _ _)⟩
      · obtain ⟨wl, hwl⟩ : ∃ q, q = min most ql := ⟨_, rfl⟩
        have HWL : Hid (wl = (wvl n m ss most (wst n m ss r most k)).length) := by show _ = _; unfold wvl; rw [List.length_take, ← HQL.out]; exact hwl
        have hmi : min (most : Int) (ql : Int) = (wl : Int) := by rw [hwl]; omega
        have hwq : wl ≤ ql := by rw [hwl]; exact Nat.min_le_right _ _
        have hw1 : 1 ≤ wl := by rw [hwl, Nat.min_def]; split <;> omega
        have HW1 : Hid (1 ≤ wl) := hw1
        have HWV : Hid (∀ j, j < wl → (((rdl n m ss (wst n m ss r most k).1 (wst n m ss r most k).2).getD j 0 : Nat) : Int) = (wvf n m ss most (wst n m ss r most k) j : Int)) := fun j hj => by
          have hj1 : j < min most ql := by rw [← hwl]; exact hj
          have hj2 := Nat.lt_of_lt_of_le hj1 (Nat.min_le_left _ _)
          unfold wvf wvl
          rw [List.getD_eq_getElem?_getD, List.getD_eq_getElem?_getD, List.getElem?_take_of_lt hj2]
        have HNE : Hid (wvl n m ss most (wst n m ss r most k) ≠ []) := fun e => by have h9 := HWL.out; rw [e] at h9; simp at h9; omega
        have hqi : ¬ (ql : Int) = 0 := by omega
        have hqb : ((ql : Int) == 0) = false := beq_false_of_ne hqi
        have HFA : Hid (∀ X tg tc, Rnd X V.heap.size G M po pc n m ss (wst n m ss r most k).1 (wst n m ss r most k).2 → Il X (.slice (some ⟨tg, 0, none⟩) wl tc) wl (fun i => (wvf n m ss most (wst n m ss r most k) i : Int)) → G < tg → Calls Try.prog 72 #[.pointer (some ⟨G, 0, none⟩), .slice (some ⟨tg, 0, none⟩) wl tc] X fun e w' => e = .returned (.tuple #[]) ∧ Rnd w' V.heap.size G M po pc n m ss (wst n m ss r most (k + 1)).1 (wst n m ss r most (k + 1)).2 ∧ Kd (RnD po m pc M) X w') := by
          intro X tg tc h1 h2 h3
          have hwl2 : wl ≤ 2000 := by omega
          rw [HWL.out] at h2 hwl2 ⊢
          exact fireAll_any h1 h2 h3 h40 n20 hwl2 (fun j hj => wvl_good hj) (fun j hj => wsi_fit HW.out (wsi_mid HW.out HWS.out j (by omega))) (wsi_lf HWS.out)
        have HWS2 : Hid (Wsi n m (FF + wl) (wst n m ss r most (k + 1))) := by rw [HWL.out]; exact wsi_mid HW.out HWS.out _ (Nat.le_refl _)
        have HF2 : FF + wl ≤ 2000 := by have := HWS2.out.sum; omega
        have HNF2 : Hid (∀ j, j < k + 1 → nz n (wst n m ss r most j).1 ≠ 0 ∧ wvl n m ss most (wst n m ss r most j) ≠ []) := all_snoc HNF.out ⟨HNZ.out, HNE.out⟩
        clear hwl hq0
        go_wp2_with (first
          | (at_len; refine wpList_len_own _ rfl _ 96 rfl 3 3 Try.underlying96 _ M (Maps.size D) D rfl HMO.out ?_; rw [← HZZ.out])
          | (go_at_call 71; (with_reducible refine ird.mono ?_); rintro e V3 ⟨tg, tc, rfl, ho, hb⟩; have O3 : Hid (V3.ownsRow wr.heap.size 3 1 (.slice (some ⟨tg, 0, none⟩) ql tc) ql (ils (fun i => (((rdl n m ss (wst n m ss r most k).1 (wst n m ss r most k).2).getD i 0 : Nat) : Int)) ql)) := ho; have hqc : ql ≤ tc := own_capn ho; have RN3 : Hid (Rnd V3 V.heap.size G M po pc n m ss (wst n m ss r most k).1 (wst n m ss r most k).2) := HRN.out.below hb; have B3 : Hid (Below w.heap.size w V3) := bstep HBL.out hb; have SZ3 : Hid (wr.heap.size ≤ V3.heap.size) := hb.size; have GR3 : Hid (Gr GB V3 (.slice uo k uc) k (fun k => (wvl n m ss most (wst n m ss r most k)).length) (fun k j => (wvf n m ss most (wst n m ss r most k) j : Int))) := HGR.out.below hb; have hgt : Hid (G < tg) := (by have := (World.ownsRow.lt ho tg rfl).1; have := HRN.out.rg.lt; show G < tg; omega); have C3 : Hid (V3.ownsRow wr.heap.size 3 1 (.slice (some ⟨tg, 0, none⟩) wl tc) wl (ils (fun i => (wvf n m ss most (wst n m ss r most k) i : Int)) wl)) := (by have h9 := own_cut ho hwq; rw [ils_congr HWV.out] at h9; exact h9); clear hb ho)
          | (go_at_call 72; (with_reducible refine (HFA.out _ _ _ RN3.out (il_of_own C3.out) hgt.out).mono ?_); rintro e X4 ⟨rfl, h5, h6⟩; have RN4 : Hid (Rnd X4 V.heap.size G M po pc n m ss (wst n m ss r most (k + 1)).1 (wst n m ss r most (k + 1)).2) := h5; have hdl : ∀ g, RnD po m pc M g → g < GB := (fun g hg => by have := HRN.out.mg; have := HGV.out; rcases hg with hg | hg; (have := HRN.out.pm g hg; omega); omega); have GR4 : Hid (Gr GB (X4.alloc (.cells #[.slice (some ⟨tg, 0, none⟩) wl tc] 27)) (.slice uo k uc) k (fun k => (wvl n m ss most (wst n m ss r most k)).length) (fun k j => (wvf n m ss most (wst n m ss r most k) j : Int))) := (GR3.out.kd h6 hdl).below (below_one X4 (.cells #[.slice (some ⟨tg, 0, none⟩) wl tc] 27)); have C4 : Hid ((X4.alloc (.cells #[.slice (some ⟨tg, 0, none⟩) wl tc] 27)).ownsRow GB 3 1 (.slice (some ⟨tg, 0, none⟩) wl tc) (wvl n m ss most (wst n m ss r most k)).length (ils (fun i => (wvf n m ss most (wst n m ss r most k) i : Int)) (wvl n m ss most (wst n m ss r most k)).length)) := (by rw [← HWL.out]; exact own_below (own_base (own_kd C3.out h6 (fun g hg hx => by have h8 := (World.ownsRow.lt C3.out g hg).1; have h9 := hdl g hx; have := HGBW.out; omega)) HGBW.out) (below_one _ _)); have B4 : Hid (Below w.heap.size w (X4.alloc (.cells #[.slice (some ⟨tg, 0, none⟩) wl tc] 27))) := bstep (Kd.below B3.out h6 B3.out.size (fun g hg => by have := HRN.out.mb; have := BX.out.size; rcases hg with hg | hg; (have := (World.ownsRow.lt HRN.out.on g hg).1; omega); omega)) (below_one _ _); have S4 : Hid (GB ≤ (X4.alloc (.cells #[.slice (some ⟨tg, 0, none⟩) wl tc] 27)).heap.size) := Nat.le_trans HGBW.out (Nat.le_trans (Nat.le_trans (by have := C3.out; exact SZ3.out) h6.size) (below_one _ _).size); clear h5 h6 hdl)
          | (at_builtin; refine wpList_appS rfl _ _ rfl rfl rfl GR4.out C4.out (HGR.out.apart C3.out (Nat.le_refl _)) (by simp) (by omega) S4.out ?_; intro u5 w5 hGr5 hgrow5; obtain ⟨uo5, uc5, rfl⟩ := hGr5.open; have GR5 : Hid (Gr GB w5 (.slice uo5 (k + 1) uc5) (k + 1) (fun k => (wvl n m ss most (wst n m ss r most k)).length) (fun k j => (wvf n m ss most (wst n m ss r most k) j : Int))) := hGr5; have hlo : ∀ g, (Value.slice uo k uc).ownBlock = some g → GB ≤ g := gr_lo HGR.out; have RN5 : Hid (Rnd w5 V.heap.size G M po pc n m ss (wst n m ss r most (k + 1)).1 (wst n m ss r most (k + 1)).2) := (RN4.out.below (below_one _ _)).grown hgrow5 (fun g hg => by have := hlo g hg; have := HGV.out; omega); have B5 : Hid (Below w.heap.size w w5) := (GR4.out.base HGB.out).below_grown B4.out (Nat.le_refl _) hgrow5; have S5 : Hid (GB ≤ w5.heap.size) := Nat.le_trans S4.out hgrow5.size; clear hGr5 hgrow5 hlo)
          | go_in)
        try go_frame
        go_wp2
        go_roundw
        case rel => exact ⟨k + 1, FF + wl, uo5, uc5, rfl, by have := HW1.out; omega, HF2, S5.out, RN5.out, HWS2.out, HNF2.out, GR5.out, B5.out⟩
        case measure => simp; omega
end Go.Proofs.Ytlccicbgepfbbaa
