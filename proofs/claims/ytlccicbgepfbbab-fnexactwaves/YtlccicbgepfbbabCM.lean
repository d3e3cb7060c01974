/- Waves of the model. -/
import Derived.Test.YtlccicbgepfbbabCJ
import Derived.Test.YtlccicbgepfbbabCN
import Derived.Test.YtlccicbgepfbbabCK
import Derived.Deep.QuietTactic
namespace Go.Proofs.Ytlccicbgepfbbab
open Go.RowKit

theorem rdl_snoc {b m : Nat} {ss : Nat → Wr} {lf : Nat → Nat} {h : Nat → Int} (hb : lf b ≠ 0 ∧ Can m ss h (b : Int)) : rdl (b + 1) m ss lf h = rdl b m ss lf h ++ [b] := by
  unfold rdl
  rw [List.range_succ, List.filter_append]
  congr 1
  simp [hb]

theorem rdl_same {b m : Nat} {ss : Nat → Wr} {lf : Nat → Nat} {h : Nat → Int} (hb : ¬ (lf b ≠ 0 ∧ Can m ss h (b : Int))) : rdl (b + 1) m ss lf h = rdl b m ss lf h := by
  unfold rdl
  rw [List.range_succ, List.filter_append, List.filter_cons_of_neg (by simpa using hb)]
  simp

theorem rdl_le (n m : Nat) (ss : Nat → Wr) (lf : Nat → Nat) (h : Nat → Int) : (rdl n m ss lf h).length ≤ n := by
  have := List.length_filter_le (fun b => decide (lf b ≠ 0 ∧ Can m ss h (b : Int))) (List.range n)
  rw [List.length_range] at this
  exact this

theorem wvl_full (n m : Nat) (ss : Nat → Wr) (s : Stt) : wvl n m ss n s = rdl n m ss s.1 s.2 := by
  unfold wvl
  exact List.take_of_length_le (rdl_le n m ss s.1 s.2)

theorem ils_app (L : List Nat) (b : Nat) : ils (fun i => (((L ++ [b]).getD i 0 : Nat) : Int)) (L.length + 1) = ils (fun i => ((L.getD i 0 : Nat) : Int)) L.length ++ [.int .i64 (b : Int)] := by
  rw [ils_snoc]
  congr 1
  · refine ils_congr fun i hi => ?_
    rw [List.getD_eq_getElem?_getD, List.getD_eq_getElem?_getD, List.getElem?_append_left hi]
  · simp

theorem own_some {w : World} {B e s n c : Nat} {ao : Option Addr} {xs : List Value} (h : w.ownsRow B e s (.slice ao n c) n xs) (hn : 0 < n) : ∃ g, ao = some ⟨g, 0, none⟩ := by
  obtain ⟨a, d, e, hl⟩ := own_open h
  injection e with e1 e2 e3
  obtain ⟨g, hg⟩ := hl hn
  exact ⟨g, e1.trans hg⟩

theorem gq_far {D : Nat → Prop} {B H : Nat} {W W' : World} {o : Value} {j : Nat} {ms : Nat → Nat} {T : Nat → Nat → Int} (h : Gq B H W o j ms T) (hk : Kd D W W') (hd : ∀ g, D g → H ≤ g) (ho : ∀ g, o.ownBlock = some g → g < H) : Gq B H W' o j ms T := by
  obtain ⟨R, h1, h2, h3⟩ := h
  exact ⟨R, own_kd h1 hk (fun g hg hx => by have := hd g hx; have := ho g hg; omega), fun k hk2 => ⟨own_kd (h2 k hk2).1 hk (fun g hg hx => by have := hd g hx; have := (h2 k hk2).2.2 g hg; omega), (h2 k hk2).2⟩, h3⟩

theorem pln_two {n m : Nat} {ss : Nat → Wr} {r : Nat → Nat} {w w' : World} {e : Ending} (h : Pln n m ss r w w' e) : (∃ K, Wend n m ss r 1 K ∧ ∃ x, e = .returned (.tuple #[x, .bool true]) ∧ Below w.heap.size w w') ∨ (∃ K, Wstk n m ss r 1 K ∧ ∃ x, e = .returned (.tuple #[x, .bool false]) ∧ Below w.heap.size w w') := by
  rcases h with ⟨K, h1, _, x, rfl, _, hb⟩ | ⟨⟨K, h1⟩, h2⟩
  · exact .inl ⟨K, h1, x, rfl, hb⟩
  · obtain ⟨x, rfl, _, hb⟩ := h2 (fun _ => 0)
    exact .inr ⟨K, h1, x, rfl, hb⟩

set_option maxRecDepth 100000 in
set_option maxHeartbeats 16000000 in
theorem sWav_any {w : World} {v : Value} {n m : Nat} {ss : Nat → Wr} {r : Nat → Nat} (hv : Ow w v m ss) (hw : Wok (n : Int) m ss) (hr : Lst (wsn ss) n m r) :
    Calls Try.prog 19 #[.int .i64 (n : Int), v] w fun e w' => (∃ K, Wend n m ss r n K ∧ ∃ u, e = .returned (.tuple #[u, .bool true]) ∧ Gs w.heap.size w' u K (fun k => (wvl n m ss n (wst n m ss r n k)).length) (fun k j => (wvf n m ss n (wst n m ss r n k) j : Int)) ∧ Below w.heap.size w w') ∨ ((∃ K, Wstk n m ss r 1 K) ∧ ∃ u, e = .returned (.tuple #[u, .bool false]) ∧ Gs w.heap.size w' u 0 (fun k => (wvl n m ss n (wst n m ss r n k)).length) (fun k j => (wvf n m ss n (wst n m ss r n k) j : Int)) ∧ Below w.heap.size w w') := by
  obtain ⟨i0, hi, hz0, hz1, hz2⟩ := info_parts Try.info3
  have h40 := hw.2.1
  have n20 : n ≤ 20 := by have := hw.1; omega
  have n1 : 1 ≤ n := by have := hw.1; omega
  have HW : Hid (Wok (n : Int) m ss) := hw
  have HV : Hid (Ow w v m ss) := hv
  have HR : Hid (Lst (wsn ss) n m r) := hr
  have HRS : Hid (smN n r ≤ 2000) := hr.1.2.2
  have iL := (sLine_any hv hw hr).mono fun e w' hb => pln_two hb
  clear hv hw hr
  go_enter Try.func19, Try.ntmps19
  go_wp2_with (first
    | (go_at_call 8; (with_reducible refine iL.mono ?_); rintro e V0 hh; rcases hh with ⟨K1, h1, x, rfl, hb⟩ | ⟨K1, h1, x, rfl, hb⟩))
  · have HKE : Hid (∃ K, Wend n m ss r n K) := wend_iff HW.out HRS.out n1 ⟨K1, h1⟩
    have B0 : Hid (Below w.heap.size w V0) := hb
    clear h1 hb iL
    have HV0 : Hid (Ow V0 v m ss) := HV.out.below B0.out
    have i1 := (sBal_any HV0.out.il5 HW.out).mono fun e w' hb => bpo_yes hb HR.out
    go_wp2_with (first
      | (go_at_call 26; (with_reducible refine i1.mono ?_); rintro e V ⟨x, rfl, ho, hb⟩; obtain ⟨lo, lc, rfl, hlg⟩ := own_open ho; obtain ⟨lg, rfl⟩ := hlg (by omega); have L0 : Hid (V.ownsRow V0.heap.size 3 1 (.slice (some ⟨lg, 0, none⟩) n lc) n (ils (fun i => ((r i : Nat) : Int)) n)) := ho; have BX : Hid (Below V0.heap.size V0 V) := hb; clear hb ho hlg)
      | (go_at_call 27; (with_reducible refine (sHave_any (HV0.out.below BX.out).il5 (by omega)).mono ?_); rintro e V2 ⟨x, rfl, ho, hb⟩; obtain ⟨ha, hc, rfl, _⟩ := own_open ho; have X0 : Hid (V2.ownsRow V.heap.size 3 1 (.slice ha m hc) m (ils (hav ss) m)) := ho; have B2 : Hid (Below V.heap.size V V2) := hb; clear hb ho))
    clear i1
    have LB : Hid (V0.heap.size ≤ lg ∧ lg < V.heap.size) := World.ownsRow.lt L0.out lg rfl
    have HBK : Hid (∀ g, (Value.slice ha m hc).ownBlock = some g → V.heap.size ≤ g ∧ g < V2.heap.size) := fun g hg => World.ownsRow.lt X0.out g hg
    have HWV : Hid (w.heap.size ≤ V0.heap.size ∧ V0.heap.size ≤ V.heap.size ∧ V.heap.size ≤ V2.heap.size) := ⟨B0.out.size, BX.out.size, B2.out.size⟩
    have L1 : Hid ((V2.alloc (.cells #[] 24)).ownsRow V0.heap.size 3 1 (.slice (some ⟨lg, 0, none⟩) n lc) n (ils (fun i => (((wst n m ss r n 0).1 i : Nat) : Int)) n)) := by
      have h9 := own_below (own_below L0.out B2.out) (below_one V2 (.cells #[] 24))
      exact row_congrV h9 (fun k hk => by show r k = if k < n then r k else 0; rw [if_pos hk])
    have H1 : Hid ((V2.alloc (.cells #[] 24)).ownsRow V.heap.size 3 1 (.slice ha m hc) m (ils (wst n m ss r n 0).2 m)) := own_below X0.out (below_one V2 (.cells #[] 24))
    have G1 : Hid (Gq V2.heap.size (V2.alloc (.cells #[] 24)).heap.size (V2.alloc (.cells #[] 24)) (.slice (some ⟨V2.heap.size, 0, none⟩) 0 0) 0 (fun k => (wvl n m ss n (wst n m ss r n k)).length) (fun k j => (wvf n m ss n (wst n m ss r n k) j : Int))) := Gq.start V2 _ _ _
    have B1 : Hid (Below w.heap.size w (V2.alloc (.cells #[] 24))) := bstep (bstep (bstep B0.out BX.out) B2.out) (below_one _ _)
    have S1 : Hid (V2.heap.size ≤ (V2.alloc (.cells #[] 24)).heap.size) := (below_one V2 (.cells #[] 24)).size
    clear X0 B2 L0 BX
    generalize V2.alloc (.cells #[] 24) = W0 at *
    go_loopw [11, 12, 13, 14] (fun u _ _ _ wr => ∃ (k : Nat) (uo : Option Addr) (uc : Nat), u = .slice uo k uc ∧ Hid (wr.ownsRow V0.heap.size 3 1 (.slice (some ⟨lg, 0, none⟩) n lc) n (ils (fun i => (((wst n m ss r n k).1 i : Nat) : Int)) n) ∧ wr.ownsRow V.heap.size 3 1 (.slice ha m hc) m (ils (wst n m ss r n k).2 m) ∧ Gq V2.heap.size wr.heap.size wr (.slice uo k uc) k (fun k => (wvl n m ss n (wst n m ss r n k)).length) (fun k j => (wvf n m ss n (wst n m ss r n k) j : Int)) ∧ (∀ j, j < k → nz n (wst n m ss r n j).1 ≠ 0 ∧ wvl n m ss n (wst n m ss r n j) ≠ []) ∧ V2.heap.size ≤ wr.heap.size ∧ Below w.heap.size w wr)) (fun u _ _ _ _ => match u with | .slice _ l _ => 2001 - l | _ => 0)
    case atStart => exact ⟨0, _, _, rfl, L1.out, H1.out, G1.out, fun j hj => by omega, S1.out, B1.out⟩
    case round =>
      obtain ⟨k, uo, uc, rfl, hrel⟩ := hrel
      generalize wr = X at *
      have HNF : Hid ((∀ j, j < k → nz n (wst n m ss r n j).1 ≠ 0 ∧ wvl n m ss n (wst n m ss r n j) ≠ [])) := hrel.out.2.2.2.1
      obtain ⟨FF, hkF, hWs⟩ := wsi_all (most := n) HW.out HRS.out k (fun j hj => (hrel.out.2.2.2.1 j hj).2)
      have HWS : Hid (Wsi n m FF (wst n m ss r n k)) := hWs
      have hF2 : FF ≤ 2000 := by have := hWs.sum; omega
      have HSX : Hid (V2.heap.size ≤ X.heap.size) := hrel.out.2.2.2.2.1
      have LX : Hid ((X.alloc (.cells #[] 3)).ownsRow V0.heap.size 3 1 (.slice (some ⟨lg, 0, none⟩) n lc) n (ils (fun i => (((wst n m ss r n k).1 i : Nat) : Int)) n)) := own_below hrel.out.1 (below_one X (.cells #[] 3))
      have HX : Hid ((X.alloc (.cells #[] 3)).ownsRow V.heap.size 3 1 (.slice ha m hc) m (ils (wst n m ss r n k).2 m)) := own_below hrel.out.2.1 (below_one X (.cells #[] 3))
      have GX : Hid (Gq V2.heap.size X.heap.size (X.alloc (.cells #[] 3)) (.slice uo k uc) k (fun k => (wvl n m ss n (wst n m ss r n k)).length) (fun k j => (wvf n m ss n (wst n m ss r n k) j : Int))) := hrel.out.2.2.1.below (below_one X (.cells #[] 3))
      have GX0 : Hid (Gq V2.heap.size X.heap.size X (.slice uo k uc) k (fun k => (wvl n m ss n (wst n m ss r n k)).length) (fun k j => (wvf n m ss n (wst n m ss r n k) j : Int))) := hrel.out.2.2.1
      have GA : Hid (∀ g, (Value.slice uo k uc).ownBlock = some g → g < X.heap.size) := fun g hg => hrel.out.2.2.1.gr.lt hg
      have BX : Hid (Below w.heap.size w (X.alloc (.cells #[] 3))) := bstep hrel.out.2.2.2.2.2 (below_one X (.cells #[] 3))
      have UX : Hid ((X.alloc (.cells #[] 3)).ownsRow X.heap.size 3 1 (.slice (some ⟨X.heap.size, 0, none⟩) 0 0) 0 (ils (fun i => (((rdl 0 m ss (wst n m ss r n k).1 (wst n m ss r n k).2).getD i 0 : Nat) : Int)) 0)) := own_empty X 3 1
      have SX : Hid (X.heap.size ≤ (X.alloc (.cells #[] 3)).heap.size) := (below_one X (.cells #[] 3)).size
      clear hrel hWs
      go_wp2
      generalize X.alloc (.cells #[] 3) = Y at *
      go_loopw [12, 13] (fun wv bv wr => ∃ (b q : Nat) (wo : Option Addr) (wc : Nat), wv = .slice wo q wc ∧ bv = .int .i64 b ∧ b ≤ n ∧ q ≤ b ∧ Hid (q = (rdl b m ss (wst n m ss r n k).1 (wst n m ss r n k).2).length ∧ wr.ownsRow V0.heap.size 3 1 (.slice (some ⟨lg, 0, none⟩) n lc) n (ils (fun i => (((wst n m ss r n k).1 i : Nat) : Int)) n) ∧ wr.ownsRow V.heap.size 3 1 (.slice ha m hc) m (ils (wst n m ss r n k).2 m) ∧ Gq V2.heap.size X.heap.size wr (.slice uo k uc) k (fun k => (wvl n m ss n (wst n m ss r n k)).length) (fun k j => (wvf n m ss n (wst n m ss r n k) j : Int)) ∧ wr.ownsRow X.heap.size 3 1 (.slice wo q wc) q (ils (fun i => (((rdl b m ss (wst n m ss r n k).1 (wst n m ss r n k).2).getD i 0 : Nat) : Int)) q) ∧ X.heap.size ≤ wr.heap.size ∧ Below w.heap.size w wr)) (fun _ bv _ => n - (intOf bv).toNat)
      case atStart => exact ⟨0, 0, _, _, rfl, rfl, by omega, by omega, rfl, LX.out, HX.out, GX.out, UX.out, SX.out, BX.out⟩
      case round =>
        obtain ⟨b, q, wo, wc, rfl, rfl, hb, hqb, hrel⟩ := hrel
        have HQ : Hid (q = (rdl b m ss (wst n m ss r n k).1 (wst n m ss r n k).2).length) := hrel.out.1
        have HL : Hid (wr.ownsRow V0.heap.size 3 1 (.slice (some ⟨lg, 0, none⟩) n lc) n (ils (fun i => (((wst n m ss r n k).1 i : Nat) : Int)) n)) := hrel.out.2.1
        have HH : Hid (wr.ownsRow V.heap.size 3 1 (.slice ha m hc) m (ils (wst n m ss r n k).2 m)) := hrel.out.2.2.1
        have HG : Hid (Gq V2.heap.size X.heap.size wr (.slice uo k uc) k (fun k => (wvl n m ss n (wst n m ss r n k)).length) (fun k j => (wvf n m ss n (wst n m ss r n k) j : Int))) := hrel.out.2.2.2.1
        have HU : Hid (wr.ownsRow X.heap.size 3 1 (.slice wo q wc) q (ils (fun i => (((rdl b m ss (wst n m ss r n k).1 (wst n m ss r n k).2).getD i 0 : Nat) : Int)) q)) := hrel.out.2.2.2.2.1
        have HS : Hid (X.heap.size ≤ wr.heap.size) := hrel.out.2.2.2.2.2.1
        have HB : Hid (Below w.heap.size w wr) := hrel.out.2.2.2.2.2.2
        clear hrel LX HX GX BX UX SX
        by_cases h2 : b < n
        · have a0 := World.ownsRow.cellAt HL.out b (by omega)
          rw [ils_get h2] at a0
          have z0 := World.ownsRow.frozenAt HL.out b
          have hlf := wsi_lf HWS.out b h2
          obtain ⟨x, hx⟩ : ∃ x, x = (wst n m ss r n k).1 b := ⟨_, rfl⟩
          have HX2 : Hid (x = (wst n m ss r n k).1 b) := hx
          rw [← hx] at a0 hlf
          clear hx
          by_cases h3 : x = 0
          · have HN2 : Hid (rdl (b + 1) m ss (wst n m ss r n k).1 (wst n m ss r n k).2 = rdl b m ss (wst n m ss r n k).1 (wst n m ss r n k).2) := rdl_same (fun h9 => h9.1 (by rw [← HX2.out]; exact h3))
            subst h3
            go_wp2
            go_roundw
            case rel => exact ⟨b + 1, q, wo, wc, rfl, by go_num, by omega, by omega, by rw [HN2.out]; exact HQ.out, HL.out, HH.out, HG.out, by rw [HN2.out]; exact HU.out, HS.out, HB.out⟩
            case measure => simp [intOf]; omega
          · have hx0 : 0 < (x : Int) := by omega
            have hxi : ¬ (x : Int) = 0 := by omega
            have HX0 : Hid (x ≠ 0) := h3
            have ic := sCan_any (b : Int) (HV.out.below HB.out).il5 (il_of_own HH.out) (by omega)
            clear h3
            by_cases h4 : Can m ss (wst n m ss r n k).2 (b : Int)
            · rw [decide_eq_true h4] at ic
              have HN2 : Hid (rdl (b + 1) m ss (wst n m ss r n k).1 (wst n m ss r n k).2 = rdl b m ss (wst n m ss r n k).1 (wst n m ss r n k).2 ++ [b]) := rdl_snoc ⟨by rw [← HX2.out]; exact HX0.out, h4⟩
              clear h4
              go_wp2_with (first
                | (go_at_call 28; (with_reducible refine ic.mono ?_); rintro e W1 ⟨rfl, hb1⟩; have HL1 : Hid ((W1.alloc (.cells #[.int .i64 (b : Int)] 3)).ownsRow V0.heap.size 3 1 (.slice (some ⟨lg, 0, none⟩) n lc) n (ils (fun i => (((wst n m ss r n k).1 i : Nat) : Int)) n)) := own_below (own_below HL.out hb1) (below_one _ _); have HH1 : Hid ((W1.alloc (.cells #[.int .i64 (b : Int)] 3)).ownsRow V.heap.size 3 1 (.slice ha m hc) m (ils (wst n m ss r n k).2 m)) := own_below (own_below HH.out hb1) (below_one _ _); have HG1 : Hid (Gq V2.heap.size X.heap.size (W1.alloc (.cells #[.int .i64 (b : Int)] 3)) (.slice uo k uc) k (fun k => (wvl n m ss n (wst n m ss r n k)).length) (fun k j => (wvf n m ss n (wst n m ss r n k) j : Int))) := (HG.out.below hb1).below (below_one _ _); have HU1 : Hid ((W1.alloc (.cells #[.int .i64 (b : Int)] 3)).ownsRow X.heap.size 3 1 (.slice wo q wc) q (ils (fun i => (((rdl b m ss (wst n m ss r n k).1 (wst n m ss r n k).2).getD i 0 : Nat) : Int)) q)) := own_below (own_below HU.out hb1) (below_one _ _); have HB1 : Hid (Below w.heap.size w (W1.alloc (.cells #[.int .i64 (b : Int)] 3))) := bstep (bstep HB.out hb1) (below_one _ _); have HS1 : Hid (X.heap.size ≤ ((W1.alloc (.cells #[.int .i64 (b : Int)] 3))).heap.size) := Nat.le_trans HS.out (Nat.le_trans hb1.size (below_one _ _).size); clear hb1 ic)
                | (at_builtin; refine wpList_app _ rfl _ _ 24 rfl X.heap.size 3 i0 (.int .i64 0) 1 8 Try.underlying24 hi hz0 hz1 hz2 rfl (by decide) _ q _ rfl HU1.out ⟨W1.heap.size, 0, none⟩ 1 1 [.int .i64 (b : Int)] rfl rfl (one_new _ _ _) (by simp [Value.oneCell']) (by unfold maxLen; omega) (by omega) HS1.out (by decide) ?_; intro u5 W5 hown hgrow _; obtain ⟨wo5, wc5, rfl, _⟩ := own_open hown; have hlo : ∀ g, (Value.slice wo q wc).ownBlock = some g → X.heap.size ≤ g := fun g hg => (World.ownsRow.lt HU1.out g hg).1; have hkg : Kd (fun g => (Value.slice wo q wc).ownBlock = some g) (W1.alloc (.cells #[.int .i64 (b : Int)] 3)) W5 := ⟨hgrow.os, hgrow.tape, hgrow.output, hgrow.size, fun q hq hd => hgrow.block q hq (fun e => hd e.symm)⟩; have HL5 : Hid (W5.ownsRow V0.heap.size 3 1 (.slice (some ⟨lg, 0, none⟩) n lc) n (ils (fun i => (((wst n m ss r n k).1 i : Nat) : Int)) n)) := own_kd HL1.out hkg (fun g hg hx => by have := hlo g hx; have hg2 : lg = g := Option.some.inj hg; have := LB.out.2; have := HWV.out.2.2; have := HSX.out; omega); have HH5 : Hid (W5.ownsRow V.heap.size 3 1 (.slice ha m hc) m (ils (wst n m ss r n k).2 m)) := own_kd HH1.out hkg (fun g hg hx => by have := hlo g hx; have := (HBK.out g hg).2; have := HSX.out; omega); have HG5 : Hid (Gq V2.heap.size X.heap.size W5 (.slice uo k uc) k (fun k => (wvl n m ss n (wst n m ss r n k)).length) (fun k j => (wvf n m ss n (wst n m ss r n k) j : Int))) := gq_far HG1.out hkg hlo GA.out; have HU5 : Hid (W5.ownsRow X.heap.size 3 1 (.slice wo5 (q + 1) wc5) (q + 1) (ils (fun i => (((rdl (b + 1) m ss (wst n m ss r n k).1 (wst n m ss r n k).2).getD i 0 : Nat) : Int)) (q + 1))) := (by rw [HN2.out, HQ.out, ils_app, ← HQ.out]; exact hown); have HB5 : Hid (Below w.heap.size w W5) := Kd.below HB1.out hkg HB1.out.size (fun g hg => by have := hlo g hg; have := HWV.out; have := HSX.out; omega); have HS5 : Hid (X.heap.size ≤ W5.heap.size) := Nat.le_trans HS1.out hgrow.size; clear hown hgrow hlo hkg)
                | go_in)
              try go_frame
              go_wp2
              go_roundw
              case rel => exact ⟨b + 1, q + 1, wo5, wc5, rfl, by go_num, by omega, by omega, by rw [HN2.out, List.length_append, ← HQ.out]; rfl, HL5.out, HH5.out, HG5.out, HU5.out, HS5.out, HB5.out⟩
              case measure => simp [intOf]; omega
            · rw [decide_eq_false h4] at ic
              have HN2 : Hid (rdl (b + 1) m ss (wst n m ss r n k).1 (wst n m ss r n k).2 = rdl b m ss (wst n m ss r n k).1 (wst n m ss r n k).2) := rdl_same (fun h9 => h4 h9.2)
              clear h4
              go_wp2_with (go_at_call 28; (with_reducible refine ic.mono ?_); rintro e W1 ⟨rfl, hb1⟩; have HL1 : Hid (W1.ownsRow V0.heap.size 3 1 (.slice (some ⟨lg, 0, none⟩) n lc) n (ils (fun i => (((wst n m ss r n k).1 i : Nat) : Int)) n)) := own_below HL.out hb1; have HH1 : Hid (W1.ownsRow V.heap.size 3 1 (.slice ha m hc) m (ils (wst n m ss r n k).2 m)) := own_below HH.out hb1; have HG1 : Hid (Gq V2.heap.size X.heap.size W1 (.slice uo k uc) k (fun k => (wvl n m ss n (wst n m ss r n k)).length) (fun k j => (wvf n m ss n (wst n m ss r n k) j : Int))) := HG.out.below hb1; have HU1 : Hid (W1.ownsRow X.heap.size 3 1 (.slice wo q wc) q (ils (fun i => (((rdl b m ss (wst n m ss r n k).1 (wst n m ss r n k).2).getD i 0 : Nat) : Int)) q)) := own_below HU.out hb1; have HB1 : Hid (Below w.heap.size w W1) := bstep HB.out hb1; have HS1 : Hid (X.heap.size ≤ W1.heap.size) := Nat.le_trans HS.out hb1.size; clear hb1 ic)
              go_roundw
              case rel => exact ⟨b + 1, q, wo, wc, rfl, by go_num, by omega, by omega, by rw [HN2.out]; exact HQ.out, HL1.out, HH1.out, HG1.out, by rw [HN2.out]; exact HU1.out, HS1.out, HB1.out⟩
              case measure => simp [intOf]; omega
        · have hbn : n = b := by omega
          subst hbn
          have HWL : Hid (q = (wvl n m ss n (wst n m ss r n k)).length) := by show _ = _; rw [wvl_full]; exact HQ.out
          by_cases hq0 : q = 0
          · have HEND : Hid (Wend n m ss r n k) := by
              refine ⟨HNF.out, ?_⟩
              rcases Nat.eq_zero_or_pos (nz n (wst n m ss r n k).1) with e | e
              · exact e
              · obtain ⟨K, hK⟩ := HKE.out
                exact (wend_stk hK ⟨HNF.out, by omega, List.eq_nil_of_length_eq_zero (by rw [← HWL.out]; exact hq0)⟩).elim
            clear HWL HQ
            subst hq0
            go_wp2
            go_ret2
            exact .inl ⟨k, HEND.out, _, rfl, ⟨_, HG.out.base (by have := HWV.out; omega)⟩, HB.out⟩
          · have hqi : ¬ (q : Int) = 0 := by omega
            have hqb0 : ((q : Int) == 0) = false := beq_false_of_ne hqi
            obtain ⟨tg, rfl⟩ := own_some HU.out (by omega)
            have HU2 : Hid (wr.ownsRow X.heap.size 3 1 (.slice (some ⟨tg, 0, none⟩) q wc) q (ils (fun i => ((wvf n m ss n (wst n m ss r n k)) i : Int)) q)) := by
              have h9 := HU.out
              rw [ils_congr (g := fun i => ((wvf n m ss n (wst n m ss r n k)) i : Int)) (fun i hi => by unfold wvf; rw [wvl_full])] at h9
              exact h9
            have HTG : Hid (X.heap.size ≤ tg) := (World.ownsRow.lt HU.out tg rfl).1
            have HNE : Hid (wvl n m ss n (wst n m ss r n k) ≠ []) := fun e => by have h9 := HWL.out; rw [e] at h9; exact hq0 h9
            have HNZ : Hid (nz n (wst n m ss r n k).1 ≠ 0) := fun e => by
              have h9 := wvl_mem (n := n) (m := m) (ss := ss) (s := (wst n m ss r n k)) (most := n) (j := 0) (by rw [← HWL.out]; omega)
              exact h9.2.1 (nz_zero.1 e _ h9.1)
            clear hq0
            go_wp2
            go_loopw [14] (fun iv wr => ∃ j : Nat, iv = .int .i64 j ∧ j ≤ q ∧ Hid (wr.ownsRow V0.heap.size 3 1 (.slice (some ⟨lg, 0, none⟩) n lc) n (ils (fun i => (((lfs (wst n m ss r n k).1 (wvf n m ss n (wst n m ss r n k)) j) i : Nat) : Int)) n) ∧ wr.ownsRow V.heap.size 3 1 (.slice ha m hc) m (ils (hsq ss (wst n m ss r n k).2 (wvf n m ss n (wst n m ss r n k)) j) m) ∧ Gq V2.heap.size X.heap.size wr (.slice uo k uc) k (fun k => (wvl n m ss n (wst n m ss r n k)).length) (fun k j => (wvf n m ss n (wst n m ss r n k) j : Int)) ∧ wr.ownsRow X.heap.size 3 1 (.slice (some ⟨tg, 0, none⟩) q wc) q (ils (fun i => ((wvf n m ss n (wst n m ss r n k)) i : Int)) q) ∧ X.heap.size ≤ wr.heap.size ∧ Below w.heap.size w wr)) (fun iv _ => q - (intOf iv).toNat)
            case atStart => exact ⟨0, rfl, by omega, HL.out, HH.out, HG.out, HU2.out, HS.out, HB.out⟩
            case round =>
              obtain ⟨j, rfl, hj, hrel⟩ := hrel
              have HL3 : Hid (wr.ownsRow V0.heap.size 3 1 (.slice (some ⟨lg, 0, none⟩) n lc) n (ils (fun i => (((lfs (wst n m ss r n k).1 (wvf n m ss n (wst n m ss r n k)) j) i : Nat) : Int)) n)) := hrel.out.1
              have HH3 : Hid (wr.ownsRow V.heap.size 3 1 (.slice ha m hc) m (ils (hsq ss (wst n m ss r n k).2 (wvf n m ss n (wst n m ss r n k)) j) m)) := hrel.out.2.1
              have HG3 : Hid (Gq V2.heap.size X.heap.size wr (.slice uo k uc) k (fun k => (wvl n m ss n (wst n m ss r n k)).length) (fun k j => (wvf n m ss n (wst n m ss r n k) j : Int))) := hrel.out.2.2.1
              have HU3 : Hid (wr.ownsRow X.heap.size 3 1 (.slice (some ⟨tg, 0, none⟩) q wc) q (ils (fun i => ((wvf n m ss n (wst n m ss r n k)) i : Int)) q)) := hrel.out.2.2.2.1
              have HS3 : Hid (X.heap.size ≤ wr.heap.size) := hrel.out.2.2.2.2.1
              have HB3 : Hid (Below w.heap.size w wr) := hrel.out.2.2.2.2.2
              clear hrel HL HH HG HU HU2 HS HB
              by_cases h5 : j < q
              · have hjl : j < (wvl n m ss n (wst n m ss r n k)).length := by rw [← HWL.out]; exact h5
                have hg := wvl_good hjl
                have hws := wsi_mid (most := n) HW.out HWS.out j (Nat.le_of_lt hjl)
                have HFT : Hid (Fit m ss (hsq ss (wst n m ss r n k).2 (wvf n m ss n (wst n m ss r n k)) j)) := wsi_fit HW.out hws
                have aw := World.ownsRow.cellAt HU3.out j (by omega)
                rw [ils_get h5] at aw
                have hlf := wsi_lf hws _ hg.1
                obtain ⟨b, hbv⟩ : ∃ b, b = (wvf n m ss n (wst n m ss r n k)) j := ⟨_, rfl⟩
                have HBB : Hid (b = (wvf n m ss n (wst n m ss r n k)) j) := hbv
                rw [← hbv] at aw hg hlf
                obtain ⟨y, hy⟩ : ∃ y, (lfs (wst n m ss r n k).1 (wvf n m ss n (wst n m ss r n k)) j) b = y + 1 := ⟨(lfs (wst n m ss r n k).1 (wvf n m ss n (wst n m ss r n k)) j) b - 1, by have := hg.2; omega⟩
                have HY : Hid ((lfs (wst n m ss r n k).1 (wvf n m ss n (wst n m ss r n k)) j) b = y + 1) := hy
                have hbn := hg.1
                have hy3 : (y : Int) ≤ 2000 := by have h9 : (lfs (wst n m ss r n k).1 (wvf n m ss n (wst n m ss r n k)) j) b ≤ 2000 := hlf; omega
                have hyc : (((y + 1 : Nat)) : Int) = (y : Int) + 1 := rfl
                clear hbv hg hy hws hjl hlf
                go_wp2_with (first
                  | (go_at_call 29; (with_reducible refine (sFire_any (b : Int) HV.out.il5 HB3.out (own_base HH3.out (by have := HWV.out; omega)) HFT.out (by omega)).mono ?_); rintro e W2 ⟨rfl, h7, h6⟩; have hne : ∀ g, (Value.slice (some ⟨lg, 0, none⟩) n lc).ownBlock = some g → ¬ (Value.slice ha m hc).ownBlock = some g := fun g hg hx => (by have hg2 : lg = g := Option.some.inj hg; have := LB.out.2; have := (HBK.out g hx).1; omega); have HL2 : Hid (W2.ownsRow V0.heap.size 3 1 (.slice (some ⟨lg, 0, none⟩) n lc) n (ils (fun i => (((lfs (wst n m ss r n k).1 (wvf n m ss n (wst n m ss r n k)) j) i : Nat) : Int)) n)) := own_kd HL3.out h6 hne; have HH2 : Hid (W2.ownsRow V.heap.size 3 1 (.slice ha m hc) m (ils (frd ss (b : Int) (hsq ss (wst n m ss r n k).2 (wvf n m ss n (wst n m ss r n k)) j)) m)) := own_up h7 (fun g hg => (HBK.out g hg).1); have HG2 : Hid (Gq V2.heap.size X.heap.size W2 (.slice uo k uc) k (fun k => (wvl n m ss n (wst n m ss r n k)).length) (fun k j => (wvf n m ss n (wst n m ss r n k) j : Int))) := HG3.out.kd h6 (fun g hg => (HBK.out g hg).2); have HU2 : Hid (W2.ownsRow X.heap.size 3 1 (.slice (some ⟨tg, 0, none⟩) q wc) q (ils (fun i => ((wvf n m ss n (wst n m ss r n k)) i : Int)) q)) := own_kd HU3.out h6 (fun g hg hx => by have := (World.ownsRow.lt HU3.out g hg).1; have := (HBK.out g hx).2; have := HSX.out; omega); have HB2 : Hid (Below w.heap.size w W2) := Kd.below HB3.out h6 HB3.out.size (fun g hg => by have := (HBK.out g hg).1; have := HWV.out; omega); have HS2 : Hid (X.heap.size ≤ W2.heap.size) := Nat.le_trans HS3.out h6.size; have aw2 := World.ownsRow.cellAt HU2.out j (by omega); rw [ils_get h5, ← HBB.out] at aw2; have a2 := World.ownsRow.cellAt HL2.out b (by omega); rw [ils_get hbn, HY.out, hyc] at a2; have z2 := World.ownsRow.frozenAt HL2.out b; have HK3 : Hid (Kd (fun g => g = lg) W2 (W2.setCell ⟨lg, b, none⟩ (.int .i64 (y : Int)))) := (Kd.refl (fun g => g = lg) W2).put (.inl rfl) b _; have HL4 : Hid ((W2.setCell ⟨lg, b, none⟩ (.int .i64 (y : Int))).ownsRow V0.heap.size 3 1 (.slice (some ⟨lg, 0, none⟩) n lc) n (ils (fun i => ((dec (lfs (wst n m ss r n k).1 (wvf n m ss n (wst n m ss r n k)) j) b i : Nat) : Int)) n)) := row_congrV (own_putV (j := b) (y := y) HL2.out) (fun i hi => by unfold dec; by_cases e : i = b; rw [if_pos e, if_pos e, HY.out]; rfl; rw [if_neg e, if_neg e]); have HH4 : Hid ((W2.setCell ⟨lg, b, none⟩ (.int .i64 (y : Int))).ownsRow V.heap.size 3 1 (.slice ha m hc) m (ils (frd ss (b : Int) (hsq ss (wst n m ss r n k).2 (wvf n m ss n (wst n m ss r n k)) j)) m)) := own_kd HH2.out HK3.out (fun g hg e => by have := (HBK.out g hg).1; have := LB.out.2; omega); have HG4 : Hid (Gq V2.heap.size X.heap.size (W2.setCell ⟨lg, b, none⟩ (.int .i64 (y : Int))) (.slice uo k uc) k (fun k => (wvl n m ss n (wst n m ss r n k)).length) (fun k j => (wvf n m ss n (wst n m ss r n k) j : Int))) := HG2.out.kd HK3.out (fun g hg => by have := LB.out.2; have := HWV.out.2.2; omega); have HU4 : Hid ((W2.setCell ⟨lg, b, none⟩ (.int .i64 (y : Int))).ownsRow X.heap.size 3 1 (.slice (some ⟨tg, 0, none⟩) q wc) q (ils (fun i => ((wvf n m ss n (wst n m ss r n k)) i : Int)) q)) := own_kd HU2.out HK3.out (fun g hg e => by have := (World.ownsRow.lt HU2.out g hg).1; have := LB.out.2; have := HWV.out.2.2; have := HSX.out; omega); have HB4 : Hid (Below w.heap.size w (W2.setCell ⟨lg, b, none⟩ (.int .i64 (y : Int)))) := Kd.below HB2.out HK3.out HB2.out.size (fun g hg => by rw [hg]; exact Nat.le_trans HWV.out.1 LB.out.1); have HS4 : Hid (X.heap.size ≤ ((W2.setCell ⟨lg, b, none⟩ (.int .i64 (y : Int)))).heap.size) := Nat.le_trans HS2.out HK3.out.size; clear h7 h6 hne)
                  | go_in)
                go_roundw
                case rel =>
                  have eL : (lfs (wst n m ss r n k).1 (wvf n m ss n (wst n m ss r n k)) (j + 1)) = dec (lfs (wst n m ss r n k).1 (wvf n m ss n (wst n m ss r n k)) j) b := by rw [HBB.out]; rfl
                  have eH : (hsq ss (wst n m ss r n k).2 (wvf n m ss n (wst n m ss r n k)) (j + 1)) = frd ss (b : Int) (hsq ss (wst n m ss r n k).2 (wvf n m ss n (wst n m ss r n k)) j) := by rw [HBB.out]; rfl
                  exact ⟨j + 1, by go_num, by omega, by rw [eL]; exact HL4.out, by rw [eH]; exact HH4.out, HG4.out, HU4.out, HS4.out, HB4.out⟩
                case measure => simp [intOf]; omega
              · have hjq : q = j := by omega
                subst hjq
                have HGa : Hid (Gq V2.heap.size X.heap.size (wr.alloc (.cells #[.slice (some ⟨tg, 0, none⟩) q wc] 24)) (.slice uo k uc) k (fun k => (wvl n m ss n (wst n m ss r n k)).length) (fun k j => (wvf n m ss n (wst n m ss r n k) j : Int))) := HG3.out.below (below_one _ _)
                have C4 : Hid ((wr.alloc (.cells #[.slice (some ⟨tg, 0, none⟩) q wc] 24)).ownsRow V2.heap.size 3 1 (.slice (some ⟨tg, 0, none⟩) q wc) (wvl n m ss n (wst n m ss r n k)).length (ils (fun i => ((wvf n m ss n (wst n m ss r n k)) i : Int)) (wvl n m ss n (wst n m ss r n k)).length)) := by rw [← HWL.out]; exact own_below (own_base HU3.out HSX.out) (below_one _ _)
                have HB4 : Hid (Below w.heap.size w (wr.alloc (.cells #[.slice (some ⟨tg, 0, none⟩) q wc] 24))) := bstep HB3.out (below_one _ _)
                have S4 : Hid (V2.heap.size ≤ ((wr.alloc (.cells #[.slice (some ⟨tg, 0, none⟩) q wc] 24))).heap.size) := Nat.le_trans HSX.out (Nat.le_trans HS3.out (below_one _ _).size)
                have HS4 : Hid (X.heap.size ≤ ((wr.alloc (.cells #[.slice (some ⟨tg, 0, none⟩) q wc] 24))).heap.size) := Nat.le_trans HS3.out (below_one _ _).size
                go_wp2_with (first
                  | (at_builtin; refine wpList_appQ rfl _ _ rfl rfl rfl HGa.out C4.out (GX0.out.gr.apart HU3.out (Nat.le_refl _)) (fun g hg => (World.ownsRow.lt HU3.out g hg).1) HS4.out (by simp) (by omega) S4.out ?_; intro u5 w5 hGr5 hgrow5; obtain ⟨uo5, uc5, rfl⟩ := hGr5.gr.open; have HG5 : Hid (Gq V2.heap.size w5.heap.size w5 (.slice uo5 (k + 1) uc5) (k + 1) (fun k => (wvl n m ss n (wst n m ss r n k)).length) (fun k j => (wvf n m ss n (wst n m ss r n k) j : Int))) := hGr5; have hlo : ∀ g, (Value.slice uo k uc).ownBlock = some g → V2.heap.size ≤ g := gr_lo HG3.out.gr; have hkg : Kd (fun g => (Value.slice uo k uc).ownBlock = some g) (wr.alloc (.cells #[.slice (some ⟨tg, 0, none⟩) q wc] 24)) w5 := ⟨hgrow5.os, hgrow5.tape, hgrow5.output, hgrow5.size, fun q hq hd => hgrow5.block q hq (fun e => hd e.symm)⟩; have HL5 : Hid (w5.ownsRow V0.heap.size 3 1 (.slice (some ⟨lg, 0, none⟩) n lc) n (ils (fun i => (((lfs (wst n m ss r n k).1 (wvf n m ss n (wst n m ss r n k)) q) i : Nat) : Int)) n)) := own_kd (own_below HL3.out (below_one _ _)) hkg (fun g hg hx => by have := hlo g hx; have hg2 : lg = g := Option.some.inj hg; have := LB.out.2; have := HWV.out.2.2; omega); have HH5 : Hid (w5.ownsRow V.heap.size 3 1 (.slice ha m hc) m (ils (hsq ss (wst n m ss r n k).2 (wvf n m ss n (wst n m ss r n k)) q) m)) := own_kd (own_below HH3.out (below_one _ _)) hkg (fun g hg hx => by have := hlo g hx; have := (HBK.out g hg).2; omega); have B5 : Hid (Below w.heap.size w w5) := Kd.below HB4.out hkg HB4.out.size (fun g hg => by have := hlo g hg; have := HWV.out; omega); have S5 : Hid (V2.heap.size ≤ w5.heap.size) := Nat.le_trans S4.out hgrow5.size; clear hGr5 hgrow5 hlo hkg)
                  | go_in)
                try go_frame
                go_wp2
                go_roundw
                case rel =>
                  have e1 : wst n m ss r n (k + 1) = ((lfs (wst n m ss r n k).1 (wvf n m ss n (wst n m ss r n k)) q), (hsq ss (wst n m ss r n k).2 (wvf n m ss n (wst n m ss r n k)) q)) := by show wnx n m ss n (wst n m ss r n k) = _; unfold wnx; rw [← HWL.out]
                  exact ⟨k + 1, uo5, uc5, rfl, by rw [e1]; exact HL5.out, by rw [e1]; exact HH5.out, HG5.out, all_snoc HNF.out ⟨HNZ.out, HNE.out⟩, S5.out, B5.out⟩
                case measure => simp; omega
  · have HS1 : Hid (∃ K, Wstk n m ss r 1 K) := ⟨K1, h1⟩
    have B0 : Hid (Below w.heap.size w V0) := hb
    clear h1 hb iL
    go_wp2
    go_ret2
    exact .inr ⟨HS1.out, _, rfl, ⟨0, (Gq.start V0 0 _ _).base B0.out.size⟩, bstep B0.out (below_one _ _)⟩
end Go.Proofs.Ytlccicbgepfbbab
