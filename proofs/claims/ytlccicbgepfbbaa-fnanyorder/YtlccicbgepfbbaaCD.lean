/- The blocks that can fire, in order: the program. -/
import Derived.Test.YtlccicbgepfbbaaCC
import Derived.Maps.RangeWalk
namespace Go.Proofs.Ytlccicbgepfbbaa
open Go.RowKit Go.Maps

theorem same_kb (c b : Nat) : (kb c).sameKey (kb b) = decide (c = b) := by
  by_cases e : c = b
  · rw [decide_eq_true e, e]
    simp [Lit.sameKey]
  · rw [decide_eq_false e]
    exact Maps.sameKey_ne (kb_ne e)

theorem tr_of {t3 : Nat} {n3 c3 tg n c r z : Nat} {Q : Prop} (h : (Value.slice (some ⟨t3, 0, none⟩) n3 c3).ownBlock = (Value.slice (some ⟨tg, 0, none⟩) n c).ownBlock ∨ ((Value.slice (some ⟨t3, 0, none⟩) n3 c3).ownBlock = some z ∧ Q)) (h1 : tg ≠ r) (h2 : r < z) : t3 ≠ r := by
  rcases h with h | h
  · injection h with h
    have h' : t3 = tg := h
    rw [h']
    exact h1
  · have h3 := h.1
    injection h3 with h3
    have h' : t3 = z := h3
    omega

theorem tl_snoc (TL : List Nat) (b : Nat) : ils (fun i => (((TL ++ [b]).getD i 0 : Nat) : Int)) (TL.length + 1) = ils (fun i => ((TL.getD i 0 : Nat) : Int)) TL.length ++ [.int .i64 (b : Int)] := by
  rw [ils_snoc]
  congr 1
  · refine ils_congr fun i hi => ?_
    rw [List.getD_eq_getElem?_getD, List.getD_eq_getElem?_getD, List.getElem?_append_left hi]
  · rw [List.getD_eq_getElem?_getD, List.getElem?_append_right (Nat.le_refl _), Nat.sub_self]
    rfl

/-- A list of different numbers, those that can fire: put in order they are rdl. -/
theorem tl_sorted {n m : Nat} {ss : Nat → Wr} {lf : Nat → Nat} {h : Nat → Int} {TL : List Nat} (h1 : TL.Nodup) (h2 : ∀ b, b ∈ TL ↔ b ∈ rdl n m ss lf h) : TL.length = (rdl n m ss lf h).length ∧ ∀ i, i < TL.length → srt TL.length (fun i => ((TL.getD i 0 : Nat) : Int)) i = (((rdl n m ss lf h).getD i 0 : Nat) : Int) := by
  have hp : (rdl n m ss lf h).Perm TL := (List.perm_ext_iff_of_nodup (rdl_nodup n m ss lf h) h1).2 fun b => (h2 b).symm
  have hl : TL.length = (rdl n m ss lf h).length := hp.length_eq.symm
  have ofg : ∀ K : List Nat, ofF (fun i => ((K.getD i 0 : Nat) : Int)) K.length = K.map (fun x : Nat => (x : Int)) := by
    intro K
    unfold ofF
    apply List.ext_getElem
    · simp
    · intro i h3 h4
      simp only [List.getElem_map, List.getElem_range]
      rw [List.getD_eq_getElem?_getD, List.getElem?_eq_getElem (by simpa using h4)]
      rfl
  refine ⟨hl, fun i hi => (srt_of (f := fun i => (((rdl n m ss lf h).getD i 0 : Nat) : Int)) ?_ ?_ i hi).symm⟩
  · intro a b hab hb
    have hs := rdl_sorted n m ss lf h
    have ha : a < (rdl n m ss lf h).length := by omega
    have hb2 : b < (rdl n m ss lf h).length := by omega
    have := List.pairwise_iff_getElem.1 hs a b ha hb2 hab
    show (((rdl n m ss lf h).getD a 0 : Nat) : Int) ≤ (((rdl n m ss lf h).getD b 0 : Nat) : Int)
    rw [List.getD_eq_getElem?_getD, List.getD_eq_getElem?_getD, List.getElem?_eq_getElem ha, List.getElem?_eq_getElem hb2]
    simp only [Option.getD_some]
    omega
  · rw [ofg TL, hl, ofg]
    exact hp.map _

theorem tl_room {n m : Nat} {ss : Nat → Wr} {lf : Nat → Nat} {h : Nat → Int} {TL : List Nat} {P : Nat → Prop} (h1 : TL.Nodup) (h2 : ∀ b, b ∈ TL ↔ b ∈ rdl n m ss lf h ∧ P b) (hn : n ≤ 20) : TL.length + 1 ≤ maxLen ∧ (TL.length + 1) * 8 ≤ 140737488355328 := by
  have hs : TL.length ≤ (rdl n m ss lf h).length := by
    have hp : TL.Perm ((rdl n m ss lf h).filter fun b => decide (b ∈ TL)) := (List.perm_ext_iff_of_nodup h1 (List.Pairwise.filter _ (rdl_nodup n m ss lf h))).2 fun b => by
      rw [List.mem_filter, decide_eq_true_iff]
      exact ⟨fun hb => ⟨((h2 b).1 hb).1, hb⟩, fun hb => hb.2⟩
    rw [hp.length_eq]
    exact List.length_filter_le _ _
  have hl : (rdl n m ss lf h).length ≤ n := Nat.le_trans (List.length_filter_le _ _) (by rw [List.length_range]; exact Nat.le_refl _)
  unfold maxLen
  omega

set_option maxRecDepth 20000 in
set_option maxHeartbeats 8000000 in
theorem ready_any {w : World} {B G M : Nat} {po : Option Addr} {pc n m : Nat} {ss : Nat → Wr} {lf : Nat → Nat} {h : Nat → Int} (hR : Rnd w B G M po pc n m ss lf h) (hm : m ≤ 40) (hn : n ≤ 20) :
    Calls Try.prog 71 #[.pointer (some ⟨G, 0, none⟩)] w fun e w' => ∃ g c, e = .returned (.slice (some ⟨g, 0, none⟩) (rdl n m ss lf h).length c) ∧ w'.ownsRow w.heap.size 3 1 (.slice (some ⟨g, 0, none⟩) (rdl n m ss lf h).length c) (rdl n m ss lf h).length (ils (fun i => (((rdl n m ss lf h).getD i 0 : Nat) : Int)) (rdl n m ss lf h).length) ∧ Below w.heap.size w w' := by
  obtain ⟨i0, hi, hz0, hz1, hz2⟩ := info_parts Try.info3
  have HR : Hid (Rnd w B G M po pc n m ss lf h) := hR
  have HML : Hid (M < w.heap.size) := hR.mlt
  have c1 := hR.rg.c1
  obtain ⟨D, hd, hmo⟩ := hR.om
  have HD : Hid (Due D n lf) := hd
  have hmo1 : Hid ((w.alloc (.cells #[] 3)).ownsMap Try.prog 3 (plainElem Try.prog 3) M (Maps.size D) D) := hmo.alloc _
  have c1 : (w.alloc (.cells #[] 3)).cell? ⟨G, 1, none⟩ = some (.map (some M)) := ((below_one w (.cells #[] 3)).cell (p := ⟨G, 1, none⟩) hR.rg.lt).trans c1
  have BW0 : Hid (Below w.heap.size w (w.alloc (.cells #[] 3))) := below_one _ _
  have OW0 : Hid ((w.alloc (.cells #[] 3)).ownsRow w.heap.size 3 1 (.slice (some ⟨w.heap.size, 0, none⟩) 0 0) 0 (ils (fun i => ((([] : List Nat).getD i 0 : Nat) : Int)) 0)) := own_empty w 3 1
  have e0 : (w.alloc (.cells #[] 3)).heap.size = w.heap.size + 1 := by simp
  clear hR hd hmo
  go_enter Try.func71, Try.ntmps71
  go_upto_region 2 with (fail)
  generalize w.alloc (.cells #[] 3) = W0 at *
  obtain ⟨r, hr⟩ : ∃ r, r = W0.heap.size := ⟨_, rfl⟩
  have HRW : Hid (r = w.heap.size + 1) := by show _ = _; rw [hr, e0]
  clear e0
  go_wp2_with (first
    | (at_range; refine wpList_range_own _ rfl _ 96 rfl 3 3 law3 Try.underlying96 _ M (Maps.size D) D rfl hmo1 ?_; intro w0 hrg0 hg0 hs0; have HRG0 : Hid (w0.ranges Try.prog 3 (plainElem Try.prog 3) M W0.heap.size (Maps.size D) D (Maps.has D) (Maps.size D)) := hrg0; have HB0 : Hid (Below w.heap.size w w0) := bstep BW0.out (grown_belowN hg0); have HO0 : Hid (w0.ownsRow w.heap.size 3 1 (.slice (some ⟨w.heap.size, 0, none⟩) 0 0) 0 (ils (fun i => ((([] : List Nat).getD i 0 : Nat) : Int)) 0)) := own_below OW0.out (grown_belowN hg0); clear hrg0 hg0 hs0)
    | go_in)
  try go_frame
  rw [← hr] at HRG0 ⊢
  clear hr
  go_loopw [3, 4] (fun told _ wr => ∃ (left : Lit → Bool) (cnt : Nat) (TL : List Nat) (tg tc : Nat), told = .slice (some ⟨tg, 0, none⟩) TL.length tc ∧ Hid (wr.ranges Try.prog 3 (plainElem Try.prog 3) M r (Maps.size D) D left cnt ∧ wr.ownsRow w.heap.size 3 1 (.slice (some ⟨tg, 0, none⟩) TL.length tc) TL.length (ils (fun i => ((TL.getD i 0 : Nat) : Int)) TL.length) ∧ tg ≠ r ∧ TL.Nodup ∧ (∀ b : Nat, b ∈ TL ↔ b ∈ rdl n m ss lf h ∧ left (kb b) = false) ∧ (∀ x : Int, left (.int .i64 x) = true → Maps.has D (.int .i64 x) = true) ∧ Below w.heap.size w wr)) (fun _ _ wr => wr.rangeLeft M r)
  case atStart => exact ⟨_, _, [], _, _, rfl, HRG0.out, HO0.out, by have := HRW.out; omega, List.nodup_nil, fun b => ⟨fun hb => (by cases hb), fun hb => (by
    have h1 := mem_rdl.1 hb.1
    have h2 := hb.2
    rw [show kb b = Lit.int .i64 (b : Int) from rfl, HD.out.has, show (b : Int).toNat = b by omega, decide_eq_true ⟨by omega, by omega, h1.2.1⟩] at h2
    cases h2)⟩, fun x hx => hx, HB0.out⟩
  case round =>
    obtain ⟨left, cnt, TL, tg, tc, rfl, hrel⟩ := hrel
    obtain ⟨hrg, hto, htr, hnd, hmem, hlh, hbl⟩ := hrel.out
    have HRG : Hid (wr.ranges Try.prog 3 (plainElem Try.prog 3) M r (Maps.size D) D left cnt) := hrg
    have HTO : Hid (wr.ownsRow w.heap.size 3 1 (.slice (some ⟨tg, 0, none⟩) TL.length tc) TL.length (ils (fun i => ((TL.getD i 0 : Nat) : Int)) TL.length)) := hto
    have HTR : Hid (tg ≠ r) := htr
    have HND : Hid TL.Nodup := hnd
    have HMEM : Hid (∀ b : Nat, b ∈ TL ↔ b ∈ rdl n m ss lf h ∧ left (kb b) = false) := hmem
    have HLH : Hid (∀ x : Int, left (.int .i64 x) = true → Maps.has D (.int .i64 x) = true) := hlh
    have HBL : Hid (Below w.heap.size w wr) := hbl
    have HLQ : Hid (wr.rangeLeft M r = cnt) := hrg.left_eq
    clear hrel hrg hto htr hnd hmem hlh hbl
    go_wp2_with (first
      | (at_next; refine wpList_next_ranges_ii _ rfl _ rfl 3 3 .i64 .i64 law3 Try.underlying3 Try.underlying3 M r (Maps.size D) _ _ _ rfl HRG.out ?_ ?_)
      | go_in)
    · intro _ hl0
      have HTS := tl_sorted HND.out (fun b => ⟨fun hb => ((HMEM.out b).1 hb).1, fun hb => (HMEM.out b).2 ⟨hb, hl0 _⟩⟩)
      have HTL : Hid (TL.length = (rdl n m ss lf h).length) := HTS.1
      have HTV : Hid (∀ i, i < TL.length → srt TL.length (fun i => ((TL.getD i 0 : Nat) : Int)) i = (((rdl n m ss lf h).getD i 0 : Nat) : Int)) := HTS.2
      have hll : TL.length ≤ 1048576 := by rw [HTS.1]; exact Nat.le_trans (List.length_filter_le _ _) (by rw [List.length_range]; omega)
      have is := sorted_own HTO.out hll
      clear HTS hl0 hll
      go_wp2_with (go_at_call 80; (with_reducible refine is.mono ?_); rintro e w5 ⟨rfl, h5, h6⟩; have H5 : Hid (w5.ownsRow w.heap.size 3 1 (.slice (some ⟨tg, 0, none⟩) TL.length tc) TL.length (ils (srt TL.length (fun i => ((TL.getD i 0 : Nat) : Int))) TL.length)) := h5; have H6 : Hid (Below w.heap.size w w5) := HBL.out.trans h6; clear h5 h6)
      go_ret
      refine ⟨tg, tc, congrArg (fun z => Ending.returned (.slice (some ⟨tg, 0, none⟩) z tc)) HTL.out, ?_, H6.out⟩
      have h7 := H5.out
      rw [ils_congr HTV.out, HTL.out] at h7
      exact h7
    · intro x c w1 cnt1 hwx hwc hlx hat hrg1 hlt hg1 hs1 hen
      have hh := HLH.out x hlx
      rw [HD.out.has x] at hh
      have hh2 := of_decide_eq_true hh
      obtain ⟨b, hb⟩ : ∃ b : Nat, x = (b : Int) := ⟨x.toNat, by omega⟩
      subst hb
      rw [show (b : Int).toNat = b by omega] at hh2
      have hbn : b < n := by omega
      have HLB : Hid (left (kb b) = true) := hlx
      have HLF : Hid (b < n ∧ lf b ≠ 0) := ⟨hbn, hh2.2.2⟩
      have HRG1 : Hid (w1.ranges Try.prog 3 (plainElem Try.prog 3) M r (Maps.size D) D (fun z => left z && !z.sameKey (kb b)) cnt1) := hrg1
      have HBL1 : Hid (Below w.heap.size w w1) := ⟨hg1.os.trans HBL.out.os, hg1.tape.trans HBL.out.tape, hg1.output.trans HBL.out.output, Nat.le_trans HBL.out.size hg1.size, fun k hk => (hg1.block k (Nat.lt_of_lt_of_le hk HBL.out.size) (by intro e; injection e with e; have := HRW.out; omega)).trans (HBL.out.block k hk)⟩
      have HTO1 : Hid (w1.ownsRow w.heap.size 3 1 (.slice (some ⟨tg, 0, none⟩) TL.length tc) TL.length (ils (fun i => ((TL.getD i 0 : Nat) : Int)) TL.length)) := own_kd HTO.out (grownS_kd hg1) (fun g hg e => by injection hg with hg; rw [← hg] at e; exact HTR.out e)
      have HLT : Hid (cnt1 < cnt) := hlt
      have hlq1 : ∀ b2 : Nat, (left (kb b2) && !(kb b2).sameKey (kb b)) = false ↔ (left (kb b2) = false ∨ b2 = b) := by
        intro b2
        rw [same_kb]
        by_cases e : b2 = b
        · rw [decide_eq_true e]
          exact ⟨fun _ => .inr e, fun _ => by simp⟩
        · rw [decide_eq_false e]
          exact ⟨fun h => .inl (by simpa using h), fun h => by rcases h with h | h; simp [h]; exact absurd h e⟩
      have HLQ1 : Hid (∀ b2 : Nat, (left (kb b2) && !(kb b2).sameKey (kb b)) = false ↔ (left (kb b2) = false ∨ b2 = b)) := hlq1
      clear hlq1
      have c01 := (HR.out.below HBL1.out).rg.c0
      have hic := iCan_any (b : Int) (il5_of_own (own_below HR.out.on HBL1.out)) (by omega)
      have HNB : Hid (b ∉ TL) := fun hb => by have := ((HMEM.out b).1 hb).2; rw [HLB.out] at this; cases this
      clear hh hh2 hlx hat hrg1 hg1 hs1 hlt hwc
      have HRS : Hid (r < w1.heap.size) := HRG1.out.lt
      by_cases hcn : Can m ss h (b : Int)
      · rw [show decide (Can m (nt ss h) (hav (nt ss h)) (b : Int)) = true from decide_eq_true hcn] at hic
        have HCN : Hid (Can m ss h (b : Int)) := hcn
        clear hcn
        go_wp2_with (first
          | (go_at_call 51; (with_reducible refine hic.mono ?_); rintro e w2 ⟨rfl, hb2⟩; have HRG2 : Hid (w2.ranges Try.prog 3 (plainElem Try.prog 3) M r (Maps.size D) D (fun z => left z && !z.sameKey (kb b)) cnt1) := HRG1.out.kept (below_grown hb2) (by simp) (by simp); have HTO2 : Hid _ := own_below (own_below HTO1.out hb2) (below_one w2 (.cells #[.int .i64 (b : Int)] 3)); have HBL2 : Hid (Below w.heap.size w w2) := HBL1.out.trans (hb2.mono HBL1.out.size); have HS2 : Hid (r < (w2.alloc (.cells #[.int .i64 (b : Int)] 3)).heap.size) := Nat.lt_of_lt_of_le (Nat.lt_of_lt_of_le HRS.out hb2.size) (below_one w2 (.cells #[.int .i64 (b : Int)] 3)).size; have HBS2 : Hid (w.heap.size ≤ (w2.alloc (.cells #[.int .i64 (b : Int)] 3)).heap.size) := Nat.le_trans HBL2.out.size (below_one w2 (.cells #[.int .i64 (b : Int)] 3)).size; clear hb2)
          | (at_builtin; refine wpList_app _ rfl _ _ 27 rfl w.heap.size 3 i0 (.int .i64 0) 1 8 Try.underlying27 hi hz0 hz1 hz2 rfl (by decide) _ TL.length _ rfl HTO2.out ⟨w2.heap.size, 0, none⟩ 1 1 [.int .i64 (b : Int)] rfl rfl (one_new _ _ _) (by simp [Value.oneCell']) (tl_room HND.out HMEM.out hn).1 (tl_room HND.out HMEM.out hn).2 HBS2.out (by decide) ?_; intro v3 w3 hown hgrow hor; obtain ⟨t3, c3, rfl, ht3⟩ := own_open hown; obtain ⟨tg3, rfl⟩ := ht3 (by omega); have HTO3 : Hid (w3.ownsRow w.heap.size 3 1 (.slice (some ⟨tg3, 0, none⟩) (TL.length + 1) c3) (TL.length + 1) (ils (fun i => (((TL ++ [b]).getD i 0 : Nat) : Int)) (TL.length + 1))) := (by rw [tl_snoc]; exact hown); have HRG3 : Hid (w3.ranges Try.prog 3 (plainElem Try.prog 3) M r (Maps.size D) D (fun z => left z && !z.sameKey (kb b)) cnt1) := (HRG2.out.alloc _).kept hgrow (by intro e; injection e with e; have e2 : M = tg := e; have h9 := (World.ownsRow.lt HTO2.out tg rfl).1; have := HML.out; omega) (by intro e; injection e with e; exact HTR.out e.symm); have HTR3 : Hid (tg3 ≠ r) := tr_of hor HTR.out HS2.out; have HBL3 : Hid (Below w.heap.size w w3) := grown_below (bstep HBL2.out (below_one w2 (.cells #[.int .i64 (b : Int)] 3))) (Nat.le_refl _) HTO2.out hgrow; clear hown hgrow hor ht3)
          | go_in)
        try go_frame
        go_wp2
        go_roundw
        case rel =>
          refine ⟨_, cnt1, TL ++ [b], tg3, c3, by rw [List.length_append]; rfl, HRG3.out, by rw [List.length_append]; exact HTO3.out, HTR3.out, ?_, ?_, ?_, HBL3.out⟩
          · rw [List.nodup_append]
            exact ⟨HND.out, by simp, fun x hx y hy e => by rw [List.mem_singleton] at hy; rw [e, hy] at hx; exact HNB.out hx⟩
          · intro b2
            rw [List.mem_append, List.mem_singleton, HMEM.out b2]
            have h9 := HLQ1.out b2
            constructor
            · rintro (h10 | h10)
              · exact ⟨h10.1, h9.2 (.inl h10.2)⟩
              · exact ⟨by rw [h10]; exact mem_rdl.2 ⟨HLF.out.1, HLF.out.2, HCN.out⟩, h9.2 (.inr h10)⟩
            · rintro ⟨h10, h11⟩
              rcases h9.1 h11 with h12 | h12
              · exact .inl ⟨h10, h12⟩
              · exact .inr h12
          · intro y hy
            exact HLH.out y (by have := (Bool.and_eq_true _ _ ▸ hy : left (.int .i64 y) = true ∧ _); exact this.1)
        case measure => rw [HRG3.out.left_eq, HLQ.out]; exact HLT.out
      · rw [show decide (Can m (nt ss h) (hav (nt ss h)) (b : Int)) = false from decide_eq_false hcn] at hic
        have HCN : Hid (¬ Can m ss h (b : Int)) := hcn
        clear hcn
        go_wp2_with (first
          | (go_at_call 51; (with_reducible refine hic.mono ?_); rintro e w2 ⟨rfl, hb2⟩; have HRG2 : Hid (w2.ranges Try.prog 3 (plainElem Try.prog 3) M r (Maps.size D) D (fun z => left z && !z.sameKey (kb b)) cnt1) := HRG1.out.kept (below_grown hb2) (by simp) (by simp); have HTO2 : Hid _ := own_below HTO1.out hb2; have HBL2 : Hid (Below w.heap.size w w2) := HBL1.out.trans (hb2.mono HBL1.out.size); clear hb2)
          | go_in)
        go_roundw
        case rel =>
          refine ⟨_, cnt1, TL, tg, tc, rfl, HRG2.out, HTO2.out, HTR.out, HND.out, ?_, ?_, HBL2.out⟩
          · intro b2
            rw [HMEM.out b2]
            have h9 := HLQ1.out b2
            constructor
            · rintro h10
              exact ⟨h10.1, h9.2 (.inl h10.2)⟩
            · rintro ⟨h10, h11⟩
              rcases h9.1 h11 with h12 | h12
              · exact ⟨h10, h12⟩
              · rw [h12] at h10; exact absurd (mem_rdl.1 h10).2.2 HCN.out
          · intro y hy
            exact HLH.out y (by have := (Bool.and_eq_true _ _ ▸ hy : left (.int .i64 y) = true ∧ _); exact this.1)
        case measure => rw [HRG2.out.left_eq, HLQ.out]; exact HLT.out
end Go.Proofs.Ytlccicbgepfbbaa
