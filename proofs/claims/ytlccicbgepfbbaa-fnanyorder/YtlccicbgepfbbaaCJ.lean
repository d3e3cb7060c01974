/- Line of the model. -/
import Derived.Test.YtlccicbgepfbbaaCI
import Derived.Deep.QuietTactic
namespace Go.Proofs.Ytlccicbgepfbbaa
open Go.RowKit

theorem rdl_head {n m : Nat} {ss : Nat → Wr} {s : Stt} {b : Nat} (hb : b < n) (h1 : ∀ c, c < b → ¬ (s.1 c ≠ 0 ∧ Can m ss s.2 (c : Int))) (h2 : s.1 b ≠ 0 ∧ Can m ss s.2 (b : Int)) : wvl n m ss 1 s = [b] := by
  have hs := rdl_sorted n m ss s.1 s.2
  have hm : b ∈ rdl n m ss s.1 s.2 := mem_rdl.2 ⟨hb, h2⟩
  unfold wvl
  cases hl : rdl n m ss s.1 s.2 with
  | nil => rw [hl] at hm; cases hm
  | cons a t =>
    rw [hl] at hs hm
    have ha : a ∈ rdl n m ss s.1 s.2 := by rw [hl]; exact List.mem_cons_self
    have h3 := mem_rdl.1 ha
    have h4 : a = b := by
      rcases Nat.lt_trichotomy a b with e | e | e
      · exact absurd h3.2 (h1 a e)
      · exact e
      · rcases List.mem_cons.1 hm with h5 | h5
        · exact h5.symm
        · have := (List.pairwise_cons.1 hs).1 b h5
          omega
    rw [h4]
    rfl

theorem rdl_none {n m : Nat} {ss : Nat → Wr} {s : Stt} {most : Nat} (h1 : ∀ c, c < n → ¬ (s.1 c ≠ 0 ∧ Can m ss s.2 (c : Int))) : wvl n m ss most s = [] := by
  have : rdl n m ss s.1 s.2 = [] := by
    cases hl : rdl n m ss s.1 s.2 with
    | nil => rfl
    | cons a t =>
      have ha : a ∈ rdl n m ss s.1 s.2 := by rw [hl]; exact List.mem_cons_self
      have h3 := mem_rdl.1 ha
      exact absurd h3.2 (h1 a h3.1)
  unfold wvl
  rw [this]
  exact List.take_nil

theorem wst1_next {n m : Nat} {ss : Nat → Wr} {r : Nat → Nat} {k b : Nat} (h : wvl n m ss 1 (wst n m ss r 1 k) = [b]) : wst n m ss r 1 (k + 1) = (dec (wst n m ss r 1 k).1 b, frd ss (b : Int) (wst n m ss r 1 k).2) ∧ wvf n m ss 1 (wst n m ss r 1 k) 0 = b := by
  have hb : wvf n m ss 1 (wst n m ss r 1 k) 0 = b := by unfold wvf; rw [h]; rfl
  refine ⟨?_, hb⟩
  show wnx n m ss 1 (wst n m ss r 1 k) = _
  unfold wnx
  rw [h]
  show (dec (wst n m ss r 1 k).1 (wvf n m ss 1 (wst n m ss r 1 k) 0), frd ss (wvf n m ss 1 (wst n m ss r 1 k) 0 : Int) (wst n m ss r 1 k).2) = _
  rw [hb]

theorem own_up {w : World} {B B' s n : Nat} {e : TypeId} {v : Value} {xs : List Value} (h : w.ownsRow B e s v n xs) (hB : ∀ g, v.ownBlock = some g → B' ≤ g) : w.ownsRow B' e s v n xs := by
  refine ⟨h.1, ?_⟩
  rcases h.2 with h' | ⟨g', cap', cur, rfl, hb', rest⟩
  · exact .inl h'
  · exact .inr ⟨g', cap', cur, rfl, hB g' rfl, rest⟩

theorem nz_sum {n : Nat} {lf : Nat → Nat} : nz n lf = 0 ↔ smN n lf = 0 := by
  rw [nz_zero]
  constructor
  · intro h
    have h1 : smN n lf ≤ smN n (fun _ => 0) := smN_le fun k hk => by rw [h k hk]; exact Nat.le_refl _
    rw [smN_const] at h1
    omega
  · intro h k hk
    have := smN_one (f := lf) hk
    omega

set_option maxRecDepth 100000 in
set_option maxHeartbeats 16000000 in
theorem sLine_any {w : World} {v : Value} {n m : Nat} {ss : Nat → Wr} {r : Nat → Nat} (hv : Ow w v m ss) (hw : Wok (n : Int) m ss) (hr : Lst (wsn ss) n m r) :
    Calls Try.prog 14 #[.int .i64 (n : Int), v] w fun e w' => Pln n m ss r w w' e := by
  obtain ⟨i0, hi, hz0, hz1, hz2⟩ := info_parts Try.info3
  have h40 := hw.2.1
  have n20 : n ≤ 20 := by have := hw.1; omega
  have HW : Hid (Wok (n : Int) m ss) := hw
  have HV : Hid (Ow w v m ss) := hv
  have HRS : Hid (smN n r ≤ 2000) := hr.1.2.2
  have i1 := (sBal_any hv.il5 hw).mono fun e w' hb => bpo_yes hb hr
  clear hv hw hr
  go_enter Try.func14, Try.ntmps14
  go_wp2_with (first
    | (go_at_call 13; (with_reducible refine i1.mono ?_); rintro e V ⟨x, rfl, ho, hb⟩; obtain ⟨lo, lc, rfl, hlg⟩ := own_open ho; have L0 : Hid (V.ownsRow w.heap.size 3 1 (.slice lo n lc) n (ils (fun i => (r i : Int)) n)) := ho; have HLG : Hid (0 < n → ∃ g, lo = some ⟨g, 0, none⟩) := hlg; have BX : Hid (Below w.heap.size w V) := hb; clear hb ho hlg))
  clear i1
  have HMX : Hid (∀ k, k ≤ n → smN k r ≤ 2000) := by
    intro k hk
    have : ∀ j, smN k r ≤ smN (k + j) r := by
      intro j
      induction j with
      | zero => exact Nat.le_refl _
      | succ j ih => exact Nat.le_trans ih (Nat.le_add_right _ _)
    have h9 := this (n - k)
    rw [show k + (n - k) = n by omega] at h9
    have := HRS.out
    omega
  go_loopw [8, 9] (fun sm kv wr => ∃ k : Nat, kv = .int .i64 k ∧ k ≤ n ∧ sm = .int .i64 ((smN k r : Nat) : Int) ∧ Hid (wr.ownsRow w.heap.size 3 1 (.slice lo n lc) n (ils (fun i => (r i : Int)) n)) ∧ Hid (Below w.heap.size w wr)) (fun _ kv _ => n - (intOf kv).toNat)
  case atStart => exact ⟨0, rfl, by omega, rfl, L0.out, BX.out⟩
  case round =>
    obtain ⟨k, rfl, hk, rfl, HL4, HBW⟩ := hrel
    have b1 := HMX.out k hk
    by_cases h3 : k < n
    · obtain ⟨lg, rfl⟩ := HLG.out (by omega)
      have a0 := World.ownsRow.cellAt HL4.out k (by omega)
      rw [ils_get h3] at a0
      have b2 := HMX.out (k + 1) (by omega)
      obtain ⟨x, hx⟩ : ∃ x, x = smN k r := ⟨_, rfl⟩
      obtain ⟨y, hy⟩ : ∃ y, y = r k := ⟨_, rfl⟩
      have HE : Hid (smN (k + 1) r = x + y) := by show smN k r + r k = _; rw [hx, hy]
      have b3 : x + y ≤ 2000 := by rw [← HE.out]; exact b2
      rw [← hx] at b1 ⊢
      rw [← hy] at a0
      clear hx hy b2
      have hx3 : (x : Int) ≤ 2000 := by omega
      have hy3 : (y : Int) ≤ 2000 := by omega
      clear b1 b3
      go_wp2
      go_roundw
      case rel => exact ⟨k + 1, by go_num, by omega, by rw [HE.out]; go_num, HL4.out, HBW.out⟩
      case measure => simp [intOf]; omega
    · have hkn : n = k := by omega
      subst hkn
      clear L0 BX hk h3 b1
      have HRS2 : Hid (smN n r ≤ 2000) := HRS.out
      obtain ⟨al, hal⟩ : ∃ a, a = smN n r := ⟨_, rfl⟩
      have HAL : Hid (al = smN n r) := hal
      rw [← hal]
      have hal2 : al ≤ 2000 := by rw [hal]; exact HRS.out
      clear hal
      generalize wr = V at *
      have HV1 : Hid (Ow V v m ss) := HV.out.below HBW.out
      go_wp2_with (first
        | (go_at_call 46; (with_reducible refine (sHave_any HV1.out.il5 (by omega)).mono ?_); rintro e V2 ⟨x, rfl, ho, hb⟩; obtain ⟨ha, hc, rfl, _⟩ := own_open ho; have X0 : Hid (V2.ownsRow V.heap.size 3 1 (.slice ha m hc) m (ils (hav ss) m)) := ho; have B2 : Hid (Below V.heap.size V V2) := hb; clear hb ho))
      have LB : Hid (∀ g, (Value.slice lo n lc).ownBlock = some g → w.heap.size ≤ g ∧ g < V.heap.size) := fun g hg => World.ownsRow.lt HL4.out g hg
      have HBK : Hid (∀ g, (Value.slice ha m hc).ownBlock = some g → V.heap.size ≤ g ∧ g < V2.heap.size) := fun g hg => World.ownsRow.lt X0.out g hg
      have HWV : Hid (w.heap.size ≤ V.heap.size ∧ V.heap.size ≤ V2.heap.size) := ⟨HBW.out.size, B2.out.size⟩
      have L0 : Hid ((V2.alloc (.cells #[] 3)).ownsRow w.heap.size 3 1 (.slice lo n lc) n (ils (fun i => (((wst n m ss r 1 0).1 i : Nat) : Int)) n)) := by
        have h9 := own_below (own_below HL4.out B2.out) (below_one V2 (.cells #[] 3))
        exact row_congrV h9 (fun k hk => by show r k = if k < n then r k else 0; rw [if_pos hk])
      have H0 : Hid ((V2.alloc (.cells #[] 3)).ownsRow V.heap.size 3 1 (.slice ha m hc) m (ils (wst n m ss r 1 0).2 m)) := own_below X0.out (below_one V2 (.cells #[] 3))
      have U0 : Hid ((V2.alloc (.cells #[] 3)).ownsRow V2.heap.size 3 1 (.slice (some ⟨V2.heap.size, 0, none⟩) 0 0) 0 (ils (fun k => (wvf n m ss 1 (wst n m ss r 1 k) 0 : Int)) 0)) := own_empty V2 3 1
      have B0 : Hid (Below w.heap.size w (V2.alloc (.cells #[] 3))) := bstep (bstep HBW.out B2.out) (below_one _ _)
      have SV2 : Hid (V2.heap.size ≤ (V2.alloc (.cells #[] 3)).heap.size) := (below_one V2 (.cells #[] 3)).size
      clear X0 B2 HL4 HBW
      generalize V2.alloc (.cells #[] 3) = W0 at *
      go_loopw [11, 12] (fun u _ wr => ∃ (k : Nat) (uo : Option Addr) (uc : Nat), u = .slice uo k uc ∧ k ≤ al ∧ Hid (wr.ownsRow w.heap.size 3 1 (.slice lo n lc) n (ils (fun i => (((wst n m ss r 1 k).1 i : Nat) : Int)) n) ∧ wr.ownsRow V.heap.size 3 1 (.slice ha m hc) m (ils (wst n m ss r 1 k).2 m) ∧ wr.ownsRow V2.heap.size 3 1 (.slice uo k uc) k (ils (fun k => (wvf n m ss 1 (wst n m ss r 1 k) 0 : Int)) k) ∧ smN n (wst n m ss r 1 k).1 + k = al ∧ (∀ j, j < k → nz n (wst n m ss r 1 j).1 ≠ 0 ∧ wvl n m ss 1 (wst n m ss r 1 j) ≠ []) ∧ (∀ c, c < n → (wst n m ss r 1 k).1 c ≤ 2000) ∧ Fit m ss (wst n m ss r 1 k).2 ∧ V2.heap.size ≤ wr.heap.size ∧ Below w.heap.size w wr)) (fun u _ _ => match u with | .slice _ l _ => 2001 - l | _ => 0)
      case atStart => exact ⟨0, _, _, rfl, by omega, L0.out, H0.out, U0.out, by (show smN n (fun b => if b < n then r b else 0) + 0 = al); rw [smN_congr (g := r) fun k hk => if_pos hk, HAL.out]; rfl, fun j hj => by omega, fun c hc => (by show (if c < n then r c else 0) ≤ 2000; rw [if_pos hc]; have h9 := smN_one (f := r) hc; have := HRS.out; omega), fun i hi => (by have h9 := HW.out.2.2 i hi; unfold Wgd at h9; show (-1000000000 ≤ hav ss i ∧ hav ss i ≤ 1000000000) ∧ _; unfold hav; omega), SV2.out, B0.out⟩
      case round =>
        obtain ⟨k, uo, uc, rfl, hk, hrel⟩ := hrel
        have HL : Hid (wr.ownsRow w.heap.size 3 1 (.slice lo n lc) n (ils (fun i => (((wst n m ss r 1 k).1 i : Nat) : Int)) n)) := hrel.out.1
        have HH : Hid (wr.ownsRow V.heap.size 3 1 (.slice ha m hc) m (ils (wst n m ss r 1 k).2 m)) := hrel.out.2.1
        have HU : Hid (wr.ownsRow V2.heap.size 3 1 (.slice uo k uc) k (ils (fun k => (wvf n m ss 1 (wst n m ss r 1 k) 0 : Int)) k)) := hrel.out.2.2.1
        have HSM : Hid (smN n (wst n m ss r 1 k).1 + k = al) := hrel.out.2.2.2.1
        have HNF : Hid ((∀ j, j < k → nz n (wst n m ss r 1 j).1 ≠ 0 ∧ wvl n m ss 1 (wst n m ss r 1 j) ≠ [])) := hrel.out.2.2.2.2.1
        have HLF : Hid (∀ c, c < n → (wst n m ss r 1 k).1 c ≤ 2000) := hrel.out.2.2.2.2.2.1
        have HFT : Hid (Fit m ss (wst n m ss r 1 k).2) := hrel.out.2.2.2.2.2.2.1
        have HSZ : Hid (V2.heap.size ≤ wr.heap.size) := hrel.out.2.2.2.2.2.2.2.1
        have HB : Hid (Below w.heap.size w wr) := hrel.out.2.2.2.2.2.2.2.2
        clear hrel
        by_cases h1 : k < al
        · have HNZ : Hid (nz n (wst n m ss r 1 k).1 ≠ 0) := fun e => by have h9 := nz_sum.1 e; have := HSM.out; omega
          go_wp2
          go_loopw [12] (fun bv wr => ∃ b : Nat, bv = .int .i64 b ∧ b ≤ n ∧ Hid (wr.ownsRow w.heap.size 3 1 (.slice lo n lc) n (ils (fun i => (((wst n m ss r 1 k).1 i : Nat) : Int)) n) ∧ wr.ownsRow V.heap.size 3 1 (.slice ha m hc) m (ils (wst n m ss r 1 k).2 m) ∧ wr.ownsRow V2.heap.size 3 1 (.slice uo k uc) k (ils (fun k => (wvf n m ss 1 (wst n m ss r 1 k) 0 : Int)) k) ∧ (∀ c, c < b → ¬ ((wst n m ss r 1 k).1 c ≠ 0 ∧ Can m ss (wst n m ss r 1 k).2 (c : Int))) ∧ V2.heap.size ≤ wr.heap.size ∧ Below w.heap.size w wr)) (fun bv _ => n - (intOf bv).toNat)
          case atStart => exact ⟨0, rfl, by omega, HL.out, HH.out, HU.out, fun c hc => by omega, HSZ.out, HB.out⟩
          case round =>
            obtain ⟨b, rfl, hb, hrel⟩ := hrel
            have HL : Hid (wr.ownsRow w.heap.size 3 1 (.slice lo n lc) n (ils (fun i => (((wst n m ss r 1 k).1 i : Nat) : Int)) n)) := hrel.out.1
            have HH : Hid (wr.ownsRow V.heap.size 3 1 (.slice ha m hc) m (ils (wst n m ss r 1 k).2 m)) := hrel.out.2.1
            have HU : Hid (wr.ownsRow V2.heap.size 3 1 (.slice uo k uc) k (ils (fun k => (wvf n m ss 1 (wst n m ss r 1 k) 0 : Int)) k)) := hrel.out.2.2.1
            have HNO : Hid (∀ c, c < b → ¬ ((wst n m ss r 1 k).1 c ≠ 0 ∧ Can m ss (wst n m ss r 1 k).2 (c : Int))) := hrel.out.2.2.2.1
            have HSZ : Hid (V2.heap.size ≤ wr.heap.size) := hrel.out.2.2.2.2.1
            have HB : Hid (Below w.heap.size w wr) := hrel.out.2.2.2.2.2
            clear hrel
            by_cases h2 : b < n
            · obtain ⟨lg, rfl⟩ := HLG.out (by omega)
              have a0 := World.ownsRow.cellAt HL.out b (by omega)
              rw [ils_get h2] at a0
              have z0 := World.ownsRow.frozenAt HL.out b
              have hlf := HLF.out b h2
              obtain ⟨x, hx⟩ : ∃ x, x = (wst n m ss r 1 k).1 b := ⟨_, rfl⟩
              have HX : Hid (x = (wst n m ss r 1 k).1 b) := hx
              rw [← hx] at a0 hlf
              clear hx
              by_cases h3 : x = 0
              · have HN2 : Hid (∀ c, c < b + 1 → ¬ ((wst n m ss r 1 k).1 c ≠ 0 ∧ Can m ss (wst n m ss r 1 k).2 (c : Int))) := all_snoc HNO.out (fun h9 => h9.1 (by rw [← HX.out]; exact h3))
                subst h3
                go_wp2
                go_roundw
                case rel => exact ⟨b + 1, by go_num, by omega, HL.out, HH.out, HU.out, HN2.out, HSZ.out, HB.out⟩
                case measure => simp [intOf]; omega
              · have hx0 : ((x : Int) == 0) = false := beq_false_of_ne (by omega)
                have hxi : ¬ (x : Int) = 0 := by omega
                have HX0 : Hid (x ≠ 0) := h3
                have ic := sCan_any (b : Int) (HV.out.below HB.out).il5 (il_of_own HH.out) (by omega)
                clear h3
                by_cases h4 : Can m ss (wst n m ss r 1 k).2 (b : Int)
                · rw [decide_eq_true h4] at ic
                  have HCN : Hid (Can m ss (wst n m ss r 1 k).2 (b : Int)) := h4
                  have HW1 : Hid (wvl n m ss 1 (wst n m ss r 1 k) = [b]) := rdl_head h2 HNO.out ⟨by rw [← HX.out]; exact HX0.out, h4⟩
                  clear h4
                  obtain ⟨y, hy⟩ : ∃ y, x = y + 1 := ⟨x - 1, by have := HX0.out; omega⟩
                  have HY : Hid ((wst n m ss r 1 k).1 b = y + 1) := by show _ = _; rw [← HX.out]; exact hy
                  subst hy
                  have hbn : ¬ (b : Int) = (n : Int) := by omega
                  have hy3 : (y : Int) ≤ 2000 := by omega
                  have hyc : (((y + 1 : Nat)) : Int) = (y : Int) + 1 := rfl
                  rw [hyc] at a0 hx0 hxi
                  go_wp2_with (first
                    | (go_at_call 47; (with_reducible refine ic.mono ?_); rintro e W1 ⟨rfl, hb1⟩; have HL1 : Hid (W1.ownsRow w.heap.size 3 1 (.slice (some ⟨lg, 0, none⟩) n lc) n (ils (fun i => (((wst n m ss r 1 k).1 i : Nat) : Int)) n)) := own_below HL.out hb1; have HH1 : Hid (W1.ownsRow V.heap.size 3 1 (.slice ha m hc) m (ils (wst n m ss r 1 k).2 m)) := own_below HH.out hb1; have HU1 : Hid (W1.ownsRow V2.heap.size 3 1 (.slice uo k uc) k (ils (fun k => (wvf n m ss 1 (wst n m ss r 1 k) 0 : Int)) k)) := own_below HU.out hb1; have HB1 : Hid (Below w.heap.size w W1) := bstep HB.out hb1; have HS1 : Hid (V2.heap.size ≤ W1.heap.size) := Nat.le_trans HSZ.out hb1.size; clear hb1 ic)
                    | (go_at_call 48; (with_reducible refine (sFire_any (b : Int) HV.out.il5 HB1.out (own_base HH1.out HWV.out.1) HFT.out (by omega)).mono ?_); rintro e W2 ⟨rfl, h5, h6⟩; have hne : ∀ g, (Value.slice (some ⟨lg, 0, none⟩) n lc).ownBlock = some g → ¬ (Value.slice ha m hc).ownBlock = some g := fun g hg hx => (by have := (LB.out g hg).2; have := (HBK.out g hx).1; omega); have HL2 : Hid (W2.ownsRow w.heap.size 3 1 (.slice (some ⟨lg, 0, none⟩) n lc) n (ils (fun i => (((wst n m ss r 1 k).1 i : Nat) : Int)) n)) := own_kd HL1.out h6 hne; have HH2 : Hid (W2.ownsRow V.heap.size 3 1 (.slice ha m hc) m (ils (frd ss (b : Int) (wst n m ss r 1 k).2) m)) := own_up h5 (fun g hg => (HBK.out g hg).1); have HU2 : Hid (W2.ownsRow V2.heap.size 3 1 (.slice uo k uc) k (ils (fun k => (wvf n m ss 1 (wst n m ss r 1 k) 0 : Int)) k)) := own_kd HU1.out h6 (fun g hg hx => by have := (World.ownsRow.lt HU1.out g hg).1; have := (HBK.out g hx).2; omega); have HB2 : Hid (Below w.heap.size w W2) := Kd.below HB1.out h6 HB1.out.size (fun g hg => by have := (HBK.out g hg).1; have := HWV.out.1; omega); have HS2 : Hid (V2.heap.size ≤ W2.heap.size) := Nat.le_trans HS1.out h6.size; have a2 := World.ownsRow.cellAt HL2.out b (by omega); rw [ils_get h2, HY.out, hyc] at a2; have z2 := World.ownsRow.frozenAt HL2.out b; have HK3 : Hid (Kd (fun g => g = lg) W2 (W2.setCell ⟨lg, b, none⟩ (.int .i64 (y : Int)))) := (Kd.refl (fun g => g = lg) W2).put (.inl rfl) b _; have HL3 : Hid ((W2.setCell ⟨lg, b, none⟩ (.int .i64 (y : Int))).ownsRow w.heap.size 3 1 (.slice (some ⟨lg, 0, none⟩) n lc) n (ils (fun i => ((dec (wst n m ss r 1 k).1 b i : Nat) : Int)) n)) := row_congrV (own_putV (j := b) (y := y) HL2.out) (fun i hi => by unfold dec; by_cases e : i = b; rw [if_pos e, if_pos e, HY.out]; rfl; rw [if_neg e, if_neg e]); have HH3 : Hid ((W2.setCell ⟨lg, b, none⟩ (.int .i64 (y : Int))).ownsRow V.heap.size 3 1 (.slice ha m hc) m (ils (frd ss (b : Int) (wst n m ss r 1 k).2) m)) := own_kd HH2.out HK3.out (fun g hg e => by have := (HBK.out g hg).1; have := (LB.out lg rfl).2; omega); have HU3 : Hid ((W2.setCell ⟨lg, b, none⟩ (.int .i64 (y : Int))).ownsRow V2.heap.size 3 1 (.slice uo k uc) k (ils (fun k => (wvf n m ss 1 (wst n m ss r 1 k) 0 : Int)) k)) := own_kd HU2.out HK3.out (fun g hg e => by have := (World.ownsRow.lt HU2.out g hg).1; have := (LB.out lg rfl).2; have := HWV.out.2; omega); have HB3 : Hid (Below w.heap.size w (W2.setCell ⟨lg, b, none⟩ (.int .i64 (y : Int)))) := Kd.below HB2.out HK3.out HB2.out.size (fun g hg => by rw [hg]; exact (LB.out lg rfl).1); have HS3 : Hid (V2.heap.size ≤ (W2.setCell ⟨lg, b, none⟩ (.int .i64 (y : Int))).heap.size) := Nat.le_trans HS2.out HK3.out.size; have HU4 : Hid _ := own_below HU3.out (below_one (W2.setCell ⟨lg, b, none⟩ (.int .i64 (y : Int))) (.cells #[.int .i64 (b : Int)] 3)); have HB4 : Hid _ := bstep HB3.out (below_one (W2.setCell ⟨lg, b, none⟩ (.int .i64 (y : Int))) (.cells #[.int .i64 (b : Int)] 3)); have HS4 : Hid (V2.heap.size ≤ ((W2.setCell ⟨lg, b, none⟩ (.int .i64 (y : Int))).alloc (.cells #[.int .i64 (b : Int)] 3)).heap.size) := Nat.le_trans HS3.out (below_one _ _).size; clear h5 h6 hne)
                    | (at_builtin; refine wpList_app _ rfl _ _ 27 rfl V2.heap.size 3 i0 (.int .i64 0) 1 8 Try.underlying27 hi hz0 hz1 hz2 rfl (by decide) _ k _ rfl HU4.out ⟨W2.heap.size, 0, none⟩ 1 1 [.int .i64 (b : Int)] rfl rfl (one_set _ _ _ _ _ _) (by simp [Value.oneCell']) (by unfold maxLen; omega) (by omega) HS4.out (by decide) ?_; intro u5 W5 hown hgrow _; obtain ⟨uo5, uc5, rfl, _⟩ := own_open hown; have hlo : ∀ g, (Value.slice uo k uc).ownBlock = some g → V2.heap.size ≤ g := fun g hg => (World.ownsRow.lt HU3.out g hg).1; have hkg : Kd (fun g => (Value.slice uo k uc).ownBlock = some g) ((W2.setCell ⟨lg, b, none⟩ (.int .i64 (y : Int))).alloc (.cells #[.int .i64 (b : Int)] 3)) W5 := ⟨hgrow.os, hgrow.tape, hgrow.output, hgrow.size, fun q hq hd => hgrow.block q hq (fun e => hd e.symm)⟩; have HL5 : Hid (W5.ownsRow w.heap.size 3 1 (.slice (some ⟨lg, 0, none⟩) n lc) n (ils (fun i => ((dec (wst n m ss r 1 k).1 b i : Nat) : Int)) n)) := own_kd (own_below HL3.out (below_one _ _)) hkg (fun g hg hx => by have := hlo g hx; have := (LB.out g hg).2; have := HWV.out.2; omega); have HH5 : Hid (W5.ownsRow V.heap.size 3 1 (.slice ha m hc) m (ils (frd ss (b : Int) (wst n m ss r 1 k).2) m)) := own_kd (own_below HH3.out (below_one _ _)) hkg (fun g hg hx => by have := hlo g hx; have := (HBK.out g hg).2; omega); have HU5 : Hid (W5.ownsRow V2.heap.size 3 1 (.slice uo5 (k + 1) uc5) (k + 1) (ils (fun k => (wvf n m ss 1 (wst n m ss r 1 k) 0 : Int)) (k + 1))) := (by rw [ils_snoc, (wst1_next HW1.out).2]; exact hown); have HB5 : Hid (Below w.heap.size w W5) := Kd.below HB4.out hkg HB4.out.size (fun g hg => by have := hlo g hg; have := HWV.out; omega); have HS5 : Hid (V2.heap.size ≤ W5.heap.size) := Nat.le_trans HS4.out hgrow.size; clear hown hgrow hlo hkg)
                    | go_in)
                  try go_frame
                  go_wp2
                  go_roundw
                  case rel =>
                    have e1 := (wst1_next HW1.out).1
                    refine ⟨k + 1, uo5, uc5, rfl, by omega, by rw [e1]; exact HL5.out, by rw [e1]; exact HH5.out, HU5.out, ?_, all_snoc HNF.out ⟨HNZ.out, by rw [HW1.out]; simp⟩, ?_, ?_, HS5.out, HB5.out⟩
                    · rw [e1]
                      have h9 := dec_sum (lf := (wst n m ss r 1 k).1) h2 (by rw [HY.out]; omega)
                      have := HSM.out
                      show smN n (dec (wst n m ss r 1 k).1 b) + (k + 1) = al
                      omega
                    · rw [e1]
                      intro c hc
                      show dec (wst n m ss r 1 k).1 b c ≤ 2000
                      unfold dec
                      split
                      · have := HLF.out b h2; omega
                      · exact HLF.out c hc
                    · exact wsi_fit HW.out (wsi_all (most := 1) HW.out HRS2.out (k + 1) (fun j hj => (all_snoc HNF.out ⟨HNZ.out, by rw [HW1.out]; simp⟩ j hj).2)).choose_spec.2
                  case measure => simp; omega
                · rw [decide_eq_false h4] at ic
                  have HN2 : Hid (∀ c, c < b + 1 → ¬ ((wst n m ss r 1 k).1 c ≠ 0 ∧ Can m ss (wst n m ss r 1 k).2 (c : Int))) := all_snoc HNO.out (fun h9 => h4 h9.2)
                  clear h4
                  go_wp2_with (go_at_call 47; (with_reducible refine ic.mono ?_); rintro e W1 ⟨rfl, hb1⟩; have HL1 : Hid (W1.ownsRow w.heap.size 3 1 (.slice (some ⟨lg, 0, none⟩) n lc) n (ils (fun i => (((wst n m ss r 1 k).1 i : Nat) : Int)) n)) := own_below HL.out hb1; have HH1 : Hid (W1.ownsRow V.heap.size 3 1 (.slice ha m hc) m (ils (wst n m ss r 1 k).2 m)) := own_below HH.out hb1; have HU1 : Hid (W1.ownsRow V2.heap.size 3 1 (.slice uo k uc) k (ils (fun k => (wvf n m ss 1 (wst n m ss r 1 k) 0 : Int)) k)) := own_below HU.out hb1; have HB1 : Hid (Below w.heap.size w W1) := bstep HB.out hb1; have HS1 : Hid (V2.heap.size ≤ W1.heap.size) := Nat.le_trans HSZ.out hb1.size; clear hb1 ic)
                  go_roundw
                  case rel => exact ⟨b + 1, by go_num, by omega, HL1.out, HH1.out, HU1.out, HN2.out, HS1.out, HB1.out⟩
                  case measure => simp [intOf]; omega
            · have hbn : n = b := by omega
              subst hbn
              have HST : Hid (Wstk n m ss r 1 k) := ⟨HNF.out, HNZ.out, rdl_none HNO.out⟩
              go_wp2
              go_ret2
              exact .inr ⟨⟨k, HST.out⟩, fun ys => ⟨_, rfl, own_base (nil_own wr ys) HB.out.size, bstep HB.out (below_one _ _)⟩⟩
        · have hka : al = k := by omega
          subst hka
          have HEN : Hid (Wend n m ss r 1 al) := ⟨HNF.out, nz_sum.2 (by have := HSM.out; omega)⟩
          go_wp2
          go_ret2
          exact .inl ⟨al, HEN.out, hal2, _, rfl, own_base HU.out (Nat.le_trans HWV.out.1 HWV.out.2), HB.out⟩
end Go.Proofs.Ytlccicbgepfbbaa
