/- The model's Fast: one step, its answer in memory of its own. -/
import Derived.Test.YtddbekacdfohpaaGreatDoorPF
namespace Go.Proofs.YtddbekacdfohpaaGreatDoor
open Go.RowKit

set_option maxRecDepth 100000 in
set_option maxHeartbeats 8000000 in
theorem sHalves_stepO {w : World} {v : Value} {n h j : Nat} {bk : Bool} {X Y : Nat → Nat} {P : Nat → Option Nat × Option Nat} (hj : j + 1 < 8) (hh : h = 2 ^ j) (hn : n = 2 ^ (j + 1)) (hv : Fp w v n X Y) (hP : ∀ k, k < n → (cn (X k), cn (Y k)) = P k)
    (IH : ∀ (w : World) (v : Value) (X Y : Nat → Nat) (P : Nat → Option Nat × Option Nat), Fp w v h X Y → (∀ k, k < h → (cn (X k), cn (Y k)) = P k) → Calls Tryz.prog 46 #[v, .int .i64 (sgn bk)] w fun e w' => ∃ u X' Y', e = .returned u ∧ Fp w' u h X' Y' ∧ (∀ k, k < h → (cn (X' k), cn (Y' k)) = fast bk j P k) ∧ Below w.heap.size w w') :
    Calls Tryz.prog 46 #[v, .int .i64 (sgn bk)] w fun e w' => ∃ u X' Y' L, e = .returned u ∧ Fp w' u n X' Y' ∧ (∀ k, k < n → (cn (X' k), cn (Y' k)) = fast bk (j + 1) P k) ∧ w'.ownsRow w.heap.size 39 2 u n L ∧ Below w.heap.size w w' := by
  have hp : 1 ≤ h ∧ h ≤ 64 := by
    rw [hh]
    exact ⟨Nat.two_pow_pos j, Nat.pow_le_pow_right (by decide) (by omega : j ≤ 6)⟩
  have hnh : n = 2 * h := by rw [hn, hh, Nat.pow_succ]; omega
  have hn1 : ((n : Int) == 1) = false := by rw [beq_eq_false_iff_ne]; omega
  obtain ⟨i0, hi, hz0, hz1, hz2⟩ := info_parts Tryz.info39
  have HIHY : Hid (∀ (w : World) (v : Value) (X Y : Nat → Nat) (P : Nat → Option Nat × Option Nat), Fp w v h X Y → (∀ k, k < h → (cn (X k), cn (Y k)) = P k) → Calls Tryz.prog 46 #[v, .int .i64 (sgn bk)] w fun e w' => ∃ u X' Y', e = .returned u ∧ Fp w' u h X' Y' ∧ (∀ k, k < h → (cn (X' k), cn (Y' k)) = fast bk j P k) ∧ Below w.heap.size w w') := IH
  have HP : Hid (∀ k, k < n → (cn (X k), cn (Y k)) = P k) := hP
  have HH : Hid (h = 2 ^ j ∧ n = 2 ^ (j + 1)) := ⟨hh, hn⟩
  obtain ⟨ao, cap, rfl, hcap, hc⟩ := hv
  obtain ⟨b, off, rfl, hlt, hcell⟩ := hc (by omega)
  have HCELL : Hid (∀ k, k < n → w.cell? ⟨b, off + k * 2, none⟩ = some (.float .f64 (X k)) ∧ w.cell? ⟨b, off + k * 2 + 1, none⟩ = some (.float .f64 (Y k))) := hcell
  have HNH : Hid (n = 2 * h) := hnh
  have hST := rStore
  have hn128 : n ≤ 128 := by omega
  have o0 := own_empty w 39 2
  have o1 := own_empty (w.alloc (.cells #[] 39)) 39 2
  have OE0 : Hid (((w.alloc (.cells #[] 39)).alloc (.cells #[] 39)).ownsRow w.heap.size 39 2 (.slice (some ⟨w.heap.size, 0, none⟩) 0 0) 0 []) := own_below o0 (below_one _ _)
  have hz : (w.alloc (.cells #[] 39)).heap.size = w.heap.size + 1 := by simp
  rw [hz] at o1
  have OO0 : Hid (((w.alloc (.cells #[] 39)).alloc (.cells #[] 39)).ownsRow w.heap.size 39 2 (.slice (some ⟨w.heap.size + 1, 0, none⟩) 0 0) 0 []) := own_base o1 (Nat.le_succ _)
  have B0 : Hid (Below w.heap.size w ((w.alloc (.cells #[] 39)).alloc (.cells #[] 39))) := bstep (below_one _ _) (below_one _ _)
  clear hc hcell hP hh hn IH hnh o0 o1 hz
  generalize hsg : sgn bk = sg at *
  have HSG : Hid (sgn bk = sg) := hsg
  clear hsg
  go_enter Tryz.func46, Tryz.ntmps46
  go_wp2
  go_loopw [6, 7, 8] (fun ev od i wr => ∃ k ke ko : Nat, i = .int .i64 k ∧ k ≤ n ∧ ke = (k + 1) / 2 ∧ ko = k / 2 ∧ Hid (wr.ownsRow w.heap.size 39 2 ev ke (cl2 (fun q => X (2 * q)) (fun q => Y (2 * q)) ke)) ∧ Hid (wr.ownsRow w.heap.size 39 2 od ko (cl2 (fun q => X (2 * q + 1)) (fun q => Y (2 * q + 1)) ko)) ∧ Hid (Apart ev od ∧ Apart od ev) ∧ Hid (Below w.heap.size w wr)) (fun _ _ i _ => n - (intOf i).toNat)
  case atStart => exact ⟨0, 0, 0, rfl, by omega, rfl, rfl, OE0.out, OO0.out, ⟨.inr (by simp [Value.ownBlock]), .inr (by simp [Value.ownBlock])⟩, B0.out⟩
  case round =>
    obtain ⟨k, ke, ko, rfl, hk, hke, hko, HE, HO, AP, HBL⟩ := hrel
    have HKE : Hid (ke = (k + 1) / 2 ∧ ko = k / 2) := ⟨hke, hko⟩
    have hkb : ke ≤ 128 ∧ ko ≤ 128 := by omega
    clear hke hko
    by_cases h1 : k < n
    · have c : wr.cell? ⟨b, off + k * 2, none⟩ = some (.float .f64 (X k)) := (HBL.out.cell (p := ⟨b, off + k * 2, none⟩) hlt).trans (HCELL.out k h1).1
      have c' : wr.cell? ⟨b, off + k * 2 + 1, none⟩ = some (.float .f64 (Y k)) := (HBL.out.cell (p := ⟨b, off + k * 2 + 1, none⟩) hlt).trans (HCELL.out k h1).2
      by_cases h2 : k % 2 = 0
      · have hb3 := below_one wr (.cells #[.float .f64 (X k), .float .f64 (Y k)] 39)
        have HO3 := own_below HE.out hb3
        have HP3 := own_below HO.out hb3
        have HB3 : Below w.heap.size w (wr.alloc (.cells #[.float .f64 (X k), .float .f64 (Y k)] 39)) := bstep HBL.out hb3
        have hr : (k : Int).tmod 2 = 0 := by rw [Int.tmod_eq_emod_of_nonneg (by omega)]; omega
        go_wp2_with (at_builtin; refine wpList_app _ rfl _ _ 24 rfl w.heap.size 39 i0 (.agg #[.float .f64 0, .float .f64 0]) 2 16 Tryz.underlying24 hi hz0 hz1 hz2 rfl (by decide) _ _ _ rfl HO3 ⟨wr.heap.size, 0, none⟩ 1 1 [.float .f64 (X k), .float .f64 (Y k)] rfl rfl (two_new _ _ _ _) (by simp [Value.oneCell']) (by unfold maxLen; omega) (by omega) HB3.size (by omega) ?_)
        intro v' w5 hown' hgrow hwhere
        have HB5 : Hid (Below w.heap.size w w5) := grown_below HB3 (Nat.le_refl _) HO3 hgrow
        have HN5 : Hid (w5.ownsRow w.heap.size 39 2 u7 ko (cl2 (fun q => X (2 * q + 1)) (fun q => Y (2 * q + 1)) ko)) := own_grown HP3 hgrow AP.out.2
        have A1 : Apart u7 v' := apart_app HP3 AP.out.2 (hwhere.imp_right (fun h => by simpa using h.1))
        have NB : v'.ownBlock ≠ none := own_some hown' (by omega)
        rw [cl2_snoc, cl2_at (f := fun q => 2 * q) (show k = 2 * ke by have := HKE.out; omega)] at hown'
        have HO5 : Hid (w5.ownsRow w.heap.size 39 2 v' (ke + 1) (cl2 (fun q => X (2 * q)) (fun q => Y (2 * q)) (ke + 1))) := hown'
        have AN : Hid (Apart v' u7 ∧ Apart u7 v') := ⟨apart_rev A1 NB, A1⟩
        clear hown' hgrow HB3 HO3 HP3 hb3 hwhere A1 NB hr
        go_wp2
        go_roundw
        case rel => refine ⟨k + 1, ke + 1, ko, by go_num, by omega, by have := HKE.out; omega, by have := HKE.out; omega, HO5.out, HN5.out, AN.out, HB5.out⟩
        case measure => simp [intOf]; omega
      · have hb3 := below_one wr (.cells #[.float .f64 (X k), .float .f64 (Y k)] 39)
        have HO3 := own_below HO.out hb3
        have HP3 := own_below HE.out hb3
        have HB3 : Below w.heap.size w (wr.alloc (.cells #[.float .f64 (X k), .float .f64 (Y k)] 39)) := bstep HBL.out hb3
        have hr : (k : Int).tmod 2 = 1 := by rw [Int.tmod_eq_emod_of_nonneg (by omega)]; omega
        go_wp2_with (at_builtin; refine wpList_app _ rfl _ _ 24 rfl w.heap.size 39 i0 (.agg #[.float .f64 0, .float .f64 0]) 2 16 Tryz.underlying24 hi hz0 hz1 hz2 rfl (by decide) _ _ _ rfl HO3 ⟨wr.heap.size, 0, none⟩ 1 1 [.float .f64 (X k), .float .f64 (Y k)] rfl rfl (two_new _ _ _ _) (by simp [Value.oneCell']) (by unfold maxLen; omega) (by omega) HB3.size (by omega) ?_)
        intro v' w5 hown' hgrow hwhere
        have HB5 : Hid (Below w.heap.size w w5) := grown_below HB3 (Nat.le_refl _) HO3 hgrow
        have HN5 : Hid (w5.ownsRow w.heap.size 39 2 u6 ke (cl2 (fun q => X (2 * q)) (fun q => Y (2 * q)) ke)) := own_grown HP3 hgrow AP.out.1
        have A1 : Apart u6 v' := apart_app HP3 AP.out.1 (hwhere.imp_right (fun h => by simpa using h.1))
        have NB : v'.ownBlock ≠ none := own_some hown' (by omega)
        rw [cl2_snoc, cl2_at (f := fun q => 2 * q + 1) (show k = 2 * ko + 1 by have := HKE.out; omega)] at hown'
        have HO5 : Hid (w5.ownsRow w.heap.size 39 2 v' (ko + 1) (cl2 (fun q => X (2 * q + 1)) (fun q => Y (2 * q + 1)) (ko + 1))) := hown'
        have AN : Hid (Apart u6 v' ∧ Apart v' u6) := ⟨A1, apart_rev A1 NB⟩
        clear hown' hgrow HB3 HO3 HP3 hb3 hwhere A1 NB hr
        go_wp2
        go_roundw
        case rel => refine ⟨k + 1, ke, ko + 1, by go_num, by omega, by have := HKE.out; omega, by have := HKE.out; omega, HN5.out, HO5.out, AN.out, HB5.out⟩
        case measure => simp [intOf]; omega
    · obtain rfl : n = k := by omega
      have e1 : ke = h := by have := HNH.out; have := HKE.out; omega
      have e2 : ko = h := by have := HNH.out; have := HKE.out; omega
      rw [e1] at HE
      rw [e2] at HO
      have f1 := fp_of_own HE.out
      have f2 := fp_of_own HO.out
      have j1 := HIHY.out wr u6 _ _ (fun i => P (2 * i)) f1 (fun k hk => HP.out _ (by have := HNH.out; omega))
      have F2 : Hid (Fp wr u7 h (fun q => X (2 * q + 1)) (fun q => Y (2 * q + 1))) := f2
      clear HKE HE HO AP f1 f2 e1 e2 hkb
      go_wp2_with (first
        | (go_at_call 46; (fail_if_success have := M1); (with_reducible refine j1.mono ?_); rintro e w2 ⟨eu, EX, EY, rfl, fe, ve, b2⟩; have M1 : Hid True := trivial; have FE : Hid (Fp w2 eu h EX EY) := fe; have VE : Hid (∀ k, k < h → (cn (EX k), cn (EY k)) = fast bk j (fun i => P (2 * i)) k) := ve; have B2 : Hid (Below w.heap.size w w2) := bstep HBL.out b2; have j2 := HIHY.out w2 u7 _ _ (fun i => P (2 * i + 1)) (F2.out.below b2) (fun k hk => HP.out _ (by have := HNH.out; omega)); clear j1 fe ve b2)
        | (go_at_call 46; have Z := M1; (with_reducible refine j2.mono ?_); rintro e w3 ⟨ou, OX, OY, rfl, fo, vo, b3⟩; have FO : Hid (Fp w3 ou h OX OY) := fo; have FE3 : Hid (Fp w3 eu h EX EY) := FE.out.below b3; have VO : Hid (∀ k, k < h → (cn (OX k), cn (OY k)) = fast bk j (fun i => P (2 * i + 1)) k) := vo; have B3 : Hid (Below w.heap.size w w3) := bstep B2.out b3; obtain ⟨w6, hm, hrow, hgr⟩ := run_makeSlice_full (P := Tryz.prog) w3 w3.heap.size 24 39 i0 (.agg #[.float .f64 0, .float .f64 0]) 2 Tryz.underlying24 hi hz0 hz1 .i64 .i64 n (by omega) (by rw [hz2]; omega) (by unfold maxLen; omega) (Nat.le_refl _); have hbl : Below w3.heap.size w3 w6 := (Below.refl _ _).grown hgr (Nat.le_refl _) (fun _ h => by cases h); generalize hL : (madeCells (Value.agg #[.float .f64 0, .float .f64 0]).cells (n * 2)).toList = L at hrow; have hLn : L.length = n * 2 := (by rw [← hL, Array.length_toList, size_madeCells]); rw [list_fun L, hLn] at hrow; have HR : Hid (∃ f, Ow w6 w3.heap.size w3.heap.size n n f) := ⟨_, hrow⟩; have HB : Hid (Below w3.heap.size w3 w6) := hbl; clear hrow hbl hL hgr hLn fo vo b3 j2))
      obtain ⟨ea, ec, he, hec, hce⟩ := FE3.out
      obtain ⟨be, oe, rfl, le, ce⟩ := hce (by omega)
      subst he
      obtain ⟨oa, oc, ho', hoc, hco⟩ := FO.out
      obtain ⟨bo, oo, rfl, lo, co⟩ := hco (by omega)
      subst ho'
      have CE : Hid (∀ k, k < h → w3.cell? ⟨be, oe + k * 2, none⟩ = some (.float .f64 (EX k)) ∧ w3.cell? ⟨be, oe + k * 2 + 1, none⟩ = some (.float .f64 (EY k))) := ce
      have CO : Hid (∀ k, k < h → w3.cell? ⟨bo, oo + k * 2, none⟩ = some (.float .f64 (OX k)) ∧ w3.cell? ⟨bo, oo + k * 2 + 1, none⟩ = some (.float .f64 (OY k))) := co
      have LOH : Hid (∀ (P : Nat → Option Nat × Option Nat) (q : Nat), q < h → fast bk (j + 1) P q = (cop .add (fast bk j (fun i => P (2 * i)) q).1 (cre (fast bk j (fun i => P (2 * i + 1)) q).1 (fast bk j (fun i => P (2 * i + 1)) q).2 (tre ((q : Int) * strd n bk)) (tim ((q : Int) * strd n bk))), cop .add (fast bk j (fun i => P (2 * i)) q).2 (cim (fast bk j (fun i => P (2 * i + 1)) q).1 (fast bk j (fun i => P (2 * i + 1)) q).2 (tre ((q : Int) * strd n bk)) (tim ((q : Int) * strd n bk))))) := fun P q hq => fast_lo bk HH.out.1 HH.out.2 P hq
      have HIH : Hid (∀ (P : Nat → Option Nat × Option Nat) (q : Nat), q < h → fast bk (j + 1) P (h + q) = (cop .sub (fast bk j (fun i => P (2 * i)) q).1 (cre (fast bk j (fun i => P (2 * i + 1)) q).1 (fast bk j (fun i => P (2 * i + 1)) q).2 (tre ((q : Int) * strd n bk)) (tim ((q : Int) * strd n bk))), cop .sub (fast bk j (fun i => P (2 * i)) q).2 (cim (fast bk j (fun i => P (2 * i + 1)) q).1 (fast bk j (fun i => P (2 * i + 1)) q).2 (tre ((q : Int) * strd n bk)) (tim ((q : Int) * strd n bk))))) := fun P q hq => fast_hi bk HH.out.1 HH.out.2 P hq
      obtain ⟨dd, hdd⟩ : ∃ dd : Int, (256 : Int) / (n : Int) = dd := ⟨_, rfl⟩
      have hdt : (256 : Int).tdiv (n : Int) = dd := tdiv_256.trans hdd
      have hd0 : 0 ≤ dd ∧ dd ≤ 256 := by
        have h1 : (0 : Int) ≤ 256 / (n : Int) := Int.ediv_nonneg (by decide) (by omega)
        have h2 : (256 : Int) / (n : Int) ≤ 256 := Int.ediv_le_self _ (by decide)
        omega
      have HDD : Hid ((256 : Int) / (n : Int) = dd) := hdd
      have hd2 : (n : Int).tdiv 2 = (h : Int) := by have := HNH.out; rw [Int.tdiv_eq_ediv_of_nonneg (by omega)]; omega
      clear ce co hce hco hdd h1 hk
      go_loopw [12] (fun i wr => ∃ k : Nat, i = .int .i64 k ∧ k ≤ h ∧ Hid (∃ (f : Nat → Value) (U V : Nat → Nat), Ow wr w3.heap.size w3.heap.size n n f ∧ (∀ q, q < k → f (q * 2) = .float .f64 (U q) ∧ f (q * 2 + 1) = .float .f64 (V q) ∧ f ((h + q) * 2) = .float .f64 (U (h + q)) ∧ f ((h + q) * 2 + 1) = .float .f64 (V (h + q)) ∧ (cn (U q), cn (V q)) = fast bk (j + 1) P q ∧ (cn (U (h + q)), cn (V (h + q))) = fast bk (j + 1) P (h + q)) ∧ Below w3.heap.size w3 wr)) (fun i _ => h - (intOf i).toNat)
      case atStart =>
        obtain ⟨f, hf⟩ := HR.out
        exact ⟨0, rfl, by omega, f, fun _ => 0, fun _ => 0, hf, fun q hq => by omega, HB.out⟩
      case round =>
        obtain ⟨k, rfl, hk, hrel⟩ := hrel
        obtain ⟨f, U, V, how, huv, hbl⟩ := hrel.out
        have HOW : Hid (Ow wr w3.heap.size w3.heap.size n n f) := how
        have HUV : Hid (∀ q, q < k → f (q * 2) = .float .f64 (U q) ∧ f (q * 2 + 1) = .float .f64 (V q) ∧ f ((h + q) * 2) = .float .f64 (U (h + q)) ∧ f ((h + q) * 2 + 1) = .float .f64 (V (h + q)) ∧ (cn (U q), cn (V q)) = fast bk (j + 1) P q ∧ (cn (U (h + q)), cn (V (h + q))) = fast bk (j + 1) P (h + q)) := huv
        have HBL2 : Hid (Below w3.heap.size w3 wr) := hbl
        have hlw : w3.heap.size < wr.heap.size := (World.ownsRow.lt how _ rfl).2
        clear hrel how huv hbl
        by_cases h1 : k < h
        · have re : ∀ X, Below wr.heap.size wr X → X.cell? ⟨be, oe + k * 2, none⟩ = some (.float .f64 (EX k)) ∧ X.cell? ⟨be, oe + k * 2 + 1, none⟩ = some (.float .f64 (EY k)) := fun X hX => ⟨((bstep HBL2.out hX).cell (p := ⟨be, oe + k * 2, none⟩) le).trans (CE.out k h1).1, ((bstep HBL2.out hX).cell (p := ⟨be, oe + k * 2 + 1, none⟩) le).trans (CE.out k h1).2⟩
          have ro : ∀ X, Below wr.heap.size wr X → X.cell? ⟨bo, oo + k * 2, none⟩ = some (.float .f64 (OX k)) ∧ X.cell? ⟨bo, oo + k * 2 + 1, none⟩ = some (.float .f64 (OY k)) := fun X hX => ⟨((bstep HBL2.out hX).cell (p := ⟨bo, oo + k * 2, none⟩) lo).trans (CO.out k h1).1, ((bstep HBL2.out hX).cell (p := ⟨bo, oo + k * 2 + 1, none⟩) lo).trans (CO.out k h1).2⟩
          have oth : ∀ (W : World) (p : Addr) (i1 i2 : Nat) (v1 v2 : Value), p.block ≠ w3.heap.size → ((W.setCell ⟨w3.heap.size, i1, none⟩ v1).setCell ⟨w3.heap.size, i2, none⟩ v2).cell? p = W.cell? p := fun W p i1 i2 v1 v2 hne => (World.cell?_setCell_other _ _ _ _ (fun h => hne (by rw [← h]))).trans (World.cell?_setCell_other _ _ _ _ (fun h => hne (by rw [← h])))
          have l0 : Below wr.heap.size wr wr.drew := (Below.refl _ _).drew
          obtain ⟨mm, hmm⟩ : ∃ mm, mm = h + k := ⟨_, rfl⟩
          have hhk : (k : Int) + (h : Int) = (mm : Int) := by omega
          have hhn : mm < n := by have := HNH.out; omega
          have hkn : k < n := by omega
          have HMM : Hid (mm = h + k) := hmm
          obtain ⟨m1, hm1⟩ : ∃ m1, sg * (k : Int) = m1 := ⟨_, rfl⟩
          have bm1 := sgn_mul bk k (by omega)
          rw [HSG.out, hm1] at bm1
          obtain ⟨ss, hss⟩ : ∃ ss, m1 * dd = ss := ⟨_, rfl⟩
          have bss := mul_in (a := m1) (b := dd) (A := 128) (B := 256) (by omega) (by omega) hd0.1 hd0.2 (by omega)
          rw [hss] at bss
          have HSS : Hid (ss = (k : Int) * strd n bk) := by
            rw [← hss, ← hm1, ← HDD.out, ← HSG.out]
            have := turn_of (n := n) k 1 bk
            rw [Nat.mul_one, show ((1 : Nat) : Int) = 1 from rfl, Int.mul_one] at this
            exact this
          clear hmm
          go_wp2
          refine wp_region_any (by kernel_rfl) ?_
          change wpAny _ _ _ _ _ _ _ (World.drew _)
          refine wpI_any (I := fun X => Below wr.heap.size wr X) _ _ _ _ ?_
          refine wpI_takeD (some 60) (i := 0) (v := ?_) rfl rfl (by kernel_rfl) (by kernel_rfl) (by kernel_rfl) (fun _ _ _ h => h) ⟨by rfl, ?_⟩ ?_
          rotate_left
          · intro X hI; go_simp; try go_bits
            try rw [if_pos (by omega)]
            try with_reducible rfl
          refine wpI_takeD (some 61) (i := 1) (v := ?_) rfl rfl (by kernel_rfl) (by kernel_rfl) (by kernel_rfl) (fun _ _ _ h => h) ⟨by rfl, ?_⟩ ?_
          rotate_left
          · intro X hI; go_simp; try go_bits
            try rw [if_pos (by omega)]
            try with_reducible rfl
          refine wpI_takeD (some 62) (i := 2) (v := ?_) rfl rfl (by kernel_rfl) (by kernel_rfl) (by kernel_rfl) (fun _ _ _ h => h) ⟨by rfl, ?_⟩ ?_
          rotate_left
          · intro X hI; go_simp; try go_bits
            try rw [if_pos (by omega)]
            try with_reducible rfl
          refine wpI_takeD (some 63) (i := 3) (v := ?_) rfl rfl (by kernel_rfl) (by kernel_rfl) (by kernel_rfl) (fun _ _ _ h => h) ⟨by rfl, ?_⟩ ?_
          rotate_left
          · intro X hI; obtain ⟨q1, q2⟩ := ro X hI; go_simp; try go_bits
            try rw [if_pos (by omega)]
            try with_reducible rfl
          refine wpI_takeD (some 64) (i := 4) (v := ?_) rfl rfl (by kernel_rfl) (by kernel_rfl) (by kernel_rfl) (fun _ _ _ h => h) ⟨by rfl, ?_⟩ ?_
          rotate_left
          · intro X hI; go_simp; try go_bits
            try rw [if_pos (by omega)]
            try with_reducible rfl
          refine wpI_takeD (some 65) (i := 5) (v := ?_) rfl rfl (by kernel_rfl) (by kernel_rfl) (by kernel_rfl) (fun _ _ _ h => h) ⟨by rfl, ?_⟩ ?_
          rotate_left
          · intro X hI; go_simp; try go_bits
            try rw [if_pos (by omega)]
            try with_reducible rfl
          refine wpI_takeD (some 66) (i := 6) (v := .int .i64 m1) rfl rfl (by kernel_rfl) (by kernel_rfl) (by kernel_rfl) (fun _ _ _ h => h) ⟨by rfl, ?_⟩ ?_
          · intro X hI; go_simp; try go_bits
            try rw [if_pos (by omega)]
            try trivial
          refine wpI_takeD (some 67) (i := 7) (v := ?_) rfl rfl (by kernel_rfl) (by kernel_rfl) (by kernel_rfl) (fun _ _ _ h => h) ⟨by rfl, ?_⟩ ?_
          rotate_left
          · intro X hI; go_simp; try go_bits
            try rw [if_pos (by omega)]
            try with_reducible rfl
          refine wpI_takeD (some 68) (i := 8) (v := .int .i64 dd) rfl rfl (by kernel_rfl) (by kernel_rfl) (by kernel_rfl) (fun _ _ _ h => h) ⟨by rfl, ?_⟩ ?_
          · intro X hI; go_simp; try go_bits
            try rw [if_pos (by omega)]
            rw [if_neg (by omega)]
          refine wpI_takeD (some 69) (i := 9) (v := .int .i64 ss) rfl rfl (by kernel_rfl) (by kernel_rfl) (by kernel_rfl) (fun _ _ _ h => h) ⟨by rfl, ?_⟩ ?_
          · intro X hI; go_simp; try go_bits
            try rw [if_pos (by omega)]
            try trivial
          generalize wr.drew = W0 at l0 ⊢
          refine wpI_two (i := 10) (j := 12) rfl rfl (by kernel_rfl) l0 (by rfl) (by rfl) ?_ ?_
          · intro K hK
            go_simp
            go_wp2_with (go_at_call 61; (with_reducible refine (sTurn_any _ _).mono ?_); rintro e Z1 ⟨t1, t2, rfl, et1, et2, hb⟩; have l21 := bstep l0 hb; clear hb)
            refine wpI_two (i := 11) (j := 12) rfl rfl (by kernel_rfl) l21 (by rfl) (by rfl) ?_ ?_
            · intro K hK
              go_simp
              go_wp2_with (go_at_call 60; (with_reducible refine (sMul_any _ _ _ _ _).mono ?_); rintro e Z2 ⟨p1, p2, rfl, em1, em2, hb⟩; have l22 := bstep l21 hb; clear hb)
              refine wpI_only (i := 12) rfl (by kernel_rfl) l22 (by rfl) ?_
              intro K hK
              have R23 := Rb.new Z2 0 0 39 (g := Z2.heap.size) rfl
              have l23 := l22.alloc l22.size (.cells #[.float .f64 0, .float .f64 0] 39)
              have hgb : wr.heap.size ≤ Z2.heap.size := l22.size
              go_simp
              refine hK _ _ ?_
              clear hK K
              generalize Z2.heap.size = gb at R23 hgb ⊢
              generalize Z2.alloc (.cells #[.float .f64 0, .float .f64 0] 39) = Z3 at R23 l23 ⊢
              have e0 := R23.c0
              have e1 := R23.c1
              have y0 := R23.z0
              have y1 := R23.z1
              have R9 := R23.put p1 p2
              have l9 := (l23.setCell (p := ⟨gb, 0, none⟩) hgb (.float .f64 p1)).setCell (p := ⟨gb, 1, none⟩) hgb (.float .f64 p2)
              refine wpI_only (i := 13) rfl (by kernel_rfl) l23 (by rfl) ?_
              intro K hK
              go_simp
              refine hK _ _ ?_
              clear hK K
              refine wpI_done l9 (by kernel_rfl) ?_ _
              clear e0 e1 y0 y1 R23 l23
              generalize (Z3.setCell ⟨gb, 0, none⟩ (.float .f64 p1)).setCell ⟨gb, 1, none⟩ (.float .f64 p2) = Wa at R9 l9 ⊢
              have II : (Wa).cell? ⟨gb, 0, none⟩ = some (.float .f64 p1) ∧ (Wa).cell? ⟨gb, 1, none⟩ = some (.float .f64 p2) ∧ (Wa).cell? ⟨be, oe + k * 2, none⟩ = some (.float .f64 (EX k)) ∧ (Wa).cell? ⟨be, oe + k * 2 + 1, none⟩ = some (.float .f64 (EY k)) := ⟨R9.c0, R9.c1, (re _ l9).1, (re _ l9).2⟩
              have hgw : ¬ gb = w3.heap.size := by omega
              have ON : Hid (Ow Wa w3.heap.size w3.heap.size n n f) := Ow.below HOW.out l9
              have BN : Hid (Below w3.heap.size w3 Wa) := bstep HBL2.out l9
              have ET : Hid (cn p1 = cre (cn (OX k)) (cn (OY k)) (tre ((k : Int) * strd n bk)) (tim ((k : Int) * strd n bk)) ∧ cn p2 = cim (cn (OX k)) (cn (OY k)) (tre ((k : Int) * strd n bk)) (tim ((k : Int) * strd n bk))) := ⟨by rw [em1, et1, et2, HSS.out], by rw [em2, et1, et2, HSS.out]⟩
              clear ro re R9 l9 em1 em2 et1 et2
              go_wp2
              refine wp_region_any (by kernel_rfl) ?_
              change wpAny _ _ _ _ _ _ _ (World.drew _)
              refine wpI_any (I := fun X => X.cell? ⟨gb, 0, none⟩ = some (.float .f64 p1) ∧ X.cell? ⟨gb, 1, none⟩ = some (.float .f64 p2) ∧ X.cell? ⟨be, oe + k * 2, none⟩ = some (.float .f64 (EX k)) ∧ X.cell? ⟨be, oe + k * 2 + 1, none⟩ = some (.float .f64 (EY k))) _ _ _ _ ?_
              refine wpI_takeD (some 72) (i := 0) (v := ?_) rfl rfl (by kernel_rfl) (by kernel_rfl) (by kernel_rfl) (fun _ _ _ h => h) ⟨by rfl, ?_⟩ ?_
              rotate_left
              · intro X hI; go_simp; try go_bits
                try rw [if_pos (by omega)]
                try with_reducible rfl
              refine wpI_takeD (some 73) (i := 1) (v := ?_) rfl rfl (by kernel_rfl) (by kernel_rfl) (by kernel_rfl) (fun _ _ _ h => h) ⟨by rfl, ?_⟩ ?_
              rotate_left
              · intro X hI; go_simp; try go_bits
                try rw [if_pos (by omega)]
                try with_reducible rfl
              refine wpI_takeD (some 74) (i := 2) (v := ?_) rfl rfl (by kernel_rfl) (by kernel_rfl) (by kernel_rfl) (fun _ _ _ h => h) ⟨by rfl, ?_⟩ ?_
              rotate_left
              · intro X hI; go_simp; try go_bits
                try rw [if_pos (by omega)]
                try with_reducible rfl
              refine wpI_takeD (some 75) (i := 3) (v := ?_) rfl rfl (by kernel_rfl) (by kernel_rfl) (by kernel_rfl) (fun _ _ _ h => h) ⟨by rfl, ?_⟩ ?_
              rotate_left
              · intro X hI; go_simp; try go_bits
                try rw [if_pos (by omega)]
                try with_reducible rfl
              refine wpI_takeD (some 76) (i := 4) (v := ?_) rfl rfl (by kernel_rfl) (by kernel_rfl) (by kernel_rfl) (fun _ _ _ h => h) ⟨by rfl, ?_⟩ ?_
              rotate_left
              · intro X hI; go_simp; try go_bits
                try rw [if_pos (by omega)]
                try with_reducible rfl
              refine wpI_takeD (some 77) (i := 5) (v := ?_) rfl rfl (by kernel_rfl) (by kernel_rfl) (by kernel_rfl) (fun _ _ _ h => h) ⟨by rfl, ?_⟩ ?_
              rotate_left
              · intro X hI; obtain ⟨q1, q2, q3, q4⟩ := hI; go_simp; try go_bits
                try rw [if_pos (by omega)]
                try with_reducible rfl
              refine wpI_takeD (some 78) (i := 6) (v := ?_) rfl rfl (by kernel_rfl) (by kernel_rfl) (by kernel_rfl) (fun _ _ _ h => h) ⟨by rfl, ?_⟩ ?_
              rotate_left
              · intro X hI; obtain ⟨q1, q2, q3, q4⟩ := hI; go_simp; try go_bits
                try rw [if_pos (by omega)]
                try with_reducible rfl
              have I0 : (Wa.drew).cell? ⟨gb, 0, none⟩ = some (.float .f64 p1) ∧ (Wa.drew).cell? ⟨gb, 1, none⟩ = some (.float .f64 p2) ∧ (Wa.drew).cell? ⟨be, oe + k * 2, none⟩ = some (.float .f64 (EX k)) ∧ (Wa.drew).cell? ⟨be, oe + k * 2 + 1, none⟩ = some (.float .f64 (EY k)) := II
              have O0 : Ow Wa.drew w3.heap.size w3.heap.size n n _ := Ow.below ON.out (Below.refl _ _).drew
              have B0n : Below w3.heap.size w3 Wa.drew := BN.out.drew
              generalize Wa.drew = Wbd at I0 O0 B0n ⊢
              have OH0 : Hid (Ow Wbd w3.heap.size w3.heap.size n n _) := O0
              have BH0 : Hid (Below w3.heap.size w3 Wbd) := B0n
              clear O0 B0n BN II ON
              refine wpI_only (i := 7) rfl (by kernel_rfl) I0 (by rfl) ?_
              intro K hK
              go_simp
              go_wp2_with (go_at_call 62; (with_reducible refine (sAdd_any _ _ _ _ _).mono ?_); rintro e Wb ⟨a1, a2, rfl, ea1, ea2, hb⟩; have I2 : (Wb).cell? ⟨gb, 0, none⟩ = some (.float .f64 p1) ∧ (Wb).cell? ⟨gb, 1, none⟩ = some (.float .f64 p2) ∧ (Wb).cell? ⟨be, oe + k * 2, none⟩ = some (.float .f64 (EX k)) ∧ (Wb).cell? ⟨be, oe + k * 2 + 1, none⟩ = some (.float .f64 (EY k)) := ⟨keepc hb I0.1, keepc hb I0.2.1, keepc hb I0.2.2.1, keepc hb I0.2.2.2⟩; have O2 := Ow.below OH0.out hb; have B2 : Hid (Below w3.heap.size w3 Wb) := bstep BH0.out hb; clear hb)
              refine wpI_only (i := 8) rfl (by kernel_rfl) I2 (by rfl) ?_
              intro K hK
              go_simp
              try go_bits
              refine hK _ _ ?_
              have d0 := O2.cell (j := k * 2) (by omega)
              have d1 := O2.cell (j := k * 2 + 1) (by omega)
              have y0 := World.ownsRow.frozenAt O2 (k * 2)
              have y1 := World.ownsRow.frozenAt O2 (k * 2 + 1)
              have O3 := (O2.put (k * 2) (.float .f64 a1)).put (k * 2 + 1) (.float .f64 a2)
              have I3 : (((Wb.setCell ⟨w3.heap.size, k * 2, none⟩ (.float .f64 a1)).setCell ⟨w3.heap.size, k * 2 + 1, none⟩ (.float .f64 a2))).cell? ⟨gb, 0, none⟩ = some (.float .f64 p1) ∧ (((Wb.setCell ⟨w3.heap.size, k * 2, none⟩ (.float .f64 a1)).setCell ⟨w3.heap.size, k * 2 + 1, none⟩ (.float .f64 a2))).cell? ⟨gb, 1, none⟩ = some (.float .f64 p2) ∧ (((Wb.setCell ⟨w3.heap.size, k * 2, none⟩ (.float .f64 a1)).setCell ⟨w3.heap.size, k * 2 + 1, none⟩ (.float .f64 a2))).cell? ⟨be, oe + k * 2, none⟩ = some (.float .f64 (EX k)) ∧ (((Wb.setCell ⟨w3.heap.size, k * 2, none⟩ (.float .f64 a1)).setCell ⟨w3.heap.size, k * 2 + 1, none⟩ (.float .f64 a2))).cell? ⟨be, oe + k * 2 + 1, none⟩ = some (.float .f64 (EY k)) := ⟨(oth _ _ _ _ _ _ (by simp; omega)).trans I2.1, (oth _ _ _ _ _ _ (by simp; omega)).trans I2.2.1, (oth _ _ _ _ _ _ (by simp; omega)).trans I2.2.2.1, (oth _ _ _ _ _ _ (by simp; omega)).trans I2.2.2.2⟩
              have B3n := (B2.out.setCell (p := ⟨w3.heap.size, k * 2, none⟩) (Nat.le_refl _) (.float .f64 a1)).setCell (p := ⟨w3.heap.size, k * 2 + 1, none⟩) (Nat.le_refl _) (.float .f64 a2)
              refine wpI_only (i := 9) rfl (by kernel_rfl) I2 (by rfl) ?_
              intro K hK
              go_simp
              refine hK _ _ ?_
              clear hK K
              refine wpI_done I3 (by kernel_rfl) ?_ _
              generalize (Wb.setCell ⟨w3.heap.size, k * 2, none⟩ (.float .f64 a1)).setCell ⟨w3.heap.size, k * 2 + 1, none⟩ (.float .f64 a2) = Wbn at O3 B3n I3 ⊢
              have OA : Hid (Ow Wbn w3.heap.size w3.heap.size n n _) := O3
              have BN : Hid (Below w3.heap.size w3 Wbn) := B3n
              have II : (Wbn).cell? ⟨gb, 0, none⟩ = some (.float .f64 p1) ∧ (Wbn).cell? ⟨gb, 1, none⟩ = some (.float .f64 p2) ∧ (Wbn).cell? ⟨be, oe + k * 2, none⟩ = some (.float .f64 (EX k)) ∧ (Wbn).cell? ⟨be, oe + k * 2 + 1, none⟩ = some (.float .f64 (EY k)) := I3
              clear I2 O2 B2 d0 d1 y0 y1 O3 B3n I3 I0 OH0 BH0
              go_wp2
              refine wp_region_any (by kernel_rfl) ?_
              change wpAny _ _ _ _ _ _ _ (World.drew _)
              refine wpI_any (I := fun X => X.cell? ⟨gb, 0, none⟩ = some (.float .f64 p1) ∧ X.cell? ⟨gb, 1, none⟩ = some (.float .f64 p2) ∧ X.cell? ⟨be, oe + k * 2, none⟩ = some (.float .f64 (EX k)) ∧ X.cell? ⟨be, oe + k * 2 + 1, none⟩ = some (.float .f64 (EY k))) _ _ _ _ ?_
              refine wpI_takeD (some 81) (i := 0) (v := ?_) rfl rfl (by kernel_rfl) (by kernel_rfl) (by kernel_rfl) (fun _ _ _ h => h) ⟨by rfl, ?_⟩ ?_
              rotate_left
              · intro X hI; go_simp; try go_bits
                try rw [if_pos (by omega)]
                try with_reducible rfl
              refine wpI_takeD (some 82) (i := 1) (v := ?_) rfl rfl (by kernel_rfl) (by kernel_rfl) (by kernel_rfl) (fun _ _ _ h => h) ⟨by rfl, ?_⟩ ?_
              rotate_left
              · intro X hI; go_simp; try go_bits
                try rw [if_pos (by omega)]
                try with_reducible rfl
              refine wpI_takeD (some 83) (i := 2) (v := ?_) rfl rfl (by kernel_rfl) (by kernel_rfl) (by kernel_rfl) (fun _ _ _ h => h) ⟨by rfl, ?_⟩ ?_
              rotate_left
              · intro X hI; go_simp; try go_bits
                try rw [if_pos (by omega)]
                try with_reducible rfl
              refine wpI_takeD (some 84) (i := 3) (v := .int .i64 h) rfl rfl (by kernel_rfl) (by kernel_rfl) (by kernel_rfl) (fun _ _ _ h => h) ⟨by rfl, ?_⟩ ?_
              · intro X hI; go_simp; try go_bits
                try rw [if_pos (by omega)]
                try trivial
              refine wpI_takeD (some 85) (i := 4) (v := .int .i64 mm) rfl rfl (by kernel_rfl) (by kernel_rfl) (by kernel_rfl) (fun _ _ _ h => h) ⟨by rfl, ?_⟩ ?_
              · intro X hI; go_simp; try go_bits
                try rw [if_pos (by omega)]
                try trivial
              refine wpI_takeD (some 86) (i := 5) (v := ?_) rfl rfl (by kernel_rfl) (by kernel_rfl) (by kernel_rfl) (fun _ _ _ h => h) ⟨by rfl, ?_⟩ ?_
              rotate_left
              · intro X hI; go_simp; try go_bits
                try rw [if_pos (by omega)]
                try with_reducible rfl
              refine wpI_takeD (some 87) (i := 6) (v := ?_) rfl rfl (by kernel_rfl) (by kernel_rfl) (by kernel_rfl) (fun _ _ _ h => h) ⟨by rfl, ?_⟩ ?_
              rotate_left
              · intro X hI; go_simp; try go_bits
                try rw [if_pos (by omega)]
                try with_reducible rfl
              refine wpI_takeD (some 88) (i := 7) (v := ?_) rfl rfl (by kernel_rfl) (by kernel_rfl) (by kernel_rfl) (fun _ _ _ h => h) ⟨by rfl, ?_⟩ ?_
              rotate_left
              · intro X hI; go_simp; try go_bits
                try rw [if_pos (by omega)]
                try with_reducible rfl
              refine wpI_takeD (some 89) (i := 8) (v := ?_) rfl rfl (by kernel_rfl) (by kernel_rfl) (by kernel_rfl) (fun _ _ _ h => h) ⟨by rfl, ?_⟩ ?_
              rotate_left
              · intro X hI; obtain ⟨q1, q2, q3, q4⟩ := hI; go_simp; try go_bits
                try rw [if_pos (by omega)]
                try with_reducible rfl
              refine wpI_takeD (some 90) (i := 9) (v := ?_) rfl rfl (by kernel_rfl) (by kernel_rfl) (by kernel_rfl) (fun _ _ _ h => h) ⟨by rfl, ?_⟩ ?_
              rotate_left
              · intro X hI; obtain ⟨q1, q2, q3, q4⟩ := hI; go_simp; try go_bits
                try rw [if_pos (by omega)]
                try with_reducible rfl
              have I0 : (Wbn.drew).cell? ⟨gb, 0, none⟩ = some (.float .f64 p1) ∧ (Wbn.drew).cell? ⟨gb, 1, none⟩ = some (.float .f64 p2) ∧ (Wbn.drew).cell? ⟨be, oe + k * 2, none⟩ = some (.float .f64 (EX k)) ∧ (Wbn.drew).cell? ⟨be, oe + k * 2 + 1, none⟩ = some (.float .f64 (EY k)) := II
              have O0 : Ow Wbn.drew w3.heap.size w3.heap.size n n _ := Ow.below OA.out (Below.refl _ _).drew
              have B0n : Below w3.heap.size w3 Wbn.drew := BN.out.drew
              generalize Wbn.drew = Wcd at I0 O0 B0n ⊢
              have OH0 : Hid (Ow Wcd w3.heap.size w3.heap.size n n _) := O0
              have BH0 : Hid (Below w3.heap.size w3 Wcd) := B0n
              clear O0 B0n BN II OA
              refine wpI_only (i := 10) rfl (by kernel_rfl) I0 (by rfl) ?_
              intro K hK
              go_simp
              go_wp2_with (go_at_call 63; (with_reducible refine (sSub_any _ _ _ _ _).mono ?_); rintro e Wc ⟨s1, s2, rfl, es1, es2, hb⟩; have I2 : (Wc).cell? ⟨gb, 0, none⟩ = some (.float .f64 p1) ∧ (Wc).cell? ⟨gb, 1, none⟩ = some (.float .f64 p2) ∧ (Wc).cell? ⟨be, oe + k * 2, none⟩ = some (.float .f64 (EX k)) ∧ (Wc).cell? ⟨be, oe + k * 2 + 1, none⟩ = some (.float .f64 (EY k)) := ⟨keepc hb I0.1, keepc hb I0.2.1, keepc hb I0.2.2.1, keepc hb I0.2.2.2⟩; have O2 := Ow.below OH0.out hb; have B2 : Hid (Below w3.heap.size w3 Wc) := bstep BH0.out hb; clear hb)
              refine wpI_only (i := 11) rfl (by kernel_rfl) I2 (by rfl) ?_
              intro K hK
              go_simp
              try go_bits
              refine hK _ _ ?_
              have d0 := O2.cell (j := mm * 2) (by omega)
              have d1 := O2.cell (j := mm * 2 + 1) (by omega)
              have y0 := World.ownsRow.frozenAt O2 (mm * 2)
              have y1 := World.ownsRow.frozenAt O2 (mm * 2 + 1)
              have O3 := (O2.put (mm * 2) (.float .f64 s1)).put (mm * 2 + 1) (.float .f64 s2)
              have I3 : (((Wc.setCell ⟨w3.heap.size, mm * 2, none⟩ (.float .f64 s1)).setCell ⟨w3.heap.size, mm * 2 + 1, none⟩ (.float .f64 s2))).cell? ⟨gb, 0, none⟩ = some (.float .f64 p1) ∧ (((Wc.setCell ⟨w3.heap.size, mm * 2, none⟩ (.float .f64 s1)).setCell ⟨w3.heap.size, mm * 2 + 1, none⟩ (.float .f64 s2))).cell? ⟨gb, 1, none⟩ = some (.float .f64 p2) ∧ (((Wc.setCell ⟨w3.heap.size, mm * 2, none⟩ (.float .f64 s1)).setCell ⟨w3.heap.size, mm * 2 + 1, none⟩ (.float .f64 s2))).cell? ⟨be, oe + k * 2, none⟩ = some (.float .f64 (EX k)) ∧ (((Wc.setCell ⟨w3.heap.size, mm * 2, none⟩ (.float .f64 s1)).setCell ⟨w3.heap.size, mm * 2 + 1, none⟩ (.float .f64 s2))).cell? ⟨be, oe + k * 2 + 1, none⟩ = some (.float .f64 (EY k)) := ⟨(oth _ _ _ _ _ _ (by simp; omega)).trans I2.1, (oth _ _ _ _ _ _ (by simp; omega)).trans I2.2.1, (oth _ _ _ _ _ _ (by simp; omega)).trans I2.2.2.1, (oth _ _ _ _ _ _ (by simp; omega)).trans I2.2.2.2⟩
              have B3n := (B2.out.setCell (p := ⟨w3.heap.size, mm * 2, none⟩) (Nat.le_refl _) (.float .f64 s1)).setCell (p := ⟨w3.heap.size, mm * 2 + 1, none⟩) (Nat.le_refl _) (.float .f64 s2)
              refine wpI_only (i := 12) rfl (by kernel_rfl) I2 (by rfl) ?_
              intro K hK
              go_simp
              refine hK _ _ ?_
              clear hK K
              refine wpI_done I3 (by kernel_rfl) ?_ _
              generalize (Wc.setCell ⟨w3.heap.size, mm * 2, none⟩ (.float .f64 s1)).setCell ⟨w3.heap.size, mm * 2 + 1, none⟩ (.float .f64 s2) = Wcn at O3 B3n I3 ⊢
              have OC : Hid (Ow Wcn w3.heap.size w3.heap.size n n _) := O3
              have BN : Hid (Below w3.heap.size w3 Wcn) := B3n
              have II : (Wcn).cell? ⟨gb, 0, none⟩ = some (.float .f64 p1) ∧ (Wcn).cell? ⟨gb, 1, none⟩ = some (.float .f64 p2) ∧ (Wcn).cell? ⟨be, oe + k * 2, none⟩ = some (.float .f64 (EX k)) ∧ (Wcn).cell? ⟨be, oe + k * 2 + 1, none⟩ = some (.float .f64 (EY k)) := I3
              clear I2 O2 B2 d0 d1 y0 y1 O3 B3n I3 I0 OH0 BH0
              have E12 : Hid (cn a1 = cop .add (cn (EX k)) (cn p1) ∧ cn a2 = cop .add (cn (EY k)) (cn p2) ∧ cn s1 = cop .sub (cn (EX k)) (cn p1) ∧ cn s2 = cop .sub (cn (EY k)) (cn p2)) := ⟨ea1, ea2, es1, es2⟩
              clear ea1 ea2 es1 es2 II
              go_wp2
              go_roundw
              case rel =>
                have hmm := HMM.out
                refine ⟨k + 1, by go_num, by omega, _, fun i => if i = mm then s1 else if i = k then a1 else U i, fun i => if i = mm then s2 else if i = k then a2 else V i, OC.out, fun q hq => ?_, BN.out⟩
                obtain ⟨pe1, pe2⟩ := Prod.mk.inj (VE.out k h1)
                obtain ⟨po1, po2⟩ := Prod.mk.inj (VO.out k h1)
                by_cases hqk : q = k
                · subst hqk
                  have e0 : h + q = mm := by omega
                  rw [e0]
                  have n1 : ¬ q = mm := by omega
                  simp only [if_pos, if_neg n1]
                  refine ⟨?_, ?_, ?_, ?_, ?_, ?_⟩
                  · rw [if_neg (by omega), if_neg (by omega), if_neg (by omega)]
                  · rw [if_neg (by omega), if_neg (by omega)]
                  · rw [if_neg (by omega)]
                  · first | rfl | trivial
                  · rw [LOH.out P q h1, E12.out.1, E12.out.2.1, ET.out.1, ET.out.2, pe1, pe2, po1, po2]
                  · rw [← e0, HIH.out P q h1, E12.out.2.2.1, E12.out.2.2.2, ET.out.1, ET.out.2, pe1, pe2, po1, po2]
                · obtain ⟨g1, g2, g3, g4, g5, g6⟩ := HUV.out q (by omega)
                  have n1 : ¬ q = mm := by omega
                  have n2 : ¬ h + q = mm := by omega
                  have n3 : ¬ h + q = k := by omega
                  simp only [if_neg n1, if_neg hqk, if_neg n2, if_neg n3]
                  refine ⟨?_, ?_, ?_, ?_, g5, g6⟩
                  · rw [if_neg (by omega), if_neg (by omega), if_neg (by omega), if_neg (by omega), g1]
                  · rw [if_neg (by omega), if_neg (by omega), if_neg (by omega), if_neg (by omega), g2]
                  · rw [if_neg (by omega), if_neg (by omega), if_neg (by omega), if_neg (by omega), g3]
                  · rw [if_neg (by omega), if_neg (by omega), if_neg (by omega), if_neg (by omega), g4]
              case measure => simp [intOf]; omega
            · intro K hK
              have R24 := Rb.new Z1 0 0 39 (g := Z1.heap.size) rfl
              have l24 := l21.alloc l21.size (.cells #[.float .f64 0, .float .f64 0] 39)
              have hgb : wr.heap.size ≤ Z1.heap.size := l21.size
              go_simp
              refine hK _ _ ?_
              clear hK K
              generalize Z1.heap.size = gb at R24 hgb ⊢
              generalize Z1.alloc (.cells #[.float .f64 0, .float .f64 0] 39) = Z4 at R24 l24 ⊢
              refine wpI_only (i := 11) rfl (by kernel_rfl) l24 (by rfl) ?_
              intro K hK
              go_simp
              go_wp2_with (go_at_call 60; (with_reducible refine (sMul_any _ _ _ _ _).mono ?_); rintro e Z5 ⟨p1, p2, rfl, em1, em2, hb⟩; have l25 := bstep l24 hb; have R25 := R24.call hb; clear hb)
              have e0 := R25.c0
              have e1 := R25.c1
              have y0 := R25.z0
              have y1 := R25.z1
              have R9 := R25.put p1 p2
              have l9 := (l25.setCell (p := ⟨gb, 0, none⟩) hgb (.float .f64 p1)).setCell (p := ⟨gb, 1, none⟩) hgb (.float .f64 p2)
              refine wpI_only (i := 13) rfl (by kernel_rfl) l25 (by rfl) ?_
              intro K hK
              go_simp
              refine hK _ _ ?_
              clear hK K
              refine wpI_done l9 (by kernel_rfl) ?_ _
              clear e0 e1 y0 y1 R25 l25
              generalize (Z5.setCell ⟨gb, 0, none⟩ (.float .f64 p1)).setCell ⟨gb, 1, none⟩ (.float .f64 p2) = Wa at R9 l9 ⊢
              have II : (Wa).cell? ⟨gb, 0, none⟩ = some (.float .f64 p1) ∧ (Wa).cell? ⟨gb, 1, none⟩ = some (.float .f64 p2) ∧ (Wa).cell? ⟨be, oe + k * 2, none⟩ = some (.float .f64 (EX k)) ∧ (Wa).cell? ⟨be, oe + k * 2 + 1, none⟩ = some (.float .f64 (EY k)) := ⟨R9.c0, R9.c1, (re _ l9).1, (re _ l9).2⟩
              have hgw : ¬ gb = w3.heap.size := by omega
              have ON : Hid (Ow Wa w3.heap.size w3.heap.size n n f) := Ow.below HOW.out l9
              have BN : Hid (Below w3.heap.size w3 Wa) := bstep HBL2.out l9
              have ET : Hid (cn p1 = cre (cn (OX k)) (cn (OY k)) (tre ((k : Int) * strd n bk)) (tim ((k : Int) * strd n bk)) ∧ cn p2 = cim (cn (OX k)) (cn (OY k)) (tre ((k : Int) * strd n bk)) (tim ((k : Int) * strd n bk))) := ⟨by rw [em1, et1, et2, HSS.out], by rw [em2, et1, et2, HSS.out]⟩
              clear ro re R9 l9 em1 em2 et1 et2
              go_wp2
              refine wp_region_any (by kernel_rfl) ?_
              change wpAny _ _ _ _ _ _ _ (World.drew _)
              refine wpI_any (I := fun X => X.cell? ⟨gb, 0, none⟩ = some (.float .f64 p1) ∧ X.cell? ⟨gb, 1, none⟩ = some (.float .f64 p2) ∧ X.cell? ⟨be, oe + k * 2, none⟩ = some (.float .f64 (EX k)) ∧ X.cell? ⟨be, oe + k * 2 + 1, none⟩ = some (.float .f64 (EY k))) _ _ _ _ ?_
              refine wpI_takeD (some 72) (i := 0) (v := ?_) rfl rfl (by kernel_rfl) (by kernel_rfl) (by kernel_rfl) (fun _ _ _ h => h) ⟨by rfl, ?_⟩ ?_
              rotate_left
              · intro X hI; go_simp; try go_bits
                try rw [if_pos (by omega)]
                try with_reducible rfl
              refine wpI_takeD (some 73) (i := 1) (v := ?_) rfl rfl (by kernel_rfl) (by kernel_rfl) (by kernel_rfl) (fun _ _ _ h => h) ⟨by rfl, ?_⟩ ?_
              rotate_left
              · intro X hI; go_simp; try go_bits
                try rw [if_pos (by omega)]
                try with_reducible rfl
              refine wpI_takeD (some 74) (i := 2) (v := ?_) rfl rfl (by kernel_rfl) (by kernel_rfl) (by kernel_rfl) (fun _ _ _ h => h) ⟨by rfl, ?_⟩ ?_
              rotate_left
              · intro X hI; go_simp; try go_bits
                try rw [if_pos (by omega)]
                try with_reducible rfl
              refine wpI_takeD (some 75) (i := 3) (v := ?_) rfl rfl (by kernel_rfl) (by kernel_rfl) (by kernel_rfl) (fun _ _ _ h => h) ⟨by rfl, ?_⟩ ?_
              rotate_left
              · intro X hI; go_simp; try go_bits
                try rw [if_pos (by omega)]
                try with_reducible rfl
              refine wpI_takeD (some 76) (i := 4) (v := ?_) rfl rfl (by kernel_rfl) (by kernel_rfl) (by kernel_rfl) (fun _ _ _ h => h) ⟨by rfl, ?_⟩ ?_
              rotate_left
              · intro X hI; go_simp; try go_bits
                try rw [if_pos (by omega)]
                try with_reducible rfl
              refine wpI_takeD (some 77) (i := 5) (v := ?_) rfl rfl (by kernel_rfl) (by kernel_rfl) (by kernel_rfl) (fun _ _ _ h => h) ⟨by rfl, ?_⟩ ?_
              rotate_left
              · intro X hI; obtain ⟨q1, q2, q3, q4⟩ := hI; go_simp; try go_bits
                try rw [if_pos (by omega)]
                try with_reducible rfl
              refine wpI_takeD (some 78) (i := 6) (v := ?_) rfl rfl (by kernel_rfl) (by kernel_rfl) (by kernel_rfl) (fun _ _ _ h => h) ⟨by rfl, ?_⟩ ?_
              rotate_left
              · intro X hI; obtain ⟨q1, q2, q3, q4⟩ := hI; go_simp; try go_bits
                try rw [if_pos (by omega)]
                try with_reducible rfl
              have I0 : (Wa.drew).cell? ⟨gb, 0, none⟩ = some (.float .f64 p1) ∧ (Wa.drew).cell? ⟨gb, 1, none⟩ = some (.float .f64 p2) ∧ (Wa.drew).cell? ⟨be, oe + k * 2, none⟩ = some (.float .f64 (EX k)) ∧ (Wa.drew).cell? ⟨be, oe + k * 2 + 1, none⟩ = some (.float .f64 (EY k)) := II
              have O0 : Ow Wa.drew w3.heap.size w3.heap.size n n _ := Ow.below ON.out (Below.refl _ _).drew
              have B0n : Below w3.heap.size w3 Wa.drew := BN.out.drew
              generalize Wa.drew = Wbd at I0 O0 B0n ⊢
              have OH0 : Hid (Ow Wbd w3.heap.size w3.heap.size n n _) := O0
              have BH0 : Hid (Below w3.heap.size w3 Wbd) := B0n
              clear O0 B0n BN II ON
              refine wpI_only (i := 7) rfl (by kernel_rfl) I0 (by rfl) ?_
              intro K hK
              go_simp
              go_wp2_with (go_at_call 62; (with_reducible refine (sAdd_any _ _ _ _ _).mono ?_); rintro e Wb ⟨a1, a2, rfl, ea1, ea2, hb⟩; have I2 : (Wb).cell? ⟨gb, 0, none⟩ = some (.float .f64 p1) ∧ (Wb).cell? ⟨gb, 1, none⟩ = some (.float .f64 p2) ∧ (Wb).cell? ⟨be, oe + k * 2, none⟩ = some (.float .f64 (EX k)) ∧ (Wb).cell? ⟨be, oe + k * 2 + 1, none⟩ = some (.float .f64 (EY k)) := ⟨keepc hb I0.1, keepc hb I0.2.1, keepc hb I0.2.2.1, keepc hb I0.2.2.2⟩; have O2 := Ow.below OH0.out hb; have B2 : Hid (Below w3.heap.size w3 Wb) := bstep BH0.out hb; clear hb)
              refine wpI_only (i := 8) rfl (by kernel_rfl) I2 (by rfl) ?_
              intro K hK
              go_simp
              try go_bits
              refine hK _ _ ?_
              have d0 := O2.cell (j := k * 2) (by omega)
              have d1 := O2.cell (j := k * 2 + 1) (by omega)
              have y0 := World.ownsRow.frozenAt O2 (k * 2)
              have y1 := World.ownsRow.frozenAt O2 (k * 2 + 1)
              have O3 := (O2.put (k * 2) (.float .f64 a1)).put (k * 2 + 1) (.float .f64 a2)
              have I3 : (((Wb.setCell ⟨w3.heap.size, k * 2, none⟩ (.float .f64 a1)).setCell ⟨w3.heap.size, k * 2 + 1, none⟩ (.float .f64 a2))).cell? ⟨gb, 0, none⟩ = some (.float .f64 p1) ∧ (((Wb.setCell ⟨w3.heap.size, k * 2, none⟩ (.float .f64 a1)).setCell ⟨w3.heap.size, k * 2 + 1, none⟩ (.float .f64 a2))).cell? ⟨gb, 1, none⟩ = some (.float .f64 p2) ∧ (((Wb.setCell ⟨w3.heap.size, k * 2, none⟩ (.float .f64 a1)).setCell ⟨w3.heap.size, k * 2 + 1, none⟩ (.float .f64 a2))).cell? ⟨be, oe + k * 2, none⟩ = some (.float .f64 (EX k)) ∧ (((Wb.setCell ⟨w3.heap.size, k * 2, none⟩ (.float .f64 a1)).setCell ⟨w3.heap.size, k * 2 + 1, none⟩ (.float .f64 a2))).cell? ⟨be, oe + k * 2 + 1, none⟩ = some (.float .f64 (EY k)) := ⟨(oth _ _ _ _ _ _ (by simp; omega)).trans I2.1, (oth _ _ _ _ _ _ (by simp; omega)).trans I2.2.1, (oth _ _ _ _ _ _ (by simp; omega)).trans I2.2.2.1, (oth _ _ _ _ _ _ (by simp; omega)).trans I2.2.2.2⟩
              have B3n := (B2.out.setCell (p := ⟨w3.heap.size, k * 2, none⟩) (Nat.le_refl _) (.float .f64 a1)).setCell (p := ⟨w3.heap.size, k * 2 + 1, none⟩) (Nat.le_refl _) (.float .f64 a2)
              refine wpI_only (i := 9) rfl (by kernel_rfl) I2 (by rfl) ?_
              intro K hK
              go_simp
              refine hK _ _ ?_
              clear hK K
              refine wpI_done I3 (by kernel_rfl) ?_ _
              generalize (Wb.setCell ⟨w3.heap.size, k * 2, none⟩ (.float .f64 a1)).setCell ⟨w3.heap.size, k * 2 + 1, none⟩ (.float .f64 a2) = Wbn at O3 B3n I3 ⊢
              have OA : Hid (Ow Wbn w3.heap.size w3.heap.size n n _) := O3
              have BN : Hid (Below w3.heap.size w3 Wbn) := B3n
              have II : (Wbn).cell? ⟨gb, 0, none⟩ = some (.float .f64 p1) ∧ (Wbn).cell? ⟨gb, 1, none⟩ = some (.float .f64 p2) ∧ (Wbn).cell? ⟨be, oe + k * 2, none⟩ = some (.float .f64 (EX k)) ∧ (Wbn).cell? ⟨be, oe + k * 2 + 1, none⟩ = some (.float .f64 (EY k)) := I3
              clear I2 O2 B2 d0 d1 y0 y1 O3 B3n I3 I0 OH0 BH0
              go_wp2
              refine wp_region_any (by kernel_rfl) ?_
              change wpAny _ _ _ _ _ _ _ (World.drew _)
              refine wpI_any (I := fun X => X.cell? ⟨gb, 0, none⟩ = some (.float .f64 p1) ∧ X.cell? ⟨gb, 1, none⟩ = some (.float .f64 p2) ∧ X.cell? ⟨be, oe + k * 2, none⟩ = some (.float .f64 (EX k)) ∧ X.cell? ⟨be, oe + k * 2 + 1, none⟩ = some (.float .f64 (EY k))) _ _ _ _ ?_
              refine wpI_takeD (some 81) (i := 0) (v := ?_) rfl rfl (by kernel_rfl) (by kernel_rfl) (by kernel_rfl) (fun _ _ _ h => h) ⟨by rfl, ?_⟩ ?_
              rotate_left
              · intro X hI; go_simp; try go_bits
                try rw [if_pos (by omega)]
                try with_reducible rfl
              refine wpI_takeD (some 82) (i := 1) (v := ?_) rfl rfl (by kernel_rfl) (by kernel_rfl) (by kernel_rfl) (fun _ _ _ h => h) ⟨by rfl, ?_⟩ ?_
              rotate_left
              · intro X hI; go_simp; try go_bits
                try rw [if_pos (by omega)]
                try with_reducible rfl
              refine wpI_takeD (some 83) (i := 2) (v := ?_) rfl rfl (by kernel_rfl) (by kernel_rfl) (by kernel_rfl) (fun _ _ _ h => h) ⟨by rfl, ?_⟩ ?_
              rotate_left
              · intro X hI; go_simp; try go_bits
                try rw [if_pos (by omega)]
                try with_reducible rfl
              refine wpI_takeD (some 84) (i := 3) (v := .int .i64 h) rfl rfl (by kernel_rfl) (by kernel_rfl) (by kernel_rfl) (fun _ _ _ h => h) ⟨by rfl, ?_⟩ ?_
              · intro X hI; go_simp; try go_bits
                try rw [if_pos (by omega)]
                try trivial
              refine wpI_takeD (some 85) (i := 4) (v := .int .i64 mm) rfl rfl (by kernel_rfl) (by kernel_rfl) (by kernel_rfl) (fun _ _ _ h => h) ⟨by rfl, ?_⟩ ?_
              · intro X hI; go_simp; try go_bits
                try rw [if_pos (by omega)]
                try trivial
              refine wpI_takeD (some 86) (i := 5) (v := ?_) rfl rfl (by kernel_rfl) (by kernel_rfl) (by kernel_rfl) (fun _ _ _ h => h) ⟨by rfl, ?_⟩ ?_
              rotate_left
              · intro X hI; go_simp; try go_bits
                try rw [if_pos (by omega)]
                try with_reducible rfl
              refine wpI_takeD (some 87) (i := 6) (v := ?_) rfl rfl (by kernel_rfl) (by kernel_rfl) (by kernel_rfl) (fun _ _ _ h => h) ⟨by rfl, ?_⟩ ?_
              rotate_left
              · intro X hI; go_simp; try go_bits
                try rw [if_pos (by omega)]
                try with_reducible rfl
              refine wpI_takeD (some 88) (i := 7) (v := ?_) rfl rfl (by kernel_rfl) (by kernel_rfl) (by kernel_rfl) (fun _ _ _ h => h) ⟨by rfl, ?_⟩ ?_
              rotate_left
              · intro X hI; go_simp; try go_bits
                try rw [if_pos (by omega)]
                try with_reducible rfl
              refine wpI_takeD (some 89) (i := 8) (v := ?_) rfl rfl (by kernel_rfl) (by kernel_rfl) (by kernel_rfl) (fun _ _ _ h => h) ⟨by rfl, ?_⟩ ?_
              rotate_left
              · intro X hI; obtain ⟨q1, q2, q3, q4⟩ := hI; go_simp; try go_bits
                try rw [if_pos (by omega)]
                try with_reducible rfl
              refine wpI_takeD (some 90) (i := 9) (v := ?_) rfl rfl (by kernel_rfl) (by kernel_rfl) (by kernel_rfl) (fun _ _ _ h => h) ⟨by rfl, ?_⟩ ?_
              rotate_left
              · intro X hI; obtain ⟨q1, q2, q3, q4⟩ := hI; go_simp; try go_bits
                try rw [if_pos (by omega)]
                try with_reducible rfl
              have I0 : (Wbn.drew).cell? ⟨gb, 0, none⟩ = some (.float .f64 p1) ∧ (Wbn.drew).cell? ⟨gb, 1, none⟩ = some (.float .f64 p2) ∧ (Wbn.drew).cell? ⟨be, oe + k * 2, none⟩ = some (.float .f64 (EX k)) ∧ (Wbn.drew).cell? ⟨be, oe + k * 2 + 1, none⟩ = some (.float .f64 (EY k)) := II
              have O0 : Ow Wbn.drew w3.heap.size w3.heap.size n n _ := Ow.below OA.out (Below.refl _ _).drew
              have B0n : Below w3.heap.size w3 Wbn.drew := BN.out.drew
              generalize Wbn.drew = Wcd at I0 O0 B0n ⊢
              have OH0 : Hid (Ow Wcd w3.heap.size w3.heap.size n n _) := O0
              have BH0 : Hid (Below w3.heap.size w3 Wcd) := B0n
              clear O0 B0n BN II OA
              refine wpI_only (i := 10) rfl (by kernel_rfl) I0 (by rfl) ?_
              intro K hK
              go_simp
              go_wp2_with (go_at_call 63; (with_reducible refine (sSub_any _ _ _ _ _).mono ?_); rintro e Wc ⟨s1, s2, rfl, es1, es2, hb⟩; have I2 : (Wc).cell? ⟨gb, 0, none⟩ = some (.float .f64 p1) ∧ (Wc).cell? ⟨gb, 1, none⟩ = some (.float .f64 p2) ∧ (Wc).cell? ⟨be, oe + k * 2, none⟩ = some (.float .f64 (EX k)) ∧ (Wc).cell? ⟨be, oe + k * 2 + 1, none⟩ = some (.float .f64 (EY k)) := ⟨keepc hb I0.1, keepc hb I0.2.1, keepc hb I0.2.2.1, keepc hb I0.2.2.2⟩; have O2 := Ow.below OH0.out hb; have B2 : Hid (Below w3.heap.size w3 Wc) := bstep BH0.out hb; clear hb)
              refine wpI_only (i := 11) rfl (by kernel_rfl) I2 (by rfl) ?_
              intro K hK
              go_simp
              try go_bits
              refine hK _ _ ?_
              have d0 := O2.cell (j := mm * 2) (by omega)
              have d1 := O2.cell (j := mm * 2 + 1) (by omega)
              have y0 := World.ownsRow.frozenAt O2 (mm * 2)
              have y1 := World.ownsRow.frozenAt O2 (mm * 2 + 1)
              have O3 := (O2.put (mm * 2) (.float .f64 s1)).put (mm * 2 + 1) (.float .f64 s2)
              have I3 : (((Wc.setCell ⟨w3.heap.size, mm * 2, none⟩ (.float .f64 s1)).setCell ⟨w3.heap.size, mm * 2 + 1, none⟩ (.float .f64 s2))).cell? ⟨gb, 0, none⟩ = some (.float .f64 p1) ∧ (((Wc.setCell ⟨w3.heap.size, mm * 2, none⟩ (.float .f64 s1)).setCell ⟨w3.heap.size, mm * 2 + 1, none⟩ (.float .f64 s2))).cell? ⟨gb, 1, none⟩ = some (.float .f64 p2) ∧ (((Wc.setCell ⟨w3.heap.size, mm * 2, none⟩ (.float .f64 s1)).setCell ⟨w3.heap.size, mm * 2 + 1, none⟩ (.float .f64 s2))).cell? ⟨be, oe + k * 2, none⟩ = some (.float .f64 (EX k)) ∧ (((Wc.setCell ⟨w3.heap.size, mm * 2, none⟩ (.float .f64 s1)).setCell ⟨w3.heap.size, mm * 2 + 1, none⟩ (.float .f64 s2))).cell? ⟨be, oe + k * 2 + 1, none⟩ = some (.float .f64 (EY k)) := ⟨(oth _ _ _ _ _ _ (by simp; omega)).trans I2.1, (oth _ _ _ _ _ _ (by simp; omega)).trans I2.2.1, (oth _ _ _ _ _ _ (by simp; omega)).trans I2.2.2.1, (oth _ _ _ _ _ _ (by simp; omega)).trans I2.2.2.2⟩
              have B3n := (B2.out.setCell (p := ⟨w3.heap.size, mm * 2, none⟩) (Nat.le_refl _) (.float .f64 s1)).setCell (p := ⟨w3.heap.size, mm * 2 + 1, none⟩) (Nat.le_refl _) (.float .f64 s2)
              refine wpI_only (i := 12) rfl (by kernel_rfl) I2 (by rfl) ?_
              intro K hK
              go_simp
              refine hK _ _ ?_
              clear hK K
              refine wpI_done I3 (by kernel_rfl) ?_ _
              generalize (Wc.setCell ⟨w3.heap.size, mm * 2, none⟩ (.float .f64 s1)).setCell ⟨w3.heap.size, mm * 2 + 1, none⟩ (.float .f64 s2) = Wcn at O3 B3n I3 ⊢
              have OC : Hid (Ow Wcn w3.heap.size w3.heap.size n n _) := O3
              have BN : Hid (Below w3.heap.size w3 Wcn) := B3n
              have II : (Wcn).cell? ⟨gb, 0, none⟩ = some (.float .f64 p1) ∧ (Wcn).cell? ⟨gb, 1, none⟩ = some (.float .f64 p2) ∧ (Wcn).cell? ⟨be, oe + k * 2, none⟩ = some (.float .f64 (EX k)) ∧ (Wcn).cell? ⟨be, oe + k * 2 + 1, none⟩ = some (.float .f64 (EY k)) := I3
              clear I2 O2 B2 d0 d1 y0 y1 O3 B3n I3 I0 OH0 BH0
              have E12 : Hid (cn a1 = cop .add (cn (EX k)) (cn p1) ∧ cn a2 = cop .add (cn (EY k)) (cn p2) ∧ cn s1 = cop .sub (cn (EX k)) (cn p1) ∧ cn s2 = cop .sub (cn (EY k)) (cn p2)) := ⟨ea1, ea2, es1, es2⟩
              clear ea1 ea2 es1 es2 II
              go_wp2
              go_roundw
              case rel =>
                have hmm := HMM.out
                refine ⟨k + 1, by go_num, by omega, _, fun i => if i = mm then s1 else if i = k then a1 else U i, fun i => if i = mm then s2 else if i = k then a2 else V i, OC.out, fun q hq => ?_, BN.out⟩
                obtain ⟨pe1, pe2⟩ := Prod.mk.inj (VE.out k h1)
                obtain ⟨po1, po2⟩ := Prod.mk.inj (VO.out k h1)
                by_cases hqk : q = k
                · subst hqk
                  have e0 : h + q = mm := by omega
                  rw [e0]
                  have n1 : ¬ q = mm := by omega
                  simp only [if_pos, if_neg n1]
                  refine ⟨?_, ?_, ?_, ?_, ?_, ?_⟩
                  · rw [if_neg (by omega), if_neg (by omega), if_neg (by omega)]
                  · rw [if_neg (by omega), if_neg (by omega)]
                  · rw [if_neg (by omega)]
                  · first | rfl | trivial
                  · rw [LOH.out P q h1, E12.out.1, E12.out.2.1, ET.out.1, ET.out.2, pe1, pe2, po1, po2]
                  · rw [← e0, HIH.out P q h1, E12.out.2.2.1, E12.out.2.2.2, ET.out.1, ET.out.2, pe1, pe2, po1, po2]
                · obtain ⟨g1, g2, g3, g4, g5, g6⟩ := HUV.out q (by omega)
                  have n1 : ¬ q = mm := by omega
                  have n2 : ¬ h + q = mm := by omega
                  have n3 : ¬ h + q = k := by omega
                  simp only [if_neg n1, if_neg hqk, if_neg n2, if_neg n3]
                  refine ⟨?_, ?_, ?_, ?_, g5, g6⟩
                  · rw [if_neg (by omega), if_neg (by omega), if_neg (by omega), if_neg (by omega), g1]
                  · rw [if_neg (by omega), if_neg (by omega), if_neg (by omega), if_neg (by omega), g2]
                  · rw [if_neg (by omega), if_neg (by omega), if_neg (by omega), if_neg (by omega), g3]
                  · rw [if_neg (by omega), if_neg (by omega), if_neg (by omega), if_neg (by omega), g4]
              case measure => simp [intOf]; omega
          · intro K hK
            have R26 := Rb.new W0 0 0 39 (g := W0.heap.size) rfl
            have l26 := l0.alloc l0.size (.cells #[.float .f64 0, .float .f64 0] 39)
            have hgb : wr.heap.size ≤ W0.heap.size := l0.size
            go_simp
            refine hK _ _ ?_
            clear hK K
            generalize W0.heap.size = gb at R26 hgb ⊢
            generalize W0.alloc (.cells #[.float .f64 0, .float .f64 0] 39) = Z6 at R26 l26 ⊢
            refine wpI_only (i := 10) rfl (by kernel_rfl) l26 (by rfl) ?_
            intro K hK
            go_simp
            go_wp2_with (go_at_call 61; (with_reducible refine (sTurn_any _ _).mono ?_); rintro e Z7 ⟨t1, t2, rfl, et1, et2, hb⟩; have l27 := bstep l26 hb; have R27 := R26.call hb; clear hb)
            refine wpI_only (i := 11) rfl (by kernel_rfl) l27 (by rfl) ?_
            intro K hK
            go_simp
            go_wp2_with (go_at_call 60; (with_reducible refine (sMul_any _ _ _ _ _).mono ?_); rintro e Z8 ⟨p1, p2, rfl, em1, em2, hb⟩; have l28 := bstep l27 hb; have R28 := R27.call hb; clear hb)
            have e0 := R28.c0
            have e1 := R28.c1
            have y0 := R28.z0
            have y1 := R28.z1
            have R9 := R28.put p1 p2
            have l9 := (l28.setCell (p := ⟨gb, 0, none⟩) hgb (.float .f64 p1)).setCell (p := ⟨gb, 1, none⟩) hgb (.float .f64 p2)
            refine wpI_only (i := 13) rfl (by kernel_rfl) l28 (by rfl) ?_
            intro K hK
            go_simp
            refine hK _ _ ?_
            clear hK K
            refine wpI_done l9 (by kernel_rfl) ?_ _
            clear e0 e1 y0 y1 R28 l28
            generalize (Z8.setCell ⟨gb, 0, none⟩ (.float .f64 p1)).setCell ⟨gb, 1, none⟩ (.float .f64 p2) = Wa at R9 l9 ⊢
            have II : (Wa).cell? ⟨gb, 0, none⟩ = some (.float .f64 p1) ∧ (Wa).cell? ⟨gb, 1, none⟩ = some (.float .f64 p2) ∧ (Wa).cell? ⟨be, oe + k * 2, none⟩ = some (.float .f64 (EX k)) ∧ (Wa).cell? ⟨be, oe + k * 2 + 1, none⟩ = some (.float .f64 (EY k)) := ⟨R9.c0, R9.c1, (re _ l9).1, (re _ l9).2⟩
            have hgw : ¬ gb = w3.heap.size := by omega
            have ON : Hid (Ow Wa w3.heap.size w3.heap.size n n f) := Ow.below HOW.out l9
            have BN : Hid (Below w3.heap.size w3 Wa) := bstep HBL2.out l9
            have ET : Hid (cn p1 = cre (cn (OX k)) (cn (OY k)) (tre ((k : Int) * strd n bk)) (tim ((k : Int) * strd n bk)) ∧ cn p2 = cim (cn (OX k)) (cn (OY k)) (tre ((k : Int) * strd n bk)) (tim ((k : Int) * strd n bk))) := ⟨by rw [em1, et1, et2, HSS.out], by rw [em2, et1, et2, HSS.out]⟩
            clear ro re R9 l9 em1 em2 et1 et2
            go_wp2
            refine wp_region_any (by kernel_rfl) ?_
            change wpAny _ _ _ _ _ _ _ (World.drew _)
            refine wpI_any (I := fun X => X.cell? ⟨gb, 0, none⟩ = some (.float .f64 p1) ∧ X.cell? ⟨gb, 1, none⟩ = some (.float .f64 p2) ∧ X.cell? ⟨be, oe + k * 2, none⟩ = some (.float .f64 (EX k)) ∧ X.cell? ⟨be, oe + k * 2 + 1, none⟩ = some (.float .f64 (EY k))) _ _ _ _ ?_
            refine wpI_takeD (some 72) (i := 0) (v := ?_) rfl rfl (by kernel_rfl) (by kernel_rfl) (by kernel_rfl) (fun _ _ _ h => h) ⟨by rfl, ?_⟩ ?_
            rotate_left
            · intro X hI; go_simp; try go_bits
              try rw [if_pos (by omega)]
              try with_reducible rfl
            refine wpI_takeD (some 73) (i := 1) (v := ?_) rfl rfl (by kernel_rfl) (by kernel_rfl) (by kernel_rfl) (fun _ _ _ h => h) ⟨by rfl, ?_⟩ ?_
            rotate_left
            · intro X hI; go_simp; try go_bits
              try rw [if_pos (by omega)]
              try with_reducible rfl
            refine wpI_takeD (some 74) (i := 2) (v := ?_) rfl rfl (by kernel_rfl) (by kernel_rfl) (by kernel_rfl) (fun _ _ _ h => h) ⟨by rfl, ?_⟩ ?_
            rotate_left
            · intro X hI; go_simp; try go_bits
              try rw [if_pos (by omega)]
              try with_reducible rfl
            refine wpI_takeD (some 75) (i := 3) (v := ?_) rfl rfl (by kernel_rfl) (by kernel_rfl) (by kernel_rfl) (fun _ _ _ h => h) ⟨by rfl, ?_⟩ ?_
            rotate_left
            · intro X hI; go_simp; try go_bits
              try rw [if_pos (by omega)]
              try with_reducible rfl
            refine wpI_takeD (some 76) (i := 4) (v := ?_) rfl rfl (by kernel_rfl) (by kernel_rfl) (by kernel_rfl) (fun _ _ _ h => h) ⟨by rfl, ?_⟩ ?_
            rotate_left
            · intro X hI; go_simp; try go_bits
              try rw [if_pos (by omega)]
              try with_reducible rfl
            refine wpI_takeD (some 77) (i := 5) (v := ?_) rfl rfl (by kernel_rfl) (by kernel_rfl) (by kernel_rfl) (fun _ _ _ h => h) ⟨by rfl, ?_⟩ ?_
            rotate_left
            · intro X hI; obtain ⟨q1, q2, q3, q4⟩ := hI; go_simp; try go_bits
              try rw [if_pos (by omega)]
              try with_reducible rfl
            refine wpI_takeD (some 78) (i := 6) (v := ?_) rfl rfl (by kernel_rfl) (by kernel_rfl) (by kernel_rfl) (fun _ _ _ h => h) ⟨by rfl, ?_⟩ ?_
            rotate_left
            · intro X hI; obtain ⟨q1, q2, q3, q4⟩ := hI; go_simp; try go_bits
              try rw [if_pos (by omega)]
              try with_reducible rfl
            have I0 : (Wa.drew).cell? ⟨gb, 0, none⟩ = some (.float .f64 p1) ∧ (Wa.drew).cell? ⟨gb, 1, none⟩ = some (.float .f64 p2) ∧ (Wa.drew).cell? ⟨be, oe + k * 2, none⟩ = some (.float .f64 (EX k)) ∧ (Wa.drew).cell? ⟨be, oe + k * 2 + 1, none⟩ = some (.float .f64 (EY k)) := II
            have O0 : Ow Wa.drew w3.heap.size w3.heap.size n n _ := Ow.below ON.out (Below.refl _ _).drew
            have B0n : Below w3.heap.size w3 Wa.drew := BN.out.drew
            generalize Wa.drew = Wbd at I0 O0 B0n ⊢
            have OH0 : Hid (Ow Wbd w3.heap.size w3.heap.size n n _) := O0
            have BH0 : Hid (Below w3.heap.size w3 Wbd) := B0n
            clear O0 B0n BN II ON
            refine wpI_only (i := 7) rfl (by kernel_rfl) I0 (by rfl) ?_
            intro K hK
            go_simp
            go_wp2_with (go_at_call 62; (with_reducible refine (sAdd_any _ _ _ _ _).mono ?_); rintro e Wb ⟨a1, a2, rfl, ea1, ea2, hb⟩; have I2 : (Wb).cell? ⟨gb, 0, none⟩ = some (.float .f64 p1) ∧ (Wb).cell? ⟨gb, 1, none⟩ = some (.float .f64 p2) ∧ (Wb).cell? ⟨be, oe + k * 2, none⟩ = some (.float .f64 (EX k)) ∧ (Wb).cell? ⟨be, oe + k * 2 + 1, none⟩ = some (.float .f64 (EY k)) := ⟨keepc hb I0.1, keepc hb I0.2.1, keepc hb I0.2.2.1, keepc hb I0.2.2.2⟩; have O2 := Ow.below OH0.out hb; have B2 : Hid (Below w3.heap.size w3 Wb) := bstep BH0.out hb; clear hb)
            refine wpI_only (i := 8) rfl (by kernel_rfl) I2 (by rfl) ?_
            intro K hK
            go_simp
            try go_bits
            refine hK _ _ ?_
            have d0 := O2.cell (j := k * 2) (by omega)
            have d1 := O2.cell (j := k * 2 + 1) (by omega)
            have y0 := World.ownsRow.frozenAt O2 (k * 2)
            have y1 := World.ownsRow.frozenAt O2 (k * 2 + 1)
            have O3 := (O2.put (k * 2) (.float .f64 a1)).put (k * 2 + 1) (.float .f64 a2)
            have I3 : (((Wb.setCell ⟨w3.heap.size, k * 2, none⟩ (.float .f64 a1)).setCell ⟨w3.heap.size, k * 2 + 1, none⟩ (.float .f64 a2))).cell? ⟨gb, 0, none⟩ = some (.float .f64 p1) ∧ (((Wb.setCell ⟨w3.heap.size, k * 2, none⟩ (.float .f64 a1)).setCell ⟨w3.heap.size, k * 2 + 1, none⟩ (.float .f64 a2))).cell? ⟨gb, 1, none⟩ = some (.float .f64 p2) ∧ (((Wb.setCell ⟨w3.heap.size, k * 2, none⟩ (.float .f64 a1)).setCell ⟨w3.heap.size, k * 2 + 1, none⟩ (.float .f64 a2))).cell? ⟨be, oe + k * 2, none⟩ = some (.float .f64 (EX k)) ∧ (((Wb.setCell ⟨w3.heap.size, k * 2, none⟩ (.float .f64 a1)).setCell ⟨w3.heap.size, k * 2 + 1, none⟩ (.float .f64 a2))).cell? ⟨be, oe + k * 2 + 1, none⟩ = some (.float .f64 (EY k)) := ⟨(oth _ _ _ _ _ _ (by simp; omega)).trans I2.1, (oth _ _ _ _ _ _ (by simp; omega)).trans I2.2.1, (oth _ _ _ _ _ _ (by simp; omega)).trans I2.2.2.1, (oth _ _ _ _ _ _ (by simp; omega)).trans I2.2.2.2⟩
            have B3n := (B2.out.setCell (p := ⟨w3.heap.size, k * 2, none⟩) (Nat.le_refl _) (.float .f64 a1)).setCell (p := ⟨w3.heap.size, k * 2 + 1, none⟩) (Nat.le_refl _) (.float .f64 a2)
            refine wpI_only (i := 9) rfl (by kernel_rfl) I2 (by rfl) ?_
            intro K hK
            go_simp
            refine hK _ _ ?_
            clear hK K
            refine wpI_done I3 (by kernel_rfl) ?_ _
            generalize (Wb.setCell ⟨w3.heap.size, k * 2, none⟩ (.float .f64 a1)).setCell ⟨w3.heap.size, k * 2 + 1, none⟩ (.float .f64 a2) = Wbn at O3 B3n I3 ⊢
            have OA : Hid (Ow Wbn w3.heap.size w3.heap.size n n _) := O3
            have BN : Hid (Below w3.heap.size w3 Wbn) := B3n
            have II : (Wbn).cell? ⟨gb, 0, none⟩ = some (.float .f64 p1) ∧ (Wbn).cell? ⟨gb, 1, none⟩ = some (.float .f64 p2) ∧ (Wbn).cell? ⟨be, oe + k * 2, none⟩ = some (.float .f64 (EX k)) ∧ (Wbn).cell? ⟨be, oe + k * 2 + 1, none⟩ = some (.float .f64 (EY k)) := I3
            clear I2 O2 B2 d0 d1 y0 y1 O3 B3n I3 I0 OH0 BH0
            go_wp2
            refine wp_region_any (by kernel_rfl) ?_
            change wpAny _ _ _ _ _ _ _ (World.drew _)
            refine wpI_any (I := fun X => X.cell? ⟨gb, 0, none⟩ = some (.float .f64 p1) ∧ X.cell? ⟨gb, 1, none⟩ = some (.float .f64 p2) ∧ X.cell? ⟨be, oe + k * 2, none⟩ = some (.float .f64 (EX k)) ∧ X.cell? ⟨be, oe + k * 2 + 1, none⟩ = some (.float .f64 (EY k))) _ _ _ _ ?_
            refine wpI_takeD (some 81) (i := 0) (v := ?_) rfl rfl (by kernel_rfl) (by kernel_rfl) (by kernel_rfl) (fun _ _ _ h => h) ⟨by rfl, ?_⟩ ?_
            rotate_left
            · intro X hI; go_simp; try go_bits
              try rw [if_pos (by omega)]
              try with_reducible rfl
            refine wpI_takeD (some 82) (i := 1) (v := ?_) rfl rfl (by kernel_rfl) (by kernel_rfl) (by kernel_rfl) (fun _ _ _ h => h) ⟨by rfl, ?_⟩ ?_
            rotate_left
            · intro X hI; go_simp; try go_bits
              try rw [if_pos (by omega)]
              try with_reducible rfl
            refine wpI_takeD (some 83) (i := 2) (v := ?_) rfl rfl (by kernel_rfl) (by kernel_rfl) (by kernel_rfl) (fun _ _ _ h => h) ⟨by rfl, ?_⟩ ?_
            rotate_left
            · intro X hI; go_simp; try go_bits
              try rw [if_pos (by omega)]
              try with_reducible rfl
            refine wpI_takeD (some 84) (i := 3) (v := .int .i64 h) rfl rfl (by kernel_rfl) (by kernel_rfl) (by kernel_rfl) (fun _ _ _ h => h) ⟨by rfl, ?_⟩ ?_
            · intro X hI; go_simp; try go_bits
              try rw [if_pos (by omega)]
              try trivial
            refine wpI_takeD (some 85) (i := 4) (v := .int .i64 mm) rfl rfl (by kernel_rfl) (by kernel_rfl) (by kernel_rfl) (fun _ _ _ h => h) ⟨by rfl, ?_⟩ ?_
            · intro X hI; go_simp; try go_bits
              try rw [if_pos (by omega)]
              try trivial
            refine wpI_takeD (some 86) (i := 5) (v := ?_) rfl rfl (by kernel_rfl) (by kernel_rfl) (by kernel_rfl) (fun _ _ _ h => h) ⟨by rfl, ?_⟩ ?_
            rotate_left
            · intro X hI; go_simp; try go_bits
              try rw [if_pos (by omega)]
              try with_reducible rfl
            refine wpI_takeD (some 87) (i := 6) (v := ?_) rfl rfl (by kernel_rfl) (by kernel_rfl) (by kernel_rfl) (fun _ _ _ h => h) ⟨by rfl, ?_⟩ ?_
            rotate_left
            · intro X hI; go_simp; try go_bits
              try rw [if_pos (by omega)]
              try with_reducible rfl
            refine wpI_takeD (some 88) (i := 7) (v := ?_) rfl rfl (by kernel_rfl) (by kernel_rfl) (by kernel_rfl) (fun _ _ _ h => h) ⟨by rfl, ?_⟩ ?_
            rotate_left
            · intro X hI; go_simp; try go_bits
              try rw [if_pos (by omega)]
              try with_reducible rfl
            refine wpI_takeD (some 89) (i := 8) (v := ?_) rfl rfl (by kernel_rfl) (by kernel_rfl) (by kernel_rfl) (fun _ _ _ h => h) ⟨by rfl, ?_⟩ ?_
            rotate_left
            · intro X hI; obtain ⟨q1, q2, q3, q4⟩ := hI; go_simp; try go_bits
              try rw [if_pos (by omega)]
              try with_reducible rfl
            refine wpI_takeD (some 90) (i := 9) (v := ?_) rfl rfl (by kernel_rfl) (by kernel_rfl) (by kernel_rfl) (fun _ _ _ h => h) ⟨by rfl, ?_⟩ ?_
            rotate_left
            · intro X hI; obtain ⟨q1, q2, q3, q4⟩ := hI; go_simp; try go_bits
              try rw [if_pos (by omega)]
              try with_reducible rfl
            have I0 : (Wbn.drew).cell? ⟨gb, 0, none⟩ = some (.float .f64 p1) ∧ (Wbn.drew).cell? ⟨gb, 1, none⟩ = some (.float .f64 p2) ∧ (Wbn.drew).cell? ⟨be, oe + k * 2, none⟩ = some (.float .f64 (EX k)) ∧ (Wbn.drew).cell? ⟨be, oe + k * 2 + 1, none⟩ = some (.float .f64 (EY k)) := II
            have O0 : Ow Wbn.drew w3.heap.size w3.heap.size n n _ := Ow.below OA.out (Below.refl _ _).drew
            have B0n : Below w3.heap.size w3 Wbn.drew := BN.out.drew
            generalize Wbn.drew = Wcd at I0 O0 B0n ⊢
            have OH0 : Hid (Ow Wcd w3.heap.size w3.heap.size n n _) := O0
            have BH0 : Hid (Below w3.heap.size w3 Wcd) := B0n
            clear O0 B0n BN II OA
            refine wpI_only (i := 10) rfl (by kernel_rfl) I0 (by rfl) ?_
            intro K hK
            go_simp
            go_wp2_with (go_at_call 63; (with_reducible refine (sSub_any _ _ _ _ _).mono ?_); rintro e Wc ⟨s1, s2, rfl, es1, es2, hb⟩; have I2 : (Wc).cell? ⟨gb, 0, none⟩ = some (.float .f64 p1) ∧ (Wc).cell? ⟨gb, 1, none⟩ = some (.float .f64 p2) ∧ (Wc).cell? ⟨be, oe + k * 2, none⟩ = some (.float .f64 (EX k)) ∧ (Wc).cell? ⟨be, oe + k * 2 + 1, none⟩ = some (.float .f64 (EY k)) := ⟨keepc hb I0.1, keepc hb I0.2.1, keepc hb I0.2.2.1, keepc hb I0.2.2.2⟩; have O2 := Ow.below OH0.out hb; have B2 : Hid (Below w3.heap.size w3 Wc) := bstep BH0.out hb; clear hb)
            refine wpI_only (i := 11) rfl (by kernel_rfl) I2 (by rfl) ?_
            intro K hK
            go_simp
            try go_bits
            refine hK _ _ ?_
            have d0 := O2.cell (j := mm * 2) (by omega)
            have d1 := O2.cell (j := mm * 2 + 1) (by omega)
            have y0 := World.ownsRow.frozenAt O2 (mm * 2)
            have y1 := World.ownsRow.frozenAt O2 (mm * 2 + 1)
            have O3 := (O2.put (mm * 2) (.float .f64 s1)).put (mm * 2 + 1) (.float .f64 s2)
            have I3 : (((Wc.setCell ⟨w3.heap.size, mm * 2, none⟩ (.float .f64 s1)).setCell ⟨w3.heap.size, mm * 2 + 1, none⟩ (.float .f64 s2))).cell? ⟨gb, 0, none⟩ = some (.float .f64 p1) ∧ (((Wc.setCell ⟨w3.heap.size, mm * 2, none⟩ (.float .f64 s1)).setCell ⟨w3.heap.size, mm * 2 + 1, none⟩ (.float .f64 s2))).cell? ⟨gb, 1, none⟩ = some (.float .f64 p2) ∧ (((Wc.setCell ⟨w3.heap.size, mm * 2, none⟩ (.float .f64 s1)).setCell ⟨w3.heap.size, mm * 2 + 1, none⟩ (.float .f64 s2))).cell? ⟨be, oe + k * 2, none⟩ = some (.float .f64 (EX k)) ∧ (((Wc.setCell ⟨w3.heap.size, mm * 2, none⟩ (.float .f64 s1)).setCell ⟨w3.heap.size, mm * 2 + 1, none⟩ (.float .f64 s2))).cell? ⟨be, oe + k * 2 + 1, none⟩ = some (.float .f64 (EY k)) := ⟨(oth _ _ _ _ _ _ (by simp; omega)).trans I2.1, (oth _ _ _ _ _ _ (by simp; omega)).trans I2.2.1, (oth _ _ _ _ _ _ (by simp; omega)).trans I2.2.2.1, (oth _ _ _ _ _ _ (by simp; omega)).trans I2.2.2.2⟩
            have B3n := (B2.out.setCell (p := ⟨w3.heap.size, mm * 2, none⟩) (Nat.le_refl _) (.float .f64 s1)).setCell (p := ⟨w3.heap.size, mm * 2 + 1, none⟩) (Nat.le_refl _) (.float .f64 s2)
            refine wpI_only (i := 12) rfl (by kernel_rfl) I2 (by rfl) ?_
            intro K hK
            go_simp
            refine hK _ _ ?_
            clear hK K
            refine wpI_done I3 (by kernel_rfl) ?_ _
            generalize (Wc.setCell ⟨w3.heap.size, mm * 2, none⟩ (.float .f64 s1)).setCell ⟨w3.heap.size, mm * 2 + 1, none⟩ (.float .f64 s2) = Wcn at O3 B3n I3 ⊢
            have OC : Hid (Ow Wcn w3.heap.size w3.heap.size n n _) := O3
            have BN : Hid (Below w3.heap.size w3 Wcn) := B3n
            have II : (Wcn).cell? ⟨gb, 0, none⟩ = some (.float .f64 p1) ∧ (Wcn).cell? ⟨gb, 1, none⟩ = some (.float .f64 p2) ∧ (Wcn).cell? ⟨be, oe + k * 2, none⟩ = some (.float .f64 (EX k)) ∧ (Wcn).cell? ⟨be, oe + k * 2 + 1, none⟩ = some (.float .f64 (EY k)) := I3
            clear I2 O2 B2 d0 d1 y0 y1 O3 B3n I3 I0 OH0 BH0
            have E12 : Hid (cn a1 = cop .add (cn (EX k)) (cn p1) ∧ cn a2 = cop .add (cn (EY k)) (cn p2) ∧ cn s1 = cop .sub (cn (EX k)) (cn p1) ∧ cn s2 = cop .sub (cn (EY k)) (cn p2)) := ⟨ea1, ea2, es1, es2⟩
            clear ea1 ea2 es1 es2 II
            go_wp2
            go_roundw
            case rel =>
              have hmm := HMM.out
              refine ⟨k + 1, by go_num, by omega, _, fun i => if i = mm then s1 else if i = k then a1 else U i, fun i => if i = mm then s2 else if i = k then a2 else V i, OC.out, fun q hq => ?_, BN.out⟩
              obtain ⟨pe1, pe2⟩ := Prod.mk.inj (VE.out k h1)
              obtain ⟨po1, po2⟩ := Prod.mk.inj (VO.out k h1)
              by_cases hqk : q = k
              · subst hqk
                have e0 : h + q = mm := by omega
                rw [e0]
                have n1 : ¬ q = mm := by omega
                simp only [if_pos, if_neg n1]
                refine ⟨?_, ?_, ?_, ?_, ?_, ?_⟩
                · rw [if_neg (by omega), if_neg (by omega), if_neg (by omega)]
                · rw [if_neg (by omega), if_neg (by omega)]
                · rw [if_neg (by omega)]
                · first | rfl | trivial
                · rw [LOH.out P q h1, E12.out.1, E12.out.2.1, ET.out.1, ET.out.2, pe1, pe2, po1, po2]
                · rw [← e0, HIH.out P q h1, E12.out.2.2.1, E12.out.2.2.2, ET.out.1, ET.out.2, pe1, pe2, po1, po2]
              · obtain ⟨g1, g2, g3, g4, g5, g6⟩ := HUV.out q (by omega)
                have n1 : ¬ q = mm := by omega
                have n2 : ¬ h + q = mm := by omega
                have n3 : ¬ h + q = k := by omega
                simp only [if_neg n1, if_neg hqk, if_neg n2, if_neg n3]
                refine ⟨?_, ?_, ?_, ?_, g5, g6⟩
                · rw [if_neg (by omega), if_neg (by omega), if_neg (by omega), if_neg (by omega), g1]
                · rw [if_neg (by omega), if_neg (by omega), if_neg (by omega), if_neg (by omega), g2]
                · rw [if_neg (by omega), if_neg (by omega), if_neg (by omega), if_neg (by omega), g3]
                · rw [if_neg (by omega), if_neg (by omega), if_neg (by omega), if_neg (by omega), g4]
            case measure => simp [intOf]; omega
        · obtain rfl : h = k := by omega
          go_wp2
          go_ret
          refine ⟨_, U, V, _, rfl, fp_of_own (B := w3.heap.size) ((map_cl2 (fun i hi => ?_)) ▸ HOW.out), fun q hq => ?_, own_base HOW.out B3.out.size, B3.out.trans (HBL2.out.mono B3.out.size)⟩
          · by_cases hih : i < h
            · exact ⟨(HUV.out i hih).1, (HUV.out i hih).2.1⟩
            · have := HUV.out (i - h) (by have := HNH.out; omega)
              rw [show h + (i - h) = i by omega] at this
              exact ⟨this.2.2.1, this.2.2.2.1⟩
          · by_cases hqh : q < h
            · exact (HUV.out q hqh).2.2.2.2.1
            · have := HUV.out (q - h) (by have := HNH.out; omega)
              rw [show h + (q - h) = q by omega] at this
              exact this.2.2.2.2.2
end Go.Proofs.YtddbekacdfohpaaGreatDoor
