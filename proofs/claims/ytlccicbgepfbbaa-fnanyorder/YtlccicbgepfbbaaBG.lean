/- One part of the wires: the model. -/
import Derived.Test.YtlccicbgepfbbaaBE
import Derived.Test.YtlccicbgepfbbaaBF
import Derived.BigRegion
import Derived.Deep.QuietTactic
namespace Go.Proofs.Ytlccicbgepfbbaa
open Go.RowKit

theorem made_zero (k : Nat) : (madeCells (Value.int .i64 0).cells (k * 1)).toList = ils (fun _ => 0) k := by
  apply List.ext_getElem?
  intro i
  by_cases h : i < k
  · rw [ils_get h]
    simp [madeCells, Value.cells, h, Nat.mod_one]
  · rw [List.getElem?_eq_none (by rw [Array.length_toList, size_madeCells]; omega), List.getElem?_eq_none (by rw [ils_length]; omega)]

/-- How many of a row's cells are noughts. -/
def zcell (o : Option Value) : Nat := match o with
  | some (.int _ x) => if x = 0 then 1 else 0
  | _ => 0
def zc (w : World) (g n : Nat) : Nat := smN n fun k => zcell (w.cell? ⟨g, k, none⟩)
def zN (n : Nat) (num : Nat → Nat) : Nat := smN n fun k => if num k = 0 then 1 else 0

theorem zc_row {w : World} {g0 n : Nat} {num : Nat → Nat} (h : w.ownsRow g0 3 1 (.slice (some ⟨g0, 0, none⟩) n n) n (ils (fun i => ((num i : Nat) : Int)) n)) : zc w g0 n = zN n num := by
  refine smN_congr fun k hk => ?_
  rw [World.ownsRow.cellAt h k (by omega), ils_get hk]
  show (if ((num k : Nat) : Int) = 0 then 1 else 0) = if num k = 0 then 1 else 0
  by_cases e : num k = 0
  · rw [if_pos e, if_pos (by omega)]
  · rw [if_neg e, if_neg (by omega)]

theorem zN_less {n o : Nat} {f g : Nat → Nat} (ho : o < n) (h1 : f o = 0) (h2 : g o ≠ 0) (h3 : ∀ k, k < n → k ≠ o → (g k = 0 ↔ f k = 0)) : zN n g + 1 ≤ zN n f := by
  have gen : ∀ m, m ≤ n → zN m g + (if o < m then 1 else 0) ≤ zN m f := by
    intro m
    induction m with
    | zero => intro _; exact Nat.le_refl _
    | succ m ih =>
      intro hm
      have h4 := ih (by omega)
      show smN m _ + (if g m = 0 then 1 else 0) + _ ≤ smN m _ + (if f m = 0 then 1 else 0)
      unfold zN at h4
      by_cases e : m = o
      · subst e
        rw [if_neg h2, if_pos h1, if_pos (by omega)]
        rw [if_neg (by omega)] at h4
        omega
      · have h5 := h3 m (by omega) e
        by_cases e2 : f m = 0
        · rw [if_pos e2, if_pos (h5.2 e2)]
          by_cases e3 : o < m
          · rw [if_pos e3] at h4; rw [if_pos (by omega)]; omega
          · rw [if_neg e3] at h4; rw [if_neg (by omega)]; omega
        · rw [if_neg e2, if_neg (fun x => e2 (h5.1 x))]
          by_cases e3 : o < m
          · rw [if_pos e3] at h4; rw [if_pos (by omega)]; omega
          · rw [if_neg e3] at h4; rw [if_neg (by omega)]; omega
  have := gen n (Nat.le_refl _)
  rw [if_pos ho] at this
  exact this

theorem grw_le {num : Nat → Nat} {g o u n : Nat} (h : ∀ k, k < n → k ≠ o → num k * g ≤ 256000000) (hu : u ≤ 256000000) : ∀ k, k < n → grw num g o u k ≤ 256000000 := fun k hk => by
  unfold grw
  by_cases e : k = o
  · rw [if_pos e]; exact hu
  · rw [if_neg e]; exact h k hk e

theorem gcN_leN {f : Nat → Nat} {M n : Nat} (h : ∀ k, k < n → f k ≤ M) : ∀ k, k ≤ n → gcN f k ≤ M
  | 0, _ => Nat.zero_le _
  | k + 1, hk => by
    show Nat.gcd (gcN f k) (f k) ≤ M
    rcases Nat.eq_zero_or_pos (f k) with e | e
    · rw [e, Nat.gcd_zero_right]; exact gcN_leN h k (by omega)
    · exact Nat.le_trans (Nat.le_of_dvd e (Nat.gcd_dvd_right _ _)) (h k (by omega))

/-- What l19Part tells. -/
def Ppa (n m b : Nat) (ss : Nat → Wr) (w w' : World) (e : Ending) : Prop := (∃ num u, Prt (wsn ss) n m b num ∧ Cls (wsn ss) m num ∧ Bal (wsn ss) m num ∧ (∀ k, k < n → num k ≤ 256000000) ∧ e = .returned (.tuple #[u, .bool true]) ∧ w'.ownsRow w.heap.size 3 1 u n (ils (fun i => (num i : Int)) n) ∧ Below w.heap.size w w') ∨ ((¬ ∃ x, Sol (wsn ss) n m x) ∧ ∃ u, e = .returned (.tuple #[u, .bool false]) ∧ Below w.heap.size w w')

theorem own_put {w : World} {g0 n j : Nat} {f : Nat → Nat} {y : Nat} (h : w.ownsRow g0 3 1 (.slice (some ⟨g0, 0, none⟩) n n) n (ils (fun i => ((f i : Nat) : Int)) n)) : (w.setCell ⟨g0, j, none⟩ (.int .i64 (y : Int))).ownsRow g0 3 1 (.slice (some ⟨g0, 0, none⟩) n n) n (ils (fun i => ((if i = j then y else f i : Nat) : Int)) n) := by
  have h1 := (World.ownsRow.stored h j (.int .i64 (y : Int))).1
  rw [ils_put] at h1
  rw [ils_congr fun i hi => ?_]
  · exact h1
  · by_cases e : i = j
    · rw [if_pos e, if_pos e]
    · rw [if_neg e, if_neg e]

theorem row_congr {w : World} {g0 n : Nat} {f g : Nat → Nat} (h : w.ownsRow g0 3 1 (.slice (some ⟨g0, 0, none⟩) n n) n (ils (fun i => ((f i : Nat) : Int)) n)) (e : ∀ k, k < n → f k = g k) : w.ownsRow g0 3 1 (.slice (some ⟨g0, 0, none⟩) n n) n (ils (fun i => ((g i : Nat) : Int)) n) := by
  rw [← ils_congr (f := fun i => ((f i : Nat) : Int)) fun i hi => by rw [e i hi]]
  exact h

theorem own_putB {w : World} {B g0 j : Nat} {u : Value} (_ : Below B w w) (hB : B ≤ g0) : Below B w (w.setCell ⟨g0, j, none⟩ u) := ⟨rfl, rfl, rfl, by simp [World.setCell], fun k hk => Below.heap_setCell _ _ _ _ (by intro e; exact absurd (show k = g0 from e) (by omega))⟩

set_option maxRecDepth 100000 in
set_option maxHeartbeats 40000000 in
theorem sPart_any {w : World} {v : Value} {n m b : Nat} {ss : Nat → Wr} (hv : Il5 w v m ss) (hw : Wok (n : Int) m ss) (hb : b < n) :
    Calls Try.prog 45 #[.int .i64 (n : Int), v, .int .i64 (b : Int)] w fun e w' => Ppa n m b ss w w' e := by
  obtain ⟨i0, hi, hz0, hz1, hz2⟩ := info_parts Try.info3
  have h40 := hw.2.1
  have n20 : n ≤ 20 := by have := hw.1; omega
  have HW : Hid (Wok (n : Int) m ss) := hw
  have HOK : Hid ((wsn ss).ok n m) := wsn_ok hw
  obtain ⟨ao, cap, rfl, hcap, hc⟩ := hv
  have HC : Hid (0 < m → ∃ b off, ao = some ⟨b, off, none⟩ ∧ b < w.heap.size ∧ ∀ k, k < m → w.cell? ⟨b, off + k * 5, none⟩ = some (.int .i64 (ss k).fr) ∧ w.cell? ⟨b, off + k * 5 + 1, none⟩ = some (.int .i64 (ss k).to) ∧ w.cell? ⟨b, off + k * 5 + 2, none⟩ = some (.int .i64 (ss k).gi) ∧ w.cell? ⟨b, off + k * 5 + 3, none⟩ = some (.int .i64 (ss k).ta) ∧ w.cell? ⟨b, off + k * 5 + 4, none⟩ = some (.int .i64 (ss k).ha)) := hc
  clear hc hw
  obtain ⟨w1, hm, hrow, hgr⟩ := run_makeSlice_full (P := Try.prog) w w.heap.size 27 3 i0 (.int .i64 0) 1 Try.underlying27 hi hz0 hz1 .i64 .i64 n (by omega) (by rw [hz2]; omega) (by unfold maxLen; omega) (Nat.le_refl _)
  have hbl : Below w.heap.size w w1 := (Below.refl _ _).grown hgr (Nat.le_refl _) (fun _ h => by cases h)
  rw [made_zero] at hrow
  obtain ⟨g0, hg0⟩ : ∃ g, g = w.heap.size := ⟨_, rfl⟩
  have HG0 : Hid (g0 = w.heap.size) := hg0
  rw [← hg0] at hrow hm
  have r0 : w1.ownsRow g0 3 1 (.slice (some ⟨g0, 0, none⟩) n n) n (ils (fun i => ((0 : Nat) : Int)) n) := hrow
  have z0 := World.ownsRow.frozenAt r0 b
  have z1 := World.ownsRow.cellAt r0 b (by omega)
  rw [ils_get hb] at z1
  have R1 : Hid ((w1.setCell ⟨g0, b, none⟩ (.int .i64 ((1 : Nat) : Int))).ownsRow g0 3 1 (.slice (some ⟨g0, 0, none⟩) n n) n (ils (fun i => ((if i = b then 1 else 0 : Nat) : Int)) n)) := own_put (j := b) (y := 1) r0
  have K1 : Hid (Kd (fun q => q = g0) w1 (w1.setCell ⟨g0, b, none⟩ (.int .i64 ((1 : Nat) : Int)))) := (Kd.refl (fun q => q = g0) w1).put (.inl rfl) b _
  have B1 : Hid (Below w.heap.size w (w1.setCell ⟨g0, b, none⟩ (.int .i64 ((1 : Nat) : Int)))) := Kd.below hbl K1.out hbl.size (by rintro q rfl; rw [hg0]; exact Nat.le_refl _)
  clear hrow hgr hbl hg0 hi hz0 hz1 hz2 K1
  go_enter Try.func45, Try.ntmps45
  go_wp2
  clear hm r0 z0 z1
  go_loopw [9, 10, 12, 13, 14, 15, 16] (fun mo _ _ _ _ _ _ wr => ∃ (num : Nat → Nat) (q : Bool), mo = .bool q ∧ Hid (Prt (wsn ss) n m b num ∧ (∀ k, k < n → num k ≤ 256000000) ∧ (q = false → Cls (wsn ss) m num) ∧ wr.ownsRow g0 3 1 (.slice (some ⟨g0, 0, none⟩) n n) n (ils (fun i => ((num i : Nat) : Int)) n) ∧ Below w.heap.size w wr)) (fun mo _ _ _ _ _ _ wr => 2 * zc wr g0 n + (match mo with | .bool true => 1 | _ => 0))
  case atStart => exact ⟨_, true, rfl, prt_0 _ n m b, (fun k _ => (by show (if k = b then 1 else 0) ≤ 256000000; split <;> omega)), (fun h => absurd h (by decide)), R1.out, B1.out⟩
  case round =>
    obtain ⟨num0, q0, rfl, hrel⟩ := hrel
    have HP0 : Hid (Prt (wsn ss) n m b num0) := hrel.out.1
    have HM0 : Hid (∀ k, k < n → num0 k ≤ 256000000) := hrel.out.2.1
    have HC0 : Hid (q0 = false → Cls (wsn ss) m num0) := hrel.out.2.2.1
    have HR0 : Hid (wr.ownsRow g0 3 1 (.slice (some ⟨g0, 0, none⟩) n n) n (ils (fun i => ((num0 i : Nat) : Int)) n)) := hrel.out.2.2.2.1
    have HB0 : Hid (Below w.heap.size w wr) := hrel.out.2.2.2.2
    have HZ0 : Hid (zc wr g0 n = zN n num0) := zc_row HR0.out
    clear hrel
    obtain ⟨ZZ, hZZ⟩ : ∃ Z, Z = zN n num0 := ⟨_, rfl⟩
    have HZZ : Hid (ZZ = zN n num0) := hZZ
    clear hZZ
    cases q0 with
    | true =>
      go_wp2
      go_loopw [9, 10, 12, 13, 14, 15, 16] (fun mo i _ _ _ _ _ wr => ∃ (num : Nat → Nat) (q : Bool) (k : Nat), mo = .bool q ∧ i = .int .i64 k ∧ k ≤ m ∧ Hid (Prt (wsn ss) n m b num ∧ (∀ k, k < n → num k ≤ 256000000) ∧ (q = true ∨ ∀ j, j < k → (num ((wsn ss).F j) = 0 ↔ num ((wsn ss).T j) = 0)) ∧ zN n num + (if q = true then 1 else 0) ≤ ZZ ∧ wr.ownsRow g0 3 1 (.slice (some ⟨g0, 0, none⟩) n n) n (ils (fun i => ((num i : Nat) : Int)) n) ∧ Below w.heap.size w wr)) (fun _ i _ _ _ _ _ _ => m - (intOf i).toNat)
      case atStart => exact ⟨num0, false, 0, rfl, rfl, by omega, HP0.out, HM0.out, .inr (fun j hj => by omega), by rw [HZZ.out]; simp, HR0.out, HB0.out⟩
      case round =>
        obtain ⟨num, q1, i, rfl, rfl, hi2, hrel⟩ := hrel
        have HP : Hid (Prt (wsn ss) n m b num) := hrel.out.1
        have HM : Hid (∀ k, k < n → num k ≤ 256000000) := hrel.out.2.1
        have HQ : Hid (q1 = true ∨ ∀ j, j < i → (num ((wsn ss).F j) = 0 ↔ num ((wsn ss).T j) = 0)) := hrel.out.2.2.1
        have HZ : Hid (zN n num + (if q1 = true then 1 else 0) ≤ ZZ) := hrel.out.2.2.2.1
        have HR : Hid (wr.ownsRow g0 3 1 (.slice (some ⟨g0, 0, none⟩) n n) n (ils (fun i => ((num i : Nat) : Int)) n)) := hrel.out.2.2.2.2.1
        have HB : Hid (Below w.heap.size w wr) := hrel.out.2.2.2.2.2
        clear hrel
        by_cases h1 : i < m
        · have hF := HOK.out.f i h1
          have hT := HOK.out.t i h1
          have hG := HOK.out.g i h1
          have hA := HOK.out.a i h1
          have hgd := HW.out.2.2 i h1
          have e0 : (ss i).fr = ((wsn ss).F i : Int) := by unfold Wgd at hgd; unfold wsn; simp only; omega
          have e1 : (ss i).to = ((wsn ss).T i : Int) := by unfold Wgd at hgd; unfold wsn; simp only; omega
          have e2 : (ss i).gi = ((wsn ss).G i : Int) := by unfold Wgd at hgd; unfold wsn; simp only; omega
          have e3 : (ss i).ta = ((wsn ss).A i : Int) := by unfold Wgd at hgd; unfold wsn; simp only; omega
          clear hgd
          obtain ⟨bb, off, rfl, hlt, hcell⟩ := HC.out (by omega)
          have hbw := HB.out
          obtain ⟨c0, c1, c2, c3, c4⟩ := hcell i h1
          obtain ⟨c0, c1, c2, c3, c4⟩ : wr.cell? ⟨bb, off + i * 5, none⟩ = some (.int .i64 (ss i).fr) ∧ wr.cell? ⟨bb, off + i * 5 + 1, none⟩ = some (.int .i64 (ss i).to) ∧ wr.cell? ⟨bb, off + i * 5 + 2, none⟩ = some (.int .i64 (ss i).gi) ∧ wr.cell? ⟨bb, off + i * 5 + 3, none⟩ = some (.int .i64 (ss i).ta) ∧ wr.cell? ⟨bb, off + i * 5 + 4, none⟩ = some (.int .i64 (ss i).ha) := ⟨(hbw.cell (p := ⟨bb, off + i * 5, none⟩) hlt).trans c0, (hbw.cell (p := ⟨bb, off + i * 5 + 1, none⟩) hlt).trans c1, (hbw.cell (p := ⟨bb, off + i * 5 + 2, none⟩) hlt).trans c2, (hbw.cell (p := ⟨bb, off + i * 5 + 3, none⟩) hlt).trans c3, (hbw.cell (p := ⟨bb, off + i * 5 + 4, none⟩) hlt).trans c4⟩
          clear hcell hlt hbw
          rw [e0] at c0
          rw [e1] at c1
          rw [e2] at c2
          rw [e3] at c3
          clear e0 e1 e2 e3
          have y0 := World.ownsRow.cellAt HR.out ((wsn ss).F i) (by omega)
          rw [ils_get hF] at y0
          have y1 := World.ownsRow.cellAt HR.out ((wsn ss).T i) (by omega)
          rw [ils_get hT] at y1
          have hgl : g0 < wr.heap.size := (World.ownsRow.lt HR.out g0 rfl).2
          have hgn : ¬ g0 = wr.heap.size := by omega
          obtain ⟨FF, hFF⟩ : ∃ x, x = (wsn ss).F i := ⟨_, rfl⟩
          obtain ⟨TT, hTT⟩ : ∃ x, x = (wsn ss).T i := ⟨_, rfl⟩
          obtain ⟨GG, hGG⟩ : ∃ x, x = (wsn ss).G i := ⟨_, rfl⟩
          obtain ⟨AA, hAA⟩ : ∃ x, x = (wsn ss).A i := ⟨_, rfl⟩
          have HX : Hid (FF = (wsn ss).F i ∧ TT = (wsn ss).T i ∧ GG = (wsn ss).G i ∧ AA = (wsn ss).A i) := ⟨hFF, hTT, hGG, hAA⟩
          rw [← hFF] at c0 y0 hF
          rw [← hTT] at c1 y1 hT
          rw [← hGG] at c2 hG
          rw [← hAA] at c3 hA
          clear hFF hTT hGG hAA
          obtain ⟨nF, hnF⟩ : ∃ x, x = num FF := ⟨_, rfl⟩
          obtain ⟨nT, hnT⟩ : ∃ x, x = num TT := ⟨_, rfl⟩
          have HN : Hid (nF = num FF ∧ nT = num TT) := ⟨hnF, hnT⟩
          rw [← hnF] at y0
          rw [← hnT] at y1
          clear hnF hnT
          have mF := HM.out FF hF
          have mT := HM.out TT hT
          rw [← HN.out.1] at mF
          rw [← HN.out.2] at mT
          have BW : Hid (Below w.heap.size w (wr.alloc (.cells #[.int .i64 (FF : Int), .int .i64 (TT : Int), .int .i64 (GG : Int), .int .i64 (AA : Int), .int .i64 (ss i).ha] 31))) := bstep HB.out (below_one _ _)
          have RW : Hid ((wr.alloc (.cells #[.int .i64 (FF : Int), .int .i64 (TT : Int), .int .i64 (GG : Int), .int .i64 (AA : Int), .int .i64 (ss i).ha] 31)).ownsRow g0 3 1 (.slice (some ⟨g0, 0, none⟩) n n) n (ils (fun i => ((num i : Nat) : Int)) n)) := own_below HR.out (below_one _ _)
          have hgw0 : ¬ wr.heap.size = g0 := by omega
          by_cases g1 : nF = 0
          · by_cases g2 : nT = 0
            · skip
              have g1i : (nF : Int) = 0 := by omega
              have hbF : ((nF : Int) == 0) = true := beq_iff_eq.2 g1i
              have g2i : (nT : Int) = 0 := by omega
              have hbT : ((nT : Int) == 0) = true := beq_iff_eq.2 g2i
              clear g1 g2
              have HQ2 : Hid (q1 = true ∨ ∀ j, j < i + 1 → (num ((wsn ss).F j) = 0 ↔ num ((wsn ss).T j) = 0)) := by
                rcases HQ.out with h | h
                · exact .inl h
                · exact .inr (all_snoc h (by rw [← HX.out.1, ← HX.out.2.1, ← HN.out.1, ← HN.out.2]; omega))
              go_wp2
              go_quiet (fail)
              go_wp2
              go_roundw
              case rel => exact ⟨num, q1, i + 1, rfl, by go_num, by omega, HP.out, HM.out, HQ2.out, HZ.out, own_draw RW.out _, BW.out.trans ((below_dn _ _).mono BW.out.size)⟩
              case measure => simp [intOf]; omega
            · skip
              have g1i : (nF : Int) = 0 := by omega
              have hbF : ((nF : Int) == 0) = true := beq_iff_eq.2 g1i
              have g2i : ¬ (nT : Int) = 0 := by omega
              have hbT : ((nT : Int) == 0) = false := beq_false_of_ne g2i
              have CW : Hid ((wr.alloc (.cells #[.int .i64 (FF : Int), .int .i64 (TT : Int), .int .i64 (GG : Int), .int .i64 (AA : Int), .int .i64 (ss i).ha] 31)).cell? ⟨wr.heap.size, 0, none⟩ = some (.int .i64 (FF : Int)) ∧ (wr.alloc (.cells #[.int .i64 (FF : Int), .int .i64 (TT : Int), .int .i64 (GG : Int), .int .i64 (AA : Int), .int .i64 (ss i).ha] 31)).cell? ⟨wr.heap.size, 1, none⟩ = some (.int .i64 (TT : Int))) := ⟨by simp, by simp⟩
              have HE6 : Hid (nF = 0) := g1
              obtain ⟨dd, hdd⟩ : ∃ d, d = Nat.gcd (nT * AA) GG := ⟨_, rfl⟩
              obtain ⟨gg, hgg⟩ : ∃ g, g = GG / dd := ⟨_, rfl⟩
              obtain ⟨uu, huu⟩ : ∃ u, u = nT * gg * AA / GG := ⟨_, rfl⟩
              have hgr := prt_grow (g := gg) (u := uu) HP.out h1 (.inr ⟨HX.out.2.1, HX.out.1, HX.out.2.2.2, HX.out.2.2.1⟩) hT hA.1 hG.1 (by rw [← HN.out.2]; omega) (by rw [← HN.out.1]; omega) (by rw [← HN.out.2, ← hdd]; exact hgg) (by rw [← HN.out.2]; exact huu)
              obtain ⟨hgr1, hu1, hg1, hgr2⟩ := hgr
              rw [← HN.out.2] at hgr2
              have HGR : Hid (Prt (wsn ss) n m b (grw num gg FF uu)) := hgr1
              have hdp : 0 < dd := by rw [hdd]; exact Nat.gcd_pos_of_pos_right _ (by omega)
              have hgle : gg ≤ GG := by rw [hgg]; exact Nat.div_le_self _ _
              have hpa : nT * AA ≤ 256000000 * 64 := Nat.mul_le_mul mT hA.2
              have ig := sGcd_any (nT * AA) GG (by omega) (by omega)
              rw [← hdd] at ig
              have q1e : (nT : Int) * (AA : Int) = ((nT * AA : Nat) : Int) := (Int.natCast_mul _ _).symm
              obtain ⟨pa, hpaE⟩ : ∃ x, x = nT * AA := ⟨_, rfl⟩
              rw [← hpaE] at q1e ig hpa
              have q2e : Int.tdiv (GG : Int) (dd : Int) = (gg : Int) := by rw [hgg, Int.tdiv_eq_ediv_of_nonneg (by omega)]; exact (Int.natCast_ediv GG dd).symm
              have hd0 : ¬ (dd : Int) = 0 := by omega
              have hpa3 : (pa : Int) ≤ 16384000000 := by omega
              have hgg3 : (gg : Int) ≤ 64 := by omega
              have hn1 : ¬ (nT : Int) = 0 := by omega
              have hg64 : gg ≤ 64 := by omega
              have HG1 : Hid (1 ≤ gg ∧ 1 ≤ uu) := ⟨hg1, hu1⟩
              have HE2 : Hid (nT * gg * AA = uu * GG) := hgr2
              have HPA : Hid (pa = nT * AA) := hpaE
              have e6 : nF = 0 := by omega
              skip
              clear hdd hgg huu hgr1 hgr2 hpaE hdp hgle hpa hu1
              go_wp2
              go_quiet (fail)
              go_wp2
              go_quiet (fail)
              go_wp2_with (go_at_call 74; (with_reducible refine (ig _).mono ?_); rintro e w' ⟨rfl, hw⟩; obtain rfl := hw.symm)
              have HGW : Hid (¬ wr.heap.size = g0) := hgw0
              generalize hgwE : wr.heap.size = gw at *
              clear ig q1e q2e hd0 hpa3
              go_loopw [16] (fun kk wr => ∃ k : Nat, kk = .int .i64 k ∧ k ≤ n ∧ Hid ((∀ j, j < k → num j * gg ≤ 4000000) ∧ wr.ownsRow g0 3 1 (.slice (some ⟨g0, 0, none⟩) n n) n (ils (fun i => ((if i < k then num i * gg else num i : Nat) : Int)) n) ∧ Below w.heap.size w wr ∧ wr.cell? ⟨gw, 0, none⟩ = some (.int .i64 (FF : Int)) ∧ wr.cell? ⟨gw, 1, none⟩ = some (.int .i64 (TT : Int)))) (fun kk _ => n - (intOf kk).toNat)
              case atStart => exact ⟨0, rfl, by omega, fun j hj => by omega, row_congr (own_draw RW.out _) (fun k _ => by rw [if_neg (by omega)]), BW.out.trans ((below_dn _ _).mono BW.out.size), CW.out.1, CW.out.2⟩
              case round =>
                obtain ⟨k, rfl, hk, hrel⟩ := hrel
                have HK1 : Hid (∀ j, j < k → num j * gg ≤ 4000000) := hrel.out.1
                have HK2 : Hid (wr.ownsRow g0 3 1 (.slice (some ⟨g0, 0, none⟩) n n) n (ils (fun i => ((if i < k then num i * gg else num i : Nat) : Int)) n)) := hrel.out.2.1
                have HK3 : Hid (Below w.heap.size w wr) := hrel.out.2.2.1
                have HK4 : Hid (wr.cell? ⟨gw, 0, none⟩ = some (.int .i64 (FF : Int)) ∧ wr.cell? ⟨gw, 1, none⟩ = some (.int .i64 (TT : Int))) := hrel.out.2.2.2
                clear hrel
                by_cases h3 : k < n
                · have a0 := World.ownsRow.cellAt HK2.out k (by omega)
                  rw [ils_get h3, if_neg (Nat.lt_irrefl k)] at a0
                  have z0 := World.ownsRow.frozenAt HK2.out k
                  obtain ⟨nk, hnk⟩ : ∃ x, x = num k := ⟨_, rfl⟩
                  have HNK : Hid (nk = num k) := hnk
                  have mk0 := HM.out k h3
                  rw [← hnk] at a0 mk0
                  clear hnk
                  obtain ⟨pk, hpk⟩ : ∃ x, x = nk * gg := ⟨_, rfl⟩
                  have HPK : Hid (pk = nk * gg) := hpk
                  have pke : (nk : Int) * (gg : Int) = (pk : Int) := by rw [hpk]; exact (Int.natCast_mul _ _).symm
                  have pk2 : pk ≤ 256000000 * 64 := by rw [hpk]; exact Nat.mul_le_mul mk0 hg64
                  have pk3 : (pk : Int) ≤ 16384000000 := by omega
                  clear hpk pk2 mk0
                  have RP : Hid ((wr.setCell ⟨g0, k, none⟩ (.int .i64 (pk : Int))).ownsRow g0 3 1 (.slice (some ⟨g0, 0, none⟩) n n) n (ils (fun i => ((if i < k + 1 then num i * gg else num i : Nat) : Int)) n)) := row_congr (own_put (j := k) (y := pk) HK2.out) (fun i hi => by
                    by_cases e : i = k
                    · rw [if_pos e, if_pos (by omega), e, HPK.out, HNK.out]
                    · rw [if_neg e]
                      by_cases e2 : i < k
                      · rw [if_pos e2, if_pos (by omega)]
                      · rw [if_neg e2, if_neg (by omega)])
                  have BP : Hid (Below w.heap.size w (wr.setCell ⟨g0, k, none⟩ (.int .i64 (pk : Int)))) := Kd.below HK3.out ((Kd.refl (fun q => q = g0) wr).put (.inl rfl) k _) HK3.out.size (by rintro q rfl; rw [HG0.out]; exact Nat.le_refl _)
                  have CP : Hid ((wr.setCell ⟨g0, k, none⟩ (.int .i64 (pk : Int))).cell? ⟨gw, 0, none⟩ = some (.int .i64 (FF : Int)) ∧ (wr.setCell ⟨g0, k, none⟩ (.int .i64 (pk : Int))).cell? ⟨gw, 1, none⟩ = some (.int .i64 (TT : Int))) := by
                    have hne : ¬ gw = g0 := HGW.out
                    obtain ⟨x0, x1⟩ := HK4.out
                    exact ⟨by simp [go_sem, x0], by simp [go_sem, x1]⟩
                  by_cases h4 : pk ≤ 4000000
                  · have HL : Hid (∀ j, j < k + 1 → num j * gg ≤ 4000000) := all_snoc HK1.out (by rw [← HNK.out, ← HPK.out]; exact h4)
                    go_wp2
                    go_roundw
                    case rel => exact ⟨k + 1, by go_num, by omega, HL.out, RP.out, BP.out, CP.out⟩
                    case measure => simp [intOf]; omega
                  · have HNO : Hid (¬ ∃ x, Sol (wsn ss) n m x) := by
                      refine prt_none HGR.out h3 ?_
                      have hko : k ≠ FF := by
                        intro e
                        have h5 := HPK.out
                        rw [HNK.out, e, ← HN.out.1, HE6.out, Nat.zero_mul] at h5
                        omega
                      unfold grw
                      rw [if_neg hko, ← HNK.out, ← HPK.out]
                      omega
                    go_wp2
                    go_ret2
                    exact .inr ⟨HNO.out, _, rfl, BP.out⟩
                · have hkn : n = k := by omega
                  subst hkn
                  have k0 := World.ownsRow.cellAt HK2.out TT (by omega)
                  rw [ils_get hT, if_pos hT] at k0
                  have k1 := World.ownsRow.cellAt HK2.out FF (by omega)
                  rw [ils_get hF] at k1
                  have z0 := World.ownsRow.frozenAt HK2.out FF
                  obtain ⟨pp, hpp⟩ : ∃ x, x = num TT * gg := ⟨_, rfl⟩
                  have HPP : Hid (pp = nT * gg) := by show _ = _; rw [hpp, HN.out.2]
                  rw [← hpp] at k0
                  have pp2 : pp ≤ 4000000 := by rw [hpp]; exact HK1.out _ hT
                  clear hpp
                  obtain ⟨qq, hqq⟩ : ∃ x, x = pp * AA := ⟨_, rfl⟩
                  have qqe : (pp : Int) * (AA : Int) = (qq : Int) := by rw [hqq]; exact (Int.natCast_mul _ _).symm
                  have qq2 : qq ≤ 4000000 * 64 := by rw [hqq]; exact Nat.mul_le_mul pp2 hA.2
                  have huc : qq = uu * GG := by rw [hqq, HPP.out]; exact HE2.out
                  have que : Int.tdiv (qq : Int) (GG : Int) = (uu : Int) := by
                    rw [huc, Int.tdiv_eq_ediv_of_nonneg (by omega), Int.natCast_mul]
                    exact Int.mul_ediv_cancel _ (by omega)
                  have hc0 : ¬ (GG : Int) = 0 := by omega
                  have uu2 : uu ≤ 256000000 := by
                    have := Nat.le_mul_of_pos_right uu (show 0 < GG by omega)
                    omega
                  have HUU : Hid (uu ≤ 256000000) := uu2
                  have qq3 : (qq : Int) ≤ 256000000 := by omega
                  have uu3 : (uu : Int) ≤ 256000000 := by omega
                  clear hqq qq2 huc uu2 pp2
                  have hne : ¬ FF = TT := by intro e; have a := HN.out.1; have c := HN.out.2; rw [e] at a; have := HE6.out; omega
                  have hne2 : ¬ (FF : Int) = (TT : Int) := by omega
                  have hne3 : ¬ (TT : Int) = (FF : Int) := by omega
                  obtain ⟨x0, x1⟩ := HK4.out
                  have hgw : ¬ gw = g0 := HGW.out
                  have RP : Hid ((wr.setCell ⟨g0, FF, none⟩ (.int .i64 (uu : Int))).ownsRow g0 3 1 (.slice (some ⟨g0, 0, none⟩) n n) n (ils (fun i => ((grw num gg FF uu i : Nat) : Int)) n)) := row_congr (own_put (j := FF) (y := uu) HK2.out) (fun i hi => by
                    unfold grw
                    by_cases e : i = FF
                    · rw [if_pos e, if_pos e]
                    · rw [if_neg e, if_neg e, if_pos hi])
                  have BP : Hid (Below w.heap.size w (wr.setCell ⟨g0, FF, none⟩ (.int .i64 (uu : Int)))) := Kd.below HK3.out ((Kd.refl (fun q => q = g0) wr).put (.inl rfl) FF _) HK3.out.size (by rintro q rfl; rw [HG0.out]; exact Nat.le_refl _)
                  have HL : Hid (∀ j, j < n → grw num gg FF uu j ≤ 256000000) := grw_le (fun j hj _ => by have := HK1.out j hj; omega) HUU.out
                  have HZ3 : Hid (zN n (grw num gg FF uu) + (if true = true then 1 else 0) ≤ ZZ) := by
                    have h9 := zN_less (n := n) (o := FF) (f := num) (g := grw num gg FF uu) hF (by rw [← HN.out.1]; exact HE6.out) (by unfold grw; rw [if_pos rfl]; have := HG1.out.2; omega) (fun j hj e => by
                      unfold grw
                      rw [if_neg e]
                      have := HG1.out.1
                      constructor
                      · intro h; rcases Nat.mul_eq_zero.1 h with h | h
                        · exact h
                        · omega
                      · intro h; rw [h, Nat.zero_mul])
                    have := HZ.out
                    show _ + 1 ≤ ZZ
                    split at this <;> omega
                  go_wp2
                  go_region
                  go_wp2
                  go_roundw
                  case rel => exact ⟨_, true, i + 1, rfl, by go_num, by omega, HGR.out, HL.out, .inl rfl, HZ3.out, own_drew RP.out, BP.out.drew⟩
                  case measure => simp [intOf]; omega
          · by_cases g2 : nT = 0
            · skip
              have g1i : ¬ (nF : Int) = 0 := by omega
              have hbF : ((nF : Int) == 0) = false := beq_false_of_ne g1i
              have g2i : (nT : Int) = 0 := by omega
              have hbT : ((nT : Int) == 0) = true := beq_iff_eq.2 g2i
              have CW : Hid ((wr.alloc (.cells #[.int .i64 (FF : Int), .int .i64 (TT : Int), .int .i64 (GG : Int), .int .i64 (AA : Int), .int .i64 (ss i).ha] 31)).cell? ⟨wr.heap.size, 0, none⟩ = some (.int .i64 (FF : Int)) ∧ (wr.alloc (.cells #[.int .i64 (FF : Int), .int .i64 (TT : Int), .int .i64 (GG : Int), .int .i64 (AA : Int), .int .i64 (ss i).ha] 31)).cell? ⟨wr.heap.size, 1, none⟩ = some (.int .i64 (TT : Int))) := ⟨by simp, by simp⟩
              have HE6 : Hid (nT = 0) := g2
              obtain ⟨dd, hdd⟩ : ∃ d, d = Nat.gcd (nF * GG) AA := ⟨_, rfl⟩
              obtain ⟨gg, hgg⟩ : ∃ g, g = AA / dd := ⟨_, rfl⟩
              obtain ⟨uu, huu⟩ : ∃ u, u = nF * gg * GG / AA := ⟨_, rfl⟩
              have hgr := prt_grow (g := gg) (u := uu) HP.out h1 (.inl ⟨HX.out.1, HX.out.2.1, HX.out.2.2.1, HX.out.2.2.2⟩) hF hG.1 hA.1 (by rw [← HN.out.1]; omega) (by rw [← HN.out.2]; omega) (by rw [← HN.out.1, ← hdd]; exact hgg) (by rw [← HN.out.1]; exact huu)
              obtain ⟨hgr1, hu1, hg1, hgr2⟩ := hgr
              rw [← HN.out.1] at hgr2
              have HGR : Hid (Prt (wsn ss) n m b (grw num gg TT uu)) := hgr1
              have hdp : 0 < dd := by rw [hdd]; exact Nat.gcd_pos_of_pos_right _ (by omega)
              have hgle : gg ≤ AA := by rw [hgg]; exact Nat.div_le_self _ _
              have hpa : nF * GG ≤ 256000000 * 64 := Nat.mul_le_mul mF hG.2
              have ig := sGcd_any (nF * GG) AA (by omega) (by omega)
              rw [← hdd] at ig
              have q1e : (nF : Int) * (GG : Int) = ((nF * GG : Nat) : Int) := (Int.natCast_mul _ _).symm
              obtain ⟨pa, hpaE⟩ : ∃ x, x = nF * GG := ⟨_, rfl⟩
              rw [← hpaE] at q1e ig hpa
              have q2e : Int.tdiv (AA : Int) (dd : Int) = (gg : Int) := by rw [hgg, Int.tdiv_eq_ediv_of_nonneg (by omega)]; exact (Int.natCast_ediv AA dd).symm
              have hd0 : ¬ (dd : Int) = 0 := by omega
              have hpa3 : (pa : Int) ≤ 16384000000 := by omega
              have hgg3 : (gg : Int) ≤ 64 := by omega
              have hn1 : ¬ (nF : Int) = 0 := by omega
              have hg64 : gg ≤ 64 := by omega
              have HG1 : Hid (1 ≤ gg ∧ 1 ≤ uu) := ⟨hg1, hu1⟩
              have HE2 : Hid (nF * gg * GG = uu * AA) := hgr2
              have HPA : Hid (pa = nF * GG) := hpaE
              have e6 : nT = 0 := by omega
              skip
              clear hdd hgg huu hgr1 hgr2 hpaE hdp hgle hpa hu1
              go_wp2
              go_quiet (fail)
              go_wp2
              go_quiet (fail)
              go_wp2_with (go_at_call 74; (with_reducible refine (ig _).mono ?_); rintro e w' ⟨rfl, hw⟩; obtain rfl := hw.symm)
              have HGW : Hid (¬ wr.heap.size = g0) := hgw0
              generalize hgwE : wr.heap.size = gw at *
              clear ig q1e q2e hd0 hpa3
              go_loopw [16] (fun kk wr => ∃ k : Nat, kk = .int .i64 k ∧ k ≤ n ∧ Hid ((∀ j, j < k → num j * gg ≤ 4000000) ∧ wr.ownsRow g0 3 1 (.slice (some ⟨g0, 0, none⟩) n n) n (ils (fun i => ((if i < k then num i * gg else num i : Nat) : Int)) n) ∧ Below w.heap.size w wr ∧ wr.cell? ⟨gw, 0, none⟩ = some (.int .i64 (FF : Int)) ∧ wr.cell? ⟨gw, 1, none⟩ = some (.int .i64 (TT : Int)))) (fun kk _ => n - (intOf kk).toNat)
              case atStart => exact ⟨0, rfl, by omega, fun j hj => by omega, row_congr (own_draw RW.out _) (fun k _ => by rw [if_neg (by omega)]), BW.out.trans ((below_dn _ _).mono BW.out.size), CW.out.1, CW.out.2⟩
              case round =>
                obtain ⟨k, rfl, hk, hrel⟩ := hrel
                have HK1 : Hid (∀ j, j < k → num j * gg ≤ 4000000) := hrel.out.1
                have HK2 : Hid (wr.ownsRow g0 3 1 (.slice (some ⟨g0, 0, none⟩) n n) n (ils (fun i => ((if i < k then num i * gg else num i : Nat) : Int)) n)) := hrel.out.2.1
                have HK3 : Hid (Below w.heap.size w wr) := hrel.out.2.2.1
                have HK4 : Hid (wr.cell? ⟨gw, 0, none⟩ = some (.int .i64 (FF : Int)) ∧ wr.cell? ⟨gw, 1, none⟩ = some (.int .i64 (TT : Int))) := hrel.out.2.2.2
                clear hrel
                by_cases h3 : k < n
                · have a0 := World.ownsRow.cellAt HK2.out k (by omega)
                  rw [ils_get h3, if_neg (Nat.lt_irrefl k)] at a0
                  have z0 := World.ownsRow.frozenAt HK2.out k
                  obtain ⟨nk, hnk⟩ : ∃ x, x = num k := ⟨_, rfl⟩
                  have HNK : Hid (nk = num k) := hnk
                  have mk0 := HM.out k h3
                  rw [← hnk] at a0 mk0
                  clear hnk
                  obtain ⟨pk, hpk⟩ : ∃ x, x = nk * gg := ⟨_, rfl⟩
                  have HPK : Hid (pk = nk * gg) := hpk
                  have pke : (nk : Int) * (gg : Int) = (pk : Int) := by rw [hpk]; exact (Int.natCast_mul _ _).symm
                  have pk2 : pk ≤ 256000000 * 64 := by rw [hpk]; exact Nat.mul_le_mul mk0 hg64
                  have pk3 : (pk : Int) ≤ 16384000000 := by omega
                  clear hpk pk2 mk0
                  have RP : Hid ((wr.setCell ⟨g0, k, none⟩ (.int .i64 (pk : Int))).ownsRow g0 3 1 (.slice (some ⟨g0, 0, none⟩) n n) n (ils (fun i => ((if i < k + 1 then num i * gg else num i : Nat) : Int)) n)) := row_congr (own_put (j := k) (y := pk) HK2.out) (fun i hi => by
                    by_cases e : i = k
                    · rw [if_pos e, if_pos (by omega), e, HPK.out, HNK.out]
                    · rw [if_neg e]
                      by_cases e2 : i < k
                      · rw [if_pos e2, if_pos (by omega)]
                      · rw [if_neg e2, if_neg (by omega)])
                  have BP : Hid (Below w.heap.size w (wr.setCell ⟨g0, k, none⟩ (.int .i64 (pk : Int)))) := Kd.below HK3.out ((Kd.refl (fun q => q = g0) wr).put (.inl rfl) k _) HK3.out.size (by rintro q rfl; rw [HG0.out]; exact Nat.le_refl _)
                  have CP : Hid ((wr.setCell ⟨g0, k, none⟩ (.int .i64 (pk : Int))).cell? ⟨gw, 0, none⟩ = some (.int .i64 (FF : Int)) ∧ (wr.setCell ⟨g0, k, none⟩ (.int .i64 (pk : Int))).cell? ⟨gw, 1, none⟩ = some (.int .i64 (TT : Int))) := by
                    have hne : ¬ gw = g0 := HGW.out
                    obtain ⟨x0, x1⟩ := HK4.out
                    exact ⟨by simp [go_sem, x0], by simp [go_sem, x1]⟩
                  by_cases h4 : pk ≤ 4000000
                  · have HL : Hid (∀ j, j < k + 1 → num j * gg ≤ 4000000) := all_snoc HK1.out (by rw [← HNK.out, ← HPK.out]; exact h4)
                    go_wp2
                    go_roundw
                    case rel => exact ⟨k + 1, by go_num, by omega, HL.out, RP.out, BP.out, CP.out⟩
                    case measure => simp [intOf]; omega
                  · have HNO : Hid (¬ ∃ x, Sol (wsn ss) n m x) := by
                      refine prt_none HGR.out h3 ?_
                      have hko : k ≠ TT := by
                        intro e
                        have h5 := HPK.out
                        rw [HNK.out, e, ← HN.out.2, HE6.out, Nat.zero_mul] at h5
                        omega
                      unfold grw
                      rw [if_neg hko, ← HNK.out, ← HPK.out]
                      omega
                    go_wp2
                    go_ret2
                    exact .inr ⟨HNO.out, _, rfl, BP.out⟩
                · have hkn : n = k := by omega
                  subst hkn
                  have k0 := World.ownsRow.cellAt HK2.out FF (by omega)
                  rw [ils_get hF, if_pos hF] at k0
                  have k1 := World.ownsRow.cellAt HK2.out TT (by omega)
                  rw [ils_get hT] at k1
                  have z0 := World.ownsRow.frozenAt HK2.out TT
                  obtain ⟨pp, hpp⟩ : ∃ x, x = num FF * gg := ⟨_, rfl⟩
                  have HPP : Hid (pp = nF * gg) := by show _ = _; rw [hpp, HN.out.1]
                  rw [← hpp] at k0
                  have pp2 : pp ≤ 4000000 := by rw [hpp]; exact HK1.out _ hF
                  clear hpp
                  obtain ⟨qq, hqq⟩ : ∃ x, x = pp * GG := ⟨_, rfl⟩
                  have qqe : (pp : Int) * (GG : Int) = (qq : Int) := by rw [hqq]; exact (Int.natCast_mul _ _).symm
                  have qq2 : qq ≤ 4000000 * 64 := by rw [hqq]; exact Nat.mul_le_mul pp2 hG.2
                  have huc : qq = uu * AA := by rw [hqq, HPP.out]; exact HE2.out
                  have que : Int.tdiv (qq : Int) (AA : Int) = (uu : Int) := by
                    rw [huc, Int.tdiv_eq_ediv_of_nonneg (by omega), Int.natCast_mul]
                    exact Int.mul_ediv_cancel _ (by omega)
                  have hc0 : ¬ (AA : Int) = 0 := by omega
                  have uu2 : uu ≤ 256000000 := by
                    have := Nat.le_mul_of_pos_right uu (show 0 < AA by omega)
                    omega
                  have HUU : Hid (uu ≤ 256000000) := uu2
                  have qq3 : (qq : Int) ≤ 256000000 := by omega
                  have uu3 : (uu : Int) ≤ 256000000 := by omega
                  clear hqq qq2 huc uu2 pp2
                  have hne : ¬ FF = TT := by intro e; have a := HN.out.1; have c := HN.out.2; rw [e] at a; have := HE6.out; omega
                  have hne2 : ¬ (FF : Int) = (TT : Int) := by omega
                  have hne3 : ¬ (TT : Int) = (FF : Int) := by omega
                  obtain ⟨x0, x1⟩ := HK4.out
                  have hgw : ¬ gw = g0 := HGW.out
                  have RP : Hid ((wr.setCell ⟨g0, TT, none⟩ (.int .i64 (uu : Int))).ownsRow g0 3 1 (.slice (some ⟨g0, 0, none⟩) n n) n (ils (fun i => ((grw num gg TT uu i : Nat) : Int)) n)) := row_congr (own_put (j := TT) (y := uu) HK2.out) (fun i hi => by
                    unfold grw
                    by_cases e : i = TT
                    · rw [if_pos e, if_pos e]
                    · rw [if_neg e, if_neg e, if_pos hi])
                  have BP : Hid (Below w.heap.size w (wr.setCell ⟨g0, TT, none⟩ (.int .i64 (uu : Int)))) := Kd.below HK3.out ((Kd.refl (fun q => q = g0) wr).put (.inl rfl) TT _) HK3.out.size (by rintro q rfl; rw [HG0.out]; exact Nat.le_refl _)
                  have HL : Hid (∀ j, j < n → grw num gg TT uu j ≤ 256000000) := grw_le (fun j hj _ => by have := HK1.out j hj; omega) HUU.out
                  have HZ3 : Hid (zN n (grw num gg TT uu) + (if true = true then 1 else 0) ≤ ZZ) := by
                    have h9 := zN_less (n := n) (o := TT) (f := num) (g := grw num gg TT uu) hT (by rw [← HN.out.2]; exact HE6.out) (by unfold grw; rw [if_pos rfl]; have := HG1.out.2; omega) (fun j hj e => by
                      unfold grw
                      rw [if_neg e]
                      have := HG1.out.1
                      constructor
                      · intro h; rcases Nat.mul_eq_zero.1 h with h | h
                        · exact h
                        · omega
                      · intro h; rw [h, Nat.zero_mul])
                    have := HZ.out
                    show _ + 1 ≤ ZZ
                    split at this <;> omega
                  go_wp2
                  go_region
                  go_wp2
                  go_roundw
                  case rel => exact ⟨_, true, i + 1, rfl, by go_num, by omega, HGR.out, HL.out, .inl rfl, HZ3.out, own_drew RP.out, BP.out.drew⟩
                  case measure => simp [intOf]; omega
            · skip
              have g1i : ¬ (nF : Int) = 0 := by omega
              have hbF : ((nF : Int) == 0) = false := beq_false_of_ne g1i
              have g2i : ¬ (nT : Int) = 0 := by omega
              have hbT : ((nT : Int) == 0) = false := beq_false_of_ne g2i
              have HQ2 : Hid (q1 = true ∨ ∀ j, j < i + 1 → (num ((wsn ss).F j) = 0 ↔ num ((wsn ss).T j) = 0)) := by
                rcases HQ.out with h | h
                · exact .inl h
                · exact .inr (all_snoc h (by rw [← HX.out.1, ← HX.out.2.1, ← HN.out.1, ← HN.out.2]; omega))
              go_wp2
              go_quiet (fail)
              go_wp2
              go_roundw
              case rel => exact ⟨num, q1, i + 1, rfl, by go_num, by omega, HP.out, HM.out, HQ2.out, HZ.out, own_draw RW.out _, BW.out.trans ((below_dn _ _).mono BW.out.size)⟩
              case measure => simp [intOf]; omega
        · obtain rfl : i = m := by omega
          have HCL : Hid (q1 = false → Cls (wsn ss) i num) := fun e => by
            rcases HQ.out with h | h
            · rw [h] at e; cases e
            · exact h
          have HZC : Hid (zc wr g0 n = zN n num) := zc_row HR.out
          go_wp2
          go_roundw
          case rel => exact ⟨num, q1, rfl, HP.out, HM.out, HCL.out, HR.out, HB.out⟩
          case measure =>
            have a1 := HZ.out
            have a2 := HZC.out
            have a3 := HZ0.out
            have a4 := HZZ.out
            cases q1 <;> simp at a1 ⊢ <;> omega
    | false =>
      have HCL : Hid (Cls (wsn ss) m num0) := HC0.out rfl
      clear HC0 HZ0 HZZ
      go_wp2
      go_loopw [17, 18] (fun gv kv wr => ∃ k : Nat, kv = .int .i64 k ∧ k ≤ n ∧ gv = .int .i64 ((gcN num0 k : Nat) : Int) ∧ Hid (wr.ownsRow g0 3 1 (.slice (some ⟨g0, 0, none⟩) n n) n (ils (fun i => ((num0 i : Nat) : Int)) n) ∧ Below w.heap.size w wr)) (fun _ kv _ => n - (intOf kv).toNat)
      case atStart => exact ⟨0, rfl, by omega, rfl, HR0.out, HB0.out⟩
      case round =>
        obtain ⟨k, rfl, hk, rfl, hrel⟩ := hrel
        have HR : Hid (wr.ownsRow g0 3 1 (.slice (some ⟨g0, 0, none⟩) n n) n (ils (fun i => ((num0 i : Nat) : Int)) n)) := hrel.out.1
        have HB : Hid (Below w.heap.size w wr) := hrel.out.2
        clear hrel
        have hgb : gcN num0 k ≤ 256000000 := gcN_leN HM0.out k hk
        obtain ⟨gk, hgk⟩ : ∃ g, g = gcN num0 k := ⟨_, rfl⟩
        have HGK : Hid (gk = gcN num0 k) := hgk
        rw [← hgk] at hgb ⊢
        clear hgk
        by_cases h3 : k < n
        · have a0 := World.ownsRow.cellAt HR.out k (by omega)
          rw [ils_get h3] at a0
          have b0 := HM0.out k h3
          obtain ⟨nk, hnk⟩ : ∃ x, x = num0 k := ⟨_, rfl⟩
          rw [← hnk] at a0 b0
          have ig := sGcd_any gk nk (by omega) (by omega)
          have HE : Hid (Nat.gcd gk nk = gcN num0 (k + 1)) := by show Nat.gcd gk nk = Nat.gcd (gcN num0 k) (num0 k); rw [← hnk, HGK.out]
          clear hnk hgb b0
          go_wp2_with (go_at_call 74; (with_reducible refine (ig _).mono ?_); rw [HE.out]; rintro e w' ⟨rfl, hw⟩; obtain rfl := hw.symm)
          go_roundw
          case rel => exact ⟨k + 1, by go_num, by omega, rfl, HR.out, HB.out⟩
          case measure => simp [intOf]; omega
        · have hkn : n = k := by omega
          subst hkn
          have HPD := prt_div HP0.out hb (gcN_dvd num0 n) (num' := fun k => num0 k / gk) (fun k _ => by rw [← HGK.out])
          have hgp : 0 < gk := by
            rcases Nat.eq_zero_or_pos gk with e | e
            · have h5 := gcN_dvd num0 n b hb
              rw [← HGK.out, e] at h5
              have h6 := Nat.eq_zero_of_zero_dvd h5
              have := HP0.out.base
              omega
            · exact e
          have hgk0 : ¬ (gk : Int) = 0 := by omega
          have hgk3 : (gk : Int) ≤ 256000000 := by omega
          have HP1 : Hid (Prt (wsn ss) n m b (fun k => num0 k / gk)) := HPD.1
          have HC1 : Hid (Cls (wsn ss) m (fun k => num0 k / gk)) := fun i hi => by
            have h1 := HPD.2 _ (HOK.out.f i hi)
            have h2 := HPD.2 _ (HOK.out.t i hi)
            exact h1.trans ((HCL.out i hi).trans h2.symm)
          have HM1 : Hid (∀ k, k < n → num0 k / gk ≤ 256000000) := fun k hk => Nat.le_trans (Nat.div_le_self _ _) (HM0.out k hk)
          clear HPD hgb
          go_wp2
          go_loopw [19] (fun kv wr => ∃ k : Nat, kv = .int .i64 k ∧ k ≤ n ∧ Hid (wr.ownsRow g0 3 1 (.slice (some ⟨g0, 0, none⟩) n n) n (ils (fun i => ((if i < k then num0 i / gk else num0 i : Nat) : Int)) n) ∧ Below w.heap.size w wr)) (fun kv _ => n - (intOf kv).toNat)
          case atStart => exact ⟨0, rfl, by omega, row_congr HR.out (fun k _ => by rw [if_neg (by omega)]), HB.out⟩
          case round =>
            obtain ⟨k, rfl, hk, hrel⟩ := hrel
            have HR2 : Hid (wr.ownsRow g0 3 1 (.slice (some ⟨g0, 0, none⟩) n n) n (ils (fun i => ((if i < k then num0 i / gk else num0 i : Nat) : Int)) n)) := hrel.out.1
            have HB2 : Hid (Below w.heap.size w wr) := hrel.out.2
            clear hrel
            by_cases h3 : k < n
            · have a0 := World.ownsRow.cellAt HR2.out k (by omega)
              rw [ils_get h3, if_neg (Nat.lt_irrefl k)] at a0
              have z0 := World.ownsRow.frozenAt HR2.out k
              have b0 := HM0.out k h3
              have b1 := HM1.out k h3
              obtain ⟨nk, hnk⟩ : ∃ x, x = num0 k := ⟨_, rfl⟩
              have HNK : Hid (nk = num0 k) := hnk
              rw [← hnk] at a0 b0 b1
              clear hnk
              have qke : Int.tdiv (nk : Int) (gk : Int) = ((nk / gk : Nat) : Int) := by rw [Int.tdiv_eq_ediv_of_nonneg (by omega)]; exact (Int.natCast_ediv nk gk).symm
              obtain ⟨qk, hqk⟩ : ∃ x, x = nk / gk := ⟨_, rfl⟩
              have HQK : Hid (qk = nk / gk) := hqk
              rw [← hqk] at qke b1
              clear hqk
              have b0i : (nk : Int) ≤ 256000000 := by omega
              have b1i : (qk : Int) ≤ 256000000 := by omega
              have RP : Hid ((wr.setCell ⟨g0, k, none⟩ (.int .i64 (qk : Int))).ownsRow g0 3 1 (.slice (some ⟨g0, 0, none⟩) n n) n (ils (fun i => ((if i < k + 1 then num0 i / gk else num0 i : Nat) : Int)) n)) := row_congr (own_put (j := k) (y := qk) HR2.out) (fun i hi => by
                by_cases e : i = k
                · rw [if_pos e, if_pos (by omega), e, HQK.out, HNK.out]
                · rw [if_neg e]
                  by_cases e2 : i < k
                  · rw [if_pos e2, if_pos (by omega)]
                  · rw [if_neg e2, if_neg (by omega)])
              have BP : Hid (Below w.heap.size w (wr.setCell ⟨g0, k, none⟩ (.int .i64 (qk : Int)))) := Kd.below HB2.out ((Kd.refl (fun q => q = g0) wr).put (.inl rfl) k _) HB2.out.size (by rintro q rfl; rw [HG0.out]; exact Nat.le_refl _)
              clear b0 b1
              go_wp2
              go_roundw
              case rel => exact ⟨k + 1, by go_num, by omega, RP.out, BP.out⟩
              case measure => simp [intOf]; omega
            · have hkn : n = k := by omega
              subst hkn
              have HR3 : Hid (wr.ownsRow g0 3 1 (.slice (some ⟨g0, 0, none⟩) n n) n (ils (fun i => ((num0 i / gk : Nat) : Int)) n)) := row_congr HR2.out (fun i hi => by rw [if_pos hi])
              clear HR2 hgk0 hgk3
              go_wp2
              go_loopw [20] (fun iv wr => ∃ i : Nat, iv = .int .i64 i ∧ i ≤ m ∧ Hid ((∀ q, q < i → (num0 ((wsn ss).F q) / gk) * (wsn ss).G q = (num0 ((wsn ss).T q) / gk) * (wsn ss).A q) ∧ wr.ownsRow g0 3 1 (.slice (some ⟨g0, 0, none⟩) n n) n (ils (fun i => ((num0 i / gk : Nat) : Int)) n) ∧ Below w.heap.size w wr)) (fun iv _ => m - (intOf iv).toNat)
              case atStart => exact ⟨0, rfl, by omega, fun q hq => by omega, HR3.out, HB2.out⟩
              case round =>
                obtain ⟨i, rfl, hi2, hrel⟩ := hrel
                have HQ : Hid (∀ q, q < i → (num0 ((wsn ss).F q) / gk) * (wsn ss).G q = (num0 ((wsn ss).T q) / gk) * (wsn ss).A q) := hrel.out.1
                have HR : Hid (wr.ownsRow g0 3 1 (.slice (some ⟨g0, 0, none⟩) n n) n (ils (fun i => ((num0 i / gk : Nat) : Int)) n)) := hrel.out.2.1
                have HB : Hid (Below w.heap.size w wr) := hrel.out.2.2
                clear hrel
                by_cases h1 : i < m
                · have hF := HOK.out.f i h1
                  have hT := HOK.out.t i h1
                  have hG := HOK.out.g i h1
                  have hA := HOK.out.a i h1
                  have hgd := HW.out.2.2 i h1
                  have e0 : (ss i).fr = ((wsn ss).F i : Int) := by unfold Wgd at hgd; unfold wsn; simp only; omega
                  have e1 : (ss i).to = ((wsn ss).T i : Int) := by unfold Wgd at hgd; unfold wsn; simp only; omega
                  have e2 : (ss i).gi = ((wsn ss).G i : Int) := by unfold Wgd at hgd; unfold wsn; simp only; omega
                  have e3 : (ss i).ta = ((wsn ss).A i : Int) := by unfold Wgd at hgd; unfold wsn; simp only; omega
                  clear hgd
                  obtain ⟨bb, off, rfl, hlt, hcell⟩ := HC.out (by omega)
                  have hbw := HB.out
                  obtain ⟨c0, c1, c2, c3, c4⟩ := hcell i h1
                  obtain ⟨c0, c1, c2, c3, c4⟩ : wr.cell? ⟨bb, off + i * 5, none⟩ = some (.int .i64 (ss i).fr) ∧ wr.cell? ⟨bb, off + i * 5 + 1, none⟩ = some (.int .i64 (ss i).to) ∧ wr.cell? ⟨bb, off + i * 5 + 2, none⟩ = some (.int .i64 (ss i).gi) ∧ wr.cell? ⟨bb, off + i * 5 + 3, none⟩ = some (.int .i64 (ss i).ta) ∧ wr.cell? ⟨bb, off + i * 5 + 4, none⟩ = some (.int .i64 (ss i).ha) := ⟨(hbw.cell (p := ⟨bb, off + i * 5, none⟩) hlt).trans c0, (hbw.cell (p := ⟨bb, off + i * 5 + 1, none⟩) hlt).trans c1, (hbw.cell (p := ⟨bb, off + i * 5 + 2, none⟩) hlt).trans c2, (hbw.cell (p := ⟨bb, off + i * 5 + 3, none⟩) hlt).trans c3, (hbw.cell (p := ⟨bb, off + i * 5 + 4, none⟩) hlt).trans c4⟩
                  clear hcell hlt hbw
                  rw [e0] at c0
                  rw [e1] at c1
                  rw [e2] at c2
                  rw [e3] at c3
                  clear e0 e1 e2 e3
                  have y0 := World.ownsRow.cellAt HR.out ((wsn ss).F i) (by omega)
                  rw [ils_get hF] at y0
                  have y1 := World.ownsRow.cellAt HR.out ((wsn ss).T i) (by omega)
                  rw [ils_get hT] at y1
                  have hgl : g0 < wr.heap.size := (World.ownsRow.lt HR.out g0 rfl).2
                  have hgn : ¬ g0 = wr.heap.size := by omega
                  have mF := HM1.out _ hF
                  have mT := HM1.out _ hT
                  have HX : Hid (∀ y : Prop, ((num0 ((wsn ss).F i) / gk) * (wsn ss).G i = (num0 ((wsn ss).T i) / gk) * (wsn ss).A i → y) → ((num0 ((wsn ss).F i) / gk) * (wsn ss).G i = (num0 ((wsn ss).T i) / gk) * (wsn ss).A i → y)) := fun y h => h
                  obtain ⟨nF, hnF⟩ : ∃ x, x = num0 ((wsn ss).F i) / gk := ⟨_, rfl⟩
                  obtain ⟨nT, hnT⟩ : ∃ x, x = num0 ((wsn ss).T i) / gk := ⟨_, rfl⟩
                  obtain ⟨pF, hpF⟩ : ∃ x, x = nF * (wsn ss).G i := ⟨_, rfl⟩
                  obtain ⟨pT, hpT⟩ : ∃ x, x = nT * (wsn ss).A i := ⟨_, rfl⟩
                  have HPE : Hid (pF = (num0 ((wsn ss).F i) / gk) * (wsn ss).G i ∧ pT = (num0 ((wsn ss).T i) / gk) * (wsn ss).A i) := ⟨by rw [hpF, hnF], by rw [hpT, hnT]⟩
                  rw [← hnF] at y0 mF
                  rw [← hnT] at y1 mT
                  have pF2 : pF ≤ 256000000 * 64 := by rw [hpF]; exact Nat.mul_le_mul mF hG.2
                  have pT2 : pT ≤ 256000000 * 64 := by rw [hpT]; exact Nat.mul_le_mul mT hA.2
                  obtain ⟨FF, hFF⟩ : ∃ x, x = (wsn ss).F i := ⟨_, rfl⟩
                  obtain ⟨TT, hTT⟩ : ∃ x, x = (wsn ss).T i := ⟨_, rfl⟩
                  obtain ⟨GG, hGG⟩ : ∃ x, x = (wsn ss).G i := ⟨_, rfl⟩
                  obtain ⟨AA, hAA⟩ : ∃ x, x = (wsn ss).A i := ⟨_, rfl⟩
                  rw [← hFF] at c0 y0 hF
                  rw [← hTT] at c1 y1 hT
                  rw [← hGG] at c2 hG hpF
                  rw [← hAA] at c3 hA hpT
                  have pFe : (nF : Int) * (GG : Int) = (pF : Int) := by rw [hpF]; exact (Int.natCast_mul _ _).symm
                  have pTe : (nT : Int) * (AA : Int) = (pT : Int) := by rw [hpT]; exact (Int.natCast_mul _ _).symm
                  have pF3 : (pF : Int) ≤ 16384000000 := by omega
                  have pT3 : (pT : Int) ≤ 16384000000 := by omega
                  clear hnF hnT hpF hpT hFF hTT hGG hAA pF2 pT2 mF mT
                  have BW : Hid (Below w.heap.size w (wr.alloc (.cells #[.int .i64 (FF : Int), .int .i64 (TT : Int), .int .i64 (GG : Int), .int .i64 (AA : Int), .int .i64 (ss i).ha] 31))) := bstep HB.out (below_one _ _)
                  have RW : Hid ((wr.alloc (.cells #[.int .i64 (FF : Int), .int .i64 (TT : Int), .int .i64 (GG : Int), .int .i64 (AA : Int), .int .i64 (ss i).ha] 31)).ownsRow g0 3 1 (.slice (some ⟨g0, 0, none⟩) n n) n (ils (fun i => ((num0 i / gk : Nat) : Int)) n)) := own_below HR.out (below_one _ _)
                  by_cases h4 : pF = pT
                  · have HQ2 : Hid (∀ q, q < i + 1 → (num0 ((wsn ss).F q) / gk) * (wsn ss).G q = (num0 ((wsn ss).T q) / gk) * (wsn ss).A q) := all_snoc HQ.out (by rw [← HPE.out.1, ← HPE.out.2]; exact h4)
                    have hb4 : ((pF : Int) == (pT : Int)) = true := beq_iff_eq.2 (by omega)
                    have hb5 : ((pF : Int) != (pT : Int)) = false := by unfold bne; rw [hb4]; rfl
                    clear h4
                    go_wp2
                    go_quiet (fail)
                    go_wp2
                    go_roundw
                    case rel => exact ⟨i + 1, by go_num, by omega, HQ2.out, own_draw RW.out _, BW.out.trans ((below_dn _ _).mono BW.out.size)⟩
                    case measure => simp [intOf]; omega
                  · have HNO : Hid (¬ ∃ x, Sol (wsn ss) n m x) := by
                      rintro ⟨x, hx⟩
                      have h5 := prt_bal HP1.out HOK.out HC1.out hx hb i h1
                      exact h4 (by rw [HPE.out.1, HPE.out.2]; exact h5)
                    have hb4 : ((pF : Int) == (pT : Int)) = false := beq_false_of_ne (by omega)
                    have hb5 : ((pF : Int) != (pT : Int)) = true := by unfold bne; rw [hb4]; rfl
                    go_wp2
                    go_quiet (fail)
                    go_wp2
                    go_ret2
                    exact .inr ⟨HNO.out, _, rfl, BW.out.trans ((below_dn _ _).mono BW.out.size)⟩
                · have hin : m = i := by omega
                  subst hin
                  go_wp2
                  go_ret2
                  exact .inl ⟨_, _, HP1.out, HC1.out, HQ.out, HM1.out, rfl, by rw [← HG0.out]; exact HR.out, HB.out⟩
end Go.Proofs.Ytlccicbgepfbbaa
