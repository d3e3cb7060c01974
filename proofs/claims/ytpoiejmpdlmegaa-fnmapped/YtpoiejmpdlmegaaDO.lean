/- Decide: the program's. -/
import Derived.Test.YtpoiejmpdlmegaaDN
namespace Go.Proofs.Ytpoiejmpdlmegaa
open Go.RowKit

theorem cell_of {w : World} {b : Nat} {x y : Value} {t : TypeId} (h : w.heap[b]? = some (.cells #[x, y] t)) : w.cell? ⟨b, 1, none⟩ = some y := by
  simp [World.cell?, h]

set_option maxHeartbeats 8000000 in
theorem iDec_good {w : World} {v : Value} {n h : Nat} {z : Nat → Int} (hv : Il2 w v n z) (hp : Pok n z) (hh : Hlf h) (hq : n * (2 * h) ≤ 1024) :
    Calls Try.prog 8 #[.int .i64 ((2 * h : Nat) : Int), v] w fun e w' => Pst w w' e (n * (2 * h)) (dcz h z) true := by
  have h4 : h ≤ 4 ∧ 1 ≤ h := by rcases hh with rfl | rfl | rfl | rfl <;> omega
  have HHH : Hid (Hlf h) := hh
  have HPK : Hid (Pok n z) := hp
  obtain ⟨wd, hwd⟩ : ∃ wd : Nat, wd = 2 * h := ⟨_, rfl⟩
  rw [← hwd] at hq ⊢
  have HWD : Hid (wd = 2 * h) := hwd
  have hwb : wd ≤ 8 ∧ 2 ≤ wd := by omega
  have e0 : (wd : Int) / 2 = (h : Int) := by omega
  have e1 : (wd : Int).tdiv 2 = (h : Int) := by rw [Int.tdiv_eq_ediv_of_nonneg (by omega)]; exact e0
  have hn : n ≤ 1024 := by have h9 := Nat.le_mul_of_pos_right n (show 0 < wd by omega); omega
  have i1 := iWid_any (wd : Int)
  rw [decide_eq_true (by show Wid _; unfold Wid; rcases hh with rfl | rfl | rfl | rfl <;> omega)] at i1
  have i2 := are_any (hv.below (below_one w (.cells #[] 3))) (by omega)
  rw [decide_eq_true hp] at i2
  obtain ⟨qm, hqm⟩ : ∃ qm : Nat, qm = 1024 / wd := ⟨_, rfl⟩
  have e2 : (1024 : Int) / (wd : Int) = (qm : Int) := by rw [hqm]; exact (Int.natCast_ediv 1024 wd).symm
  have e3 : (1024 : Int).tdiv (wd : Int) = (qm : Int) := by rw [Int.tdiv_eq_ediv_of_nonneg (by omega)]; exact e2
  have e4 : ¬ ((wd : Int) = 0) := by omega
  have hnq : n ≤ qm := by rw [hqm]; exact (Nat.le_div_iff_mul_le (by omega)).2 hq
  have hqb : qm ≤ 1024 := by rw [hqm]; exact Nat.div_le_self _ _
  have b1 : decide (qm < n) = false := decide_eq_false (by omega)
  have b2 : decide ((qm : Int) < (n : Int)) = false := decide_eq_false (by omega)
  have OW : Hid ((w.alloc (.cells #[] 3)).ownsRow w.heap.size 3 1 (.slice (some ⟨w.heap.size, 0, none⟩) 0 0) (0 * (2 * h)) (ils (dcz h z) (0 * (2 * h)))) := by rw [Nat.zero_mul]; exact own_empty w 3 1
  have BL : Hid (Below w.heap.size w (w.alloc (.cells #[] 3))) := below_one _ _
  have HNW : Hid (n * (2 * h) ≤ 1024) := by show n * (2 * h) ≤ 1024; rw [← hwd]; exact hq
  rw [show n * wd = n * (2 * h) by rw [hwd]]
  obtain ⟨ao, cap, rfl, hcap, hc⟩ := hv
  have HC : Hid (0 < n → ∃ b off, ao = some ⟨b, off, none⟩ ∧ b < w.heap.size ∧ ∀ k, k < n → w.cell? ⟨b, off + k * 2, none⟩ = some (.int .i64 (z (k * 2))) ∧ w.cell? ⟨b, off + k * 2 + 1, none⟩ = some (.int .i64 (z (k * 2 + 1)))) := hc
  clear hc hh hp hwd hq hqm
  go_enter Try.func8, Try.ntmps8
  go_wp2_with (first | (go_at_call 14; (with_reducible refine (i1 _).mono ?_); rintro e w' ⟨rfl, hw⟩; obtain rfl := hw.symm) | (go_at_call 20; (with_reducible refine i2.mono ?_); rintro e w1 ⟨rfl, hb⟩; have HB1 : Hid (Below (w.alloc (.cells #[] 3)).heap.size (w.alloc (.cells #[] 3)) w1) := hb; clear hb))
  have OW1 : Hid (w1.ownsRow w.heap.size 3 1 (.slice (some ⟨w.heap.size, 0, none⟩) 0 0) (0 * (2 * h)) (ils (dcz h z) (0 * (2 * h)))) := own_below OW.out HB1.out
  have BL1 : Hid (Below w.heap.size w w1) := bstep BL.out HB1.out
  clear i1 i2 OW BL HB1
  go_loopw [6, 9, 31] (fun o _ i wr => ∃ k : Nat, i = .int .i64 (k : Int) ∧ k ≤ n ∧ Hid (wr.ownsRow w.heap.size 3 1 o (k * (2 * h)) (ils (dcz h z) (k * (2 * h))) ∧ Below w.heap.size w wr)) (fun _ _ i _ => n - (intOf i).toNat)
  case atStart => exact ⟨0, rfl, by omega, OW1.out, BL1.out⟩
  case round =>
    clear OW1 BL1
    obtain ⟨k, rfl, hk, hrel⟩ := hrel
    by_cases h1 : k < n
    · obtain ⟨b, off, rfl, hlt, hcell⟩ := HC.out (by omega)
      have c0 := (hrel.out.2.cell (p := ⟨b, off + k * 2, none⟩) hlt).trans (hcell k h1).1
      have c1 := (hrel.out.2.cell (p := ⟨b, off + k * 2 + 1, none⟩) hlt).trans (hcell k h1).2
      obtain ⟨x, hx⟩ : ∃ x, x = z (k * 2) := ⟨_, rfl⟩
      obtain ⟨y, hy⟩ : ∃ y, y = z (k * 2 + 1) := ⟨_, rfl⟩
      rw [← hx] at c0
      rw [← hy] at c1
      have HX : Hid (x = z (k * 2) ∧ y = z (k * 2 + 1)) := ⟨hx, hy⟩
      have hsx : Smp x := by rw [hx]; exact (HPK.out k h1).1
      have hsy : Smp y := by rw [hy]; exact (HPK.out k h1).2
      have hkw : k * (2 * h) + 2 * h ≤ 1024 := by
        have h9 := Nat.mul_le_mul_right (2 * h) (show k + 1 ≤ n by omega)
        rw [Nat.add_mul, Nat.one_mul] at h9
        exact Nat.le_trans h9 HNW.out
      have i3 := near_any HHH.out hsx
      have i4 := near_any HHH.out hsy
      have hnx := nlv_in HHH.out x
      have hny := nlv_in HHH.out y
      have htp := top_in HHH.out
      have i5 := iGry_yes (n := (nlv h x).toNat) (by omega)
      have i6 := iGry_yes (n := (nlv h y).toNat) (by omega)
      have hg5 : gry (nlv h x).toNat = glv h x := rfl
      have hg6 : gry (nlv h y).toNat = glv h y := rfl
      rw [hg5] at i5
      rw [hg6] at i6
      rw [show (((nlv h x).toNat : Nat) : Int) = nlv h x by omega] at i5
      rw [show (((nlv h y).toNat : Nat) : Int) = nlv h y by omega] at i6
      have hgx := glv_lt HHH.out x
      have hgy := glv_lt HHH.out y
      obtain ⟨a1, ha1⟩ : ∃ a1, a1 = nlv h x := ⟨_, rfl⟩
      obtain ⟨a2, ha2⟩ : ∃ a2, a2 = nlv h y := ⟨_, rfl⟩
      rw [← ha1] at i3 i5
      rw [← ha2] at i4 i6
      obtain ⟨g1, hg1⟩ : ∃ g1, g1 = glv h x := ⟨_, rfl⟩
      obtain ⟨g2, hg2⟩ : ∃ g2, g2 = glv h y := ⟨_, rfl⟩
      rw [← hg1] at i5 hgx
      rw [← hg2] at i6 hgy
      have HG : Hid (g1 = glv h x ∧ g2 = glv h y) := ⟨hg1, hg2⟩
      have HO := hrel.out.1
      have HB := hrel.out.2
      have hne : u6.ownBlock ≠ some wr.heap.size := fun e => by have := (World.ownsRow.lt HO _ e).2; omega
      have hb1 := below_one wr (.cells #[.int .i64 x, .int .i64 y] 31)
      have HO1 : Hid ((wr.alloc (.cells #[.int .i64 x, .int .i64 y] 31)).ownsRow w.heap.size 3 1 u6 (k * (2 * h)) (ils (dcz h z) (k * (2 * h)))) := own_below HO hb1
      have HB1 : Hid (Below w.heap.size w (wr.alloc (.cells #[.int .i64 x, .int .i64 y] 31))) := bstep HB hb1
      have HNE : Hid (u6.ownBlock ≠ some wr.heap.size) := hne
      have HSZ : Hid ((wr.alloc (.cells #[.int .i64 x, .int .i64 y] 31)).heap.size = wr.heap.size + 1) := Array.size_push _
      have HCY : Hid ((wr.alloc (.cells #[.int .i64 x, .int .i64 y] 31)).heap[wr.heap.size]? = some (.cells #[.int .i64 x, .int .i64 y] 31)) := heap_alloc_new wr _
      obtain ⟨N1, hN1⟩ : ∃ N1 : Nat, N1 = k * (2 * h) := ⟨_, rfl⟩
      have hN1b : N1 + 2 * h ≤ 1024 := by omega
      have HN1 : Hid (N1 = k * (2 * h)) := hN1
      rw [← hN1] at HO1
      clear hcell hx hy hrel ha1 ha2 hg1 hg2 hnx hny htp hg5 hg6 HO HB hne hb1 hN1 hkw hsx hsy
      go_wp2_with (first
        | (go_at_call 23; (fail_if_success have := M1); refine (i3 _).mono ?_; rintro e x1 ⟨rfl, hbx⟩; have M1 : Hid True := trivial; have KB1 : Hid (Below (wr.alloc (.cells #[.int .i64 x, .int .i64 y] 31)).heap.size (wr.alloc (.cells #[.int .i64 x, .int .i64 y] 31)) x1) := hbx; have HO2 : Hid (x1.ownsRow w.heap.size 3 1 u6 N1 (ils (dcz h z) N1)) := own_below HO1.out hbx; have HB2 : Hid (Below w.heap.size w x1) := bstep HB1.out hbx; clear hbx)
        | (go_at_call 22; (fail_if_success have := M2); refine (i5 _).mono ?_; rintro e w' ⟨rfl, hw⟩; obtain rfl := hw.symm; have M2 : Hid True := trivial)
        | (go_at_call 21; (fail_if_success have := M3); refine (append_any HO2.out HB2.out (by omega) (by omega) (by omega)).mono ?_; rintro e x2 ⟨t1, rfl, ho2, hb2, hs2, hk2⟩; have M3 : Hid True := trivial; have HO3 : Hid (x2.ownsRow w.heap.size 3 1 t1 (N1 + h) (ils (dcz h z) (N1 + h))) := (by rw [HN1.out, ← cat_x (x := x) (by omega) HX.out.1, ← HG.out.1, ← HN1.out]; exact ho2); have HB3 : Hid (Below w.heap.size w x2) := hb2; have HC3 : Hid (x2.heap[wr.heap.size]? = some (.cells #[.int .i64 x, .int .i64 y] 31)) := (((hk2 wr.heap.size (by have h7 := KB1.out.size; have h8 := HSZ.out; omega) HNE.out).1.trans (KB1.out.block wr.heap.size (by have h8 := HSZ.out; omega))).trans HCY.out); have cy : x2.cell? ⟨wr.heap.size, 1, none⟩ = some (.int .i64 y) := cell_of HC3.out; clear ho2 hb2 hs2 hk2)
        | (go_at_call 23; have Z := M3; (fail_if_success have := M4); refine (i4 _).mono ?_; rintro e x3 ⟨rfl, hbx⟩; have M4 : Hid True := trivial; have HO4 : Hid (x3.ownsRow w.heap.size 3 1 t1 (N1 + h) (ils (dcz h z) (N1 + h))) := own_below HO3.out hbx; have HB4 : Hid (Below w.heap.size w x3) := bstep HB3.out hbx; clear hbx)
        | (go_at_call 22; have Z := M4; refine (i6 _).mono ?_; rintro e w' ⟨rfl, hw⟩; obtain rfl := hw.symm; have M5 : Hid True := trivial)
        | (go_at_call 21; have Z := M5; refine (append_any HO4.out HB4.out (by omega) (by omega) (by omega)).mono ?_; rintro e x4 ⟨t2, rfl, ho2, hb2, hs2, hk2⟩; have HO5 : Hid (x4.ownsRow w.heap.size 3 1 t2 ((k + 1) * (2 * h)) (ils (dcz h z) ((k + 1) * (2 * h)))) := (by rw [← cat_y (y := y) (by omega) HX.out.2, ← HG.out.2, ← HN1.out, show (k + 1) * (2 * h) = N1 + h + h by rw [Nat.add_mul, Nat.one_mul, ← HN1.out]; omega]; exact ho2); have HB5 : Hid (Below w.heap.size w x4) := hb2; clear ho2 hb2 hs2 hk2))
      go_roundw
      case rel => exact ⟨k + 1, by go_num, by omega, HO5.out, HB5.out⟩
      case measure => simp [intOf]; omega
    · obtain rfl : n = k := by omega
      go_wp2
      go_ret2
      exact ⟨_, rfl, hrel.out.1, hrel.out.2⟩

set_option maxHeartbeats 4000000 in
theorem iDec_bad {w : World} {v : Value} {n : Nat} {z : Nat → Int} {x : Int} (hv : Il2 w v n z) (hn : n ≤ 1048576) (h : ¬ GDc n z x) (ys : Nat → Int) :
    Calls Try.prog 8 #[.int .i64 x, v] w fun e w' => Pst w w' e 0 ys false := by
  have i1 := iWid_any x
  have i2 := are_any (hv.below (below_one w (.cells #[] 3))) (by omega)
  have OW : Hid ((w.alloc (.cells #[] 3)).ownsRow w.heap.size 3 1 (.slice (some ⟨w.heap.size, 0, none⟩) 0 0) 0 (ils ys 0)) := own_empty w 3 1
  have BL : Hid (Below w.heap.size w (w.alloc (.cells #[] 3))) := below_one _ _
  obtain ⟨ao, cap, rfl, hcap, hc⟩ := hv
  clear hc
  by_cases c1 : Wid x
  · rw [decide_eq_true c1] at i1
    obtain ⟨wd, rfl⟩ : ∃ wd : Nat, x = (wd : Int) := ⟨x.toNat, by rcases c1 with h9 | h9 | h9 | h9 <;> omega⟩
    have hwb : wd ≤ 8 ∧ 2 ≤ wd := by rcases c1 with h9 | h9 | h9 | h9 <;> omega
    obtain ⟨qm, hqm⟩ : ∃ qm : Nat, qm = 1024 / wd := ⟨_, rfl⟩
    have e2 : (1024 : Int) / (wd : Int) = (qm : Int) := by rw [hqm]; exact (Int.natCast_ediv 1024 wd).symm
    have e3 : (1024 : Int).tdiv (wd : Int) = (qm : Int) := by rw [Int.tdiv_eq_ediv_of_nonneg (by omega)]; exact e2
    have e4 : ¬ ((wd : Int) = 0) := by omega
    have hqb : qm ≤ 1024 := by rw [hqm]; exact Nat.div_le_self _ _
    have hiff : n ≤ qm ↔ n * wd ≤ 1024 := by rw [hqm]; exact Nat.le_div_iff_mul_le (by omega)
    have hcast : (n : Int) * (wd : Int) = ((n * wd : Nat) : Int) := (Int.natCast_mul n wd).symm
    by_cases c2 : n ≤ qm
    · have c3 : ¬ Pok n z := fun h9 => h ⟨c1, by rw [hcast]; have := hiff.1 c2; omega, h9⟩
      rw [decide_eq_false c3] at i2
      clear h c1 c3 hiff hcast hqm
      go_enter Try.func8, Try.ntmps8
      go_wp2_with (first | (go_at_call 14; (with_reducible refine (i1 _).mono ?_); rintro e w' ⟨rfl, hw⟩; obtain rfl := hw.symm) | (go_at_call 20; (with_reducible refine i2.mono ?_); rintro e w1 ⟨rfl, hb⟩; have HO : Hid (w1.ownsRow w.heap.size 3 1 (.slice (some ⟨w.heap.size, 0, none⟩) 0 0) 0 (ils ys 0)) := own_below OW.out hb; have HB : Hid (Below w.heap.size w w1) := bstep BL.out hb; clear hb))
      go_ret2
      exact ⟨_, rfl, HO.out, HB.out⟩
    · clear h c1 hiff hcast hqm i2
      go_enter Try.func8, Try.ntmps8
      go_wp2_with (first | (go_at_call 14; (with_reducible refine (i1 _).mono ?_); rintro e w' ⟨rfl, hw⟩; obtain rfl := hw.symm))
      go_ret2
      exact ⟨_, rfl, OW.out, BL.out⟩
  · rw [decide_eq_false c1] at i1
    clear h c1 i2
    go_enter Try.func8, Try.ntmps8
    go_wp2_with (first | (go_at_call 14; (with_reducible refine (i1 _).mono ?_); rintro e w' ⟨rfl, hw⟩; obtain rfl := hw.symm))
    go_ret2
    exact ⟨_, rfl, OW.out, BL.out⟩
end Go.Proofs.Ytpoiejmpdlmegaa
