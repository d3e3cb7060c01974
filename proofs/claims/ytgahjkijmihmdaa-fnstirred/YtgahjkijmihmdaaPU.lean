/- Unpack8: the program's. -/
import Derived.Test.YtgahjkijmihmdaaPS
import Derived.Test.YtgahjkijmihmdaaPN
namespace Go.Proofs.Ytgahjkijmihmdaa
open Go.RowKit

/-- Good for Unpack8. -/
abbrev GUn (m : Nat) (n : Int) : Prop := 0 ≤ n ∧ n ≤ 1024 ∧ (m : Int) = (n + 7) / 8

theorem ils_take (f : Nat → Int) {n N : Nat} (h : n ≤ N) : (ils f N).take n = ils f n := by
  apply List.ext_getElem?
  intro i
  rw [List.getElem?_take]
  by_cases h1 : i < n
  · rw [if_pos h1, ils_get (by omega), ils_get h1]
  · rw [if_neg h1, List.getElem?_eq_none (by rw [ils_length]; omega)]

theorem own_cut {w : World} {B g c n m : Nat} {z : Nat → Int} (h : w.ownsRow B 3 1 (.slice (some ⟨g, 0, none⟩) n c) n (ils z n)) (hm : m ≤ n) : w.ownsRow B 3 1 (.slice (some ⟨g, 0, none⟩) m c) m (ils z m) := by
  refine ⟨by rw [ils_length, Nat.mul_one], ?_⟩
  rcases h.2 with ⟨h', _⟩ | ⟨g', c', cur, h', hb, hg, hnc, hcm, hcs, ht⟩
  · cases h'
  · injection h' with e1 _ e3
    subst e3
    refine .inr ⟨g', c, cur, by rw [e1], hb, hg, Nat.le_trans hm hnc, hcm, hcs, ?_⟩
    rw [← ils_take z hm, ← ht, List.take_take, Nat.mul_one, Nat.mul_one, Nat.min_eq_left hm]

theorem cat_ubv {bs : Nat → Int} {k x : Nat} (hx : (x : Int) = bs k) : ils (cat (8 * k) (ubv bs) (bfn x 8)) (8 * k + 8) = ils (ubv bs) (8 * (k + 1)) := by
  refine ils_congr fun i hi => ?_
  unfold cat
  by_cases h : i < 8 * k
  · rw [if_pos h]
  · rw [if_neg h]
    unfold bfn ubv
    rw [show i / 8 = k by omega, ← hx, show 8 - 1 - (i - 8 * k) = 7 - i % 8 by omega, Int.natCast_emod, Int.natCast_ediv, Int.natCast_pow]
    rfl

set_option maxHeartbeats 8000000 in
theorem iUnp_good {w : World} {v : Value} {m n : Nat} {bs : Nat → Int} (hv : Bl w v m bs) (hby : Byt m bs) (h : GUn m (n : Int)) (ht : ∀ i, n ≤ i → i < 8 * m → ubv bs i = 0) :
    Calls Try.prog 15 #[v, .int .i64 (n : Int)] w fun e w' => Pst w w' e n (ubv bs) true := by
  obtain ⟨h1, h2, h3⟩ := h
  have hmn : m = (n + 7) / 8 := by omega
  have hnm : n ≤ 8 * m := by omega
  have hmb : m ≤ 128 := by omega
  have i1 : ∀ W, Calls Try.prog 29 #[.int .i64 (n : Int), .int .i64 8] W fun e w' => e = .returned (.int .i64 (m : Int)) ∧ w' = W := pieces_any (n := n) (r := 8) (q := m) (by omega) (by omega) (by omega) (by rw [hmn]; omega)
  have HT : Hid (∀ i, n ≤ i → i < 8 * m → ubv bs i = 0) := ht
  clear ht
  have HBY : Hid (Byt m bs) := hby
  have OW : Hid ((w.alloc (.cells #[] 3)).ownsRow w.heap.size 3 1 (.slice (some ⟨w.heap.size, 0, none⟩) 0 0) (8 * 0) (ils (ubv bs) (8 * 0))) := own_empty w 3 1
  have BL : Hid (Below w.heap.size w (w.alloc (.cells #[] 3))) := below_one _ _
  obtain ⟨ao, cap, rfl, hcap, hc⟩ := hv
  have HC : Hid (0 < m → ∃ b off, ao = some ⟨b, off, none⟩ ∧ b < w.heap.size ∧ ∀ k, k < m → w.cell? ⟨b, off + k, none⟩ = some (.int .u8 (bs k))) := hc
  clear hc hby h3 hmn
  go_enter Try.func15, Try.ntmps15
  go_wp2_with (first | (go_at_call 29; (with_reducible refine (i1 _).mono ?_); rintro e w' ⟨rfl, hw⟩; obtain rfl := hw.symm))
  clear i1
  generalize w.alloc (.cells #[] 3) = W at *
  go_loopw [6, 8, 28] (fun o _ i wr => ∃ k : Nat, i = .int .i64 (k : Int) ∧ k ≤ m ∧ Hid (wr.ownsRow w.heap.size 3 1 o (8 * k) (ils (ubv bs) (8 * k)) ∧ Below w.heap.size w wr)) (fun _ _ i _ => m - (intOf i).toNat)
  case atStart => exact ⟨0, rfl, by omega, OW.out, BL.out⟩
  case round =>
    obtain ⟨k, rfl, hk, hrel⟩ := hrel
    by_cases h4 : k < m
    · obtain ⟨b, off, rfl, hlt, hcell⟩ := HC.out (by omega)
      have hby := HBY.out k h4
      obtain ⟨x, hx⟩ : ∃ x : Nat, (x : Int) = bs k := ⟨(bs k).toNat, by omega⟩
      have c := (hrel.out.2.cell (p := ⟨b, off + k, none⟩) hlt).trans (hcell k h4)
      rw [← hx] at c hby
      have i3 : Calls Try.prog 30 #[u6, .int .i64 (x : Int), .int .i64 8] wr fun e w' => ∃ u, e = .returned u ∧ w'.ownsRow w.heap.size 3 1 u (8 * k + 8) (ils (cat (8 * k) (ubv bs) (bfn x 8)) (8 * k + 8)) ∧ Below w.heap.size w w' := append_any (c := 8) hrel.out.1 hrel.out.2 (by omega) (by omega) (by omega)
      rw [cat_ubv hx] at i3
      have e1 : IntKind.i64.wrap (x : Int) = (x : Int) := wrap_nat (by omega)
      clear hcell hrel hx
      go_wp2_with (first | (go_at_call 30; (with_reducible refine i3.mono ?_); rintro e w4 ⟨u, rfl, ho, hb⟩; have HO4 : Hid (w4.ownsRow w.heap.size 3 1 u (8 * (k + 1)) (ils (ubv bs) (8 * (k + 1)))) := ho; have HB4 : Hid (Below w.heap.size w w4) := hb; clear ho hb))
      go_roundw
      case rel => exact ⟨k + 1, by go_num, by omega, HO4.out, HB4.out⟩
      case measure => simp [intOf]; omega
    · obtain rfl : m = k := by omega
      have HO : Hid (wr.ownsRow w.heap.size 3 1 u6 (8 * m) (ils (ubv bs) (8 * m))) := hrel.out.1
      have HB : Hid (Below w.heap.size w wr) := hrel.out.2
      have ho := hrel.out.1
      clear hrel OW BL
      obtain ⟨M, hM⟩ : ∃ M : Nat, M = 8 * m := ⟨_, rfl⟩
      rw [← hM] at ho
      have HM : Hid (M = 8 * m) := hM
      have HO2 : Hid (wr.ownsRow w.heap.size 3 1 u6 M (ils (ubv bs) M)) := ho
      clear HO
      have hnM : n ≤ M := by omega
      have hMb : M ≤ 1024 := by omega
      clear hM
      rcases ho.2 with ⟨rfl, hnil⟩ | ⟨g, cp, cur, rfl, hbg, hcur, hcc, _⟩
      · have hM0 : M = 0 := hnil
        obtain rfl : n = 0 := by omega
        clear ho hnil
        have HF : Hid (wr.ownsRow w.heap.size 3 1 (.slice none 0 0) 0 (ils (ubv bs) 0)) := by have h9 := HO2.out; rw [hM0] at h9; exact h9
        go_wp2
        go_loopw [10, 41] (fun _ i w5 => i = .int .i64 0 ∧ w5 = wr) (fun _ _ _ => 0)
        case atStart => exact ⟨rfl, rfl⟩
        case round =>
          rename World => w5
          obtain ⟨rfl, hw5⟩ := hrel
          obtain rfl : wr = w5 := hw5.symm
          go_wp2
          go_ret2
          exact ⟨_, rfl, HF.out, HB.out⟩
      · clear ho hcur
        by_cases hcn : cp = n
        · subst hcn
          have hMn : M = cp := by omega
          obtain ⟨D, hD⟩ : ∃ D : Nat, D = M - cp := ⟨_, rfl⟩
          have eD : (M : Int) - (cp : Int) = (D : Int) := by omega
          go_wp2
          go_loopw [10, 41] (fun _ i w5 => ∃ j : Nat, i = .int .i64 (j : Int) ∧ j ≤ D ∧ w5 = wr ∧ Hid (∀ j', j' < j → ubv bs (cp + j') = 0)) (fun _ i _ => D - (intOf i).toNat)
          case atStart => exact ⟨0, rfl, by omega, rfl, fun j' hj => absurd hj (by omega)⟩
          case round =>
            rename World => w5
            obtain ⟨j, rfl, hj, hw5, hrel⟩ := hrel
            obtain rfl : wr = w5 := hw5.symm
            by_cases h6 : j < D
            · exact absurd h6 (by omega)
            · obtain rfl : D = j := by omega
              have HF : Hid (wr.ownsRow w.heap.size 3 1 (.slice (some ⟨g, 0, none⟩) cp cp) cp (ils (ubv bs) cp)) := own_cut HO2.out hnM
              go_wp2
              go_ret2
              exact ⟨_, rfl, HF.out, HB.out⟩
        · have hcn2 : n < cp := by omega
          obtain ⟨D, hD⟩ : ∃ D : Nat, D = M - n := ⟨_, rfl⟩
          have eD : (M : Int) - (n : Int) = (D : Int) := by omega
          go_wp2
          go_loopw [10, 41] (fun _ i w5 => ∃ j : Nat, i = .int .i64 (j : Int) ∧ j ≤ D ∧ w5 = wr ∧ Hid (∀ j', j' < j → ubv bs (n + j') = 0)) (fun _ i _ => D - (intOf i).toNat)
          case atStart => exact ⟨0, rfl, by omega, rfl, fun j' hj => absurd hj (by omega)⟩
          case round =>
            rename World => w5
            obtain ⟨j, rfl, hj, hw5, hrel⟩ := hrel
            obtain rfl : wr = w5 := hw5.symm
            by_cases h6 : j < D
            · have c := HO2.out.cellAt (n + j) (by omega)
              rw [ils_get (show n + j < M by omega)] at c
              have hz0 : ubv bs (n + j) = 0 := HT.out (n + j) (by omega) (by have := HM.out; omega)
              rw [hz0] at c
              have HR : Hid (∀ j', j' < j + 1 → ubv bs (n + j') = 0) := fun j' hj' => HT.out _ (by omega) (by have := HM.out; omega)
              clear hrel hz0
              go_wp2
              go_roundw
              case rel => exact ⟨j + 1, by go_num, by omega, by trivial, HR.out⟩
              case measure => simp [intOf]; omega
            · obtain rfl : D = j := by omega
              have HF : Hid (wr.ownsRow w.heap.size 3 1 (.slice (some ⟨g, 0, none⟩) n cp) n (ils (ubv bs) n)) := own_cut HO2.out hnM
              go_wp2
              go_ret2
              exact ⟨_, rfl, HF.out, HB.out⟩

set_option maxHeartbeats 8000000 in
theorem iUnp_tail {w : World} {v : Value} {m n : Nat} {bs : Nat → Int} (hv : Bl w v m bs) (hby : Byt m bs) (h : GUn m (n : Int)) (hx : ∃ i, n ≤ i ∧ i < 8 * m ∧ ubv bs i = 1) (ys : Nat → Int) :
    Calls Try.prog 15 #[v, .int .i64 (n : Int)] w fun e w' => Pst w w' e 0 ys false := by
  obtain ⟨h1, h2, h3⟩ := h
  have hmn : m = (n + 7) / 8 := by omega
  have hnm : n ≤ 8 * m := by omega
  have hmb : m ≤ 128 := by omega
  have i1 : ∀ W, Calls Try.prog 29 #[.int .i64 (n : Int), .int .i64 8] W fun e w' => e = .returned (.int .i64 (m : Int)) ∧ w' = W := pieces_any (n := n) (r := 8) (q := m) (by omega) (by omega) (by omega) (by rw [hmn]; omega)
  have HX : Hid (∃ i, n ≤ i ∧ i < 8 * m ∧ ubv bs i = 1) := hx
  clear hx
  have HBY : Hid (Byt m bs) := hby
  have OW : Hid ((w.alloc (.cells #[] 3)).ownsRow w.heap.size 3 1 (.slice (some ⟨w.heap.size, 0, none⟩) 0 0) (8 * 0) (ils (ubv bs) (8 * 0))) := own_empty w 3 1
  have BL : Hid (Below w.heap.size w (w.alloc (.cells #[] 3))) := below_one _ _
  obtain ⟨ao, cap, rfl, hcap, hc⟩ := hv
  have HC : Hid (0 < m → ∃ b off, ao = some ⟨b, off, none⟩ ∧ b < w.heap.size ∧ ∀ k, k < m → w.cell? ⟨b, off + k, none⟩ = some (.int .u8 (bs k))) := hc
  clear hc hby h3 hmn
  go_enter Try.func15, Try.ntmps15
  go_wp2_with (first | (go_at_call 29; (with_reducible refine (i1 _).mono ?_); rintro e w' ⟨rfl, hw⟩; obtain rfl := hw.symm))
  clear i1
  generalize w.alloc (.cells #[] 3) = W at *
  go_loopw [6, 8, 28] (fun o _ i wr => ∃ k : Nat, i = .int .i64 (k : Int) ∧ k ≤ m ∧ Hid (wr.ownsRow w.heap.size 3 1 o (8 * k) (ils (ubv bs) (8 * k)) ∧ Below w.heap.size w wr)) (fun _ _ i _ => m - (intOf i).toNat)
  case atStart => exact ⟨0, rfl, by omega, OW.out, BL.out⟩
  case round =>
    obtain ⟨k, rfl, hk, hrel⟩ := hrel
    by_cases h4 : k < m
    · obtain ⟨b, off, rfl, hlt, hcell⟩ := HC.out (by omega)
      have hby := HBY.out k h4
      obtain ⟨x, hx⟩ : ∃ x : Nat, (x : Int) = bs k := ⟨(bs k).toNat, by omega⟩
      have c := (hrel.out.2.cell (p := ⟨b, off + k, none⟩) hlt).trans (hcell k h4)
      rw [← hx] at c hby
      have i3 : Calls Try.prog 30 #[u6, .int .i64 (x : Int), .int .i64 8] wr fun e w' => ∃ u, e = .returned u ∧ w'.ownsRow w.heap.size 3 1 u (8 * k + 8) (ils (cat (8 * k) (ubv bs) (bfn x 8)) (8 * k + 8)) ∧ Below w.heap.size w w' := append_any (c := 8) hrel.out.1 hrel.out.2 (by omega) (by omega) (by omega)
      rw [cat_ubv hx] at i3
      have e1 : IntKind.i64.wrap (x : Int) = (x : Int) := wrap_nat (by omega)
      clear hcell hrel hx
      go_wp2_with (first | (go_at_call 30; (with_reducible refine i3.mono ?_); rintro e w4 ⟨u, rfl, ho, hb⟩; have HO4 : Hid (w4.ownsRow w.heap.size 3 1 u (8 * (k + 1)) (ils (ubv bs) (8 * (k + 1)))) := ho; have HB4 : Hid (Below w.heap.size w w4) := hb; clear ho hb))
      go_roundw
      case rel => exact ⟨k + 1, by go_num, by omega, HO4.out, HB4.out⟩
      case measure => simp [intOf]; omega
    · obtain rfl : m = k := by omega
      have HO : Hid (wr.ownsRow w.heap.size 3 1 u6 (8 * m) (ils (ubv bs) (8 * m))) := hrel.out.1
      have HB : Hid (Below w.heap.size w wr) := hrel.out.2
      have ho := hrel.out.1
      clear hrel OW BL
      obtain ⟨M, hM⟩ : ∃ M : Nat, M = 8 * m := ⟨_, rfl⟩
      rw [← hM] at ho
      have HM : Hid (M = 8 * m) := hM
      have HO2 : Hid (wr.ownsRow w.heap.size 3 1 u6 M (ils (ubv bs) M)) := ho
      clear HO
      have hnM : n ≤ M := by omega
      have hMb : M ≤ 1024 := by omega
      clear hM
      rcases ho.2 with ⟨rfl, hnil⟩ | ⟨g, cp, cur, rfl, hbg, hcur, hcc, _⟩
      · have hM0 : M = 0 := hnil
        obtain rfl : n = 0 := by omega
        exact absurd HX.out (fun ⟨i, _, hi2, _⟩ => by have := HM.out; omega)
      · clear ho hcur
        by_cases hcn : cp = n
        · subst hcn
          have hMn : M = cp := by omega
          obtain ⟨D, hD⟩ : ∃ D : Nat, D = M - cp := ⟨_, rfl⟩
          have eD : (M : Int) - (cp : Int) = (D : Int) := by omega
          go_wp2
          go_loopw [10, 41] (fun _ i w5 => ∃ j : Nat, i = .int .i64 (j : Int) ∧ j ≤ D ∧ w5 = wr ∧ Hid (∀ j', j' < j → ubv bs (cp + j') = 0)) (fun _ i _ => D - (intOf i).toNat)
          case atStart => exact ⟨0, rfl, by omega, rfl, fun j' hj => absurd hj (by omega)⟩
          case round =>
            rename World => w5
            obtain ⟨j, rfl, hj, hw5, hrel⟩ := hrel
            obtain rfl : wr = w5 := hw5.symm
            by_cases h6 : j < D
            · exact absurd h6 (by omega)
            · obtain rfl : D = j := by omega
              exact absurd HX.out (fun ⟨i, hi1, hi2, hi3⟩ => by
                have h9 := hrel.out (i - cp) (by have := HM.out; omega)
                rw [show cp + (i - cp) = i by omega, hi3] at h9
                omega)
        · have hcn2 : n < cp := by omega
          obtain ⟨D, hD⟩ : ∃ D : Nat, D = M - n := ⟨_, rfl⟩
          have eD : (M : Int) - (n : Int) = (D : Int) := by omega
          go_wp2
          go_loopw [10, 41] (fun _ i w5 => ∃ j : Nat, i = .int .i64 (j : Int) ∧ j ≤ D ∧ w5 = wr ∧ Hid (∀ j', j' < j → ubv bs (n + j') = 0)) (fun _ i _ => D - (intOf i).toNat)
          case atStart => exact ⟨0, rfl, by omega, rfl, fun j' hj => absurd hj (by omega)⟩
          case round =>
            rename World => w5
            obtain ⟨j, rfl, hj, hw5, hrel⟩ := hrel
            obtain rfl : wr = w5 := hw5.symm
            by_cases h6 : j < D
            · have c := HO2.out.cellAt (n + j) (by omega)
              rw [ils_get (show n + j < M by omega)] at c
              rcases ubv_bit bs (n + j) with hz0 | hz0
              · rw [hz0] at c
                have HR : Hid (∀ j', j' < j + 1 → ubv bs (n + j') = 0) := fun j' hj' => by
                  by_cases h8 : j' = j
                  · subst h8; exact hz0
                  · exact hrel.out j' (by omega)
                clear hrel hz0
                go_wp2
                go_roundw
                case rel => exact ⟨j + 1, by go_num, by omega, by trivial, HR.out⟩
                case measure => simp [intOf]; omega
              · rw [hz0] at c
                clear hrel hz0
                have HE : Hid ((wr.alloc (.cells #[] 3)).ownsRow w.heap.size 3 1 (.slice (some ⟨wr.heap.size, 0, none⟩) 0 0) 0 (ils ys 0) ∧ Below w.heap.size w (wr.alloc (.cells #[] 3))) := ⟨own_base (own_empty wr 3 1) HB.out.size, bstep HB.out (below_one _ _)⟩
                go_wp2
                go_ret2
                exact ⟨_, rfl, HE.out⟩
            · obtain rfl : D = j := by omega
              exact absurd HX.out (fun ⟨i, hi1, hi2, hi3⟩ => by
                have h9 := hrel.out (i - n) (by have := HM.out; omega)
                rw [show n + (i - n) = i by omega, hi3] at h9
                omega)
end Go.Proofs.Ytgahjkijmihmdaa
