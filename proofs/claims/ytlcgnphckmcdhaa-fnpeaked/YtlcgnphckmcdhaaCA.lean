/- Counts in plain numbers; cuts; the search. -/
import Derived.Test.YtlcgnphckmcdhaaAP
import Derived.Test.YtlcgnphckmcdhaaMK
namespace Go.Proofs.Ytlcgnphckmcdhaa
open Go.RowKit

/-- What is told: a list in memory of the call's own, and a bool. -/
def Pst (w w' : World) (e : Ending) (N : Nat) (ys : Nat → Int) (ok : Bool) : Prop := ∃ u, e = .returned (.tuple #[u, .bool ok]) ∧ w'.ownsRow w.heap.size 3 1 u N (ils ys N) ∧ Below w.heap.size w w'

theorem made_zero (k : Nat) : (madeCells (Value.int .i64 0).cells (k * 1)).toList = ils (fun _ => 0) k := by
  apply List.ext_getElem?
  intro i
  by_cases h : i < k
  · rw [ils_get h]
    simp [madeCells, Value.cells, h, Nat.mod_one]
  · rw [List.getElem?_eq_none (by rw [Array.length_toList, size_madeCells]; omega), List.getElem?_eq_none (by rw [ils_length]; omega)]

/-- A list of noughts made. -/
def mkd (W : World) (k : Nat) : World := W.alloc (.cells (madeCells (Value.int .i64 0).cells (k * 1)) 3)

theorem mkd_run (W : World) {k : Nat} (hk : k ≤ 1048576) : (Instr.makeSlice 24 (.int .i64 (k : Int)) (.int .i64 (k : Int))).run Try.prog W = .ok (.slice (some ⟨W.heap.size, 0, none⟩) k k) (mkd W k) := by
  obtain ⟨i0, hi, hz0, hz1, hz2⟩ := info_parts Try.info3
  have h := run_make (P := Try.prog) W 24 3 i0 (.int .i64 0) Try.underlying24 hi hz0 .i64 .i64 k k (by omega) (Int.le_refl _) (by rw [hz2]; omega) (by omega)
  rw [Int.toNat_natCast, hz1] at h
  exact h

theorem mkd_own (W : World) {B k : Nat} (hk : k ≤ 1048576) (hB : B ≤ W.heap.size) : (mkd W k).ownsRow B 3 1 (.slice (some ⟨W.heap.size, 0, none⟩) k k) k (ils (fun _ => 0) k) := by
  have h := World.ownsRow_lit (base := B) (e := 3) (size := 1) W (madeCells (Value.int .i64 0).cells (k * 1)) k hB (by unfold maxLen; omega) (size_madeCells _ _)
  rw [made_zero] at h
  exact h

theorem mkd_below (W : World) (k : Nat) : Below W.heap.size W (mkd W k) := below_one _ _

/-- Cuts. -/
abbrev Cts (m : Nat) (cs : Nat → Int) : Prop := m ≤ 100 ∧ ∀ j, j < m → 0 < j → cs (j - 1) < cs j

theorem cts_lt {m : Nat} {cs : Nat → Int} (h : Cts m cs) {i j : Nat} (hij : i ≤ j) (hj : j < m) : cs i ≤ cs j := by
  induction j with
  | zero => obtain rfl : i = 0 := by omega
            exact Int.le_refl _
  | succ j ih =>
    by_cases e : i = j + 1
    · subst e; exact Int.le_refl _
    · have h1 := ih (by omega) (by omega)
      have h2 := h.2 (j + 1) hj (by omega)
      rw [Nat.add_sub_cancel] at h2
      omega

/-- How many of the first cuts x is not below. -/
def fi (cs : Nat → Int) (x : Int) : Nat → Nat
  | 0 => 0
  | m + 1 => if fi cs x m = m ∧ cs m ≤ x then m + 1 else fi cs x m

theorem fi_of {cs : Nat → Int} {x : Int} : ∀ {m k : Nat}, k ≤ m → (∀ j, j < k → cs j ≤ x) → (k < m → x < cs k) → fi cs x m = k
  | 0, k, h, _, _ => by
    obtain rfl : k = 0 := by omega
    rfl
  | m + 1, k, h, h1, h2 => by
    rw [fi]
    by_cases e : k = m + 1
    · subst e
      rw [if_pos ⟨fi_of (Nat.le_refl m) (fun j hj => h1 j (by omega)) (fun h => absurd h (Nat.lt_irrefl _)), h1 m (by omega)⟩]
    · have h3 : fi cs x m = k := fi_of (by omega) h1 (fun h => h2 (by omega))
      rw [h3, if_neg]
      rintro ⟨rfl, h5⟩
      have := h2 (by omega)
      omega

/-- What was counted of the first i. -/
def cnt (cs : Nat → Int) (m : Nat) (xs : Nat → Int) : Nat → Nat → Int
  | 0, _ => 0
  | i + 1, k => cnt cs m xs i k + (if fi cs (xs i) m = k then 1 else 0)

theorem cnt_in (cs : Nat → Int) (m : Nat) (xs : Nat → Int) (i k : Nat) : 0 ≤ cnt cs m xs i k ∧ cnt cs m xs i k ≤ i := by
  induction i with
  | zero => exact ⟨Int.le_refl _, Int.le_refl _⟩
  | succ i ih =>
    rw [cnt]
    split <;> omega

theorem cnt_put {cs : Nat → Int} {m : Nat} {xs : Nat → Int} {i p : Nat} (hp : fi cs (xs i) m = p) (n : Nat) : (ils (cnt cs m xs i) n).set p (.int .i64 (cnt cs m xs i p + 1)) = ils (cnt cs m xs (i + 1)) n := by
  rw [ils_put]
  refine ils_congr fun q _ => ?_
  show (if q = p then cnt cs m xs i p + 1 else cnt cs m xs i q) = cnt cs m xs i q + (if fi cs (xs i) m = q then 1 else 0)
  rw [hp]
  by_cases h : q = p
  · subst h; rw [if_pos rfl, if_pos rfl]
  · rw [if_neg h, if_neg (fun e => h e.symm)]; omega

set_option maxHeartbeats 1000000 in
theorem cuts_any {w : World} {v : Value} {n : Nat} {xs : Nat → Int} (hv : Il w v n xs) (hn : n ≤ 1048576) : Calls Try.prog 15 #[v] w fun e w' => e = .returned (.bool (decide (Cts n xs))) ∧ Below w.heap.size w w' := by
  obtain ⟨ao, cap, rfl, hcap, hc⟩ := hv
  have HC : Hid (0 < n → ∃ b off, ao = some ⟨b, off, none⟩ ∧ b < w.heap.size ∧ ∀ k, k < n → w.cell? ⟨b, off + k, none⟩ = some (.int .i64 (xs k))) := hc
  clear hc
  obtain ⟨d, hd⟩ : ∃ d, d = decide (Cts n xs) := ⟨_, rfl⟩
  rw [← hd]
  have HD : Hid _ := hd
  clear hd
  by_cases h100 : n ≤ 100
  · go_enter Try.func15, Try.ntmps15
    go_wp2
    go_loopw [3] (fun i wr => ∃ k : Nat, i = .int .i64 k ∧ 1 ≤ k ∧ Hid ((k ≤ n ∨ k = 1) ∧ Below w.heap.size w wr ∧ ∀ j, j < k → j < n → 0 < j → xs (j - 1) < xs j)) (fun i _ => n + 1 - (intOf i).toNat)
    case atStart => exact ⟨1, rfl, by omega, .inr rfl, Below.refl _ _, fun j hj _ h0 => by omega⟩
    case round =>
      obtain ⟨k, rfl, hk, hal⟩ := hrel
      have hk2 := hal.out.1
      have hk3 : k ≤ 101 := by omega
      clear hk2
      by_cases h1 : k < n
      · obtain ⟨b, off, rfl, hlt, hcell⟩ := HC.out (by omega)
        have c := (hal.out.2.1.cell (p := ⟨b, off + k, none⟩) hlt).trans (hcell k h1)
        have c2 := (hal.out.2.1.cell (p := ⟨b, off + (k - 1), none⟩) hlt).trans (hcell (k - 1) (by omega))
        have e3 : off + ((k : Int) - 1).toNat = off + (k - 1) := by omega
        clear hcell
        by_cases hs : xs k ≤ xs (k - 1)
        · have HS : Hid (xs k ≤ xs (k - 1)) := hs
          have BB : Hid (Below w.heap.size w wr) := hal.out.2.1
          clear hal
          go_wp2_with (go_quiet (fail))
          go_ret
          exact ⟨congrArg (fun z => Ending.returned (.bool z)) (by rw [HD.out]; exact (decide_eq_false (fun h => by have := h.2 k h1 (by omega); have := HS.out; omega)).symm), below_drewN BB.out _⟩
        · have HS : Hid (¬ xs k ≤ xs (k - 1)) := hs
          go_wp2_with (go_quiet (fail))
          go_roundw
          case rel =>
            refine ⟨k + 1, by go_num, by omega, .inl (by omega), below_drewN hal.out.2.1 _, fun j hj hn h0 => ?_⟩
            by_cases hjk : j = k
            · subst hjk; have := HS.out; omega
            · exact hal.out.2.2 j (by omega) hn h0
          case measure => simp [intOf]; omega
      · go_wp2
        go_ret
        exact ⟨congrArg (fun z => Ending.returned (.bool z)) (by rw [HD.out]; exact (decide_eq_true ⟨h100, fun j hj h0 => hal.out.2.2 j (by omega) hj h0⟩).symm), hal.out.2.1⟩
  · go_enter Try.func15, Try.ntmps15
    go_wp2
    go_ret
    exact ⟨congrArg (fun z => Ending.returned (.bool z)) (by rw [HD.out]; exact (decide_eq_false (fun h => h100 h.1)).symm), Below.refl _ _⟩

/-- The closure of a search. -/
theorem cl_any {w : World} {c1 c2 : Addr} {ao : Option Addr} {n cap k b off : Nat} {z y : Int} (h1 : w.cell? c1 = some (.slice ao n cap)) (h2 : w.cell? c2 = some (.int .i64 y)) (hk : k < n) (hao : ao = some ⟨b, off, none⟩) (hc : w.cell? ⟨b, off + k, none⟩ = some (.int .i64 z)) :
    Calls Try.prog 24 #[.int .i64 (k : Int), .pointer (some c1), .pointer (some c2)] w fun e w' => e = .returned (.bool (decide (y ≤ z))) ∧ Below w.heap.size w w' := by
  subst hao
  go_enter Try.func24, Try.ntmps24
  go_wp2_with (go_quiet (fail))
  go_ret
  exact ⟨rfl, below_drewN (Below.refl _ _) _⟩

set_option maxHeartbeats 4000000 in
theorem search_any {w : World} {c1 c2 : Addr} {ao : Option Addr} {n cap : Nat} {cs : Nat → Int} {x : Int} (h1 : w.cell? c1 = some (.slice ao n cap)) (h2 : w.cell? c2 = some (.int .i64 (x + 1)))
    (hc : (0 < n → ∃ b off, ao = some ⟨b, off, none⟩ ∧ b < w.heap.size ∧ ∀ k, k < n → w.cell? ⟨b, off + k, none⟩ = some (.int .i64 (cs k)))) (h : Cts n cs) :
    Calls Try.prog 23 #[.int .i64 (n : Int), .func (.func 24) #[] #[.pointer (some c1), .pointer (some c2)]] w fun e w' => e = .returned (.int .i64 (fi cs x n : Int)) ∧ Below w.heap.size w w' := by
  have HC : Hid (0 < n → ∃ b off, ao = some ⟨b, off, none⟩ ∧ b < w.heap.size ∧ ∀ k, k < n → w.cell? ⟨b, off + k, none⟩ = some (.int .i64 (cs k))) := hc
  have HT : Hid (Cts n cs) := h
  have hn := h.1
  clear hc h
  go_enter Try.func23, Try.ntmps23
  go_wp2
  go_loopw [5, 6, 7] (fun i j _ wr => ∃ p q : Nat, i = .int .i64 p ∧ j = .int .i64 q ∧ p ≤ q ∧ q ≤ n ∧ Hid (Below w.heap.size w wr ∧ (∀ k, k < p → cs k ≤ x) ∧ (q < n → x < cs q))) (fun i j _ _ => (intOf j).toNat - (intOf i).toNat)
  case atStart => exact ⟨0, n, rfl, rfl, by omega, by omega, Below.refl _ _, fun k hk => by omega, fun h => by omega⟩
  case round =>
    obtain ⟨p, q, rfl, rfl, hpq, hq, hrel⟩ := hrel
    by_cases h3 : p < q
    · obtain ⟨b, off, rfl, hlt, hcell⟩ := HC.out (by omega)
      obtain ⟨m, hm⟩ : ∃ m : Nat, m = (p + q) / 2 := ⟨_, rfl⟩
      have hm1 : p ≤ m ∧ m < q := by omega
      have em : ((p : Int) + (q : Int)) / 2 = (m : Int) := by omega
      have c := (hrel.out.1.cell (p := ⟨b, off + m, none⟩) hlt).trans (hcell m (by omega))
      have i1 := cl_any (w := wr) (k := m) ((hrel.out.1.cell (World.block_lt_of_cell? _ _ h1)).trans h1) ((hrel.out.1.cell (World.block_lt_of_cell? _ _ h2)).trans h2) (by omega) rfl c
      clear hm hcell
      by_cases hs : cs m ≤ x
      · rw [decide_eq_false (show ¬ x + 1 ≤ cs m by omega)] at i1
        have HS : Hid (cs m ≤ x) := hs
        clear hs c
        go_wp2_with (first | (go_at_call 24; refine i1.mono ?_; rintro e w1 ⟨rfl, hb⟩; have HB : Hid (Below w.heap.size w w1) := bstep hrel.out.1 hb; clear hb))
        go_roundw
        case rel => exact ⟨m + 1, q, by go_num, rfl, by omega, by omega, HB.out, fun k hk => Int.le_trans (cts_lt HT.out (i := k) (j := m) (by omega) (by omega)) HS.out, hrel.out.2.2⟩
        case measure => simp [intOf]; omega
      · rw [decide_eq_true (show x + 1 ≤ cs m by omega)] at i1
        have HS : Hid (¬ cs m ≤ x) := hs
        clear hs c
        go_wp2_with (first | (go_at_call 24; refine i1.mono ?_; rintro e w1 ⟨rfl, hb⟩; have HB : Hid (Below w.heap.size w w1) := bstep hrel.out.1 hb; clear hb))
        go_roundw
        case rel => exact ⟨p, m, rfl, rfl, by omega, by omega, HB.out, hrel.out.2.1, fun _ => by have := HS.out; omega⟩
        case measure => simp [intOf]; omega
    · obtain rfl : q = p := by omega
      have HF : Hid (fi cs x n = q) := fi_of hq hrel.out.2.1 hrel.out.2.2
      go_wp2
      go_ret
      exact ⟨by rw [HF.out]; rfl, hrel.out.1⟩

set_option maxHeartbeats 4000000 in
theorem sints_any {w : World} {v : Value} {n : Nat} {cs : Nat → Int} {x : Int} (hv : Il w v n cs) (h : Cts n cs) :
    Calls Try.prog 16 #[v, .int .i64 (x + 1)] w fun e w' => e = .returned (.int .i64 (fi cs x n : Int)) ∧ Below w.heap.size w w' := by
  obtain ⟨ao, cap, rfl, hcap, hc⟩ := hv
  have BL : Hid (Below w.heap.size w ((w.alloc (.cells #[.slice ao n cap] 24)).alloc (.cells #[.int .i64 (x + 1)] 3))) := bstep (below_one _ _) (below_one _ _)
  have i1 := search_any (w := (w.alloc (.cells #[.slice ao n cap] 24)).alloc (.cells #[.int .i64 (x + 1)] 3)) (c1 := ⟨w.heap.size, 0, none⟩) (c2 := ⟨w.heap.size + 1, 0, none⟩) (ao := ao) (n := n) (cap := cap) (cs := cs) (x := x)
    (by simp) (by simp) (fun h0 => by
      obtain ⟨b, off, rfl, hlt, hcell⟩ := hc h0
      exact ⟨b, off, rfl, Nat.lt_of_lt_of_le hlt BL.out.size, fun k hk => (BL.out.cell (p := ⟨b, off + k, none⟩) hlt).trans (hcell k hk)⟩) h
  clear hc h
  generalize fi cs x n = R at i1
  go_enter Try.func16, Try.ntmps16
  go_wp2_with (first | (go_at_call 23; refine i1.mono ?_; rintro e w1 ⟨rfl, hb⟩; have HB : Hid (Below w.heap.size w w1) := BL.out.trans (hb.mono BL.out.size); clear hb))
  go_ret
  exact ⟨rfl, HB.out⟩
end Go.Proofs.Ytlcgnphckmcdhaa
