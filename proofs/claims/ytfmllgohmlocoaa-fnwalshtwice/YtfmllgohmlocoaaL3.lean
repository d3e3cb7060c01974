/- Whole lengths, how many bits they have, copies, signals. -/
import Derived.Test.YtfmllgohmlocoaaL2
import Derived.BigRegion
import Derived.Lib.SliceRun
namespace Go.Proofs.Ytfmllgohmlocoaa
open Go.RowKit

/-- A whole length. -/
abbrev Whl (n : Int) : Prop := n = 1 ∨ n = 2 ∨ n = 4 ∨ n = 8 ∨ n = 16 ∨ n = 32 ∨ n = 64 ∨ n = 128 ∨ n = 256

set_option maxHeartbeats 2000000 in
theorem sWhl_any (n : Int) (w : World) : Calls Try.prog 27 #[.int .i64 n] w fun e w' => e = .returned (.bool (decide (Whl n))) ∧ w' = w := by
  obtain ⟨d, hd⟩ : ∃ d, d = decide (Whl n) := ⟨_, rfl⟩
  rw [← hd]
  have HD : Hid _ := hd
  clear hd
  go_enter Try.func27, Try.ntmps27
  go_wp2
  go_loopw [3] (fun v wr => ∃ k : Int, v = .int .i64 k ∧ wr = w ∧ Hid ((Whl k ∨ k = 512) ∧ ∀ j, Whl j → j < k → n ≠ j)) (fun v _ => 512 - (intOf v).toNat)
  case atStart => exact ⟨1, rfl, rfl, .inl (.inl rfl), fun j hj hl => by rcases hj with h | h | h | h | h | h | h | h | h <;> omega⟩
  case round =>
    obtain ⟨k, rfl, hw, hrel⟩ := hrel
    obtain rfl := hw.symm
    obtain ⟨hk, hall⟩ := hrel.out
    clear hrel
    by_cases h5 : k = 512
    · subst h5
      have E : Hid (false = d) := by
        rw [HD.out]
        refine (decide_eq_false (fun h => hall n h ?_ rfl)).symm
        rcases h with h | h | h | h | h | h | h | h | h <;> omega
      clear hk hall
      go_wp2
      go_ret
      exact ⟨congrArg (fun z => Ending.returned (.bool z)) E.out, rfl⟩
    · have hk' : Whl k := by rcases hk with h | h; exact h; exact absurd h h5
      have hkb : 1 ≤ k ∧ k ≤ 256 := by rcases hk' with h | h | h | h | h | h | h | h | h <;> omega
      by_cases he : n = k
      · have E : Hid (true = d) := by rw [HD.out, he]; exact (decide_eq_true hk').symm
        clear hk hall hk'
        subst he
        go_wp2
        go_ret
        exact ⟨congrArg (fun z => Ending.returned (.bool z)) E.out, rfl⟩
      · have HA : Hid ((Whl (2 * k) ∨ 2 * k = 512) ∧ ∀ j, Whl j → j < 2 * k → n ≠ j) := by
          refine ⟨?_, fun j hj hl => ?_⟩
          · rcases hk' with h | h | h | h | h | h | h | h | h <;> subst h <;> decide
          · by_cases hjk : j < k
            · exact hall j hj hjk
            · have : j = k := by rcases hk' with h | h | h | h | h | h | h | h | h <;> rcases hj with h' | h' | h' | h' | h' | h' | h' | h' | h' <;> omega
              rw [this]
              exact he
        clear hk hall hk'
        go_wp2
        go_roundw
        case rel => exact ⟨2 * k, rfl, by trivial, HA.out⟩
        case measure => simp [intOf]; omega

theorem Whl.bounds {n : Int} (h : Whl n) : 1 ≤ n ∧ n ≤ 256 := by rcases h with h | h | h | h | h | h | h | h | h <;> omega

theorem Whl.pow {n : Nat} (h : Whl n) : ∃ m, m ≤ 8 ∧ n = 2 ^ m := by
  have : n = 1 ∨ n = 2 ∨ n = 4 ∨ n = 8 ∨ n = 16 ∨ n = 32 ∨ n = 64 ∨ n = 128 ∨ n = 256 := by rcases h with h | h | h | h | h | h | h | h | h <;> omega
  rcases this with rfl | rfl | rfl | rfl | rfl | rfl | rfl | rfl | rfl
  · exact ⟨0, by omega, rfl⟩
  · exact ⟨1, by omega, rfl⟩
  · exact ⟨2, by omega, rfl⟩
  · exact ⟨3, by omega, rfl⟩
  · exact ⟨4, by omega, rfl⟩
  · exact ⟨5, by omega, rfl⟩
  · exact ⟨6, by omega, rfl⟩
  · exact ⟨7, by omega, rfl⟩
  · exact ⟨8, by omega, rfl⟩

theorem and_fin : ∀ k : Fin 256, (bits BinOp.and .i64 ((k.val : Int) + 1) ((k.val : Int) + 1 - 1) == 0) = decide (Whl ((k.val : Int) + 1)) := by decide +kernel

theorem and_whl {n : Int} (h1 : 1 ≤ n) (h2 : n ≤ 256) : (bits BinOp.and .i64 n (n - 1) == 0) = decide (Whl n) := by
  have h := and_fin ⟨(n - 1).toNat, by omega⟩
  have e : (((n - 1).toNat : Nat) : Int) + 1 = n := by omega
  simp only [e] at h
  exact h

set_option maxHeartbeats 1000000 in
theorem iWhl_any (n : Int) (w : World) : Calls Try.prog 23 #[.int .i64 n] w fun e w' => e = .returned (.bool (decide (Whl n))) ∧ w' = w := by
  by_cases h1 : 1 ≤ n
  · by_cases h2 : n ≤ 256
    · have e := and_whl h1 h2
      generalize decide (Whl n) = d at e ⊢
      go_enter Try.func23, Try.ntmps23
      go_wp2
      go_ret
      exact ⟨rfl, rfl⟩
    · have e : false = decide (Whl n) := (decide_eq_false (fun h => by have := h.bounds; omega)).symm
      generalize decide (Whl n) = d at e ⊢
      have E : Hid _ := e
      clear e
      go_enter Try.func23, Try.ntmps23
      go_wp2
      go_ret
      exact ⟨congrArg (fun z => Ending.returned (.bool z)) E.out, rfl⟩
  · have e : false = decide (Whl n) := (decide_eq_false (fun h => by have := h.bounds; omega)).symm
    generalize decide (Whl n) = d at e ⊢
    have E : Hid _ := e
    clear e
    go_enter Try.func23, Try.ntmps23
    go_wp2
    go_ret
    exact ⟨congrArg (fun z => Ending.returned (.bool z)) E.out, rfl⟩

set_option maxRecDepth 100000 in
set_option maxHeartbeats 1000000 in
theorem len_0 (w : World) : Calls Try.prog 39 #[.int .u64 1] w fun e w' => e = .returned (.int .i64 1) ∧ w' = w := by
  go_enter Try.func39, Try.ntmps39
  go_wp2
  go_ret
  exact ⟨by kernel_rfl, rfl⟩

set_option maxRecDepth 100000 in
set_option maxHeartbeats 1000000 in
theorem len_1 (w : World) : Calls Try.prog 39 #[.int .u64 2] w fun e w' => e = .returned (.int .i64 2) ∧ w' = w := by
  go_enter Try.func39, Try.ntmps39
  go_wp2
  go_ret
  exact ⟨by kernel_rfl, rfl⟩

set_option maxRecDepth 100000 in
set_option maxHeartbeats 1000000 in
theorem len_2 (w : World) : Calls Try.prog 39 #[.int .u64 4] w fun e w' => e = .returned (.int .i64 3) ∧ w' = w := by
  go_enter Try.func39, Try.ntmps39
  go_wp2
  go_ret
  exact ⟨by kernel_rfl, rfl⟩

set_option maxRecDepth 100000 in
set_option maxHeartbeats 1000000 in
theorem len_3 (w : World) : Calls Try.prog 39 #[.int .u64 8] w fun e w' => e = .returned (.int .i64 4) ∧ w' = w := by
  go_enter Try.func39, Try.ntmps39
  go_wp2
  go_ret
  exact ⟨by kernel_rfl, rfl⟩

set_option maxRecDepth 100000 in
set_option maxHeartbeats 1000000 in
theorem len_4 (w : World) : Calls Try.prog 39 #[.int .u64 16] w fun e w' => e = .returned (.int .i64 5) ∧ w' = w := by
  go_enter Try.func39, Try.ntmps39
  go_wp2
  go_ret
  exact ⟨by kernel_rfl, rfl⟩

set_option maxRecDepth 100000 in
set_option maxHeartbeats 1000000 in
theorem len_5 (w : World) : Calls Try.prog 39 #[.int .u64 32] w fun e w' => e = .returned (.int .i64 6) ∧ w' = w := by
  go_enter Try.func39, Try.ntmps39
  go_wp2
  go_ret
  exact ⟨by kernel_rfl, rfl⟩

set_option maxRecDepth 100000 in
set_option maxHeartbeats 1000000 in
theorem len_6 (w : World) : Calls Try.prog 39 #[.int .u64 64] w fun e w' => e = .returned (.int .i64 7) ∧ w' = w := by
  go_enter Try.func39, Try.ntmps39
  go_wp2
  go_ret
  exact ⟨by kernel_rfl, rfl⟩

set_option maxRecDepth 100000 in
set_option maxHeartbeats 1000000 in
theorem len_7 (w : World) : Calls Try.prog 39 #[.int .u64 128] w fun e w' => e = .returned (.int .i64 8) ∧ w' = w := by
  go_enter Try.func39, Try.ntmps39
  go_wp2
  go_ret
  exact ⟨by kernel_rfl, rfl⟩

set_option maxRecDepth 100000 in
set_option maxHeartbeats 1000000 in
theorem len_8 (w : World) : Calls Try.prog 39 #[.int .u64 256] w fun e w' => e = .returned (.int .i64 9) ∧ w' = w := by
  go_enter Try.func39, Try.ntmps39
  go_wp2
  go_ret
  exact ⟨by kernel_rfl, rfl⟩

theorem len_whl {n m : Nat} (hm : m ≤ 8) (hn : n = 2 ^ m) (w : World) : Calls Try.prog 39 #[.int .u64 n] w fun e w' => e = .returned (.int .i64 (m + 1)) ∧ w' = w := by
  subst hn
  have : m = 0 ∨ m = 1 ∨ m = 2 ∨ m = 3 ∨ m = 4 ∨ m = 5 ∨ m = 6 ∨ m = 7 ∨ m = 8 := by omega
  rcases this with rfl | rfl | rfl | rfl | rfl | rfl | rfl | rfl | rfl
  · exact len_0 w
  · exact len_1 w
  · exact len_2 w
  · exact len_3 w
  · exact len_4 w
  · exact len_5 w
  · exact len_6 w
  · exact len_7 w
  · exact len_8 w

set_option maxHeartbeats 2000000 in
/-- A clone of a list that is not empty. -/
theorem clone_any {w : World} {v : Value} {n : Nat} {xs : Nat → Int} (hv : Il w v n xs) (h0 : 0 < n) (hn : n ≤ 1048576) :
    Calls Try.prog 24 #[v] w fun e w' => ∃ u, e = .returned u ∧ w'.ownsRow w.heap.size 3 1 u n (ils xs n) ∧ Below w.heap.size w w' := by
  obtain ⟨i0, hi, hz0, hz1, hz2⟩ := info_parts Try.info3
  have hv1 := hv.below (below_one w (.cells #[] 3))
  obtain ⟨ao, cap, rfl, hcap, hc⟩ := hv
  obtain ⟨b, off, rfl, hlt, hcell⟩ := hc h0
  have HN : Hid (∀ j u, (ils xs n)[j]? = some u → (w.alloc (.cells #[] 3)).cell? ((⟨b, off, none⟩ : Addr).add j) = some u) := by
    intro j u hj
    have hjn : j < n := by
      rcases Nat.lt_or_ge j n with h | h
      · exact h
      · rw [List.getElem?_eq_none (by rw [ils_length]; exact h)] at hj; cases hj
    rw [ils_get hjn] at hj
    cases hj
    show (w.alloc (.cells #[] 3)).cell? ((⟨b, off, none⟩ : Addr).add j) = _
    rw [show (⟨b, off, none⟩ : Addr).add j = ⟨b, off + j, none⟩ by simp [Addr.add]]
    exact ((below_one w (.cells #[] 3)).cell (p := ⟨b, off + j, none⟩) hlt).trans (hcell j hjn)
  have HO := own_empty w 3 1
  have HB := below_one w (.cells #[] 3)
  have hnil := Lib.run_eql_slice_nil (P := Try.prog) w 24 3 (some ⟨b, off, none⟩) n cap 0 0 Try.underlying24
  clear hc hv1 hcell hlt
  go_enter Try.func24, Try.ntmps24
  go_wp2_with (at_builtin; refine wpList_append_own _ rfl _ _ 24 rfl w.heap.size 3 i0 (.int .i64 0) 1 8 Try.underlying24 hi hz0 hz1 hz2 rfl (by decide) _ _ _ rfl HO ⟨b, off, none⟩ n cap (ils xs n) rfl (by rw [ils_length, Nat.mul_one]) HN.out (by intro u hu; unfold ils at hu; obtain ⟨i, _, rfl⟩ := List.mem_map.1 hu; rfl) (by unfold maxLen; omega) (by omega) HB.size ?_)
  intro v' w4 hown' hgrow _
  have HB4 : Hid _ := grown_below HB (Nat.le_refl _) HO hgrow
  have HO4 : Hid _ := hown'
  clear hown' hgrow HB HO
  go_wp2
  go_ret
  exact ⟨_, rfl, HO4.out, HB4.out⟩

/-- A sample. -/
abbrev Smp (x : Int) : Prop := -1000000000 ≤ x ∧ x ≤ 1000000000

theorem sSmp_any (x : Int) (w : World) : Calls Try.prog 28 #[.int .i64 x] w fun e w' => e = .returned (.bool (decide (Smp x))) ∧ w' = w := by
  have i1 := in_any x (-1000000000) 1000000000
  generalize decide (-1000000000 ≤ x ∧ x ≤ 1000000000) = d at i1
  go_enter Try.func28, Try.ntmps28
  go_wp2_with (first | (go_at_call 36; (with_reducible refine (i1 _).mono ?_); rintro e w' ⟨rfl, hw⟩; obtain rfl := hw.symm))
  go_ret
  exact ⟨rfl, rfl⟩

theorem iSmp_any (x : Int) (w : World) : Calls Try.prog 38 #[.int .i64 x] w fun e w' => e = .returned (.bool (decide (Smp x))) ∧ w' = w := by
  go_enter Try.func38, Try.ntmps38
  by_cases h : -1000000000 ≤ x
  · by_cases h1 : x ≤ 1000000000
    · go_wp2
      go_ret
      exact ⟨by simp [h, h1], rfl⟩
    · go_wp2
      go_ret
      exact ⟨by simp [h1], rfl⟩
  · go_wp2
    go_ret
    exact ⟨by simp; omega, rfl⟩

/-- A signal. -/
abbrev Sig (n : Nat) (xs : Nat → Int) : Prop := n ≤ 512 ∧ ∀ k, k < n → Smp (xs k)

set_option maxHeartbeats 1000000 in
theorem sSig_any {w : World} {v : Value} {n : Nat} {xs : Nat → Int} (hv : Il w v n xs) (hn : n ≤ 1048576) : Calls Try.prog 9 #[v] w fun e w' => e = .returned (.bool (decide (Sig n xs))) ∧ w' = w := by
  obtain ⟨ao, cap, rfl, hcap, hc⟩ := hv
  have HC : Hid (0 < n → ∃ b off, ao = some ⟨b, off, none⟩ ∧ b < w.heap.size ∧ ∀ k, k < n → w.cell? ⟨b, off + k, none⟩ = some (.int .i64 (xs k))) := hc
  clear hc
  obtain ⟨d, hd⟩ : ∃ d, d = decide (Sig n xs) := ⟨_, rfl⟩
  rw [← hd]
  have HD : Hid _ := hd
  clear hd
  go_enter Try.func9, Try.ntmps9
  go_wp2
  go_loopw [3] (fun i wr => ∃ k : Nat, i = .int .i64 k ∧ k ≤ n ∧ wr = w ∧ Hid (∀ j, j < k → Smp (xs j))) (fun i _ => n - (intOf i).toNat)
  case atStart => exact ⟨0, rfl, by omega, rfl, fun j hj => by omega⟩
  case round =>
    obtain ⟨k, rfl, hk, rfl, hal⟩ := hrel
    by_cases h1 : k < n
    · obtain ⟨b, off, rfl, hlt, hcell⟩ := HC.out (by omega)
      have c := hcell k h1
      clear hcell
      have i1 := sSmp_any (xs k)
      by_cases hs : Smp (xs k)
      · have HS : Hid _ := hs
        rw [decide_eq_true hs] at i1
        clear hs
        go_wp2_with (first | (go_at_call 28; (with_reducible refine (i1 _).mono ?_); rintro e w' ⟨rfl, hw⟩; obtain rfl := hw.symm))
        go_roundw
        case rel =>
          refine ⟨k + 1, by go_num, by omega, by trivial, fun j hj => ?_⟩
          by_cases hjk : j = k
          · subst hjk; exact HS.out
          · exact hal.out j (by omega)
        case measure => simp [intOf]; omega
      · have HS : Hid _ := hs
        rw [decide_eq_false hs] at i1
        clear hs
        go_wp2_with (first | (go_at_call 28; (with_reducible refine (i1 _).mono ?_); rintro e w' ⟨rfl, hw⟩; obtain rfl := hw.symm))
        go_ret
        exact ⟨congrArg (fun z => Ending.returned (.bool z)) (by rw [HD.out]; exact (decide_eq_false (fun h => HS.out (h.2 k h1))).symm), rfl⟩
    · obtain rfl : k = n := by omega
      go_wp2
      go_ret
      refine ⟨congrArg (fun z => Ending.returned (.bool z)) ?_, rfl⟩
      rw [HD.out]
      refine decide_eq_decide.2 ⟨fun h => ⟨by omega, hal.out⟩, fun h => ?_⟩
      have := h.1
      omega

set_option maxHeartbeats 1000000 in
theorem iSig_any {w : World} {v : Value} {n : Nat} {xs : Nat → Int} (hv : Il w v n xs) (hn : n ≤ 1048576) : Calls Try.prog 22 #[v] w fun e w' => e = .returned (.bool (decide (Sig n xs))) ∧ w' = w := by
  obtain ⟨ao, cap, rfl, hcap, hc⟩ := hv
  have HC : Hid (0 < n → ∃ b off, ao = some ⟨b, off, none⟩ ∧ b < w.heap.size ∧ ∀ k, k < n → w.cell? ⟨b, off + k, none⟩ = some (.int .i64 (xs k))) := hc
  clear hc
  obtain ⟨d, hd⟩ : ∃ d, d = decide (Sig n xs) := ⟨_, rfl⟩
  rw [← hd]
  have HD : Hid _ := hd
  clear hd
  by_cases h512 : n ≤ 512
  · go_enter Try.func22, Try.ntmps22
    go_wp2
    go_loopw [4, 10] (fun _ i wr => ∃ k : Nat, i = .int .i64 k ∧ k ≤ n ∧ wr = w ∧ Hid (∀ j, j < k → Smp (xs j))) (fun _ i _ => n - (intOf i).toNat)
    case atStart => exact ⟨0, rfl, by omega, rfl, fun j hj => by omega⟩
    case round =>
      obtain ⟨k, rfl, hk, rfl, hal⟩ := hrel
      by_cases h1 : k < n
      · obtain ⟨b, off, rfl, hlt, hcell⟩ := HC.out (by omega)
        have c := hcell k h1
        clear hcell
        have i1 := iSmp_any (xs k)
        by_cases hs : Smp (xs k)
        · have HS : Hid _ := hs
          rw [decide_eq_true hs] at i1
          clear hs
          go_wp2_with (first | (go_at_call 38; (with_reducible refine (i1 _).mono ?_); rintro e w' ⟨rfl, hw⟩; obtain rfl := hw.symm))
          go_roundw
          case rel =>
            refine ⟨k + 1, by go_num, by omega, by trivial, fun j hj => ?_⟩
            by_cases hjk : j = k
            · subst hjk; exact HS.out
            · exact hal.out j (by omega)
          case measure => simp [intOf]; omega
        · have HS : Hid _ := hs
          rw [decide_eq_false hs] at i1
          clear hs
          go_wp2_with (first | (go_at_call 38; (with_reducible refine (i1 _).mono ?_); rintro e w' ⟨rfl, hw⟩; obtain rfl := hw.symm))
          go_ret
          exact ⟨congrArg (fun z => Ending.returned (.bool z)) (by rw [HD.out]; exact (decide_eq_false (fun h => HS.out (h.2 k h1))).symm), rfl⟩
      · obtain rfl : k = n := by omega
        go_wp2
        go_ret
        exact ⟨congrArg (fun z => Ending.returned (.bool z)) (by rw [HD.out]; exact (decide_eq_true ⟨h512, hal.out⟩).symm), rfl⟩
  · go_enter Try.func22, Try.ntmps22
    go_wp2
    go_ret
    exact ⟨congrArg (fun z => Ending.returned (.bool z)) (by rw [HD.out]; exact (decide_eq_false (fun h => h512 h.1)).symm), rfl⟩
end Go.Proofs.Ytfmllgohmlocoaa
