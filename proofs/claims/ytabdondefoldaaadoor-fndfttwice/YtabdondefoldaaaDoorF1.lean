/- Rows of residues, copies, turned bits, the order at the end. -/
import Derived.Test.YtabdondefoldaaaDoorL4
import Derived.Test.YtabdondefoldaaaDoorR3
import Derived.Lib.SliceRun
namespace Go.Proofs.YtabdondefoldaaaDoor
open Go.RowKit

/-- A step of turning a word's bits around. -/
def sw (c k x : Int) : Int := bits .or .u64 (bits .and .u64 (x / k) c) (IntKind.u64.wrap (bits .and .u64 x c * k))
/-- A word with its bits the other way around. -/
def rev64 (x : Int) : Int :=
  let y := sw 281470681808895 65536 (sw 71777214294589695 256 (sw 1085102592571150095 16 (sw 3689348814741910323 4 (sw 6148914691236517205 2 x))))
  bits .or .u64 (y / 4294967296) (IntKind.u64.wrap (y * 4294967296))

set_option maxRecDepth 100000 in
set_option maxHeartbeats 2000000 in
theorem rev_any (x : Int) (_ : 0 ≤ x) (_ : x < 256) (w : World) : Calls Tryd.prog 35 #[.int .u64 x] w fun e w' => e = .returned (.int .u64 (rev64 x)) ∧ w' = w := by
  go_enter Tryd.func35, Tryd.ntmps35
  go_wp2
  go_ret
  exact ⟨rfl, rfl⟩

set_option maxHeartbeats 1000000 in
theorem iRow_any {w : World} {v : Value} {n : Nat} {xs : Nat → Int} {p : Int} (hs : Prs w) (hv : Il w v n xs) (hn : n ≤ 1048576) : Calls Tryd.prog 26 #[v, .int .i64 p] w fun e w' => e = .returned (.bool (decide (Prm p ∧ Rwp n xs p))) ∧ w' = w := by
  obtain ⟨ao, cap, rfl, hcap, hc⟩ := hv
  have HC : Hid (0 < n → ∃ b off, ao = some ⟨b, off, none⟩ ∧ b < w.heap.size ∧ ∀ k, k < n → w.cell? ⟨b, off + k, none⟩ = some (.int .i64 (xs k))) := hc
  clear hc
  obtain ⟨d, hd⟩ : ∃ d, d = decide (Prm p ∧ Rwp n xs p) := ⟨_, rfl⟩
  rw [← hd]
  have HD : Hid _ := hd
  clear hd
  have i1 := iPrm_any p hs
  clear hs
  by_cases hp : Prm p
  · rw [decide_eq_true hp] at i1
    have hpb := hp.bounds
    by_cases h256 : n ≤ 256
    · have HP : Hid (Prm p) := hp
      clear hp
      go_enter Tryd.func26, Tryd.ntmps26
      go_wp2_with (go_at_call 40; (with_reducible refine (i1).mono ?_); rintro e w' ⟨rfl, hw⟩; obtain rfl := hw.symm)
      go_loopw [6, 17] (fun _ i wr => ∃ k : Nat, i = .int .i64 k ∧ k ≤ n ∧ wr = w ∧ Hid (∀ j, j < k → 0 ≤ xs j ∧ xs j ≤ p - 1)) (fun _ i _ => n - (intOf i).toNat)
      case atStart => exact ⟨0, rfl, by omega, rfl, fun j hj => by omega⟩
      case round =>
        obtain ⟨k, rfl, hk, hw, hal⟩ := hrel
        obtain rfl := hw.symm
        by_cases h1 : k < n
        · obtain ⟨b, off, rfl, hlt, hcell⟩ := HC.out (by omega)
          have c := hcell k h1
          clear hcell
          have i2 := iRes_any (xs k) p (by omega)
          by_cases hs : 0 ≤ xs k ∧ xs k ≤ p - 1
          · have HS : Hid _ := hs
            rw [decide_eq_true hs] at i2
            clear hs
            go_wp2_with (go_at_call 41; (with_reducible refine (i2 _).mono ?_); rintro e w' ⟨rfl, hw⟩; obtain rfl := hw.symm)
            go_roundw
            case rel =>
              refine ⟨k + 1, by go_num, by omega, by trivial, fun j hj => ?_⟩
              by_cases hjk : j = k
              · subst hjk; exact HS.out
              · exact hal.out j (by omega)
            case measure => simp [intOf]; omega
          · have HS : Hid _ := hs
            rw [decide_eq_false hs] at i2
            clear hs
            go_wp2_with (go_at_call 41; (with_reducible refine (i2 _).mono ?_); rintro e w' ⟨rfl, hw⟩; obtain rfl := hw.symm)
            go_ret
            exact ⟨congrArg (fun z => Ending.returned (.bool z)) (by rw [HD.out]; exact (decide_eq_false (fun h => HS.out (h.2.2 k h1))).symm), rfl⟩
        · obtain rfl : k = n := by omega
          go_wp2
          go_ret
          exact ⟨congrArg (fun z => Ending.returned (.bool z)) (by rw [HD.out]; exact (decide_eq_true ⟨HP.out, h256, hal.out⟩).symm), rfl⟩
    · clear hp
      go_enter Tryd.func26, Tryd.ntmps26
      go_wp2_with (go_at_call 40; (with_reducible refine (i1).mono ?_); rintro e w' ⟨rfl, hw⟩; obtain rfl := hw.symm)
      go_ret
      exact ⟨congrArg (fun z => Ending.returned (.bool z)) (by rw [HD.out]; exact (decide_eq_false (fun h => h256 h.2.1)).symm), rfl⟩
  · rw [decide_eq_false hp] at i1
    have HP : Hid (¬ Prm p) := hp
    clear hp
    go_enter Tryd.func26, Tryd.ntmps26
    go_wp2_with (go_at_call 40; (with_reducible refine (i1).mono ?_); rintro e w' ⟨rfl, hw⟩; obtain rfl := hw.symm)
    go_ret
    exact ⟨congrArg (fun z => Ending.returned (.bool z)) (by rw [HD.out]; exact (decide_eq_false (fun h => HP.out h.1)).symm), rfl⟩

set_option maxHeartbeats 2000000 in
/-- A clone of a list that is not empty. -/
theorem clone_any {w : World} {v : Value} {n : Nat} {xs : Nat → Int} (hv : Il w v n xs) (h0 : 0 < n) (hn : n ≤ 1048576) :
    Calls Tryd.prog 27 #[v] w fun e w' => ∃ u, e = .returned u ∧ w'.ownsRow w.heap.size 3 1 u n (ils xs n) ∧ Below w.heap.size w w' := by
  obtain ⟨i0, hi, hz0, hz1, hz2⟩ := info_parts Tryd.info3
  have hv1 := hv.below (below_one w (.cells #[] 3))
  obtain ⟨ao, cap, rfl, hcap, hc⟩ := hv
  obtain ⟨b, off, rfl, hlt, hcell⟩ := hc h0
  have HN : Hid (∀ j u, (ils xs n)[j]? = some u → (w.alloc (.cells #[] 3)).cell? ((⟨b, off, none⟩ : Addr).add j) = some u) := by
    intro j u hj
    have hjn : j < n := by
      rcases Nat.lt_or_ge j n with h | h
      · exact h
      · rw [List.getElem?_eq_none (by rw [ils_length]; exact h)] at hj; cases hj
    rw [ils_get hjn] at hj
    cases hj
    show (w.alloc (.cells #[] 3)).cell? ((⟨b, off, none⟩ : Addr).add j) = _
    rw [show (⟨b, off, none⟩ : Addr).add j = ⟨b, off + j, none⟩ by simp [Addr.add]]
    exact ((below_one w (.cells #[] 3)).cell (p := ⟨b, off + j, none⟩) hlt).trans (hcell j hjn)
  have HO := own_empty w 3 1
  have HB := below_one w (.cells #[] 3)
  have hnil := Lib.run_eql_slice_nil (P := Tryd.prog) w 29 3 (some ⟨b, off, none⟩) n cap 0 0 Tryd.underlying29
  clear hc hv1 hcell hlt
  go_enter Tryd.func27, Tryd.ntmps27
  go_wp2_with (at_builtin; refine wpList_append_own _ rfl _ _ 29 rfl w.heap.size 3 i0 (.int .i64 0) 1 8 Tryd.underlying29 hi hz0 hz1 hz2 rfl (by decide) _ _ _ rfl HO ⟨b, off, none⟩ n cap (ils xs n) rfl (by rw [ils_length, Nat.mul_one]) HN.out (by intro u hu; unfold ils at hu; obtain ⟨i, _, rfl⟩ := List.mem_map.1 hu; rfl) (by unfold maxLen; omega) (by omega) HB.size ?_)
  intro v' w4 hown' hgrow _
  have HB4 : Hid _ := grown_below HB (Nat.le_refl _) HO hgrow
  have HO4 : Hid _ := hown'
  clear hown' hgrow HB HO
  go_wp2
  go_ret
  exact ⟨_, rfl, HO4.out, HB4.out⟩

theorem Whl.pow {n : Nat} (h : Whl n) : ∃ m, m ≤ 8 ∧ n = 2 ^ m := by
  have : n = 1 ∨ n = 2 ∨ n = 4 ∨ n = 8 ∨ n = 16 ∨ n = 32 ∨ n = 64 ∨ n = 128 ∨ n = 256 := by rcases h with h | h | h | h | h | h | h | h | h <;> omega
  rcases this with rfl | rfl | rfl | rfl | rfl | rfl | rfl | rfl | rfl
  · exact ⟨0, by omega, rfl⟩
  · exact ⟨1, by omega, rfl⟩
  · exact ⟨2, by omega, rfl⟩
  · exact ⟨3, by omega, rfl⟩
  · exact ⟨4, by omega, rfl⟩
  · exact ⟨5, by omega, rfl⟩
  · exact ⟨6, by omega, rfl⟩
  · exact ⟨7, by omega, rfl⟩
  · exact ⟨8, by omega, rfl⟩

theorem len_pow {n m : Nat} (hm : m ≤ 8) (hn : n = 2 ^ m) (w : World) : Calls Tryd.prog 31 #[.int .u64 n] w fun e w' => e = .returned (.int .i64 (m + 1)) ∧ w' = w := by
  have hp : (2 : Nat) ^ m ≤ 256 := by calc 2 ^ m ≤ 2 ^ 8 := Nat.pow_le_pow_right (by omega) hm
    _ = 256 := rfl
  obtain ⟨L, _, hL, hc⟩ := len_nat n (by rw [hn]; omega)
  have h1 := len_any (n : Int) w (by have := Nat.one_le_two_pow (n := m); omega) (by omega)
  have e : ∀ L2, Bits (n : Int) L2 → L2 = m + 1 := by
    intro L2 h2
    have a3 : n < 2 ^ L2 := by exact_mod_cast h2.lt
    have a4 : 2 ^ L2 ≤ 2 * n + 1 := by exact_mod_cast h2.ge
    rw [hn] at a3 a4
    rcases Nat.lt_trichotomy (m + 1) L2 with h | h | h
    · have := Nat.pow_le_pow_right (n := 2) (by omega) (show m + 2 ≤ L2 by omega)
      rw [Nat.pow_succ, Nat.pow_succ] at this
      have := Nat.one_le_two_pow (n := m)
      omega
    · exact h.symm
    · have := Nat.pow_le_pow_right (n := 2) (by omega) (show L2 ≤ m by omega)
      omega
  have i2 : Calls Tryd.prog 43 #[.int .u64 n] w fun e w' => e = .returned (.int .i64 ((m : Int) + 1)) ∧ w' = w := h1.mono (by
    rintro e2 w' ⟨L2, hb, rfl, rfl⟩
    rw [e L2 hb]
    exact ⟨rfl, rfl⟩)
  clear h1 hc e hn hp hL
  go_enter Tryd.func31, Tryd.ntmps31
  go_wp2_with (go_at_call 43; (with_reducible refine (i2).mono ?_); rintro e w' ⟨rfl, hw⟩; obtain rfl := hw.symm)
  go_ret
  exact ⟨rfl, rfl⟩

theorem lead_pow {n m : Nat} (hm : m ≤ 8) (hn : n = 2 ^ m) (w : World) : Calls Tryd.prog 34 #[.int .u64 n] w fun e w' => e = .returned (.int .i64 (63 - m)) ∧ w' = w := by
  have i1 := len_pow hm hn w
  clear hn
  go_enter Tryd.func34, Tryd.ntmps34
  go_wp2_with (go_at_call 31; (with_reducible refine (i1).mono ?_); rintro e w' ⟨rfl, hw⟩; obtain rfl := hw.symm)
  go_ret
  exact ⟨congrArg (fun z => Ending.returned (.int .i64 z)) (by omega), rfl⟩

/-- The place of a number in the order of turned bits. -/
def rho : Nat → Nat → Nat
  | 0, _ => 0
  | r + 1, b => rho r (b / 2) + b % 2 * 2 ^ r

/-- Where the k-th number lies. -/
def rvp (m k : Nat) : Nat := (rev64 (k : Int) / 2 ^ (64 - m)).toNat

theorem rev_fin : ∀ m : Fin 9, ∀ k : Fin 256, k.val < 2 ^ m.val → rho m.val (rvp m.val k.val) = k.val ∧ rvp m.val k.val < 2 ^ m.val ∧ rev64 (k.val : Int) / 2 ^ (64 - m.val) = (rvp m.val k.val : Int) := by decide +kernel

theorem rev_facts {m k : Nat} (hm : m ≤ 8) (hk : k < 2 ^ m) : rho m (rvp m k) = k ∧ rvp m k < 2 ^ m ∧ rev64 (k : Int) / 2 ^ (64 - m) = (rvp m k : Int) := by
  have h2 : (2 : Nat) ^ m ≤ 256 := by calc 2 ^ m ≤ 2 ^ 8 := Nat.pow_le_pow_right (by omega) hm
    _ = 256 := rfl
  exact rev_fin ⟨m, by omega⟩ ⟨k, by omega⟩ hk

set_option maxHeartbeats 2000000 in
theorem inOrd_any {w : World} {v : Value} {n m : Nat} {f : Nat → Int} (hm : m ≤ 8) (hn : n = 2 ^ m) (hv : Il w v n f) :
    Calls Tryd.prog 30 #[v] w fun e w' => ∃ u, e = .returned u ∧ w'.ownsRow w.heap.size 3 1 u n (ils (fun k => f (rvp m k)) n) ∧ Below w.heap.size w w' := by
  obtain ⟨i0, hi, hz0, hz1, hz2⟩ := info_parts Tryd.info3
  have hp : 1 ≤ n ∧ n ≤ 256 := by
    rw [hn]
    exact ⟨Nat.one_le_two_pow, by calc 2 ^ m ≤ 2 ^ 8 := Nat.pow_le_pow_right (by omega) hm
      _ = 256 := rfl⟩
  have i1 := fun W => lead_pow hm hn W
  obtain ⟨ao, cap, rfl, hcap, hc⟩ := hv
  obtain ⟨b, off, rfl, hlt, hcell⟩ := hc (by omega)
  have HCL : Hid (b < w.heap.size ∧ ∀ k, k < n → w.cell? ⟨b, off + k, none⟩ = some (.int .i64 (f k))) := ⟨hlt, hcell⟩
  have HRV : Hid (∀ k, k < n → rvp m k < n ∧ rev64 (k : Int) / 2 ^ (64 - m) = (rvp m k : Int)) := fun k hk => by
    have := rev_facts hm (show k < 2 ^ m by omega)
    exact ⟨by rw [hn]; exact this.2.1, this.2.2⟩
  obtain ⟨w1, hmk, hrow, hgr⟩ := run_makeSlice_full (P := Tryd.prog) w w.heap.size 29 3 i0 (.int .i64 0) 1 Tryd.underlying29 hi hz0 hz1 .i64 .i64 n (by omega) (by rw [hz2]; omega) (by unfold maxLen; omega) (Nat.le_refl _)
  have hbl : Below w.heap.size w w1 := (Below.refl _ _).grown hgr (Nat.le_refl _) (fun _ h => by cases h)
  generalize hL : (madeCells (Value.int .i64 0).cells (n * 1)).toList = L at hrow
  have hLn : L.length = n := by rw [← hL, Array.length_toList, size_madeCells, Nat.mul_one]
  clear hL hgr hi hz0 hz1 hz2 hc hlt hcell hn
  have HR : Hid (w1.ownsRow w.heap.size 3 1 (.slice (some ⟨w.heap.size, 0, none⟩) n n) n L) := hrow
  have HB : Hid (Below w.heap.size w w1) := hbl
  clear hrow hbl
  go_enter Tryd.func30, Tryd.ntmps30
  go_wp2_with (go_at_call 34; refine (i1 _).mono ?_; rintro e w' ⟨rfl, hw⟩; obtain rfl := hw.symm)
  go_loopw [5, 16] (fun _ i wr => ∃ k : Nat, i = .int .i64 k ∧ k ≤ n ∧ Hid (wr.ownsRow w.heap.size 3 1 (.slice (some ⟨w.heap.size, 0, none⟩) n n) n (ils (fun k => f (rvp m k)) k ++ L.drop k) ∧ Below w.heap.size w wr)) (fun _ i _ => n - (intOf i).toNat)
  case atStart => exact ⟨0, rfl, by omega, HR.out, HB.out⟩
  case round =>
    obtain ⟨k, rfl, hk, hrel⟩ := hrel
    obtain ⟨hrow, hbl⟩ := hrel.out
    by_cases h1 : k < n
    · obtain ⟨hr1, hr2⟩ := HRV.out k h1
      have i2 := rev_any (k : Int) (by omega) (by omega)
      obtain ⟨R, hR⟩ : ∃ R, R = rvp m k := ⟨_, rfl⟩
      obtain ⟨Z, hZ⟩ : ∃ Z, Z = rev64 (k : Int) := ⟨_, rfl⟩
      rw [← hR, ← hZ] at hr2
      rw [← hR] at hr1
      rw [← hZ] at i2
      have c : wr.cell? ⟨b, off + R, none⟩ = some (.int .i64 (f R)) := (hbl.cell (p := ⟨b, off + R, none⟩) HCL.out.1).trans (HCL.out.2 R hr1)
      have hfz := hrow.frozenAt k
      have hst := (hrow.stored k (.int .i64 (f R))).1
      have hce := hrow.cellAt k (by omega)
      rw [List.getElem?_append_right (by rw [ils_length]; exact Nat.le_refl _), ils_length, Nat.sub_self, List.getElem?_drop, Nat.add_zero, List.getElem?_eq_getElem (by omega)] at hce
      have e3 := ils_set (fun k => f (rvp m k)) k L (by omega)
      simp only [← hR] at e3
      rw [e3] at hst
      have HS : Hid _ := hst
      have HB2 : Hid (Below w.heap.size w (wr.setCell ⟨w.heap.size, k, none⟩ (.int .i64 (f R)))) := hbl.setCell (Nat.le_refl _) _
      rw [show 64 - m = 63 - m + 1 by omega] at hr2
      clear hst hbl hrow hrel e3 hR hZ
      generalize L[k]'(by omega) = u at hce
      go_wp2_with (go_at_call 35; refine (i2 _).mono ?_; rintro e w' ⟨rfl, hw⟩; obtain rfl := hw.symm)
      go_roundw
      case rel => exact ⟨k + 1, by go_num, by omega, HS.out, HB2.out⟩
      case measure => simp [intOf]; omega
    · obtain rfl : k = n := by omega
      rw [List.drop_eq_nil_of_le (by omega), List.append_nil] at hrow
      have HR2 : Hid _ := hrow
      clear hrow hrel
      go_wp2
      go_ret
      exact ⟨_, rfl, HR2.out, hbl⟩
end Go.Proofs.YtabdondefoldaaaDoor
