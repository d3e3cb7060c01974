/- The model's Comb and Gather. -/
import Derived.Test.YtnhkiknmbjaafaaRD
namespace Go.Proofs.Ytnhkiknmbjaafaa
open Go.RowKit

set_option maxHeartbeats 4000000 in
theorem sGat_any {w : World} {v : Value} {n m : Nat} {xs : Nat → Int} (hv : Il w v n xs) (hn : n ≤ 1048576) (hx : Bnd n xs) (h0 : 0 < m) (hm : m ≤ 512) :
    Calls Try.prog 22 #[v, .int .i64 (m : Int)] w fun e w' => ∃ u, e = .returned u ∧ w'.ownsRow w.heap.size 3 1 u n (ils (gat m xs) n) ∧ Below w.heap.size w w' := by
  obtain ⟨i0, hi, hz0, hz1, hz2⟩ := info_parts Try.info3
  have HX : Hid (Bnd n xs) := hx
  obtain ⟨ao, cap, rfl, hcap, hc⟩ := hv
  have HC : Hid (0 < n → ∃ b off, ao = some ⟨b, off, none⟩ ∧ b < w.heap.size ∧ ∀ k, k < n → w.cell? ⟨b, off + k, none⟩ = some (.int .i64 (xs k))) := hc
  clear hc hx
  go_enter Try.func22, Try.ntmps22
  go_wp2
  go_loopw [5, 6, 7, 8] (fun o i _ _ wr => ∃ k : Nat, i = .int .i64 k ∧ k ≤ n ∧ Hid (wr.ownsRow w.heap.size 3 1 o k (ils (gat m xs) k) ∧ Below w.heap.size w wr)) (fun _ i _ _ _ => n - (intOf i).toNat)
  case atStart => exact ⟨0, rfl, by omega, own_empty w 3 1, below_one _ _⟩
  case round =>
    obtain ⟨k, rfl, hk, hrel⟩ := hrel
    by_cases h1 : k < n
    · obtain ⟨b, off, rfl, hlt, hcell⟩ := HC.out (by omega)
      have HCE : Hid (∀ j, j < n → wr.cell? ⟨b, off + j, none⟩ = some (.int .i64 (xs j))) := fun j hj => (hrel.out.2.cell (p := ⟨b, off + j, none⟩) hlt).trans (hcell j hj)
      clear hcell
      have HREL : Hid _ := hrel.out
      clear hrel
      go_wp2
      go_loopw [7, 8] (fun s q wr2 => ∃ (j : Nat) (Z : Int), q = .int .i64 Z ∧ s = .int .i64 (psum xs k j) ∧ Hid (Z = (k : Int) - (j : Int)) ∧ j ≤ m ∧ j ≤ k + 1 ∧ wr2 = wr) (fun _ q _ => (intOf q + 1).toNat)
      case atStart => exact ⟨0, k, rfl, rfl, by show (k : Int) = (k : Int) - ((0 : Nat) : Int); omega, by omega, by omega, rfl⟩
      case round =>
        obtain ⟨j, Z, rfl, rfl, hZ, hj1, hj2, rfl⟩ := hrel
        have fin : ∀ j, j = min m (k + 1) → Hid (psum xs k j = gat m xs k) := by rintro j rfl; exact rfl
        have pb := psum_bounds (M := 1099511627776) HX.out (k := k) (by omega) j
        by_cases h2 : j < k + 1
        · obtain ⟨q, rfl⟩ : ∃ q : Nat, Z = (q : Int) := ⟨k - j, by have := hZ.out; omega⟩
          have hq : q + j = k := by have := hZ.out; omega
          clear hZ
          by_cases h3 : j < m
          · have c := HCE.out q (by omega)
            have x1 := HX.out q (by omega)
            have e1 : psum xs k j + xs q = psum xs k (j + 1) := by show _ = psum xs k j + xs (k - j); rw [show k - j = q by omega]
            clear fin
            go_wp2
            go_roundw
            case rel => exact ⟨j + 1, (q : Int) - 1, by first | rfl | go_num, by first | rfl | go_num, by show (q : Int) - 1 = (k : Int) - ((j + 1 : Nat) : Int); omega, by omega, by omega, by trivial⟩
            case measure => simp [intOf] <;> omega
          · have F := fin j (by omega)
            clear fin
            obtain ⟨y, hy⟩ : ∃ y, y = psum xs k j := ⟨_, rfl⟩
            rw [← hy] at F ⊢
            clear pb hy
            have hb3 := below_one wr (.cells #[.int .i64 y] 3)
            have HO3 := own_below HREL.out.1 hb3
            have HB3 := bstep HREL.out.2 hb3
            clear hb3
            go_wp2_with (first | (at_builtin; refine wpList_append_own _ rfl _ _ 24 rfl w.heap.size 3 i0 (.int .i64 0) 1 8 Try.underlying24 hi hz0 hz1 hz2 rfl (by decide) _ _ _ rfl HO3 ⟨wr.heap.size, 0, none⟩ 1 1 [.int .i64 y] rfl rfl (one_new _ _ _) (by simp [Value.oneCell']) (by unfold maxLen; omega) (by omega) HB3.size ?_))
            intro v' w4 hown' hgrow _
            have HB4 : Hid _ := grown_below HB3 (Nat.le_refl _) HO3 hgrow
            rw [F.out, ← ils_snoc (gat m xs) k] at hown'
            have HO4 : Hid _ := hown'
            clear hown' hgrow HB3 HO3
            go_wp2
            go_roundw
            case rel => exact ⟨k + 1, by go_num, by omega, HO4.out, HB4.out⟩
            case measure => simp [intOf]; omega
        · have hZ' : Z = -1 := by have := hZ.out; omega
          subst hZ'
          have F := fin j (by omega)
          clear fin hZ
          obtain ⟨y, hy⟩ : ∃ y, y = psum xs k j := ⟨_, rfl⟩
          rw [← hy] at F ⊢
          clear pb hy
          have hb3 := below_one wr (.cells #[.int .i64 y] 3)
          have HO3 := own_below HREL.out.1 hb3
          have HB3 := bstep HREL.out.2 hb3
          clear hb3
          go_wp2_with (first | (at_builtin; refine wpList_append_own _ rfl _ _ 24 rfl w.heap.size 3 i0 (.int .i64 0) 1 8 Try.underlying24 hi hz0 hz1 hz2 rfl (by decide) _ _ _ rfl HO3 ⟨wr.heap.size, 0, none⟩ 1 1 [.int .i64 y] rfl rfl (one_new _ _ _) (by simp [Value.oneCell']) (by unfold maxLen; omega) (by omega) HB3.size ?_))
          intro v' w4 hown' hgrow _
          have HB4 : Hid _ := grown_below HB3 (Nat.le_refl _) HO3 hgrow
          rw [F.out, ← ils_snoc (gat m xs) k] at hown'
          have HO4 : Hid _ := hown'
          clear hown' hgrow HB3 HO3
          go_wp2
          go_roundw
          case rel => exact ⟨k + 1, by go_num, by omega, HO4.out, HB4.out⟩
          case measure => simp [intOf]; omega
    · obtain rfl : k = n := by omega
      go_wp2
      go_ret
      exact ⟨_, rfl, hrel.out.1, hrel.out.2⟩

end Go.Proofs.Ytnhkiknmbjaafaa
