/- The law of Pack: both sides at every argument. -/
import Derived.Test.YtfodpnbhcdkmnaaDoorK2
namespace Go.Proofs.YtfodpnbhcdkmnaaDoor
open Go.RowKit

/-- Both sides of Pack answer the same. -/
theorem pack_both (f mode K E : Int) (n : Bool) (M : Nat) (hM : M < 18446744073709551616) :
    ∃ V F : Int, (∀ w, Calls Tryd.prog 9 #[.int .i64 f, .int .i64 mode, .agg #[.int .i64 K, .bool n, .int .i64 E, .int .u64 (M : Int)]] w fun e w' => e = .returned (.tuple #[.int .u64 V, .int .i64 F]) ∧ Below w.heap.size w w') ∧
      (∀ w, Shp w → Calls Tryd.prog 11 #[.int .i64 f, .int .i64 mode, .agg #[.int .i64 K, .bool n, .int .i64 E, .int .u64 (M : Int)]] w fun e w' => e = .returned (.tuple #[.int .u64 V, .int .i64 F]) ∧ Below w.heap.size w w') := by
  by_cases hf : 1 ≤ f ∧ f ≤ 3
  · obtain ⟨wd, p, t, S, D, h, q, hF⟩ := frm_of f (by omega)
    by_cases hm : 1 ≤ mode ∧ mode ≤ 5
    · by_cases hK : 0 ≤ K ∧ K ≤ 3
      · by_cases k1 : K = 1
        · subst k1
          by_cases hb : M = 0 ∨ E < -5000 ∨ 5000 < E
          · exact ⟨0, 0, fun w => spack_bad hF mode E M n w hm.1 hm.2 (by omega), fun w _ => pack_bad f mode E M n w hf.1 hf.2 hm.1 hm.2 (by omega)⟩
          · refine ⟨_, _, fun w => spack_fin hF mode E M n w hm.1 hm.2 (by omega) hM (by omega) (by omega), fun w hs => ?_⟩
            refine pack_good f mode 1 E M _ _ n w hs hf.1 hf.2 hm.1 hm.2 (Or.inr ⟨rfl, by simp; omega, by omega, by omega⟩) fun w hs => ?_
            have := packNum_any hF mode 1 E n M w hs (fun _ => ⟨by omega, hM, by omega, by omega⟩)
            unfold pkV pkF at this
            rwa [if_neg (by decide), if_pos rfl, if_pos rfl] at this
        · have hgood := fun v x (h : ∀ w, Shp w → Calls Tryd.prog 32 #[.int .i64 f, .int .i64 mode, .agg #[.int .i64 K, .bool n, .int .i64 E, .int .u64 (M : Int)]] w fun e w' => e = .returned (.tuple #[.int .u64 v, .int .i64 x]) ∧ Below w.heap.size w w') w hs => pack_good f mode K E M v x n w hs hf.1 hf.2 hm.1 hm.2 (Or.inl (by simpa using k1)) h
          have hnum := fun w hs => packNum_any hF mode K E n M w hs (fun h => absurd h k1)
          refine ⟨_, _, fun w => ?_, hgood _ _ hnum⟩
          unfold pkV pkF
          rw [if_neg k1, if_neg k1]
          by_cases k0 : K = 0
          · subst k0
            rw [if_pos rfl]
            exact spack_zero hF mode E M n w hm.1 hm.2
          · rw [if_neg k0]
            by_cases k2 : K = 2
            · subst k2
              rw [if_pos rfl]
              exact spack_inf hF mode E M n w hm.1 hm.2
            · obtain rfl : K = 3 := by omega
              rw [if_neg k2, if_pos rfl]
              exact spack_nan hF mode E M n w hm.1 hm.2
      · refine ⟨0, 0, fun w => spack_no2 hF mode K E M n w (Or.inr (by omega)), fun w hs => ?_⟩
        exact pack_good f mode K E M 0 0 n w hs hf.1 hf.2 hm.1 hm.2 (Or.inl (by simp; omega)) fun w hs => packNum_else hF mode K E M n w hs (by omega)
    · exact ⟨0, 0, fun w => spack_no2 hF mode K E M n w (Or.inl (by omega)), fun w _ => pack_no f mode K E M n w (Or.inr (by omega))⟩
  · exact ⟨0, 0, fun w => spack_no1 f mode K E M n w (by omega), fun w _ => pack_no f mode K E M n w (Or.inl (by omega))⟩

theorem toNum_any (K E M : Int) (n : Bool) (w : World) : Calls Tryd.prog 10 #[.agg #[.int .i64 K, .bool n, .int .i64 E, .int .u64 M]] w fun e w' => e = .returned (.agg #[.int .i64 K, .bool n, .int .i64 E, .int .u64 M]) ∧ Below w.heap.size w w' := by
  go_enter Tryd.func10, Tryd.ntmps10
  go_wp2
  refine bodyPost_ret (v := .agg #[.int .i64 K, .bool n, .int .i64 E, .int .u64 M]) (by simp [results, Tryd.results10, go_sem]) rfl ⟨rfl, ?_⟩
  exact (below_two _ _).alloc (by simp; omega) _

set_option maxHeartbeats 1000000 in
theorem walk_pack0 (f mode K E M V F : Int) (n : Bool) (w : World) (hs : Shp w)
    (hA : ∀ w, Calls Tryd.prog 9 #[.int .i64 f, .int .i64 mode, .agg #[.int .i64 K, .bool n, .int .i64 E, .int .u64 M]] w fun e w' => e = .returned (.tuple #[.int .u64 V, .int .i64 F]) ∧ Below w.heap.size w w')
    (hB : ∀ w, Shp w → Calls Tryd.prog 11 #[.int .i64 f, .int .i64 mode, .agg #[.int .i64 K, .bool n, .int .i64 E, .int .u64 M]] w fun e w' => e = .returned (.tuple #[.int .u64 V, .int .i64 F]) ∧ Below w.heap.size w w') :
    Calls Tryd.prog 3 #[.int .i64 f, .int .i64 mode, .agg #[.int .i64 K, .bool n, .int .i64 E, .int .u64 M]] w fun e w' => e = .returned (.bool true) ∧ Below w.heap.size w w' := by
  have hT : ∀ W, L4 w.heap.size K E M n w W → Calls Tryd.prog 10 #[.agg #[.int .i64 K, .bool n, .int .i64 E, .int .u64 M]] W fun e w' => e = .returned (.agg #[.int .i64 K, .bool n, .int .i64 E, .int .u64 M]) ∧ L4 w.heap.size K E M n w w' := fun W hW => by
    refine (toNum_any K E M n W).mono ?_
    rintro e w' ⟨rfl, hb⟩
    exact ⟨rfl, hW.step hb⟩
  have hA1 : ∀ W, L4 w.heap.size K E M n w W → Calls Tryd.prog 9 #[.int .i64 f, .int .i64 mode, .agg #[.int .i64 K, .bool n, .int .i64 E, .int .u64 M]] W fun e w' => e = .returned (.tuple #[.int .u64 V, .int .i64 F]) ∧ L4 w.heap.size K E M n w w' := fun W hW => by
    refine (hA W).mono ?_
    rintro e w' ⟨rfl, hb⟩
    exact ⟨rfl, hW.step hb⟩
  have hB1 : ∀ W, L4 w.heap.size K E M n w W → Calls Tryd.prog 11 #[.int .i64 f, .int .i64 mode, .agg #[.int .i64 K, .bool n, .int .i64 E, .int .u64 M]] W fun e w' => e = .returned (.tuple #[.int .u64 V, .int .i64 F]) ∧ Below w.heap.size w w' := fun W hW => by
    refine (hB W (shp_below hs (shp_pos hs) hW.bl)).mono ?_
    rintro e w' ⟨rfl, hb⟩
    exact ⟨rfl, (hW.step hb).bl⟩
  have h0 : L4 w.heap.size K E M n w (w.alloc (Obj.cells #[.int .i64 K, .bool n, .int .i64 E, .int .u64 M] 24)) := by
    refine ⟨?_, ?_, ?_, ?_, below_one _⟩ <;> simp
  clear hA hB hs
  go_enter Tryd.func3, Tryd.ntmps3
  go_wp2_with (first | (go_at_call 10; refine (hT _ (by assumption)).mono ?_; rintro e w1 ⟨rfl, l1⟩; have c0 := l1.b0; have c1 := l1.b1; have c2 := l1.b2; have c3 := l1.b3) | (go_at_call 9; refine (hA1 _ (by assumption)).mono ?_; rintro e w1 ⟨rfl, l1⟩; have c0 := l1.b0; have c1 := l1.b1; have c2 := l1.b2; have c3 := l1.b3) | (go_at_call 11; refine (hB1 _ (by assumption)).mono ?_; rintro e w1 ⟨rfl, hb⟩))
  go_ret
  exact ⟨rfl, hb⟩

theorem walk_pack (f mode K E M : Int) (n : Bool) (w : World) (hs : Shp w) (h0 : 0 ≤ M) (h1 : M < 18446744073709551616) :
    Calls Tryd.prog 3 #[.int .i64 f, .int .i64 mode, .agg #[.int .i64 K, .bool n, .int .i64 E, .int .u64 M]] w fun e w' => e = .returned (.bool true) ∧ Below w.heap.size w w' := by
  obtain ⟨N, rfl⟩ := Int.eq_ofNat_of_zero_le h0
  obtain ⟨V, F, hA, hB⟩ := pack_both f mode K E n N (by omega)
  exact walk_pack0 f mode K E N V F n w hs hA hB
end Go.Proofs.YtfodpnbhcdkmnaaDoor
