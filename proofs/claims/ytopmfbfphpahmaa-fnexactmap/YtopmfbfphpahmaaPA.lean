/- Rows of peaks that a call owns. -/
import Derived.Test.YtopmfbfphpahmaaAP
import Derived.Test.YtopmfbfphpahmaaMK
import Derived.Test.YtopmfbfphpahmaaI1
namespace Go.Proofs.Ytopmfbfphpahmaa
open Go.RowKit

/-- The slice holds n peaks, z their numbers. -/
def Il2 (w : World) (v : Value) (n : Nat) (z : Nat → Int) : Prop := ∃ ao cap, v = .slice ao n cap ∧ n ≤ cap ∧ (0 < n → ∃ b off, ao = some ⟨b, off, none⟩ ∧ b < w.heap.size ∧ ∀ k, k < n → w.cell? ⟨b, off + k * 2, none⟩ = some (.int .i64 (z (k * 2))) ∧ w.cell? ⟨b, off + k * 2 + 1, none⟩ = some (.int .i64 (z (k * 2 + 1))))

theorem Il2.below {w w' : World} {v : Value} {n : Nat} {z : Nat → Int} (h : Il2 w v n z) (hb : Below w.heap.size w w') : Il2 w' v n z := by
  obtain ⟨ao, cap, rfl, hcap, hc⟩ := h
  refine ⟨ao, cap, rfl, hcap, fun h0 => ?_⟩
  obtain ⟨b, off, rfl, hlt, hcell⟩ := hc h0
  exact ⟨b, off, rfl, Nat.lt_of_lt_of_le hlt hb.size, fun k hk => ⟨(hb.cell (p := ⟨b, off + k * 2, none⟩) hlt).trans (hcell k hk).1, (hb.cell (p := ⟨b, off + k * 2 + 1, none⟩) hlt).trans (hcell k hk).2⟩⟩

theorem own2_cell {w : World} {B g n cap : Nat} {z : Nat → Int} (h : w.ownsRow B 36 2 (.slice (some ⟨g, 0, none⟩) n cap) n (ils z (n * 2))) {j : Nat} (hj : j < n * 2) : w.cell? ⟨g, j, none⟩ = some (.int .i64 (z j)) := by
  rw [World.ownsRow.cellAt h j hj, ils_get hj]

theorem il2_of_own {w : World} {B n : Nat} {v : Value} {z : Nat → Int} (h : w.ownsRow B 36 2 v n (ils z (n * 2))) : Il2 w v n z := by
  rcases h.2 with ⟨rfl, rfl⟩ | ⟨g, cap, cur, rfl, hb, hg, hc, _⟩
  · exact ⟨none, 0, rfl, Nat.le_refl _, fun h => absurd h (by omega)⟩
  · refine ⟨_, _, rfl, hc, fun h0 => ⟨g, 0, rfl, (Array.getElem?_eq_some_iff.1 hg).1, fun k hk => ?_⟩⟩
    rw [Nat.zero_add]
    exact ⟨own2_cell h (by omega), own2_cell h (by omega)⟩

theorem Try.info36 : (Try.prog.info? 36).map (fun i => (i.zero, i.size, i.bytes)) = some (some (.agg #[.int .i64 0, .int .i64 0]), 2, 16) := by kernel_rfl

/-- Peaks as numbers, one after the other. -/
def zf (L : List (Int × Int)) (i : Nat) : Int := if i % 2 = 0 then (L.getD (i / 2) (0, 0)).1 else (L.getD (i / 2) (0, 0)).2

theorem zf_0 (L : List (Int × Int)) (k : Nat) : zf L (k * 2) = (L.getD k (0, 0)).1 := by
  unfold zf
  rw [Nat.mul_mod_left, if_pos rfl, Nat.mul_div_cancel _ (by decide)]

theorem zf_1 (L : List (Int × Int)) (k : Nat) : zf L (k * 2 + 1) = (L.getD k (0, 0)).2 := by
  unfold zf
  rw [show (k * 2 + 1) % 2 = 1 by omega, if_neg (by decide), show (k * 2 + 1) / 2 = k by omega]

theorem getD_app {L : List (Int × Int)} {p : Int × Int} {k : Nat} (h : k < L.length) : (L ++ [p]).getD k (0, 0) = L.getD k (0, 0) := by
  rw [List.getD_eq_getElem?_getD, List.getD_eq_getElem?_getD, List.getElem?_append_left h]

theorem getD_last (L : List (Int × Int)) (p : Int × Int) : (L ++ [p]).getD L.length (0, 0) = p := by
  rw [List.getD_eq_getElem?_getD, List.getElem?_append_right (Nat.le_refl _), Nat.sub_self]
  rfl

theorem zf_snoc (L : List (Int × Int)) (a s : Int) : ils (zf (L ++ [(a, s)])) ((L.length + 1) * 2) = ils (zf L) (L.length * 2) ++ [.int .i64 a, .int .i64 s] := by
  rw [show (L.length + 1) * 2 = L.length * 2 + 1 + 1 by omega, ils_snoc, ils_snoc, zf_0, zf_1, getD_last, List.append_assoc]
  show _ ++ [Value.int .i64 a, .int .i64 s] = _
  congr 1
  refine ils_congr fun i hi => ?_
  unfold zf
  rw [getD_app (by omega)]

theorem zf_put (L : List (Int × Int)) (p : Int × Int) (a s : Int) : ((ils (zf (L ++ [p])) ((L.length + 1) * 2)).set (L.length * 2) (.int .i64 a)).set (L.length * 2 + 1) (.int .i64 s) = ils (zf (L ++ [(a, s)])) ((L.length + 1) * 2) := by
  rw [ils_put, ils_put]
  refine ils_congr fun i hi => ?_
  by_cases h0 : i = L.length * 2 + 1
  · subst h0; rw [if_pos rfl, zf_1, getD_last]
  · rw [if_neg h0]
    by_cases h1 : i = L.length * 2
    · subst h1; rw [if_pos rfl, zf_0, getD_last]
    · rw [if_neg h1]
      unfold zf
      rw [getD_app (by omega), getD_app (by omega)]

/-- What is told: peaks in memory of the call's own, and a bool. -/
def Ppk (w w' : World) (e : Ending) (N : Nat) (z : Nat → Int) (ok : Bool) : Prop := ∃ u, e = .returned (.tuple #[u, .bool ok]) ∧ w'.ownsRow w.heap.size 36 2 u N (ils z (N * 2)) ∧ Below w.heap.size w w'

theorem eqPeak_yes (a s : Int) (w : World) : Calls Try.prog 19 #[.agg #[.int .i64 a, .int .i64 s], .agg #[.int .i64 a, .int .i64 s]] w fun e w' => e = .returned (.bool true) ∧ Below w.heap.size w w' := by
  have BL : Hid (Below w.heap.size w ((w.alloc (.cells #[.int .i64 a, .int .i64 s] 36)).alloc (.cells #[.int .i64 a, .int .i64 s] 36))) := bstep (below_one _ _) (below_one _ _)
  go_enter Try.func19, Try.ntmps19
  go_wp2
  go_ret
  exact ⟨rfl, BL.out⟩

set_option maxHeartbeats 2000000 in
theorem eq2_yes {w : World} {v u : Value} {n : Nat} {z : Nat → Int} (hv : Il2 w v n z) (hu : Il2 w u n z) (hn : n ≤ 1048576) :
    Calls Try.prog 7 #[v, u] w fun e w' => e = .returned (.bool true) ∧ Below w.heap.size w w' := by
  obtain ⟨ao, cap, rfl, hcap, hc⟩ := hv
  obtain ⟨bo, cap2, rfl, hcap2, hc2⟩ := hu
  have HC : Hid (0 < n → ∃ b off, ao = some ⟨b, off, none⟩ ∧ b < w.heap.size ∧ ∀ k, k < n → w.cell? ⟨b, off + k * 2, none⟩ = some (.int .i64 (z (k * 2))) ∧ w.cell? ⟨b, off + k * 2 + 1, none⟩ = some (.int .i64 (z (k * 2 + 1)))) := hc
  have HC2 : Hid (0 < n → ∃ b off, bo = some ⟨b, off, none⟩ ∧ b < w.heap.size ∧ ∀ k, k < n → w.cell? ⟨b, off + k * 2, none⟩ = some (.int .i64 (z (k * 2))) ∧ w.cell? ⟨b, off + k * 2 + 1, none⟩ = some (.int .i64 (z (k * 2 + 1)))) := hc2
  clear hc hc2
  go_enter Try.func7, Try.ntmps7
  go_wp2
  go_loopw [5] (fun i wr => ∃ k : Nat, i = .int .i64 k ∧ k ≤ n ∧ Hid (Below w.heap.size w wr)) (fun i _ => n - (intOf i).toNat)
  case atStart => exact ⟨0, rfl, by omega, Below.refl _ _⟩
  case round =>
    obtain ⟨k, rfl, hk, hbl⟩ := hrel
    by_cases h1 : k < n
    · obtain ⟨b, off, rfl, hlt, hcell⟩ := HC.out (by omega)
      obtain ⟨b2, off2, rfl, hlt2, hcell2⟩ := HC2.out (by omega)
      obtain ⟨x, hx⟩ : ∃ x, x = z (k * 2) := ⟨_, rfl⟩
      obtain ⟨y, hy⟩ : ∃ y, y = z (k * 2 + 1) := ⟨_, rfl⟩
      have ra : ∀ X, Below w.heap.size w X → X.cell? ⟨b, off + k * 2, none⟩ = some (.int .i64 x) ∧ X.cell? ⟨b, off + k * 2 + 1, none⟩ = some (.int .i64 y) := fun X hX => by rw [hx, hy]; exact ⟨(hX.cell (p := ⟨b, off + k * 2, none⟩) hlt).trans (hcell k h1).1, (hX.cell (p := ⟨b, off + k * 2 + 1, none⟩) hlt).trans (hcell k h1).2⟩
      have rb : ∀ X, Below w.heap.size w X → X.cell? ⟨b2, off2 + k * 2, none⟩ = some (.int .i64 x) ∧ X.cell? ⟨b2, off2 + k * 2 + 1, none⟩ = some (.int .i64 y) := fun X hX => by rw [hx, hy]; exact ⟨(hX.cell (p := ⟨b2, off2 + k * 2, none⟩) hlt2).trans (hcell2 k h1).1, (hX.cell (p := ⟨b2, off2 + k * 2 + 1, none⟩) hlt2).trans (hcell2 k h1).2⟩
      have hs := eqPeak_yes x y
      have l0 : Below w.heap.size w wr.drew := hbl.out.drew
      clear hcell hcell2 hlt hlt2 hx hy
      go_upto_region 6 with fail
      refine wp_region_any (by kernel_rfl) ?_
      change wpAny _ _ _ _ _ _ _ (World.drew _)
      refine wpI_any (I := fun X => Below w.heap.size w X) _ _ _ _ ?_
      refine wpI_take (i := 0) (v := ?_) rfl (by kernel_rfl) (by kernel_rfl) (by kernel_rfl) (fun _ _ _ h => h) ⟨by rfl, ?_⟩ ?_
      rotate_left
      · intro X hI; go_simp; try go_bits
        try rw [if_pos (by omega)]
        try with_reducible rfl
      refine wpI_take (i := 1) (v := ?_) rfl (by kernel_rfl) (by kernel_rfl) (by kernel_rfl) (fun _ _ _ h => h) ⟨by rfl, ?_⟩ ?_
      rotate_left
      · intro X hI; go_simp; try go_bits
        try rw [if_pos (by omega)]
        try with_reducible rfl
      refine wpI_take (i := 2) (v := ?_) rfl (by kernel_rfl) (by kernel_rfl) (by kernel_rfl) (fun _ _ _ h => h) ⟨by rfl, ?_⟩ ?_
      rotate_left
      · intro X hI; go_simp; try go_bits
        try rw [if_pos (by omega)]
        try with_reducible rfl
      refine wpI_take (i := 3) (v := ?_) rfl (by kernel_rfl) (by kernel_rfl) (by kernel_rfl) (fun _ _ _ h => h) ⟨by rfl, ?_⟩ ?_
      rotate_left
      · intro X hI; obtain ⟨c0, c1⟩ := ra X hI; go_simp; try go_bits
        try rw [if_pos (by omega)]
        try with_reducible rfl
      refine wpI_take (i := 4) (v := ?_) rfl (by kernel_rfl) (by kernel_rfl) (by kernel_rfl) (fun _ _ _ h => h) ⟨by rfl, ?_⟩ ?_
      rotate_left
      · intro X hI; go_simp; try go_bits
        try rw [if_pos (by omega)]
        try with_reducible rfl
      refine wpI_take (i := 5) (v := ?_) rfl (by kernel_rfl) (by kernel_rfl) (by kernel_rfl) (fun _ _ _ h => h) ⟨by rfl, ?_⟩ ?_
      rotate_left
      · intro X hI; go_simp; try go_bits
        try rw [if_pos (by omega)]
        try with_reducible rfl
      refine wpI_take (i := 6) (v := ?_) rfl (by kernel_rfl) (by kernel_rfl) (by kernel_rfl) (fun _ _ _ h => h) ⟨by rfl, ?_⟩ ?_
      rotate_left
      · intro X hI; go_simp; try go_bits
        try rw [if_pos (by omega)]
        try with_reducible rfl
      refine wpI_take (i := 7) (v := ?_) rfl (by kernel_rfl) (by kernel_rfl) (by kernel_rfl) (fun _ _ _ h => h) ⟨by rfl, ?_⟩ ?_
      rotate_left
      · intro X hI; obtain ⟨c0, c1⟩ := rb X hI; go_simp; try go_bits
        try rw [if_pos (by omega)]
        try with_reducible rfl
      refine wpI_only (i := 8) rfl (by kernel_rfl) l0 (by rfl) ?_
      intro K hK
      go_simp
      go_wp2_with (go_at_call 19; refine (hs _).mono ?_; rintro e x8 ⟨rfl, hb8⟩; have l1 := l0.trans (hb8.mono l0.size))
      refine wpI_only (i := 9) rfl (by kernel_rfl) l1 (by rfl) ?_
      intro K hK
      go_simp
      try go_bits
      refine hK _ _ ?_
      refine wpI_done l1 (by kernel_rfl) ?_ _
      go_wp2
      go_roundw
      case rel => exact ⟨k + 1, by go_num, by omega, l1⟩
      case measure => simp [intOf]; omega
    · obtain rfl : k = n := by omega
      go_wp2
      go_ret
      exact ⟨rfl, hbl.out⟩

set_option maxHeartbeats 4000000 in
theorem mark_2 {w : World} {B g n cap : Nat} {f : Nat → Int} {K : Int} (ho : w.ownsRow B 36 2 (.slice (some ⟨g, 0, none⟩) n cap) n (ils f (n * 2))) (hn : n ≤ 1048576) (hK : 0 ≤ K ∧ K ≤ 1099511627776) :
    Calls Try.prog 10 #[.slice (some ⟨g, 0, none⟩) n cap, .int .i64 K] w fun e w' => e = .returned (.int .i64 (K + 2 * (n : Int))) ∧ w'.ownsRow B 36 2 (.slice (some ⟨g, 0, none⟩) n cap) n (ils (mkF K) (n * 2)) ∧ Only g w w' := by
  have HO : Hid (w.ownsRow B 36 2 (.slice (some ⟨g, 0, none⟩) n cap) n (ils f (n * 2))) := ho
  clear ho
  go_enter Try.func10, Try.ntmps10
  go_wp2
  go_loopw [1, 5] (fun kk i wr => ∃ q : Nat, i = .int .i64 q ∧ kk = .int .i64 (K + 2 * (q : Int)) ∧ q ≤ n ∧ Hid ((∃ f', wr.ownsRow B 36 2 (.slice (some ⟨g, 0, none⟩) n cap) n (ils f' (n * 2)) ∧ ∀ j, j < q * 2 → f' j = mkF K j) ∧ Only g w wr)) (fun _ i _ => n - (intOf i).toNat)
  case atStart => exact ⟨0, rfl, by simp, by omega, ⟨f, HO.out, fun i hi => by omega⟩, Only.refl _ _⟩
  case round =>
    obtain ⟨q, rfl, rfl, hq, hrel⟩ := hrel
    obtain ⟨⟨f', hf, hmk⟩, hon⟩ := hrel.out
    by_cases h1 : q < n
    · have d0 := own2_cell hf (j := q * 2) (by omega)
      have d1 := own2_cell hf (j := q * 2 + 1) (by omega)
      have z0 := World.ownsRow.frozenAt hf (q * 2)
      have z1 := World.ownsRow.frozenAt hf (q * 2 + 1)
      have st := (World.ownsRow.stored (World.ownsRow.stored hf (q * 2) (.int .i64 (K + 2 * (q : Int)))).1 (q * 2 + 1) (.int .i64 (K + 2 * (q : Int) + 1))).1
      rw [ils_put, ils_put] at st
      have OP : Hid _ := st
      have ON : Hid _ := (hon.put (q * 2) (.int .i64 (K + 2 * (q : Int)))).put (q * 2 + 1) (.int .i64 (K + 2 * (q : Int) + 1))
      have HM : Hid _ := hmk
      clear hf hmk hon hrel st
      go_wp2
      go_roundw
      case rel =>
        refine ⟨q + 1, by go_num, by first | go_num | (congr 1; omega), by omega, ⟨_, OP.out, fun i hi => ?_⟩, ON.out⟩
        by_cases h0 : i = q * 2 + 1
        · subst h0; simp [mkF]; omega
        · by_cases h2 : i = q * 2
          · subst h2; simp [mkF]; omega
          · simp only [if_neg h0, if_neg h2]
            exact HM.out i (by omega)
      case measure => simp [intOf]; omega
    · obtain rfl : q = n := by omega
      rw [ils_congr hmk] at hf
      have HM : Hid _ := hf
      have ON : Hid _ := hon
      clear hf hmk hon hrel
      go_wp2
      go_ret
      exact ⟨rfl, HM.out, ON.out⟩

set_option maxHeartbeats 2000000 in
theorem held_2 {w : World} {B g n cap : Nat} {K : Int} (ho : w.ownsRow B 36 2 (.slice (some ⟨g, 0, none⟩) n cap) n (ils (mkF K) (n * 2))) (hn : n ≤ 1048576) (hK : 0 ≤ K ∧ K ≤ 1099511627776) :
    Calls Try.prog 11 #[.slice (some ⟨g, 0, none⟩) n cap, .int .i64 K] w fun e w' => e = .returned (.int .i64 (K + 2 * (n : Int))) ∧ w' = w := by
  have HO : Hid (w.ownsRow B 36 2 (.slice (some ⟨g, 0, none⟩) n cap) n (ils (mkF K) (n * 2))) := ho
  clear ho
  go_enter Try.func11, Try.ntmps11
  go_wp2
  go_loopw [1, 5] (fun kk i wr => ∃ q : Nat, i = .int .i64 q ∧ kk = .int .i64 (K + 2 * (q : Int)) ∧ q ≤ n ∧ wr = w) (fun _ i _ => n - (intOf i).toNat)
  case atStart => exact ⟨0, rfl, by simp, by omega, rfl⟩
  case round =>
    obtain ⟨q, rfl, rfl, hq, rfl⟩ := hrel
    by_cases h1 : q < n
    · have d0 := own2_cell HO.out (j := q * 2) (by omega)
      have d1 := own2_cell HO.out (j := q * 2 + 1) (by omega)
      have e0 : mkF K (q * 2) = K + 2 * (q : Int) := by unfold mkF; omega
      have e1 : mkF K (q * 2 + 1) = K + 2 * (q : Int) + 1 := by unfold mkF; omega
      rw [e0] at d0
      rw [e1] at d1
      clear e0 e1
      go_wp2
      go_roundw
      case rel => exact ⟨q + 1, by go_num, by first | go_num | (congr 1; omega), by omega, by trivial⟩
      case measure => simp [intOf]; omega
    · obtain rfl : q = n := by omega
      go_wp2
      go_ret
      exact ⟨rfl, rfl⟩

set_option maxHeartbeats 1000000 in
theorem mark_nil2 (w : World) (K : Int) : Calls Try.prog 10 #[.slice none 0 0, .int .i64 K] w fun e w' => e = .returned (.int .i64 K) ∧ w' = w := by
  go_enter Try.func10, Try.ntmps10
  go_wp2
  go_loopw [1, 5] (fun kk i wr => i = .int .i64 0 ∧ kk = .int .i64 K ∧ wr = w) (fun _ _ _ => 0)
  case atStart => exact ⟨rfl, rfl, rfl⟩
  case round =>
    obtain ⟨rfl, rfl, rfl⟩ := hrel
    go_wp2
    go_ret
    exact ⟨rfl, rfl⟩

set_option maxHeartbeats 1000000 in
theorem held_nil2 (w : World) (K : Int) : Calls Try.prog 11 #[.slice none 0 0, .int .i64 K] w fun e w' => e = .returned (.int .i64 K) ∧ w' = w := by
  go_enter Try.func11, Try.ntmps11
  go_wp2
  go_loopw [1, 5] (fun kk i wr => i = .int .i64 0 ∧ kk = .int .i64 K ∧ wr = w) (fun _ _ _ => 0)
  case atStart => exact ⟨rfl, rfl, rfl⟩
  case round =>
    obtain ⟨rfl, rfl, rfl⟩ := hrel
    go_wp2
    go_ret
    exact ⟨rfl, rfl⟩

theorem marked2 {w : World} {B n : Nat} {v : Value} {f : Nat → Int} {K : Int} (h : w.ownsRow B 36 2 v n (ils f (n * 2))) (hB : B ≤ w.heap.size) (hn : n ≤ 1048576) (hK : 0 ≤ K ∧ K ≤ 1099511627776) :
    Calls Try.prog 10 #[v, .int .i64 K] w fun e w' => e = .returned (.int .i64 (K + 2 * (n : Int))) ∧ w'.ownsRow B 36 2 v n (ils (mkF K) (n * 2)) ∧ ∃ g, B ≤ g ∧ (v.ownBlock = some g ∨ w' = w) ∧ Only g w w' := by
  rcases h.2 with ⟨rfl, rfl⟩ | ⟨g, cap, cur, rfl, hb, hg, _⟩
  · refine (mark_nil2 w K).mono ?_
    rintro e w' ⟨rfl, rfl⟩
    exact ⟨by simp, ⟨rfl, .inl ⟨rfl, rfl⟩⟩, w'.heap.size, hB, .inr rfl, Only.refl _ _⟩
  · refine (mark_2 h hn hK).mono ?_
    rintro e w' ⟨rfl, h1, hon⟩
    exact ⟨rfl, h1, g, hb, .inl rfl, hon⟩

theorem held2 {w : World} {B n : Nat} {v : Value} {K : Int} (h : w.ownsRow B 36 2 v n (ils (mkF K) (n * 2))) (hn : n ≤ 1048576) (hK : 0 ≤ K ∧ K ≤ 1099511627776) : Calls Try.prog 11 #[v, .int .i64 K] w fun e w' => e = .returned (.int .i64 (K + 2 * (n : Int))) ∧ w' = w := by
  rcases h.2 with ⟨rfl, rfl⟩ | ⟨g, cap, cur, rfl, hb, hg, _⟩
  · refine (held_nil2 w K).mono ?_
    rintro e w' ⟨rfl, rfl⟩
    exact ⟨by simp, rfl⟩
  · exact held_2 h hn hK

end Go.Proofs.Ytopmfbfphpahmaa
