/- Lists of bytes: what a slice holds, copies, marks. -/
import Derived.Test.YtcekjaleefidlaaMK
import Derived.Test.YtcekjaleefidlaaAP
import Derived.Laws.BitsAllLaws
namespace Go.Proofs.Ytcekjaleefidlaa
open Go.RowKit

theorem Try.info5 : (Try.prog.info? 5).map (fun i => (i.zero, i.size, i.bytes)) = some (some (.int .u8 0), 1, 1) := by kernel_rfl

/-- The slice holds the n bytes xs. -/
def Bl (w : World) (v : Value) (n : Nat) (xs : Nat → Int) : Prop := ∃ ao cap, v = .slice ao n cap ∧ n ≤ cap ∧ (0 < n → ∃ b off, ao = some ⟨b, off, none⟩ ∧ b < w.heap.size ∧ ∀ k, k < n → w.cell? ⟨b, off + k, none⟩ = some (.int .u8 (xs k)))

theorem Bl.below {w w' : World} {v : Value} {n : Nat} {xs : Nat → Int} (h : Bl w v n xs) (hb : Below w.heap.size w w') : Bl w' v n xs := by
  obtain ⟨ao, cap, rfl, hcap, hc⟩ := h
  refine ⟨ao, cap, rfl, hcap, fun h0 => ?_⟩
  obtain ⟨b, off, rfl, hlt, hcell⟩ := hc h0
  exact ⟨b, off, rfl, Nat.lt_of_lt_of_le hlt hb.size, fun k hk => (hb.cell (p := ⟨b, off + k, none⟩) hlt).trans (hcell k hk)⟩

def bls (xs : Nat → Int) (k : Nat) : List Value := (List.range k).map fun i => .int .u8 (xs i)

theorem bls_length (xs : Nat → Int) (k : Nat) : (bls xs k).length = k := by simp [bls]

theorem bls_get {xs : Nat → Int} {n k : Nat} (h : k < n) : (bls xs n)[k]? = some (.int .u8 (xs k)) := by simp [bls, h]

theorem bls_snoc (xs : Nat → Int) (k : Nat) : bls xs (k + 1) = bls xs k ++ [.int .u8 (xs k)] := by simp [bls, List.range_succ]

theorem bls_set (xs : Nat → Int) (k : Nat) (L : List Value) (hk : k < L.length) : (bls xs k ++ L.drop k).set k (.int .u8 (xs k)) = bls xs (k + 1) ++ L.drop (k + 1) := by
  rw [List.set_append_right _ _ (by rw [bls_length]; exact Nat.le_refl _), bls_length, Nat.sub_self, List.drop_eq_getElem_cons hk, List.set_cons_zero, bls_snoc, List.append_assoc]
  rfl

theorem bl_of_own {w : World} {B n : Nat} {v : Value} {xs : Nat → Int} (h : w.ownsRow B 5 1 v n (bls xs n)) : Bl w v n xs := by
  rcases h.2 with ⟨rfl, rfl⟩ | ⟨g, cap, cur, rfl, hb, hg, hc, _⟩
  · exact ⟨none, 0, rfl, Nat.le_refl _, fun h => absurd h (by omega)⟩
  · refine ⟨_, _, rfl, hc, fun h0 => ⟨g, 0, rfl, (Array.getElem?_eq_some_iff.1 hg).1, fun k hk => ?_⟩⟩
    rw [Nat.zero_add, World.ownsRow.cellAt h k (by omega), bls_get hk]

theorem bls_put (f : Nat → Int) (n j : Nat) (y : Int) : (bls f n).set j (.int .u8 y) = bls (fun i => if i = j then y else f i) n := by
  apply List.ext_getElem
  · simp [bls]
  · intro i h1 h2
    simp only [bls, List.getElem_set, List.getElem_map, List.getElem_range]
    by_cases h : j = i
    · subst h; simp
    · simp [h, Ne.symm h]

theorem bls_congr {f g : Nat → Int} {n : Nat} (h : ∀ k, k < n → f k = g k) : bls f n = bls g n := by
  unfold bls
  apply List.map_congr_left
  intro i hi
  rw [h i (List.mem_range.1 hi)]

set_option maxHeartbeats 1000000 in
theorem bcopy_own {w : World} {v : Value} {n : Nat} {xs : Nat → Int} (hv : Bl w v n xs) (hn : n ≤ 1048576) :
    Calls Try.prog 14 #[v] w fun e w' => Below w.heap.size w w' ∧ ∃ v', e = .returned v' ∧ Bl w' v' n xs ∧ w'.ownsRow w.heap.size 5 1 v' n (bls xs n) := by
  obtain ⟨i0, hi, hz0, hz1, hz2⟩ := info_parts Try.info5
  obtain ⟨ao, cap, rfl, hcap, hc⟩ := hv
  have HC : Hid (0 < n → ∃ b off, ao = some ⟨b, off, none⟩ ∧ b < w.heap.size ∧ ∀ k, k < n → w.cell? ⟨b, off + k, none⟩ = some (.int .u8 (xs k))) := hc
  clear hc
  obtain ⟨w1, hm, hrow, hgr⟩ := run_makeSlice_full (P := Try.prog) w w.heap.size 23 5 i0 (.int .u8 0) 1 Try.underlying23 hi hz0 hz1 .i64 .i64 n (by omega) (by rw [hz2]; omega) (by unfold maxLen; omega) (Nat.le_refl _)
  have hbl : Below w.heap.size w w1 := (Below.refl _ _).grown hgr (Nat.le_refl _) (fun _ h => by cases h)
  generalize hL : (madeCells (Value.int .u8 0).cells (n * 1)).toList = L at hrow
  have hLn : L.length = n := by rw [← hL, Array.length_toList, size_madeCells, Nat.mul_one]
  clear hL hgr hi hz0 hz1 hz2
  have HR : Hid (w1.ownsRow w.heap.size 5 1 (.slice (some ⟨w.heap.size, 0, none⟩) n n) n L) := hrow
  have HB : Hid (Below w.heap.size w w1) := hbl
  clear hrow hbl
  go_enter Try.func14, Try.ntmps14
  go_wp2
  go_loopw [4] (fun i wr => ∃ k : Nat, i = .int .i64 k ∧ k ≤ n ∧ Hid (wr.ownsRow w.heap.size 5 1 (.slice (some ⟨w.heap.size, 0, none⟩) n n) n (bls xs k ++ L.drop k) ∧ Below w.heap.size w wr)) (fun i _ => n - (intOf i).toNat)
  case atStart => exact ⟨0, rfl, by omega, HR.out, HB.out⟩
  case round =>
    obtain ⟨k, rfl, hk, hrel⟩ := hrel
    obtain ⟨hrow, hbl⟩ := hrel.out
    by_cases h1 : k < n
    · obtain ⟨b, off, rfl, hlt, hcell⟩ := HC.out (by omega)
      have c : wr.cell? ⟨b, off + k, none⟩ = some (.int .u8 (xs k)) := (hbl.cell (p := ⟨b, off + k, none⟩) hlt).trans (hcell k h1)
      have hfz := hrow.frozenAt k
      have hst := hrow.stored k (.int .u8 (xs k))
      have hce := hrow.cellAt k (by omega)
      rw [List.getElem?_append_right (by rw [bls_length]; exact Nat.le_refl _), bls_length, Nat.sub_self, List.getElem?_drop, Nat.add_zero, List.getElem?_eq_getElem (by omega)] at hce
      rw [bls_set xs k L (by omega)] at hst
      have HS : Hid _ := hst
      have HB2 : Hid _ := hbl
      clear hst hbl hrow hcell hrel
      generalize L[k]'(by omega) = u at hce
      go_wp2
      go_roundw
      case rel => exact ⟨k + 1, by go_num, by omega, HS.out.1, HB2.out.setCell (Nat.le_refl _) _⟩
      case measure => simp [intOf]; omega
    · obtain rfl : k = n := by omega
      rw [List.drop_eq_nil_of_le (by omega), List.append_nil] at hrow
      have HR2 : Hid (wr.ownsRow w.heap.size 5 1 (.slice (some ⟨w.heap.size, 0, none⟩) k k) k (bls xs k)) := hrow
      clear hrow hrel
      go_wp2
      go_ret
      exact ⟨hbl, _, rfl, bl_of_own HR2.out, HR2.out⟩

set_option maxHeartbeats 1000000 in
theorem beq_yes {w : World} {v u : Value} {n : Nat} {xs : Nat → Int} (hv : Bl w v n xs) (hu : Bl w u n xs) (hn : n ≤ 1048576) :
    Calls Try.prog 8 #[v, u] w fun e w' => e = .returned (.bool true) ∧ Below w.heap.size w w' := by
  obtain ⟨ao, cap, rfl, hcap, hc⟩ := hv
  obtain ⟨bo, cap2, rfl, hcap2, hc2⟩ := hu
  have HC : Hid (0 < n → ∃ b off, ao = some ⟨b, off, none⟩ ∧ b < w.heap.size ∧ ∀ k, k < n → w.cell? ⟨b, off + k, none⟩ = some (.int .u8 (xs k))) := hc
  have HC2 : Hid (0 < n → ∃ b off, bo = some ⟨b, off, none⟩ ∧ b < w.heap.size ∧ ∀ k, k < n → w.cell? ⟨b, off + k, none⟩ = some (.int .u8 (xs k))) := hc2
  clear hc hc2
  go_enter Try.func8, Try.ntmps8
  go_wp2
  go_loopw [5] (fun i wr => ∃ k : Nat, i = .int .i64 k ∧ k ≤ n ∧ Hid (Below w.heap.size w wr)) (fun i _ => n - (intOf i).toNat)
  case atStart => exact ⟨0, rfl, by omega, Below.refl _ _⟩
  case round =>
    obtain ⟨k, rfl, hk, hbl⟩ := hrel
    by_cases h1 : k < n
    · obtain ⟨b, off, rfl, hlt, hcell⟩ := HC.out (by omega)
      obtain ⟨b2, off2, rfl, hlt2, hcell2⟩ := HC2.out (by omega)
      have c : wr.cell? ⟨b, off + k, none⟩ = some (.int .u8 (xs k)) := (hbl.out.cell (p := ⟨b, off + k, none⟩) hlt).trans (hcell k h1)
      have c2 : wr.cell? ⟨b2, off2 + k, none⟩ = some (.int .u8 (xs k)) := (hbl.out.cell (p := ⟨b2, off2 + k, none⟩) hlt2).trans (hcell2 k h1)
      clear hcell hcell2 hlt hlt2
      go_wp2_with (go_quiet (fail))
      go_roundw
      case rel => exact ⟨k + 1, by go_num, by omega, below_drewN hbl.out _⟩
      case measure => simp [intOf]; omega
    · obtain rfl : k = n := by omega
      go_wp2
      go_ret
      exact ⟨rfl, hbl.out⟩
/-- Marks from K on, as bytes. -/
def mkB (K : Int) (i : Nat) : Int := (K + (i : Int)) % 256

set_option maxHeartbeats 2000000 in
theorem mark_B {w : World} {B g n cap : Nat} {f : Nat → Int} {K : Int} (ho : w.ownsRow B 5 1 (.slice (some ⟨g, 0, none⟩) n cap) n (bls f n)) (hn : n ≤ 1048576) (hK : 0 ≤ K ∧ K ≤ 1099511627776) :
    Calls Try.prog 11 #[.slice (some ⟨g, 0, none⟩) n cap, .int .i64 K] w fun e w' => e = .returned (.int .i64 (K + (n : Int))) ∧ w'.ownsRow B 5 1 (.slice (some ⟨g, 0, none⟩) n cap) n (bls (mkB K) n) ∧ Only g w w' := by
  have HO : Hid _ := ho
  clear ho
  go_enter Try.func11, Try.ntmps11
  go_wp2
  go_loopw [1, 5] (fun kk i wr => ∃ q : Nat, i = .int .i64 q ∧ kk = .int .i64 (K + (q : Int)) ∧ q ≤ n ∧ Hid ((∃ f', wr.ownsRow B 5 1 (.slice (some ⟨g, 0, none⟩) n cap) n (bls f' n) ∧ ∀ j, j < q → f' j = mkB K j) ∧ Only g w wr)) (fun _ i _ => n - (intOf i).toNat)
  case atStart => exact ⟨0, rfl, by simp, by omega, ⟨f, HO.out, fun i hi => by omega⟩, Only.refl _ _⟩
  case round =>
    obtain ⟨q, rfl, rfl, hq, hrel⟩ := hrel
    obtain ⟨⟨f', hf, hmk⟩, hon⟩ := hrel.out
    by_cases h1 : q < n
    · obtain ⟨u, hu⟩ : ∃ u : Int, u = (K + (q : Int)) % 256 := ⟨_, rfl⟩
      have HU : Hid (u = (K + (q : Int)) % 256) := hu
      have e0 : IntKind.u8.wrap (K + (q : Int)) = u := by rw [IntKind.wrap_u8', hu]
      clear hu
      have d0 := World.ownsRow.cellAt hf q (by omega)
      rw [bls_get h1] at d0
      have z0 := World.ownsRow.frozenAt hf q
      have st := (World.ownsRow.stored hf q (.int .u8 u)).1
      rw [bls_put] at st
      have OP : Hid _ := st
      have ON : Hid _ := hon.put q (.int .u8 u)
      have HM : Hid _ := hmk
      clear hf hmk hon hrel st
      go_wp2
      go_roundw
      case rel =>
        refine ⟨q + 1, by go_num, by first | go_num | (congr 1; omega), by omega, ⟨_, OP.out, fun i hi => ?_⟩, ON.out⟩
        by_cases hik : i = q
        · subst hik; simp only [if_pos]; exact HU.out
        · simp only [if_neg hik]
          exact HM.out i (by omega)
      case measure => simp [intOf]; omega
    · obtain rfl : q = n := by omega
      rw [bls_congr hmk] at hf
      have HM : Hid _ := hf
      have ON : Hid _ := hon
      clear hf hmk hon hrel
      go_wp2
      go_ret
      exact ⟨rfl, HM.out, ON.out⟩

set_option maxHeartbeats 1000000 in
theorem mark_nilB (w : World) (K : Int) : Calls Try.prog 11 #[.slice none 0 0, .int .i64 K] w fun e w' => e = .returned (.int .i64 K) ∧ w' = w := by
  go_enter Try.func11, Try.ntmps11
  go_wp2
  go_loopw [1, 5] (fun kk i wr => i = .int .i64 0 ∧ kk = .int .i64 K ∧ wr = w) (fun _ _ _ => 0)
  case atStart => exact ⟨rfl, rfl, rfl⟩
  case round =>
    obtain ⟨rfl, rfl, rfl⟩ := hrel
    go_wp2
    go_ret
    exact ⟨rfl, rfl⟩

theorem markedB {w : World} {B n : Nat} {v : Value} {f : Nat → Int} {K : Int} (h : w.ownsRow B 5 1 v n (bls f n)) (hB : B ≤ w.heap.size) (hn : n ≤ 1048576) (hK : 0 ≤ K ∧ K ≤ 1099511627776) :
    Calls Try.prog 11 #[v, .int .i64 K] w fun e w' => e = .returned (.int .i64 (K + (n : Int))) ∧ w'.ownsRow B 5 1 v n (bls (mkB K) n) ∧ ∃ g, B ≤ g ∧ (v.ownBlock = some g ∨ w' = w) ∧ Only g w w' := by
  rcases h.2 with ⟨rfl, rfl⟩ | ⟨g, cap, cur, rfl, hb, hg, _⟩
  · refine (mark_nilB w K).mono ?_
    rintro e w' ⟨rfl, rfl⟩
    exact ⟨by simp, ⟨rfl, .inl ⟨rfl, rfl⟩⟩, w'.heap.size, hB, .inr rfl, Only.refl _ _⟩
  · refine (mark_B h hn hK).mono ?_
    rintro e w' ⟨rfl, h1, hon⟩
    exact ⟨rfl, h1, g, hb, .inl rfl, hon⟩

set_option maxHeartbeats 2000000 in
theorem held_B {w : World} {B g n cap : Nat} {K : Int} (ho : w.ownsRow B 5 1 (.slice (some ⟨g, 0, none⟩) n cap) n (bls (mkB K) n)) (hn : n ≤ 1048576) (hK : 0 ≤ K ∧ K ≤ 1099511627776) :
    Calls Try.prog 12 #[.slice (some ⟨g, 0, none⟩) n cap, .int .i64 K] w fun e w' => e = .returned (.int .i64 (K + (n : Int))) ∧ w' = w := by
  have HO : Hid _ := ho
  clear ho
  go_enter Try.func12, Try.ntmps12
  go_wp2
  go_loopw [1, 5] (fun kk i wr => ∃ q : Nat, i = .int .i64 q ∧ kk = .int .i64 (K + (q : Int)) ∧ q ≤ n ∧ wr = w) (fun _ i _ => n - (intOf i).toNat)
  case atStart => exact ⟨0, rfl, by simp, by omega, rfl⟩
  case round =>
    obtain ⟨q, rfl, rfl, hq, rfl⟩ := hrel
    by_cases h1 : q < n
    · have d0 := World.ownsRow.cellAt HO.out q (by omega)
      rw [bls_get h1] at d0
      unfold mkB at d0
      have e0 : IntKind.u8.wrap (K + (q : Int)) = (K + (q : Int)) % 256 := by rw [IntKind.wrap_u8']
      generalize (K + (q : Int)) % 256 = u at d0 e0
      go_wp2
      go_roundw
      case rel => exact ⟨q + 1, by go_num, by first | go_num | (congr 1; omega), by omega, by trivial⟩
      case measure => simp [intOf]; omega
    · obtain rfl : q = n := by omega
      go_wp2
      go_ret
      exact ⟨rfl, rfl⟩

set_option maxHeartbeats 1000000 in
theorem held_nilB (w : World) (K : Int) : Calls Try.prog 12 #[.slice none 0 0, .int .i64 K] w fun e w' => e = .returned (.int .i64 K) ∧ w' = w := by
  go_enter Try.func12, Try.ntmps12
  go_wp2
  go_loopw [1, 5] (fun kk i wr => i = .int .i64 0 ∧ kk = .int .i64 K ∧ wr = w) (fun _ _ _ => 0)
  case atStart => exact ⟨rfl, rfl, rfl⟩
  case round =>
    obtain ⟨rfl, rfl, rfl⟩ := hrel
    go_wp2
    go_ret
    exact ⟨rfl, rfl⟩

theorem heldB {w : World} {B n : Nat} {v : Value} {K : Int} (h : w.ownsRow B 5 1 v n (bls (mkB K) n)) (hn : n ≤ 1048576) (hK : 0 ≤ K ∧ K ≤ 1099511627776) : Calls Try.prog 12 #[v, .int .i64 K] w fun e w' => e = .returned (.int .i64 (K + (n : Int))) ∧ w' = w := by
  rcases h.2 with ⟨rfl, rfl⟩ | ⟨g, cap, cur, rfl, hb, hg, _⟩
  · refine (held_nilB w K).mono ?_
    rintro e w' ⟨rfl, rfl⟩
    exact ⟨by simp, rfl⟩
  · exact held_B h hn hK
end Go.Proofs.Ytcekjaleefidlaa
