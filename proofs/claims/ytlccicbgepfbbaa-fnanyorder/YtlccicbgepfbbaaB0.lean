/- Lists of ints: what a slice holds, a copy of it, and whether two are the same. -/
import Derived.Test.YtlccicbgepfbbaaA1
import Derived.Laws.OwnMore
import Derived.Deep.Cut
namespace Go.Proofs.Ytlccicbgepfbbaa
open Go.RowKit

theorem below_one (w : World) (o : Obj) : Below w.heap.size w (w.alloc o) := (Below.refl _ _).alloc (Nat.le_refl _) _

theorem bstep {w w1 w2 : World} (h1 : Below w.heap.size w w1) (h2 : Below w1.heap.size w1 w2) : Below w.heap.size w w2 := h1.trans (h2.mono h1.size)

/-- The slice holds the n ints xs. -/
def Il (w : World) (v : Value) (n : Nat) (xs : Nat → Int) : Prop := ∃ ao cap, v = .slice ao n cap ∧ n ≤ cap ∧ (0 < n → ∃ b off, ao = some ⟨b, off, none⟩ ∧ b < w.heap.size ∧ ∀ k, k < n → w.cell? ⟨b, off + k, none⟩ = some (.int .i64 (xs k)))

theorem Il.below {w w' : World} {v : Value} {n : Nat} {xs : Nat → Int} (h : Il w v n xs) (hb : Below w.heap.size w w') : Il w' v n xs := by
  obtain ⟨ao, cap, rfl, hcap, hc⟩ := h
  refine ⟨ao, cap, rfl, hcap, fun h0 => ?_⟩
  obtain ⟨b, off, rfl, hlt, hcell⟩ := hc h0
  exact ⟨b, off, rfl, Nat.lt_of_lt_of_le hlt hb.size, fun k hk => (hb.cell (p := ⟨b, off + k, none⟩) hlt).trans (hcell k hk)⟩

/-- The first k ints, as cells. -/
def ils (xs : Nat → Int) (k : Nat) : List Value := (List.range k).map fun i => .int .i64 (xs i)

theorem ils_length (xs : Nat → Int) (k : Nat) : (ils xs k).length = k := by simp [ils]

theorem ils_get {xs : Nat → Int} {n k : Nat} (h : k < n) : (ils xs n)[k]? = some (.int .i64 (xs k)) := by simp [ils, h]

theorem ils_snoc (xs : Nat → Int) (k : Nat) : ils xs (k + 1) = ils xs k ++ [.int .i64 (xs k)] := by simp [ils, List.range_succ]

theorem ils_set (xs : Nat → Int) (k : Nat) (L : List Value) (hk : k < L.length) : (ils xs k ++ L.drop k).set k (.int .i64 (xs k)) = ils xs (k + 1) ++ L.drop (k + 1) := by
  rw [List.set_append_right _ _ (by rw [ils_length]; exact Nat.le_refl _), ils_length, Nat.sub_self, List.drop_eq_getElem_cons hk, List.set_cons_zero, ils_snoc, List.append_assoc]
  rfl

theorem Try.info3 : (Try.prog.info? 3).map (fun i => (i.zero, i.size, i.bytes)) = some (some (.int .i64 0), 1, 8) := by kernel_rfl

theorem info_parts {o : Option TypeInfo} {z : Value} {s b : Nat} (h : o.map (fun i => (i.zero, i.size, i.bytes)) = some (some z, s, b)) : ∃ i, o = some i ∧ i.zero = some z ∧ i.size = s ∧ i.bytes = b := by
  cases o with
  | none => cases h
  | some i =>
    simp only [Option.map_some, Option.some.injEq, Prod.mk.injEq] at h
    exact ⟨i, rfl, h.1, h.2.1, h.2.2⟩

theorem il_of_own {w : World} {B n : Nat} {v : Value} {xs : Nat → Int} (h : w.ownsRow B 3 1 v n (ils xs n)) : Il w v n xs := by
  rcases h.2 with ⟨rfl, rfl⟩ | ⟨g, cap, cur, rfl, hb, hg, hc, _⟩
  · exact ⟨none, 0, rfl, Nat.le_refl _, fun h => absurd h (by omega)⟩
  · refine ⟨_, _, rfl, hc, fun h0 => ⟨g, 0, rfl, (Array.getElem?_eq_some_iff.1 hg).1, fun k hk => ?_⟩⟩
    rw [Nat.zero_add, World.ownsRow.cellAt h k (by omega), ils_get hk]

set_option maxHeartbeats 1000000 in
/-- A copy of a list, in memory of its own. -/
theorem copy_own {w : World} {v : Value} {n : Nat} {xs : Nat → Int} (hv : Il w v n xs) (hn : n ≤ 1048576) :
    Calls Try.prog 38 #[v] w fun e w' => Below w.heap.size w w' ∧ ∃ v', e = .returned v' ∧ Il w' v' n xs ∧ w'.ownsRow w.heap.size 3 1 v' n (ils xs n) := by
  obtain ⟨i0, hi, hz0, hz1, hz2⟩ := info_parts Try.info3
  obtain ⟨ao, cap, rfl, hcap, hc⟩ := hv
  have HC : Hid (0 < n → ∃ b off, ao = some ⟨b, off, none⟩ ∧ b < w.heap.size ∧ ∀ k, k < n → w.cell? ⟨b, off + k, none⟩ = some (.int .i64 (xs k))) := hc
  clear hc
  obtain ⟨w1, hm, hrow, hgr⟩ := run_makeSlice_full (P := Try.prog) w w.heap.size 27 3 i0 (.int .i64 0) 1 Try.underlying27 hi hz0 hz1 .i64 .i64 n (by omega) (by rw [hz2]; omega) (by unfold maxLen; omega) (Nat.le_refl _)
  have hbl : Below w.heap.size w w1 := (Below.refl _ _).grown hgr (Nat.le_refl _) (fun _ h => by cases h)
  generalize hL : (madeCells (Value.int .i64 0).cells (n * 1)).toList = L at hrow
  have hLn : L.length = n := by rw [← hL, Array.length_toList, size_madeCells, Nat.mul_one]
  clear hL hgr hi hz0 hz1 hz2
  have HR : Hid (w1.ownsRow w.heap.size 3 1 (.slice (some ⟨w.heap.size, 0, none⟩) n n) n L) := hrow
  have HB : Hid (Below w.heap.size w w1) := hbl
  clear hrow hbl
  go_enter Try.func38, Try.ntmps38
  go_wp2
  go_loopw [4] (fun i wr => ∃ k : Nat, i = .int .i64 k ∧ k ≤ n ∧ Hid (wr.ownsRow w.heap.size 3 1 (.slice (some ⟨w.heap.size, 0, none⟩) n n) n (ils xs k ++ L.drop k) ∧ Below w.heap.size w wr)) (fun i _ => n - (intOf i).toNat)
  case atStart => exact ⟨0, rfl, by omega, HR.out, HB.out⟩
  case round =>
    obtain ⟨k, rfl, hk, hrel⟩ := hrel
    obtain ⟨hrow, hbl⟩ := hrel.out
    by_cases h1 : k < n
    · obtain ⟨b, off, rfl, hlt, hcell⟩ := HC.out (by omega)
      have c : wr.cell? ⟨b, off + k, none⟩ = some (.int .i64 (xs k)) := (hbl.cell (p := ⟨b, off + k, none⟩) hlt).trans (hcell k h1)
      have hfz := hrow.frozenAt k
      have hst := hrow.stored k (.int .i64 (xs k))
      have hce := hrow.cellAt k (by omega)
      rw [List.getElem?_append_right (by rw [ils_length]; exact Nat.le_refl _), ils_length, Nat.sub_self, List.getElem?_drop, Nat.add_zero, List.getElem?_eq_getElem (by omega)] at hce
      rw [ils_set xs k L (by omega)] at hst
      have HS : Hid _ := hst
      have HB2 : Hid _ := hbl
      clear hst hbl hrow hcell hrel
      generalize L[k]'(by omega) = u at hce
      go_wp2
      go_roundw
      case rel => exact ⟨k + 1, by go_num, by omega, HS.out.1, HB2.out.setCell (Nat.le_refl _) _⟩
      case measure => simp [intOf]; omega
    · obtain rfl : k = n := by omega
      rw [List.drop_eq_nil_of_le (by omega), List.append_nil] at hrow
      have HR2 : Hid (wr.ownsRow w.heap.size 3 1 (.slice (some ⟨w.heap.size, 0, none⟩) k k) k (ils xs k)) := hrow
      clear hrow hrel
      go_wp2
      go_ret
      exact ⟨hbl, _, rfl, il_of_own HR2.out, HR2.out⟩

set_option maxHeartbeats 1000000 in
/-- Two lists that hold the same: eqIntS says so. -/
theorem eq_yes {w : World} {v u : Value} {n : Nat} {xs : Nat → Int} (hv : Il w v n xs) (hu : Il w u n xs) (hn : n ≤ 1048576) :
    Calls Try.prog 33 #[v, u] w fun e w' => e = .returned (.bool true) ∧ Below w.heap.size w w' := by
  obtain ⟨ao, cap, rfl, hcap, hc⟩ := hv
  obtain ⟨bo, cap2, rfl, hcap2, hc2⟩ := hu
  have HC : Hid (0 < n → ∃ b off, ao = some ⟨b, off, none⟩ ∧ b < w.heap.size ∧ ∀ k, k < n → w.cell? ⟨b, off + k, none⟩ = some (.int .i64 (xs k))) := hc
  have HC2 : Hid (0 < n → ∃ b off, bo = some ⟨b, off, none⟩ ∧ b < w.heap.size ∧ ∀ k, k < n → w.cell? ⟨b, off + k, none⟩ = some (.int .i64 (xs k))) := hc2
  clear hc hc2
  go_enter Try.func33, Try.ntmps33
  go_wp2
  go_loopw [5] (fun i wr => ∃ k : Nat, i = .int .i64 k ∧ k ≤ n ∧ Hid (Below w.heap.size w wr)) (fun i _ => n - (intOf i).toNat)
  case atStart => exact ⟨0, rfl, by omega, Below.refl _ _⟩
  case round =>
    obtain ⟨k, rfl, hk, hbl⟩ := hrel
    by_cases h1 : k < n
    · obtain ⟨b, off, rfl, hlt, hcell⟩ := HC.out (by omega)
      obtain ⟨b2, off2, rfl, hlt2, hcell2⟩ := HC2.out (by omega)
      have c : wr.cell? ⟨b, off + k, none⟩ = some (.int .i64 (xs k)) := (hbl.out.cell (p := ⟨b, off + k, none⟩) hlt).trans (hcell k h1)
      have c2 : wr.cell? ⟨b2, off2 + k, none⟩ = some (.int .i64 (xs k)) := (hbl.out.cell (p := ⟨b2, off2 + k, none⟩) hlt2).trans (hcell2 k h1)
      clear hcell hcell2 hlt hlt2
      go_wp2_with (go_quiet (fail))
      go_roundw
      case rel => exact ⟨k + 1, by go_num, by omega, below_drewN hbl.out _⟩
      case measure => simp [intOf]; omega
    · obtain rfl : k = n := by omega
      go_wp2
      go_ret
      exact ⟨rfl, hbl.out⟩
end Go.Proofs.Ytlccicbgepfbbaa
