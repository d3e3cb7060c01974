/- Ints put behind a row. -/
import Derived.Test.YtpjpkkgcnnmljaaRW
import Derived.Test.YtpjpkkgcnnmljaaAW
import Derived.Test.YtpjpkkgcnnmljaaB0
import Derived.Test.YtpjpkkgcnnmljaaC1
namespace Go.Proofs.Ytpjpkkgcnnmljaa
open Go.RowKit

theorem made_zero (k : Nat) : (madeCells (Value.int .i64 0).cells (k * 1)).toList = ils (fun _ => 0) k := by
  apply List.ext_getElem?
  intro i
  by_cases h : i < k
  · rw [ils_get h]
    simp [madeCells, Value.cells, h, Nat.mod_one]
  · rw [List.getElem?_eq_none (by rw [Array.length_toList, size_madeCells]; omega), List.getElem?_eq_none (by rw [ils_length]; omega)]

/-- A list of noughts made. -/
def mkd (W : World) (k : Nat) : World := W.alloc (.cells (madeCells (Value.int .i64 0).cells (k * 1)) 3)

theorem mkd_run (W : World) {k : Nat} (hk : k ≤ 1048576) : (Instr.makeSlice 40 (.int .i64 (k : Int)) (.int .i64 (k : Int))).run Try.prog W = .ok (.slice (some ⟨W.heap.size, 0, none⟩) k k) (mkd W k) := by
  obtain ⟨i0, hi, hz0, hz1, hz2⟩ := info_parts Try.info3
  have h := run_make (P := Try.prog) W 40 3 i0 (.int .i64 0) Try.underlying40 hi hz0 .i64 .i64 k k (by omega) (Int.le_refl _) (by rw [hz2]; omega) (by omega)
  rw [Int.toNat_natCast, hz1] at h
  exact h

theorem mkd_own (W : World) {B k : Nat} (hk : k ≤ 1048576) (hB : B ≤ W.heap.size) : (mkd W k).ownsRow B 3 1 (.slice (some ⟨W.heap.size, 0, none⟩) k k) k (ils (fun _ => 0) k) := by
  have h := World.ownsRow_lit (base := B) (e := 3) (size := 1) W (madeCells (Value.int .i64 0).cells (k * 1)) k hB (by unfold maxLen; omega) (size_madeCells _ _)
  rw [made_zero] at h
  exact h

theorem mkd_below (W : World) (k : Nat) : Below W.heap.size W (mkd W k) := below_one _ _

theorem own_slice {w : World} {B n : Nat} {v : Value} {L : List Value} (h : w.ownsRow B 3 1 v n L) : ∃ a c, v = .slice a n c := by
  rcases h.2 with ⟨rfl, rfl⟩ | ⟨g, cap, cur, rfl, _⟩
  · exact ⟨none, 0, rfl⟩
  · exact ⟨_, _, rfl⟩

theorem ils_one (f : Nat → Int) (n : Nat) : ∀ u ∈ ils f n, u.oneCell' = true := by
  intro u hu
  simp only [ils, List.mem_map] at hu
  obtain ⟨i, _, rfl⟩ := hu
  rfl

/-- A list that came in put behind a row. -/
theorem wpList_appi {w : World} {ops : Array Oper} {rest : List Oper} {o : Oper} {a : Act} {Q : Exit → Act → World → Prop} (hgd : o.guard = none) (s x : Operand)
    (ho : o.op = .call { callee := .builtin .append, args := #[s, x], argTypes := #[40, 40] }) (base : Nat) (v xv : Value) (n m : Nat) (xs : List Value) (ys : Nat → Int) (hs : a.eval s = v) (hx : a.eval x = xv)
    (hown : w.ownsRow base 3 1 v n xs) (hsrc : Il w xv m ys) (hnm : n + m ≤ 1048576) (hbase : base ≤ w.heap.size)
    (h : ∀ v' w', w'.ownsRow base 3 1 v' (n + m) (xs ++ ils ys m) → w.grownBy w' v.ownBlock → wpList Try.prog ops Q rest (a.put o.dst v') w') : wpList Try.prog ops Q (o :: rest) a w := by
  obtain ⟨i0, hi, hz0, hz1, hz2⟩ := info_parts Try.info3
  obtain ⟨ao, cap, rfl, hcap, hc⟩ := hsrc
  by_cases hm : 0 < m
  · obtain ⟨b, off, rfl, hlt, hcell⟩ := hc hm
    refine wpList_append_own _ hgd s x 40 ho base 3 i0 (.int .i64 0) 1 8 Try.underlying40 hi hz0 hz1 hz2 rfl (by decide) v n xs hs hown ⟨b, off, none⟩ m cap (ils ys m) hx (by rw [ils_length, Nat.mul_one]) (fun j u hu => ?_) (ils_one _ _) (by unfold maxLen; omega) (by omega) hbase (fun v' w' h2 h3 _ => h v' w' h2 h3)
    by_cases hj : j < m
    · rw [ils_get hj] at hu
      have h6 := (hcell j hj).trans hu
      unfold Addr.add
      split
      · rename_i h7
        obtain rfl : j = 0 := by simpa using h7
        exact h6
      · exact h6
    · rw [List.getElem?_eq_none (by rw [ils_length]; omega)] at hu
      cases hu
  · obtain rfl : m = 0 := by omega
    cases ao with
    | none =>
      refine wpList_plain hgd fun K hK => ?_
      have hr := run_app_none (P := Try.prog) (w := w) base 40 o.type 3 i0 1 Try.underlying40 hi v n xs hown cap
      unfold Oper.wp execOp
      simp only [ho, resolve, invoke, builtin, Sem.run_bind, Sem.run_pure, Result.andThen_ok, List.map_toArray, List.map_cons, List.map_nil, hs, hx, hr]
      exact hK _ _ (h v w (by simpa [ils] using hown) (grown_refl _ _))
    | some ad => exact wpList_append_own _ hgd s x 40 ho base 3 i0 (.int .i64 0) 1 8 Try.underlying40 hi hz0 hz1 hz2 rfl (by decide) v n xs hs hown ad 0 cap (ils ys 0) hx (by rw [ils_length, Nat.mul_one]) (fun j u hu => by cases hu) (ils_one _ _) (by unfold maxLen; omega) (by omega) hbase (fun v' w' h2 h3 _ => h v' w' h2 h3)



/-- All but the first of a row. -/
theorem il_cut {w : World} {B g n c c' : Nat} {f : Nat → Int} (h : w.ownsRow B 3 1 (.slice (some ⟨g, 0, none⟩) n c) n (ils f n)) {k : Nat} (hk : k + 1 = n) (hc : k ≤ c') : Il w (.slice (some ⟨g, 1, none⟩) k c') k (fun i => f (i + 1)) := by
  refine ⟨_, _, rfl, hc, fun _ => ⟨g, 1, rfl, (World.ownsRow.lt h g rfl).2, fun i hi => ?_⟩⟩
  have := World.ownsRow.cellAt h (i + 1) (by omega)
  rw [ils_get (by omega)] at this
  rw [Nat.add_comm 1 i]
  exact this
end Go.Proofs.Ytpjpkkgcnnmljaa
