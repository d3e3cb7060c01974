/- Lists of numbers of at most M in size. -/
import Derived.Test.YtfobngpokchgeaaAP
namespace Go.Proofs.Ytfobngpokchgeaa
open Go.RowKit

/-- All of at most M in size. -/
abbrev Wth (M : Int) (n : Nat) (xs : Nat → Int) : Prop := ∀ k, k < n → -M ≤ xs k ∧ xs k ≤ M

instance (M : Int) (n : Nat) (xs : Nat → Int) : Decidable (Wth M n xs) := inferInstance

theorem ils_one (f : Nat → Int) (n : Nat) : ∀ u ∈ ils f n, u.oneCell' = true := by
  intro u hu
  obtain ⟨i, _, rfl⟩ := List.mem_map.1 hu
  rfl

theorem grown_refl (w : World) (r : Option Nat) : w.grownBy w r := ⟨rfl, rfl, rfl, Nat.le_refl _, fun _ _ _ => rfl⟩

/-- A whole row put behind another one. -/
theorem wpList_appo {w : World} {ops : Array Oper} {rest : List Oper} {o : Oper} {a : Act} {Q : Exit → Act → World → Prop} (hgd : o.guard = none) (s x : Operand)
    (ho : o.op = .call { callee := .builtin .append, args := #[s, x], argTypes := #[24, 24] }) (base B2 : Nat) (v xv : Value) (n m : Nat) (xs : List Value) (ys : Nat → Int) (hs : a.eval s = v) (hx : a.eval x = xv)
    (hown : w.ownsRow base 3 1 v n xs) (hsrc : w.ownsRow B2 3 1 xv m (ils ys m)) (hnm : n + m ≤ 1048576) (hbase : base ≤ w.heap.size)
    (h : ∀ v' w', w'.ownsRow base 3 1 v' (n + m) (xs ++ ils ys m) → w.grownBy w' v.ownBlock → wpList Try.prog ops Q rest (a.put o.dst v') w') : wpList Try.prog ops Q (o :: rest) a w := by
  obtain ⟨i0, hi, hz0, hz1, hz2⟩ := info_parts Try.info3
  rcases hsrc.2 with ⟨rfl, rfl⟩ | ⟨g, cap, cur, rfl, hb, hg, hcap, _⟩
  · refine wpList_plain hgd fun K hK => ?_
    have hr := run_append_owned_none (P := Try.prog) w base 24 o.type 3 i0 1 Try.underlying24 hi v n xs hown
    unfold Oper.wp execOp
    simp only [ho, resolve, invoke, builtin, Sem.run_bind, Sem.run_pure, Result.andThen_ok, List.map_toArray, List.map_cons, List.map_nil, hs, hx, hr]
    exact hK _ _ (h v w (by simpa [ils] using hown) (grown_refl _ _))
  · exact wpList_append_own _ hgd s x 24 ho base 3 i0 (.int .i64 0) 1 8 Try.underlying24 hi hz0 hz1 hz2 rfl (by decide) v n xs hs hown ⟨g, 0, none⟩ m cap (ils ys m) hx (by rw [ils_length, Nat.mul_one]) (hsrc.cells rfl) (ils_one _ _) (by unfold maxLen; omega) (by omega) hbase (fun v' w' h2 h3 _ => h v' w' h2 h3)

end Go.Proofs.Ytfobngpokchgeaa
