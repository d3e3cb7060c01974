/- Sums of bits modulo 2, registers that follow, a list put behind a row. -/
import Derived.Test.YtgahjkijmihmdaaST
import Derived.Test.YtgahjkijmihmdaaBT
namespace Go.Proofs.Ytgahjkijmihmdaa
open Go.RowKit

theorem ils_one (f : Nat → Int) (n : Nat) : ∀ u ∈ ils f n, u.oneCell' = true := by
  intro u hu
  simp only [ils, List.mem_map] at hu
  obtain ⟨i, _, rfl⟩ := hu
  rfl

theorem grown_refl (w : World) (r : Option Nat) : w.grownBy w r := ⟨rfl, rfl, rfl, Nat.le_refl _, fun _ _ _ => rfl⟩

theorem run_app_none {P : Program} {w : World} (base : Nat) (t ty e : TypeId) (i : TypeInfo) (size : Nat) (ht : P.underlying t = some (.slice e)) (hi : P.info? e = some i)
    (v : Value) (n : Nat) (xs : List Value) (hown : w.ownsRow base e size v n xs) (c : Nat) :
    (Builtin.append_ #[t, t] ty #[v, .slice none 0 c]).run P w = .ok v w := by
  rcases hown.2 with ⟨rfl, rfl⟩ | ⟨g, cap, cur, rfl, _, _, hnc, _⟩
  · simp [Builtin.append_, run_underlying ht, sizeOf, typeInfo, hi, Builtin.lenOf, Builtin.firstCells]
  · simp [Builtin.append_, run_underlying ht, sizeOf, typeInfo, hi, Builtin.lenOf, Builtin.firstCells, hnc, storeCells]

/-- A list that came in put behind a row. -/
theorem wpList_appi {w : World} {ops : Array Oper} {rest : List Oper} {o : Oper} {a : Act} {Q : Exit → Act → World → Prop} (hgd : o.guard = none) (s x : Operand)
    (ho : o.op = .call { callee := .builtin .append, args := #[s, x], argTypes := #[24, 24] }) (base : Nat) (v xv : Value) (n m : Nat) (xs : List Value) (ys : Nat → Int) (hs : a.eval s = v) (hx : a.eval x = xv)
    (hown : w.ownsRow base 3 1 v n xs) (hsrc : Il w xv m ys) (hnm : n + m ≤ 1048576) (hbase : base ≤ w.heap.size)
    (h : ∀ v' w', w'.ownsRow base 3 1 v' (n + m) (xs ++ ils ys m) → w.grownBy w' v.ownBlock → wpList Try.prog ops Q rest (a.put o.dst v') w') : wpList Try.prog ops Q (o :: rest) a w := by
  obtain ⟨i0, hi, hz0, hz1, hz2⟩ := info_parts Try.info3
  obtain ⟨ao, cap, rfl, hcap, hc⟩ := hsrc
  by_cases hm : 0 < m
  · obtain ⟨b, off, rfl, hlt, hcell⟩ := hc hm
    refine wpList_append_own _ hgd s x 24 ho base 3 i0 (.int .i64 0) 1 8 Try.underlying24 hi hz0 hz1 hz2 rfl (by decide) v n xs hs hown ⟨b, off, none⟩ m cap (ils ys m) hx (by rw [ils_length, Nat.mul_one]) (fun j u hu => ?_) (ils_one _ _) (by unfold maxLen; omega) (by omega) hbase (fun v' w' h2 h3 _ => h v' w' h2 h3)
    by_cases hj : j < m
    · rw [ils_get hj] at hu
      have h6 := (hcell j hj).trans hu
      unfold Addr.add
      split
      · rename_i h7
        obtain rfl : j = 0 := by simpa using h7
        exact h6
      · exact h6
    · rw [List.getElem?_eq_none (by rw [ils_length]; omega)] at hu
      cases hu
  · obtain rfl : m = 0 := by omega
    cases ao with
    | none =>
      refine wpList_plain hgd fun K hK => ?_
      have hr := run_app_none (P := Try.prog) (w := w) base 24 o.type 3 i0 1 Try.underlying24 hi v n xs hown cap
      unfold Oper.wp execOp
      simp only [ho, resolve, invoke, builtin, Sem.run_bind, Sem.run_pure, Result.andThen_ok, List.map_toArray, List.map_cons, List.map_nil, hs, hx, hr]
      exact hK _ _ (h v w (by simpa [ils] using hown) (grown_refl _ _))
    | some ad => exact wpList_append_own _ hgd s x 24 ho base 3 i0 (.int .i64 0) 1 8 Try.underlying24 hi hz0 hz1 hz2 rfl (by decide) v n xs hs hown ad 0 cap (ils ys 0) hx (by rw [ils_length, Nat.mul_one]) (fun j u hu => by cases hu) (ils_one _ _) (by unfold maxLen; omega) (by omega) hbase (fun v' w' h2 h3 _ => h v' w' h2 h3)

/-- The sum modulo 2 of a number's bits. -/
def ptF : Nat → Nat → Int
  | 0, _ => 0
  | f + 1, m => if m = 0 then 0 else xb ((m % 2 : Nat) : Int) (ptF f (m / 2))

def pty (m : Nat) : Int := ptF m m

theorem ptF_zero (f : Nat) : ptF f 0 = 0 := by
  cases f with
  | zero => rfl
  | succ f => rw [ptF, if_pos rfl]

theorem ptF_any (f g m : Nat) (hf : m ≤ f) (hg : m ≤ g) : ptF f m = ptF g m := by
  induction f generalizing g m with
  | zero =>
    obtain rfl : m = 0 := by omega
    rw [ptF_zero, ptF_zero]
  | succ f ih =>
    cases g with
    | zero =>
      obtain rfl : m = 0 := by omega
      rw [ptF_zero, ptF_zero]
    | succ g =>
      rw [ptF, ptF]
      by_cases h : m = 0
      · rw [if_pos h, if_pos h]
      · rw [if_neg h, if_neg h, ih g (m / 2) (by omega) (by omega)]

theorem pty_zero : pty 0 = 0 := rfl

theorem pty_bit (m : Nat) : Bit (pty m) := by
  unfold pty
  cases m with
  | zero => exact .inl rfl
  | succ m =>
    rw [ptF, if_neg (by omega)]
    exact xb_bit _ _

theorem mod2_bit (m : Nat) : Bit ((m % 2 : Nat) : Int) := by
  unfold Bit; omega

theorem pty_step (m : Nat) : pty m = xb ((m % 2 : Nat) : Int) (pty (m / 2)) := by
  cases m with
  | zero => rfl
  | succ m =>
    show ptF (m + 1) (m + 1) = _
    rw [ptF, if_neg (by omega)]
    unfold pty
    rw [ptF_any m ((m + 1) / 2) ((m + 1) / 2) (by omega) (Nat.le_refl _)]

theorem low_odd (a : Nat) : (2 * a + 1) &&& (2 * a) = 2 * a := by
  apply Nat.eq_of_testBit_eq
  intro i
  rw [Nat.testBit_and]
  cases i with
  | zero => rw [Nat.testBit_zero, Nat.testBit_zero]; simp
  | succ i =>
    rw [Nat.testBit_succ, Nat.testBit_succ, show (2 * a + 1) / 2 = a by omega, show 2 * a / 2 = a by omega, Bool.and_self]

theorem low_even (a : Nat) (h : 0 < a) : (2 * a) &&& (2 * a - 1) = 2 * (a &&& (a - 1)) := by
  apply Nat.eq_of_testBit_eq
  intro i
  rw [Nat.testBit_and]
  cases i with
  | zero => rw [Nat.testBit_zero, Nat.testBit_zero, Nat.testBit_zero]; simp
  | succ i =>
    rw [Nat.testBit_succ, Nat.testBit_succ, Nat.testBit_succ, show 2 * a / 2 = a by omega, show (2 * a - 1) / 2 = a - 1 by omega, show 2 * (a &&& (a - 1)) / 2 = a &&& (a - 1) by omega, Nat.testBit_and]

/-- The lowest bit taken away: the sum turns. -/
theorem pty_low (m : Nat) (h : 0 < m) : pty (m &&& (m - 1)) = xb (pty m) 1 := by
  induction m using Nat.strongRecOn with
  | _ m ih =>
    rcases Nat.mod_two_eq_zero_or_one m with h0 | h0
    · obtain ⟨a, rfl⟩ : ∃ a, m = 2 * a := ⟨m / 2, by omega⟩
      rw [low_even a (by omega), pty_step, pty_step (2 * a), show 2 * (a &&& (a - 1)) % 2 = 0 by omega, show 2 * (a &&& (a - 1)) / 2 = a &&& (a - 1) by omega, show 2 * a % 2 = 0 by omega, show 2 * a / 2 = a by omega, ih a (by omega) (by omega)]
      exact (xb_assoc (.inl rfl) (pty_bit a) (.inr rfl)).symm
    · obtain ⟨a, rfl⟩ : ∃ a, m = 2 * a + 1 := ⟨m / 2, by omega⟩
      rw [show 2 * a + 1 - 1 = 2 * a by omega, low_odd, pty_step, pty_step (2 * a + 1), show 2 * a % 2 = 0 by omega, show 2 * a / 2 = a by omega, show (2 * a + 1) % 2 = 1 by omega, show (2 * a + 1) / 2 = a by omega]
      rcases pty_bit a with e | e
      · rw [e]; rfl
      · rw [e]; rfl

theorem low_lt (m : Nat) (h : 0 < m) : m &&& (m - 1) < m := Nat.lt_of_le_of_lt Nat.and_le_right (by omega)

/-- The register that follows, and what is told. -/
def frg (back : Bool) (t : Nat) (xs : Nat → Int) : Nat → Nat
  | 0 => 0
  | k + 1 => (2 * frg back t xs k + (if back then xs k else xb (xs k) (pty (frg back t xs k &&& t))).toNat) % 65536

def fol (back : Bool) (t : Nat) (xs : Nat → Int) (k : Nat) : Int := xb (xs k) (pty (frg back t xs k &&& t))

theorem frg_lt (back : Bool) (t : Nat) (xs : Nat → Int) (k : Nat) : frg back t xs k < 65536 := by
  cases k with
  | zero => show 0 < 65536; omega
  | succ k => exact Nat.mod_lt _ (by omega)

theorem frg_next (back : Bool) (t : Nat) (xs : Nat → Int) (k : Nat) : frg back t xs (k + 1) = (2 * frg back t xs k + (if back then xs k else fol back t xs k).toNat) % 65536 := rfl

theorem fol_bit (back : Bool) (t : Nat) (xs : Nat → Int) (k : Nat) : Bit (fol back t xs k) := xb_bit _ _

/-- Good for Follow. -/
abbrev GFo (n : Nat) (xs : Nat → Int) (t : Int) : Prop := Bts n xs ∧ 0 ≤ t ∧ t ≤ 65535

theorem or_bit {q b : Nat} (hb : b < 2) : 2 * q ||| b = 2 * q + b := by
  have h := Nat.two_pow_add_eq_or_of_lt (i := 1) (b := b) (by omega) q
  rw [show 2 ^ 1 * q = 2 * q by omega] at h
  exact h.symm
end Go.Proofs.Ytgahjkijmihmdaa
