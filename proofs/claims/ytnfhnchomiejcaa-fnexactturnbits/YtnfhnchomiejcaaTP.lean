/- Rounds in plain numbers; lists made. -/
import Derived.Test.YtnfhnchomiejcaaFA
namespace Go.Proofs.Ytnfhnchomiejcaa
open Go.RowKit

theorem made_zero (k : Nat) : (madeCells (Value.int .i64 0).cells (k * 1)).toList = ils (fun _ => 0) k := by
  apply List.ext_getElem?
  intro i
  by_cases h : i < k
  · rw [ils_get h]
    simp [madeCells, Value.cells, h, Nat.mod_one]
  · rw [List.getElem?_eq_none (by rw [Array.length_toList, size_madeCells]; omega), List.getElem?_eq_none (by rw [ils_length]; omega)]

/-- A list of noughts made. -/
def mkd (W : World) (k : Nat) : World := W.alloc (.cells (madeCells (Value.int .i64 0).cells (k * 1)) 3)

theorem mkd_run (W : World) {k : Nat} (hk : k ≤ 1048576) : (Instr.makeSlice 29 (.int .i64 (k : Int)) (.int .i64 (k : Int))).run Try.prog W = .ok (.slice (some ⟨W.heap.size, 0, none⟩) k k) (mkd W k) := by
  obtain ⟨i0, hi, hz0, hz1, hz2⟩ := info_parts Try.info3
  have h := run_make (P := Try.prog) W 29 3 i0 (.int .i64 0) Try.underlying29 hi hz0 .i64 .i64 k k (by omega) (Int.le_refl _) (by rw [hz2]; omega) (by omega)
  rw [Int.toNat_natCast, hz1] at h
  exact h

theorem mkd_own (W : World) {B k : Nat} (hk : k ≤ 1048576) (hB : B ≤ W.heap.size) : (mkd W k).ownsRow B 3 1 (.slice (some ⟨W.heap.size, 0, none⟩) k k) k (ils (fun _ => 0) k) := by
  have h := World.ownsRow_lit (base := B) (e := 3) (size := 1) W (madeCells (Value.int .i64 0).cells (k * 1)) k hB (by unfold maxLen; omega) (size_madeCells _ _)
  rw [made_zero] at h
  exact h

theorem mkd_below (W : World) (k : Nat) : Below W.heap.size W (mkd W k) := below_one _ _

theorem own_slice {w : World} {B n : Nat} {v : Value} {L : List Value} (h : w.ownsRow B 3 1 v n L) : ∃ a c, v = .slice a n c := by
  rcases h.2 with ⟨rfl, rfl⟩ | ⟨g, cap, cur, rfl, _⟩
  · exact ⟨none, 0, rfl⟩
  · exact ⟨_, _, rfl⟩

theorem ils_one (f : Nat → Int) (n : Nat) : ∀ u ∈ ils f n, u.oneCell' = true := by
  intro u hu
  simp only [ils, List.mem_map] at hu
  obtain ⟨i, _, rfl⟩ := hu
  rfl

theorem grown_refl (w : World) (r : Option Nat) : w.grownBy w r := ⟨rfl, rfl, rfl, Nat.le_refl _, fun _ _ _ => rfl⟩

theorem run_app_none {P : Program} {w : World} (base : Nat) (t ty e : TypeId) (i : TypeInfo) (size : Nat) (ht : P.underlying t = some (.slice e)) (hi : P.info? e = some i)
    (v : Value) (n : Nat) (xs : List Value) (hown : w.ownsRow base e size v n xs) (c : Nat) :
    (Builtin.append_ #[t, t] ty #[v, .slice none 0 c]).run P w = .ok v w := by
  rcases hown.2 with ⟨rfl, rfl⟩ | ⟨g, cap, cur, rfl, _, _, hnc, _⟩
  · simp [Builtin.append_, run_underlying ht, sizeOf, typeInfo, hi, Builtin.lenOf, Builtin.firstCells]
  · simp [Builtin.append_, run_underlying ht, sizeOf, typeInfo, hi, Builtin.lenOf, Builtin.firstCells, hnc, storeCells]

/-- A list that came in put behind a row. -/
theorem wpList_appi {w : World} {ops : Array Oper} {rest : List Oper} {o : Oper} {a : Act} {Q : Exit → Act → World → Prop} (hgd : o.guard = none) (s x : Operand)
    (ho : o.op = .call { callee := .builtin .append, args := #[s, x], argTypes := #[29, 29] }) (base : Nat) (v xv : Value) (n m : Nat) (xs : List Value) (ys : Nat → Int) (hs : a.eval s = v) (hx : a.eval x = xv)
    (hown : w.ownsRow base 3 1 v n xs) (hsrc : Il w xv m ys) (hnm : n + m ≤ 1048576) (hbase : base ≤ w.heap.size)
    (h : ∀ v' w', w'.ownsRow base 3 1 v' (n + m) (xs ++ ils ys m) → w.grownBy w' v.ownBlock → wpList Try.prog ops Q rest (a.put o.dst v') w') : wpList Try.prog ops Q (o :: rest) a w := by
  obtain ⟨i0, hi, hz0, hz1, hz2⟩ := info_parts Try.info3
  obtain ⟨ao, cap, rfl, hcap, hc⟩ := hsrc
  by_cases hm : 0 < m
  · obtain ⟨b, off, rfl, hlt, hcell⟩ := hc hm
    refine wpList_append_own _ hgd s x 29 ho base 3 i0 (.int .i64 0) 1 8 Try.underlying29 hi hz0 hz1 hz2 rfl (by decide) v n xs hs hown ⟨b, off, none⟩ m cap (ils ys m) hx (by rw [ils_length, Nat.mul_one]) (fun j u hu => ?_) (ils_one _ _) (by unfold maxLen; omega) (by omega) hbase (fun v' w' h2 h3 _ => h v' w' h2 h3)
    by_cases hj : j < m
    · rw [ils_get hj] at hu
      have h6 := (hcell j hj).trans hu
      unfold Addr.add
      split
      · rename_i h7
        obtain rfl : j = 0 := by simpa using h7
        exact h6
      · exact h6
    · rw [List.getElem?_eq_none (by rw [ils_length]; omega)] at hu
      cases hu
  · obtain rfl : m = 0 := by omega
    cases ao with
    | none =>
      refine wpList_plain hgd fun K hK => ?_
      have hr := run_app_none (P := Try.prog) (w := w) base 29 o.type 3 i0 1 Try.underlying29 hi v n xs hown cap
      unfold Oper.wp execOp
      simp only [ho, resolve, invoke, builtin, Sem.run_bind, Sem.run_pure, Result.andThen_ok, List.map_toArray, List.map_cons, List.map_nil, hs, hx, hr]
      exact hK _ _ (h v w (by simpa [ils] using hown) (grown_refl _ _))
    | some ad => exact wpList_append_own _ hgd s x 29 ho base 3 i0 (.int .i64 0) 1 8 Try.underlying29 hi hz0 hz1 hz2 rfl (by decide) v n xs hs hown ad 0 cap (ils ys 0) hx (by rw [ils_length, Nat.mul_one]) (fun j u hu => by cases hu) (ils_one _ _) (by unfold maxLen; omega) (by omega) hbase (fun v' w' h2 h3 _ => h v' w' h2 h3)


/-- Counts, behind k places of a check. -/
def ct2 (Y f : Nat → Int) : Nat → Nat → Int
  | 0 => f
  | k + 1 => fun p => if p = (Y k).toNat then ct2 Y f k p + 1 else ct2 Y f k p

/-- Counts, behind i checks of a list. -/
def ct (ms : Nat → Nat) (X : Nat → Nat → Int) (L : Nat → Int) : Nat → Nat → Int
  | 0 => fun _ => 0
  | i + 1 => ct2 (X (L i).toNat) (ct ms X L i) (ms (L i).toNat)

theorem ct2_lim {Y f : Nat → Int} {C : Int} (h : ∀ p, 0 ≤ f p ∧ f p ≤ C) : ∀ k p, 0 ≤ ct2 Y f k p ∧ ct2 Y f k p ≤ C + (k : Int)
  | 0, p => by have := h p; show 0 ≤ f p ∧ f p ≤ _; omega
  | k + 1, p => by
    have := ct2_lim (Y := Y) h k p
    unfold ct2
    split <;> omega

theorem ct_lim {ms : Nat → Nat} {X : Nat → Nat → Int} {L : Nat → Int} {m : Nat} (h : ∀ i, i < m → ms (L i).toNat ≤ 16) : ∀ i, i ≤ m → ∀ p, 0 ≤ ct ms X L i p ∧ ct ms X L i p ≤ 16 * (i : Int)
  | 0, _, p => by show (0 : Int) ≤ 0 ∧ (0 : Int) ≤ _; omega
  | i + 1, hi, p => by
    have h1 := ct_lim (X := X) h i (by omega)
    have h2 := ct2_lim (Y := X (L i).toNat) h1 (ms (L i).toNat) p
    have h3 := h i (by omega)
    show 0 ≤ ct2 _ _ _ p ∧ ct2 _ _ _ p ≤ _
    omega

/-- The greatest of the first k, and 0. -/
def mx (f : Nat → Int) : Nat → Int
  | 0 => 0
  | k + 1 => if mx f k < f k then f k else mx f k

theorem mx_ge0 (f : Nat → Int) : ∀ k, 0 ≤ mx f k
  | 0 => Int.le_refl _
  | k + 1 => by
    have := mx_ge0 f k
    unfold mx
    split <;> omega

theorem mx_ge {f : Nat → Int} : ∀ {n k : Nat}, k < n → f k ≤ mx f n
  | 0, k, h => absurd h (Nat.not_lt_zero _)
  | n + 1, k, h => by
    unfold mx
    by_cases e : k = n
    · subst e; split <;> omega
    · have := mx_ge (f := f) (n := n) (k := k) (by omega)
      split <;> omega

theorem mx_le {f : Nat → Int} {C : Int} (hC : 0 ≤ C) : ∀ {n : Nat}, (∀ k, k < n → f k ≤ C) → mx f n ≤ C
  | 0, _ => hC
  | n + 1, h => by
    have h1 := mx_le hC (n := n) (fun k hk => h k (by omega))
    have h2 := h n (by omega)
    unfold mx
    split <;> omega

theorem mx_congr {f g : Nat → Int} {n : Nat} (h : ∀ k, k < n → f k = g k) : mx f n = mx g n := by
  induction n with
  | zero => rfl
  | succ n ih => rw [mx, mx, ih (fun k hk => h k (by omega)), h n (by omega)]

theorem mx_put {f : Nat → Int} {n q : Nat} (hq : q < n) (h0 : 0 ≤ f q) : mx (fun p => if p = q then f p + 1 else f p) n = if mx f n < f q + 1 then f q + 1 else mx f n := by
  have a0 := mx_ge0 f n
  have h1 : f q + 1 ≤ mx (fun p => if p = q then f p + 1 else f p) n := by
    have := mx_ge (f := fun p => if p = q then f p + 1 else f p) hq
    rw [if_pos rfl] at this
    exact this
  have h2 : mx f n ≤ mx (fun p => if p = q then f p + 1 else f p) n := mx_le (mx_ge0 _ _) (fun k hk => by
    have := mx_ge (f := fun p => if p = q then f p + 1 else f p) hk
    by_cases e : k = q
    · rw [if_pos e] at this; omega
    · rw [if_neg e] at this; exact this)
  have h3 : mx (fun p => if p = q then f p + 1 else f p) n ≤ if mx f n < f q + 1 then f q + 1 else mx f n := mx_le (by split <;> omega) (fun k hk => by
    have := mx_ge (f := f) hk
    by_cases e : k = q
    · rw [if_pos e, e]; split <;> omega
    · rw [if_neg e]; split <;> omega)
  by_cases hc : mx f n < f q + 1
  · rw [if_pos hc] at h3 ⊢
    exact Int.le_antisymm h3 h1
  · rw [if_neg hc] at h3 ⊢
    exact Int.le_antisymm h3 h2

/-- Bits with the greatest count turned. -/
def trn (f : Nat → Int) (m : Int) (xs : Nat → Int) : Nat → Int := fun p => if f p = m then 1 - xs p else xs p

/-- One round. -/
def nxt (ms : Nat → Nat) (X : Nat → Nat → Int) (M n : Nat) (xs : Nat → Int) : Nat → Int := trn (ct ms X (lf (fls ms X xs M)) (fls ms X xs M).length) (mx (ct ms X (lf (fls ms X xs M)) (fls ms X xs M).length) n) xs

def itr (ms : Nat → Nat) (X : Nat → Nat → Int) (M n : Nat) (xs : Nat → Int) : Nat → Nat → Int
  | 0 => xs
  | i + 1 => nxt ms X M n (itr ms X M n xs i)

theorem itr_bit {ms : Nat → Nat} {X : Nat → Nat → Int} {M n : Nat} {xs : Nat → Int} (h : ∀ k, k < n → Bit (xs k)) : ∀ i k, k < n → Bit (itr ms X M n xs i k)
  | 0, k, hk => h k hk
  | i + 1, k, hk => by
    have := itr_bit h (ms := ms) (X := X) (M := M) i k hk
    show Bit (if _ then 1 - itr ms X M n xs i k else itr ms X M n xs i k)
    split
    · rcases this with e | e
      · right; rw [e]; rfl
      · left; rw [e]; rfl
    · exact this

/-- d rounds are done. -/
structure Std (F : Nat → List Int) (R d : Nat) : Prop where
  le : d ≤ R
  bad : ∀ j, j < d → F j ≠ []
  fin : F d = [] ∨ d = R

theorem std_ex (F : Nat → List Int) : ∀ R, ∃ d, Std F R d
  | 0 => ⟨0, Nat.le_refl _, fun j hj => absurd hj (Nat.not_lt_zero _), .inr rfl⟩
  | R + 1 => by
    obtain ⟨d, h⟩ := std_ex F R
    by_cases e : F d = []
    · exact ⟨d, by have := h.le; omega, h.bad, .inl e⟩
    · have hd : d = R := h.fin.resolve_left e
      subst hd
      refine ⟨d + 1, Nat.le_refl _, fun j hj => ?_, .inr rfl⟩
      by_cases e2 : j = d
      · subst e2; exact e
      · exact h.bad j (by omega)

theorem std_one {F : Nat → List Int} {R d e : Nat} (h : Std F R d) (h' : Std F R e) : d = e := by
  rcases Nat.lt_trichotomy d e with hl | hl | hl
  · have h1 := h'.bad d hl
    have h2 := h'.le
    rcases h.fin with h3 | h3
    · exact absurd h3 h1
    · omega
  · exact hl
  · have h1 := h.bad e hl
    have h2 := h.le
    rcases h'.fin with h3 | h3
    · exact absurd h3 h1
    · omega
end Go.Proofs.Ytnfhnchomiejcaa
