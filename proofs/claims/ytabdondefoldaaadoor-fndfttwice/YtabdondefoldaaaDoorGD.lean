/- Rows that grow, one behind the other. -/
import Derived.Test.YtabdondefoldaaaDoorGC
import Derived.Laws.AppendOwn
namespace Go.Proofs.YtabdondefoldaaaDoor
open Go.RowKit

/-- j rows of c numbers each, in blocks of their own, listed in o. -/
structure Rgr (X : World) (B : Nat) (o : Value) (j c : Nat) (gs cs : Nat → Nat) (M : Nat → Nat → Int) : Prop where
  row : X.ownsRow B 29 1 o j (vls (rv gs cs c) j)
  rows : ∀ i, i < j → X.ownsRow B 3 1 (rv gs cs c i) c (ils (M i) c)
  inj : ∀ i k, i < j → k < j → gs i = gs k → i = k

/-- A list of rows and a row of numbers never share a block. -/
theorem ty_ne {X : World} {B B' g n n' c' : Nat} {o : Value} {L L' : List Value} (h : X.ownsRow B 29 1 o n L) (h' : X.ownsRow B' 3 1 (.slice (some ⟨g, 0, none⟩) n' c') n' L') : some g ≠ o.ownBlock := by
  intro e
  rcases h.2 with ⟨rfl, _⟩ | ⟨g1, c1, cur1, rfl, _, hg1, _⟩
  · cases e
  · have e1 : g = g1 := by injection e
    subst e1
    rcases h'.2 with ⟨h2, _⟩ | ⟨g2, c2, cur2, e2, _, hg2, _⟩
    · cases h2
    · injection e2 with e3
      injection e3 with e4
      injection e4 with e5
      subst e5
      rw [hg1] at hg2
      injection hg2 with e6
      injection e6 with _ e7
      cases e7

theorem vls_snoc (F : Nat → Value) (k : Nat) : vls F (k + 1) = vls F k ++ [F k] := by simp [vls, List.range_succ]

theorem Rgr.call {X X' : World} {B j c : Nat} {o : Value} {gs cs : Nat → Nat} {M : Nat → Nat → Int} (h : Rgr X B o j c gs cs M) (hb : Below X.heap.size X X') : Rgr X' B o j c gs cs M :=
  ⟨own_below h.row hb, fun i hi => own_block (h.rows i hi) (hb.block _ (own_ltg (h.rows i hi))), h.inj⟩

theorem Rgr.start (X : World) (c : Nat) (gs cs : Nat → Nat) (M : Nat → Nat → Int) : Rgr (X.alloc (.cells #[] 29)) X.heap.size (.slice (some ⟨X.heap.size, 0, none⟩) 0 0) 0 c gs cs M :=
  ⟨own_empty X 29 1, fun i hi => by omega, fun i k hi => by omega⟩

theorem app_row {X : World} {B j c gr cr : Nat} {o : Value} {gs cs : Nat → Nat} {M : Nat → Nat → Int} {F : Nat → Int} (h : Rgr X B o j c gs cs M) (hr : X.ownsRow B 3 1 (.slice (some ⟨gr, 0, none⟩) c cr) c (ils F c)) (hnew : ∀ i, i < j → gs i ≠ gr) (hj : j ≤ 1048576) (hB : B ≤ X.heap.size) :
    ∃ v' w', (Builtin.append_ #[24, 24] 24 #[o, .slice (some ⟨X.heap.size, 0, none⟩) 1 1]).run Tryd.prog (X.alloc (.cells #[.slice (some ⟨gr, 0, none⟩) c cr] 29)) = .ok v' w' ∧
      Rgr w' B v' (j + 1) c (fun i => if i = j then gr else gs i) (fun i => if i = j then cr else cs i) (fun i => if i = j then F else M i) ∧ (X.alloc (.cells #[.slice (some ⟨gr, 0, none⟩) c cr] 29)).grownBy w' o.ownBlock := by
  obtain ⟨i0, hi, hz0, hz1, hz2⟩ := info_parts Tryd.info29
  have bl := below_one X (.cells #[.slice (some ⟨gr, 0, none⟩) c cr] 29)
  have h1 := own_below h.row bl
  obtain ⟨v', w', ha, ho, hg, _⟩ := run_append_own (P := Tryd.prog) (X.alloc (.cells #[.slice (some ⟨gr, 0, none⟩) c cr] 29)) B 24 24 29 i0 (.slice none 0 0) 1 24 Tryd.underlying24 hi hz0 hz1 hz2 rfl (by decide) o j _ h1 ⟨X.heap.size, 0, none⟩ 1 1 [.slice (some ⟨gr, 0, none⟩) c cr] rfl (one_new X _ 29) (fun u hu => by simp at hu; subst hu; rfl) (by unfold maxLen; omega) (by omega) (Nat.le_trans hB bl.size)
  have hr1 := own_below hr bl
  refine ⟨v', w', ha, ⟨?_, fun i hi => ?_, fun i k hi hk e => ?_⟩, hg⟩
  · rw [vls_snoc]
    have e1 : vls (rv (fun i => if i = j then gr else gs i) (fun i => if i = j then cr else cs i) c) j = vls (rv gs cs c) j := vls_congr fun i hi => by
      show Value.slice (some ⟨if i = j then gr else gs i, 0, none⟩) c (if i = j then cr else cs i) = _
      rw [if_neg (by omega), if_neg (by omega)]
    have e2 : rv (fun i => if i = j then gr else gs i) (fun i => if i = j then cr else cs i) c j = .slice (some ⟨gr, 0, none⟩) c cr := by
      show Value.slice (some ⟨if j = j then gr else gs j, 0, none⟩) c (if j = j then cr else cs j) = _
      rw [if_pos rfl, if_pos rfl]
    rw [e1, e2]
    exact ho
  · by_cases e : i = j
    · subst e
      show w'.ownsRow B 3 1 (.slice (some ⟨if i = i then gr else gs i, 0, none⟩) c (if i = i then cr else cs i)) c (ils (if i = i then F else M i) c)
      rw [if_pos rfl, if_pos rfl, if_pos rfl]
      exact own_block hr1 (hg.block _ (own_ltg hr1) (ty_ne h1 hr1))
    · show w'.ownsRow B 3 1 (.slice (some ⟨if i = j then gr else gs i, 0, none⟩) c (if i = j then cr else cs i)) c (ils (if i = j then F else M i) c)
      rw [if_neg e, if_neg e, if_neg e]
      have q := own_below (h.rows i (by omega)) bl
      exact own_block q (hg.block _ (own_ltg q) (ty_ne h1 q))
  · by_cases e1 : i = j
    · by_cases e2 : k = j
      · omega
      · simp only [if_pos e1, if_neg e2] at e
        exact absurd e.symm (hnew k (by omega))
    · by_cases e2 : k = j
      · simp only [if_neg e1, if_pos e2] at e
        exact absurd e (hnew i (by omega))
      · simp only [if_neg e1, if_neg e2] at e
        exact h.inj i k (by omega) (by omega) e

/-- Grown to its end it is a row of rows. -/
theorem Rgr.rws {X : World} {B n c : Nat} {o : Value} {gs cs : Nat → Nat} {M : Nat → Nat → Int} (h : Rgr X B o n c gs cs M) (hn : 1 ≤ n) : ∃ g cap, o = .slice (some ⟨g, 0, none⟩) n cap ∧ Rws X B g n cap c gs cs M := by
  rcases h.row.2 with ⟨_, h0⟩ | ⟨g, cap, cur, rfl, _⟩
  · omega
  · exact ⟨g, cap, rfl, h.row, h.rows, h.inj, fun i hi e => ty_ne h.row (h.rows i hi) (by rw [e]; rfl)⟩

theorem wpList_appr {w w' : World} {v xv v' : Value} {ops : Array Oper} {rest : List Oper} {o : Oper} {a : Act} {Q : Exit → Act → World → Prop} (hw : Region.wanted o (yielded ops a.tmps) = true) (s x : Operand)
    (ho : o.op = .call { callee := .builtin .append, args := #[s, x], argTypes := #[24, 24] }) (hty : o.type = 24) (hs : a.eval s = v) (hx : a.eval x = xv) (hr : (Builtin.append_ #[24, 24] 24 #[v, xv]).run Tryd.prog w = .ok v' w') (h : wpList Tryd.prog ops Q rest (a.put o.dst v') w') : wpList Tryd.prog ops Q (o :: rest) a w := by
  refine wpList_step fun K hK => ?_
  simp only [hw, if_true]
  unfold Oper.wp execOp
  simp only [ho, resolve, invoke, builtin, Sem.run_bind, Sem.run_pure, Result.andThen_ok, List.map_toArray, List.map_cons, List.map_nil, hs, hx, hty, hr]
  exact hK _ _ h
end Go.Proofs.YtabdondefoldaaaDoor
