/- QA QB. -/
import Derived.Test.YtddbekacdfohpaaGreatDoorM02
import Derived.Test.YtddbekacdfohpaaGreatDoorM01
import Derived.Laws.AppendOwn
namespace Go.Proofs.YtddbekacdfohpaaGreatDoor
open Go.RowKit

/-- Rows, one value each. -/
def vls (F : Nat → Value) (n : Nat) : List Value := (List.range n).map F
theorem vls_length (F : Nat → Value) (n : Nat) : (vls F n).length = n := by simp [vls]
theorem vls_get {F : Nat → Value} {n k : Nat} (h : k < n) : (vls F n)[k]? = some (F k) := by simp [vls, h]
theorem vls_snoc (F : Nat → Value) (k : Nat) : vls F (k + 1) = vls F k ++ [F k] := by simp [vls, List.range_succ]
theorem vls_congr {F G : Nat → Value} {n : Nat} (h : ∀ k, k < n → F k = G k) : vls F n = vls G n := by
  apply List.ext_getElem?
  intro i
  by_cases hi : i < n
  · rw [vls_get hi, vls_get hi, h i hi]
  · rw [List.getElem?_eq_none (by rw [vls_length]; omega), List.getElem?_eq_none (by rw [vls_length]; omega)]

/-- A row of c, in a block of its own. -/
def rv (gs cs : Nat → Nat) (c i : Nat) : Value := .slice (some ⟨gs i, 0, none⟩) c (cs i)

theorem own_block {w w' : World} {B e s n g c : Nat} {xs : List Value} (h : w.ownsRow B e s (.slice (some ⟨g, 0, none⟩) n c) n xs) (q : w'.heap[g]? = w.heap[g]?) : w'.ownsRow B e s (.slice (some ⟨g, 0, none⟩) n c) n xs := by
  refine ⟨h.1, ?_⟩
  rcases h.2 with h' | ⟨g', cap', cur, h', hb', hg', rest⟩
  · exact .inl h'
  · have e : g = g' := by
      injection h' with e1
      injection e1 with e2
      injection e2
    subst e
    exact .inr ⟨g, cap', cur, h', hb', q.trans hg', rest⟩

theorem own_ltg {w : World} {B e s n g c : Nat} {xs : List Value} (h : w.ownsRow B e s (.slice (some ⟨g, 0, none⟩) n c) n xs) : g < w.heap.size := (World.ownsRow.lt h g rfl).2

theorem own_at {w w' : World} {B e s n : Nat} {v : Value} {xs : List Value} (h : w.ownsRow B e s v n xs) (q : ∀ g, v.ownBlock = some g → w'.heap[g]? = w.heap[g]?) : w'.ownsRow B e s v n xs := by
  refine ⟨h.1, ?_⟩
  rcases h.2 with h' | ⟨g, cap, cur, rfl, hb, hg, rest⟩
  · exact .inl h'
  · exact .inr ⟨g, cap, cur, rfl, hb, (q g rfl).trans hg, rest⟩

theorem Tryz.info24 : (Tryz.prog.info? 24).map (fun i => (i.zero, i.size, i.bytes)) = some (some (.slice none 0 0), 1, 24) := by kernel_rfl

/-- j rows of c pairs each, in blocks of their own, listed in o. -/
structure Pgr (X : World) (B : Nat) (o : Value) (j c : Nat) (gs cs : Nat → Nat) (F : Nat → Nat → Value) : Prop where
  row : X.ownsRow B 24 1 o j (vls (rv gs cs c) j)
  rows : ∀ i, i < j → Ow X B (gs i) c (cs i) (F i)
  inj : ∀ i k, i < j → k < j → gs i = gs k → i = k

/-- A list of rows and a row of pairs never share a block. -/
theorem ty_ne {X : World} {B B' g n n' c' : Nat} {o : Value} {L L' : List Value} (h : X.ownsRow B 24 1 o n L) (h' : X.ownsRow B' 39 2 (.slice (some ⟨g, 0, none⟩) n' c') n' L') : some g ≠ o.ownBlock := by
  intro e
  rcases h.2 with ⟨rfl, _⟩ | ⟨g1, c1, cur1, rfl, _, hg1, _⟩
  · cases e
  · have e1 : g = g1 := by injection e
    subst e1
    rcases h'.2 with ⟨h2, _⟩ | ⟨g2, c2, cur2, e2, _, hg2, _⟩
    · cases h2
    · injection e2 with e3
      injection e3 with e4
      injection e4 with e5
      subst e5
      rw [hg1] at hg2
      injection hg2 with e6
      injection e6 with _ e7
      cases e7

theorem Pgr.keep {X X' : World} {B j c : Nat} {o : Value} {gs cs : Nat → Nat} {F : Nat → Nat → Value} (h : Pgr X B o j c gs cs F) (hb : ∀ g, B ≤ g → g < X.heap.size → X'.heap[g]? = X.heap[g]?) : Pgr X' B o j c gs cs F :=
  ⟨own_at h.row (fun g hg => hb g (World.ownsRow.lt h.row g hg).1 (World.ownsRow.lt h.row g hg).2), fun i hi => own_block (h.rows i hi) (hb _ (World.ownsRow.lt (h.rows i hi) _ rfl).1 (own_ltg (h.rows i hi))), h.inj⟩

theorem Pgr.call {X X' : World} {B j c : Nat} {o : Value} {gs cs : Nat → Nat} {F : Nat → Nat → Value} (h : Pgr X B o j c gs cs F) (hb : Below X.heap.size X X') : Pgr X' B o j c gs cs F := h.keep (fun g _ hl => hb.block g hl)

theorem Pgr.base {X : World} {B B' j c : Nat} {o : Value} {gs cs : Nat → Nat} {F : Nat → Nat → Value} (h : Pgr X B o j c gs cs F) (hB : B' ≤ B) : Pgr X B' o j c gs cs F :=
  ⟨own_base h.row hB, fun i hi => own_base (h.rows i hi) hB, h.inj⟩

theorem Pgr.start (X : World) (c : Nat) (gs cs : Nat → Nat) (F : Nat → Nat → Value) : Pgr (X.alloc (.cells #[] 24)) X.heap.size (.slice (some ⟨X.heap.size, 0, none⟩) 0 0) 0 c gs cs F :=
  ⟨own_empty X 24 1, fun i hi => by omega, fun i k hi => by omega⟩

theorem app_row {X : World} {B j c gr cr : Nat} {o : Value} {gs cs : Nat → Nat} {F : Nat → Nat → Value} {f : Nat → Value} (h : Pgr X B o j c gs cs F) (hr : Ow X B gr c cr f) (hnew : ∀ i, i < j → gs i ≠ gr) (hj : j ≤ 1048576) (hB : B ≤ X.heap.size) :
    ∃ v' w', (Builtin.append_ #[27, 27] 27 #[o, .slice (some ⟨X.heap.size, 0, none⟩) 1 1]).run Tryz.prog (X.alloc (.cells #[.slice (some ⟨gr, 0, none⟩) c cr] 24)) = .ok v' w' ∧
      Pgr w' B v' (j + 1) c (fun i => if i = j then gr else gs i) (fun i => if i = j then cr else cs i) (fun i => if i = j then f else F i) ∧ Below B (X.alloc (.cells #[.slice (some ⟨gr, 0, none⟩) c cr] 24)) w' ∧ (X.alloc (.cells #[.slice (some ⟨gr, 0, none⟩) c cr] 24)).grownBy w' o.ownBlock := by
  obtain ⟨i0, hi, hz0, hz1, hz2⟩ := info_parts Tryz.info24
  have bl := below_one X (.cells #[.slice (some ⟨gr, 0, none⟩) c cr] 24)
  have h1 := own_below h.row bl
  obtain ⟨v', w', ha, ho, hg, _⟩ := run_append_own (P := Tryz.prog) (X.alloc (.cells #[.slice (some ⟨gr, 0, none⟩) c cr] 24)) B 27 27 24 i0 (.slice none 0 0) 1 24 Tryz.underlying27 hi hz0 hz1 hz2 rfl (by decide) o j _ h1 ⟨X.heap.size, 0, none⟩ 1 1 [.slice (some ⟨gr, 0, none⟩) c cr] rfl (one_new X _ 24) (fun u hu => by simp at hu; subst hu; rfl) (by unfold maxLen; omega) (by omega) (Nat.le_trans hB bl.size)
  have hr1 := own_below hr bl
  refine ⟨v', w', ha, ⟨?_, fun i hi => ?_, fun i k hi hk e => ?_⟩, grown_below (Below.refl B _) (Nat.le_trans hB bl.size) h1 hg, hg⟩
  · rw [vls_snoc]
    have e1 : vls (rv (fun i => if i = j then gr else gs i) (fun i => if i = j then cr else cs i) c) j = vls (rv gs cs c) j := vls_congr fun i hi => by
      show Value.slice (some ⟨if i = j then gr else gs i, 0, none⟩) c (if i = j then cr else cs i) = _
      rw [if_neg (by omega), if_neg (by omega)]
      rfl
    have e2 : rv (fun i => if i = j then gr else gs i) (fun i => if i = j then cr else cs i) c j = .slice (some ⟨gr, 0, none⟩) c cr := by
      show Value.slice (some ⟨if j = j then gr else gs j, 0, none⟩) c (if j = j then cr else cs j) = _
      rw [if_pos rfl, if_pos rfl]
    rw [e1, e2]
    exact ho
  · by_cases e : i = j
    · subst e
      show Ow w' B (if i = i then gr else gs i) c (if i = i then cr else cs i) (if i = i then f else F i)
      rw [if_pos rfl, if_pos rfl, if_pos rfl]
      exact own_block hr1 (hg.block _ (own_ltg hr1) (ty_ne h1 hr1))
    · show Ow w' B (if i = j then gr else gs i) c (if i = j then cr else cs i) (if i = j then f else F i)
      rw [if_neg e, if_neg e, if_neg e]
      have q := own_below (h.rows i (by omega)) bl
      exact own_block q (hg.block _ (own_ltg q) (ty_ne h1 q))
  · by_cases e1 : i = j
    · by_cases e2 : k = j
      · omega
      · simp only [if_pos e1, if_neg e2] at e
        exact absurd e.symm (hnew k (by omega))
    · by_cases e2 : k = j
      · simp only [if_neg e1, if_pos e2] at e
        exact absurd e (hnew i (by omega))
      · simp only [if_neg e1, if_neg e2] at e
        exact h.inj i k (by omega) (by omega) e

theorem wpList_appr {w w' : World} {v xv v' : Value} {ops : Array Oper} {rest : List Oper} {o : Oper} {a : Act} {Q : Exit → Act → World → Prop} (hw : Region.wanted o (yielded ops a.tmps) = true) (s x : Operand)
    (ho : o.op = .call { callee := .builtin .append, args := #[s, x], argTypes := #[27, 27] }) (hty : o.type = 27) (hs : a.eval s = v) (hx : a.eval x = xv) (hr : (Builtin.append_ #[27, 27] 27 #[v, xv]).run Tryz.prog w = .ok v' w') (h : wpList Tryz.prog ops Q rest (a.put o.dst v') w') : wpList Tryz.prog ops Q (o :: rest) a w := by
  refine wpList_step fun K hK => ?_
  simp only [hw, if_true]
  unfold Oper.wp execOp
  simp only [ho, resolve, invoke, builtin, Sem.run_bind, Sem.run_pure, Result.andThen_ok, List.map_toArray, List.map_cons, List.map_nil, hs, hx, hty, hr]
  exact hK _ _ h

/-- The slice holds n lists of c pairs. -/
def Fpp (w : World) (v : Value) (n c : Nat) (X Y : Nat → Nat → Nat) : Prop := ∃ ao cap, v = .slice ao n cap ∧ n ≤ cap ∧ (0 < n → ∃ b off, ∃ R : Nat → Value, ao = some ⟨b, off, none⟩ ∧ b < w.heap.size ∧ ∀ k, k < n → w.cell? ⟨b, off + k, none⟩ = some (R k) ∧ Fp w (R k) c (X k) (Y k))

theorem Fpp.below {w w' : World} {v : Value} {n c : Nat} {X Y : Nat → Nat → Nat} (h : Fpp w v n c X Y) (hb : Below w.heap.size w w') : Fpp w' v n c X Y := by
  obtain ⟨ao, cap, rfl, hcap, hc⟩ := h
  refine ⟨ao, cap, rfl, hcap, fun h0 => ?_⟩
  obtain ⟨b, off, R, rfl, hlt, hcell⟩ := hc h0
  exact ⟨b, off, R, rfl, Nat.lt_of_lt_of_le hlt hb.size, fun k hk => ⟨(hb.cell (p := ⟨b, off + k, none⟩) hlt).trans (hcell k hk).1, (hcell k hk).2.below hb⟩⟩

theorem Pgr.open {X : World} {B n c : Nat} {o : Value} {gs cs : Nat → Nat} {F : Nat → Nat → Value} (h : Pgr X B o n c gs cs F) : ∃ ao cap, o = .slice ao n cap ∧ n ≤ cap ∧ (0 < n → ∃ g, ao = some ⟨g, 0, none⟩) := by
  rcases h.row.2 with ⟨rfl, rfl⟩ | ⟨g, cap, cur, rfl, _, _, hc, _⟩
  · exact ⟨none, 0, rfl, Nat.le_refl _, fun h => by omega⟩
  · exact ⟨_, cap, rfl, hc, fun _ => ⟨g, rfl⟩⟩

theorem Pgr.at {X : World} {B n c g cap : Nat} {gs cs : Nat → Nat} {F : Nat → Nat → Value} (h : Pgr X B (.slice (some ⟨g, 0, none⟩) n cap) n c gs cs F) {i : Nat} (hi : i < n) : X.cell? ⟨g, i, none⟩ = some (rv gs cs c i) := by
  rw [World.ownsRow.cellAt h.row i (by omega), vls_get hi]

theorem ow_cap {w : World} {B g n cap : Nat} {f : Nat → Value} (h : Ow w B g n cap f) : n ≤ cap := by
  rcases h.2 with ⟨h', _⟩ | ⟨g', cap', cur, h', _, _, hc, _⟩
  · cases h'
  · injection h' with _ _ e
    omega

/-- What the cells of the rows hold. -/
def Hld (n c : Nat) (F : Nat → Nat → Value) (X Y : Nat → Nat → Nat) : Prop := ∀ i, i < n → ∀ k, k < c → F i (k * 2) = .float .f64 (X i k) ∧ F i (k * 2 + 1) = .float .f64 (Y i k)

theorem Pgr.fpp {w : World} {B n c : Nat} {o : Value} {gs cs : Nat → Nat} {F : Nat → Nat → Value} {X Y : Nat → Nat → Nat} (h : Pgr w B o n c gs cs F) (hX : Hld n c F X Y) : Fpp w o n c X Y := by
  obtain ⟨ao, cap, rfl, hcap, ha⟩ := h.open
  refine ⟨ao, cap, rfl, hcap, fun h0 => ?_⟩
  obtain ⟨g, rfl⟩ := ha h0
  refine ⟨g, 0, rv gs cs c, rfl, (World.ownsRow.lt h.row g rfl).2, fun k hk => ⟨by rw [Nat.zero_add]; exact h.at hk, ?_⟩⟩
  refine ⟨_, _, rfl, ow_cap (h.rows k hk), fun _ => ⟨gs k, 0, rfl, own_ltg (h.rows k hk), fun q hq => ?_⟩⟩
  rw [Nat.zero_add, (h.rows k hk).cell (by omega), (h.rows k hk).cell (by omega), (hX k hk q hq).1, (hX k hk q hq).2]
  exact ⟨rfl, rfl⟩

/-- What marks from K on stand in a row. -/
def MkK (K : Int) (f : Nat → Value) (n : Nat) : Prop := ∀ i, i < n → f (i * 2) = .float .f64 (fk (K + 2 * (i : Int))) ∧ f (i * 2 + 1) = .float .f64 (fk (K + 2 * (i : Int) + 1))

end Go.Proofs.YtddbekacdfohpaaGreatDoor

namespace Go.Proofs.YtddbekacdfohpaaGreatDoor
open Go.RowKit

/-- How many marks stand ahead of row k. -/
def mkq (c : Nat) (_ q : Nat) (F : Nat → Nat → Value) : Prop := ∀ k, k < q → MkK (1 + 2 * (((k * c : Nat)) : Int)) (F k) c

end Go.Proofs.YtddbekacdfohpaaGreatDoor
