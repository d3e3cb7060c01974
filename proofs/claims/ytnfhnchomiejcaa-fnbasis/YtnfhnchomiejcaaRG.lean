/- Rows of ints in blocks of their own. -/
import Derived.Test.YtnfhnchomiejcaaBP
import Derived.Test.YtnfhnchomiejcaaRT
import Derived.Test.YtnfhnchomiejcaaAP
namespace Go.Proofs.Ytnfhnchomiejcaa
open Go.RowKit

/-- Of what was there nothing but the blocks D has turned. -/
structure Kdd (D : Nat → Prop) (w w' : World) : Prop where
  os : w'.os = w.os
  tape : w'.tape = w.tape
  output : w'.output = w.output
  size : w.heap.size ≤ w'.heap.size
  block : ∀ k, k < w.heap.size → ¬ D k → w'.heap[k]? = w.heap[k]?

theorem Kdd.refl (D : Nat → Prop) (w : World) : Kdd D w w := ⟨rfl, rfl, rfl, Nat.le_refl _, fun _ _ _ => rfl⟩

theorem Kdd.put {D : Nat → Prop} {g : Nat} {w w' : World} (h : Kdd D w w') (hg : D g) (j : Nat) (u : Value) : Kdd D w (w'.setCell ⟨g, j, none⟩ u) :=
  ⟨h.os, h.tape, h.output, by simpa [World.setCell] using h.size, fun k hk hd => (Below.heap_setCell _ _ _ _ (fun e => hd (by rw [e]; exact hg))).trans (h.block k hk hd)⟩

theorem Kdd.drew {D : Nat → Prop} {w w' : World} (h : Kdd D w w') : Kdd D w w'.drew := ⟨h.os, h.tape, h.output, h.size, h.block⟩

theorem Kdd.below {D : Nat → Prop} {w w1 w2 : World} (h : Kdd D w w1) (hb : Below w1.heap.size w1 w2) : Kdd D w w2 :=
  ⟨hb.os.trans h.os, hb.tape.trans h.tape, hb.output.trans h.output, Nat.le_trans h.size hb.size, fun k hk hd => (hb.block k (Nat.lt_of_lt_of_le hk h.size)).trans (h.block k hk hd)⟩

theorem Kdd.trans {D : Nat → Prop} {w w1 w2 : World} (h : Kdd D w w1) (h' : Kdd D w1 w2) : Kdd D w w2 :=
  ⟨h'.os.trans h.os, h'.tape.trans h.tape, h'.output.trans h.output, Nat.le_trans h.size h'.size, fun k hk hd => (h'.block k (Nat.lt_of_lt_of_le hk h.size) hd).trans (h.block k hk hd)⟩

theorem Kdd.cell {D : Nat → Prop} {w w' : World} (h : Kdd D w w') {b o : Nat} (hb : b < w.heap.size) (hd : ¬ D b) : w'.cell? ⟨b, o, none⟩ = w.cell? ⟨b, o, none⟩ := by
  unfold World.cell?
  rw [h.block b hb hd]

/-- Values, one after the other. -/
def vls (F : Nat → Value) (n : Nat) : List Value := (List.range n).map F

theorem vls_length (F : Nat → Value) (n : Nat) : (vls F n).length = n := by simp [vls]

theorem vls_get {F : Nat → Value} {n k : Nat} (h : k < n) : (vls F n)[k]? = some (F k) := by simp [vls, h]

/-- A slice of c numbers at the front of block g. -/
abbrev rv (gs cs : Nat → Nat) (c i : Nat) : Value := .slice (some ⟨gs i, 0, none⟩) c (cs i)

theorem own_block {w w' : World} {B e s n g c : Nat} {xs : List Value} (h : w.ownsRow B e s (.slice (some ⟨g, 0, none⟩) n c) n xs) (q : w'.heap[g]? = w.heap[g]?) : w'.ownsRow B e s (.slice (some ⟨g, 0, none⟩) n c) n xs := by
  refine ⟨h.1, ?_⟩
  rcases h.2 with h' | ⟨g', cap', cur, h', hb', hg', rest⟩
  · exact .inl h'
  · have e : g = g' := by
      injection h' with e1
      injection e1 with e2
      injection e2
    subst e
    exact .inr ⟨g, cap', cur, h', hb', q.trans hg', rest⟩

theorem own_ltg {w : World} {B e s n g c : Nat} {xs : List Value} (h : w.ownsRow B e s (.slice (some ⟨g, 0, none⟩) n c) n xs) : g < w.heap.size := (World.ownsRow.lt h g rfl).2

theorem vls_put (F : Nat → Value) (n j : Nat) (y : Value) : (vls F n).set j y = vls (fun i => if i = j then y else F i) n := by
  apply List.ext_getElem?
  intro i
  by_cases hi : i < n
  · by_cases e : i = j
    · subst e
      rw [List.getElem?_set_self (by rw [vls_length]; exact hi), vls_get hi, if_pos rfl]
    · rw [List.getElem?_set_ne (fun h => e h.symm), vls_get hi, vls_get hi, if_neg e]
  · rw [List.getElem?_eq_none (by rw [List.length_set, vls_length]; omega), List.getElem?_eq_none (by rw [vls_length]; omega)]

theorem vls_congr {F G : Nat → Value} {n : Nat} (h : ∀ k, k < n → F k = G k) : vls F n = vls G n := by
  apply List.ext_getElem?
  intro i
  by_cases hi : i < n
  · rw [vls_get hi, vls_get hi, h i hi]
  · rw [List.getElem?_eq_none (by rw [vls_length]; omega), List.getElem?_eq_none (by rw [vls_length]; omega)]

theorem own_at {w w' : World} {B e s n : Nat} {v : Value} {xs : List Value} (h : w.ownsRow B e s v n xs) (q : ∀ g, v.ownBlock = some g → w'.heap[g]? = w.heap[g]?) : w'.ownsRow B e s v n xs := by
  refine ⟨h.1, ?_⟩
  rcases h.2 with h' | ⟨g, cap, cur, rfl, hb, hg, rest⟩
  · exact .inl h'
  · exact .inr ⟨g, cap, cur, rfl, hb, (q g rfl).trans hg, rest⟩

/-- j rows of c numbers each, in blocks of their own, listed in o. -/
structure Rgr (X : World) (B : Nat) (o : Value) (j c : Nat) (gs cs : Nat → Nat) (M : Nat → Nat → Int) : Prop where
  row : X.ownsRow B 29 1 o j (vls (rv gs cs c) j)
  rows : ∀ i, i < j → X.ownsRow B 3 1 (rv gs cs c i) c (ils (M i) c)
  inj : ∀ i k, i < j → k < j → gs i = gs k → i = k

/-- A list of rows and a row of numbers never share a block. -/
theorem ty_ne {X : World} {B B' g n n' c' : Nat} {o : Value} {L L' : List Value} (h : X.ownsRow B 29 1 o n L) (h' : X.ownsRow B' 3 1 (.slice (some ⟨g, 0, none⟩) n' c') n' L') : some g ≠ o.ownBlock := by
  intro e
  rcases h.2 with ⟨rfl, _⟩ | ⟨g1, c1, cur1, rfl, _, hg1, _⟩
  · cases e
  · have e1 : g = g1 := by injection e
    subst e1
    rcases h'.2 with ⟨h2, _⟩ | ⟨g2, c2, cur2, e2, _, hg2, _⟩
    · cases h2
    · injection e2 with e3
      injection e3 with e4
      injection e4 with e5
      subst e5
      rw [hg1] at hg2
      injection hg2 with e6
      injection e6 with _ e7
      cases e7

theorem vls_snoc (F : Nat → Value) (k : Nat) : vls F (k + 1) = vls F k ++ [F k] := by simp [vls, List.range_succ]

theorem Rgr.call {X X' : World} {B j c : Nat} {o : Value} {gs cs : Nat → Nat} {M : Nat → Nat → Int} (h : Rgr X B o j c gs cs M) (hb : Below X.heap.size X X') : Rgr X' B o j c gs cs M :=
  ⟨own_below h.row hb, fun i hi => own_block (h.rows i hi) (hb.block _ (own_ltg (h.rows i hi))), h.inj⟩

theorem Rgr.start (X : World) (c : Nat) (gs cs : Nat → Nat) (M : Nat → Nat → Int) : Rgr (X.alloc (.cells #[] 29)) X.heap.size (.slice (some ⟨X.heap.size, 0, none⟩) 0 0) 0 c gs cs M :=
  ⟨own_empty X 29 1, fun i hi => by omega, fun i k hi => by omega⟩

theorem app_row {X : World} {B j c gr cr : Nat} {o : Value} {gs cs : Nat → Nat} {M : Nat → Nat → Int} {F : Nat → Int} (h : Rgr X B o j c gs cs M) (hr : X.ownsRow B 3 1 (.slice (some ⟨gr, 0, none⟩) c cr) c (ils F c)) (hnew : ∀ i, i < j → gs i ≠ gr) (hj : j ≤ 1048576) (hB : B ≤ X.heap.size) :
    ∃ v' w', (Builtin.append_ #[24, 24] 24 #[o, .slice (some ⟨X.heap.size, 0, none⟩) 1 1]).run Try.prog (X.alloc (.cells #[.slice (some ⟨gr, 0, none⟩) c cr] 29)) = .ok v' w' ∧
      Rgr w' B v' (j + 1) c (fun i => if i = j then gr else gs i) (fun i => if i = j then cr else cs i) (fun i => if i = j then F else M i) ∧ (X.alloc (.cells #[.slice (some ⟨gr, 0, none⟩) c cr] 29)).grownBy w' o.ownBlock := by
  obtain ⟨i0, hi, hz0, hz1, hz2⟩ := info_parts Try.info29
  have bl := below_one X (.cells #[.slice (some ⟨gr, 0, none⟩) c cr] 29)
  have h1 := own_below h.row bl
  obtain ⟨v', w', ha, ho, hg, _⟩ := run_append_own (P := Try.prog) (X.alloc (.cells #[.slice (some ⟨gr, 0, none⟩) c cr] 29)) B 24 24 29 i0 (.slice none 0 0) 1 24 Try.underlying24 hi hz0 hz1 hz2 rfl (by decide) o j _ h1 ⟨X.heap.size, 0, none⟩ 1 1 [.slice (some ⟨gr, 0, none⟩) c cr] rfl (one_new X _ 29) (fun u hu => by simp at hu; subst hu; rfl) (by unfold maxLen; omega) (by omega) (Nat.le_trans hB bl.size)
  have hr1 := own_below hr bl
  refine ⟨v', w', ha, ⟨?_, fun i hi => ?_, fun i k hi hk e => ?_⟩, hg⟩
  · rw [vls_snoc]
    have e1 : vls (rv (fun i => if i = j then gr else gs i) (fun i => if i = j then cr else cs i) c) j = vls (rv gs cs c) j := vls_congr fun i hi => by
      show Value.slice (some ⟨if i = j then gr else gs i, 0, none⟩) c (if i = j then cr else cs i) = _
      rw [if_neg (by omega), if_neg (by omega)]
    have e2 : rv (fun i => if i = j then gr else gs i) (fun i => if i = j then cr else cs i) c j = .slice (some ⟨gr, 0, none⟩) c cr := by
      show Value.slice (some ⟨if j = j then gr else gs j, 0, none⟩) c (if j = j then cr else cs j) = _
      rw [if_pos rfl, if_pos rfl]
    rw [e1, e2]
    exact ho
  · by_cases e : i = j
    · subst e
      show w'.ownsRow B 3 1 (.slice (some ⟨if i = i then gr else gs i, 0, none⟩) c (if i = i then cr else cs i)) c (ils (if i = i then F else M i) c)
      rw [if_pos rfl, if_pos rfl, if_pos rfl]
      exact own_block hr1 (hg.block _ (own_ltg hr1) (ty_ne h1 hr1))
    · show w'.ownsRow B 3 1 (.slice (some ⟨if i = j then gr else gs i, 0, none⟩) c (if i = j then cr else cs i)) c (ils (if i = j then F else M i) c)
      rw [if_neg e, if_neg e, if_neg e]
      have q := own_below (h.rows i (by omega)) bl
      exact own_block q (hg.block _ (own_ltg q) (ty_ne h1 q))
  · by_cases e1 : i = j
    · by_cases e2 : k = j
      · omega
      · simp only [if_pos e1, if_neg e2] at e
        exact absurd e.symm (hnew k (by omega))
    · by_cases e2 : k = j
      · simp only [if_neg e1, if_pos e2] at e
        exact absurd e (hnew i (by omega))
      · simp only [if_neg e1, if_neg e2] at e
        exact h.inj i k (by omega) (by omega) e

theorem wpList_appr {w w' : World} {v xv v' : Value} {ops : Array Oper} {rest : List Oper} {o : Oper} {a : Act} {Q : Exit → Act → World → Prop} (hw : Region.wanted o (yielded ops a.tmps) = true) (s x : Operand)
    (ho : o.op = .call { callee := .builtin .append, args := #[s, x], argTypes := #[24, 24] }) (hty : o.type = 24) (hs : a.eval s = v) (hx : a.eval x = xv) (hr : (Builtin.append_ #[24, 24] 24 #[v, xv]).run Try.prog w = .ok v' w') (h : wpList Try.prog ops Q rest (a.put o.dst v') w') : wpList Try.prog ops Q (o :: rest) a w := by
  refine wpList_step fun K hK => ?_
  simp only [hw, if_true]
  unfold Oper.wp execOp
  simp only [ho, resolve, invoke, builtin, Sem.run_bind, Sem.run_pure, Result.andThen_ok, List.map_toArray, List.map_cons, List.map_nil, hs, hx, hty, hr]
  exact hK _ _ h

theorem Rgr.congr {X : World} {B j c : Nat} {o : Value} {gs cs : Nat → Nat} {M M' : Nat → Nat → Int} (h : Rgr X B o j c gs cs M) (e : ∀ i, i < j → M i = M' i) : Rgr X B o j c gs cs M' :=
  ⟨h.row, fun i hi => by rw [← e i hi]; exact h.rows i hi, h.inj⟩

theorem Rgr.gs_lt {X : World} {B j c : Nat} {o : Value} {gs cs : Nat → Nat} {M : Nat → Nat → Int} (h : Rgr X B o j c gs cs M) {i : Nat} (hi : i < j) : gs i < X.heap.size := own_ltg (h.rows i hi)

theorem Rgr.open {X : World} {B n c : Nat} {o : Value} {gs cs : Nat → Nat} {M : Nat → Nat → Int} (h : Rgr X B o n c gs cs M) : ∃ ao cap, o = .slice ao n cap ∧ n ≤ cap ∧ (0 < n → ∃ g, ao = some ⟨g, 0, none⟩) := by
  rcases h.row.2 with ⟨rfl, rfl⟩ | ⟨g, cap, cur, rfl, _, _, hc, _⟩
  · exact ⟨none, 0, rfl, Nat.le_refl _, fun h => by omega⟩
  · exact ⟨_, cap, rfl, hc, fun _ => ⟨g, rfl⟩⟩

theorem Rgr.at {X : World} {B n c g cap : Nat} {gs cs : Nat → Nat} {M : Nat → Nat → Int} (h : Rgr X B (.slice (some ⟨g, 0, none⟩) n cap) n c gs cs M) {i : Nat} (hi : i < n) : X.cell? ⟨g, i, none⟩ = some (rv gs cs c i) := by
  rw [World.ownsRow.cellAt h.row i (by omega), vls_get hi]

theorem Rgr.ipp {X : World} {B n c : Nat} {o : Value} {gs cs : Nat → Nat} {M : Nat → Nat → Int} (h : Rgr X B o n c gs cs M) : Ipp X o n (fun _ => c) M := by
  obtain ⟨ao, cap, rfl, hcap, ha⟩ := h.open
  refine ⟨ao, cap, rfl, hcap, fun h0 => ?_⟩
  obtain ⟨g, rfl⟩ := ha h0
  exact ⟨g, 0, rv gs cs c, rfl, (World.ownsRow.lt h.row g rfl).2, fun k hk => ⟨by rw [Nat.zero_add]; exact h.at hk, il_of_own (h.rows k hk)⟩⟩

theorem Rgr.rng {w w' : World} {B H C n c : Nat} {o : Value} {gs cs : Nat → Nat} {M : Nat → Nat → Int} (h : Rgr w C o n c gs cs M) (hr : Rng B H w w') (hH : H ≤ C) : Rgr w' C o n c gs cs M :=
  ⟨hr.own h.row hH, fun i hi => hr.own (h.rows i hi) hH, h.inj⟩


theorem Rgr.cong2 {X : World} {B j c : Nat} {o : Value} {gs cs : Nat → Nat} {M M' : Nat → Nat → Int} (h : Rgr X B o j c gs cs M) (e : ∀ i t, i < j → t < c → M i t = M' i t) : Rgr X B o j c gs cs M' :=
  ⟨h.row, fun i hi => by rw [← ils_congr (fun t ht => e i t hi ht)]; exact h.rows i hi, h.inj⟩

/-- One number of one row. -/
theorem Rgr.put {X : World} {B n c : Nat} {o : Value} {gs cs : Nat → Nat} {M : Nat → Nat → Int} (h : Rgr X B o n c gs cs M) {i : Nat} (hi : i < n) (k : Nat) (y : Int) :
    Rgr (X.setCell ⟨gs i, k, none⟩ (.int .i64 y)) B o n c gs cs (fun j t => if j = i ∧ t = k then y else M j t) := by
  refine ⟨own_at h.row (fun b hb => Below.heap_setCell _ _ _ _ (fun e => ?_)), fun j hj => ?_, h.inj⟩
  · exact ty_ne h.row (h.rows i hi) (by rw [hb]; exact congrArg some e.symm)
  · by_cases e : j = i
    · subst e
      have := ((h.rows j hj).stored k (.int .i64 y)).1
      rw [ils_put] at this
      rw [ils_congr (g := fun t => if t = k then y else M j t) (fun t _ => by
        by_cases e : t = k
        · rw [if_pos ⟨rfl, e⟩, if_pos e]
        · rw [if_neg (fun q => e q.2), if_neg e])]
      exact this
    · rw [ils_congr (g := M j) (fun t _ => if_neg (fun q => e q.1))]
      exact own_block (h.rows j hj) (Below.heap_setCell _ _ _ _ (fun q => e (h.inj j i hj hi q)))

theorem Rgr.swap {X : World} {B g n cap c a p : Nat} {gs cs : Nat → Nat} {M : Nat → Nat → Int} (h : Rgr X B (.slice (some ⟨g, 0, none⟩) n cap) n c gs cs M) (ha : a < n) (hp : p < n) :
    Rgr ((X.setCell ⟨g, p, none⟩ (rv gs cs c a)).setCell ⟨g, a, none⟩ (rv gs cs c p)) B (.slice (some ⟨g, 0, none⟩) n cap) n c (fun i => if i = a then gs p else if i = p then gs a else gs i) (fun i => if i = a then cs p else if i = p then cs a else cs i) (swp M a p) := by
  have hne : ∀ i, i < n → gs i ≠ g := fun i hi e => ty_ne h.row (h.rows i hi) (by rw [e]; rfl)
  have r1 := (h.row.stored p (rv gs cs c a)).1
  have r2 := (r1.stored a (rv gs cs c p)).1
  rw [vls_put, vls_put] at r2
  have each : ∀ i, i < n → ((X.setCell ⟨g, p, none⟩ (rv gs cs c a)).setCell ⟨g, a, none⟩ (rv gs cs c p)).ownsRow B 3 1 (rv gs cs c i) c (ils (M i) c) := fun i hi => own_block (h.rows i hi) ((Below.heap_setCell _ _ _ _ (hne i hi)).trans (Below.heap_setCell _ _ _ _ (hne i hi)))
  refine ⟨?_, fun i hi => ?_, fun i k hi hk e => ?_⟩
  · rw [vls_congr (G := fun i => if i = a then rv gs cs c p else if i = p then rv gs cs c a else rv gs cs c i) (fun i _ => ?_)]
    · exact r2
    · show Value.slice (some ⟨if i = a then gs p else if i = p then gs a else gs i, 0, none⟩) c (if i = a then cs p else if i = p then cs a else cs i) = _
      by_cases e1 : i = a
      · rw [if_pos e1, if_pos e1, if_pos e1]
      · rw [if_neg e1, if_neg e1, if_neg e1]
        by_cases e2 : i = p
        · rw [if_pos e2, if_pos e2, if_pos e2]
        · rw [if_neg e2, if_neg e2, if_neg e2]
  · show World.ownsRow _ B 3 1 (.slice (some ⟨if i = a then gs p else if i = p then gs a else gs i, 0, none⟩) c (if i = a then cs p else if i = p then cs a else cs i)) c (ils (swp M a p i) c)
    unfold swp
    by_cases e1 : i = a
    · rw [if_pos e1, if_pos e1, if_pos e1]; exact each p hp
    · rw [if_neg e1, if_neg e1, if_neg e1]
      by_cases e2 : i = p
      · rw [if_pos e2, if_pos e2, if_pos e2]; exact each a ha
      · rw [if_neg e2, if_neg e2, if_neg e2]; exact each i hi
  · have key : ∀ i, (if i = a then gs p else if i = p then gs a else gs i) = gs (if i = a then p else if i = p then a else i) := fun i => by
      by_cases e1 : i = a
      · rw [if_pos e1, if_pos e1]
      · rw [if_neg e1, if_neg e1]
        by_cases e2 : i = p
        · rw [if_pos e2, if_pos e2]
        · rw [if_neg e2, if_neg e2]
    have e' : (if i = a then gs p else if i = p then gs a else gs i) = (if k = a then gs p else if k = p then gs a else gs k) := e
    rw [key i, key k] at e'
    have lt : ∀ i, i < n → (if i = a then p else if i = p then a else i) < n := fun i hi => by
      split
      · exact hp
      · split
        · exact ha
        · exact hi
    have e3 := h.inj _ _ (lt i hi) (lt k hk) e'
    by_cases e1 : i = a
    · rw [if_pos e1] at e3
      by_cases e4 : k = a
      · omega
      · rw [if_neg e4] at e3
        by_cases e5 : k = p
        · rw [if_pos e5] at e3; omega
        · rw [if_neg e5] at e3; omega
    · rw [if_neg e1] at e3
      by_cases e4 : k = a
      · rw [if_pos e4] at e3
        by_cases e5 : i = p
        · rw [if_pos e5] at e3; omega
        · rw [if_neg e5] at e3; omega
      · rw [if_neg e4] at e3
        by_cases e5 : i = p
        · rw [if_pos e5] at e3
          by_cases e6 : k = p
          · omega
          · rw [if_neg e6] at e3; omega
        · rw [if_neg e5] at e3
          by_cases e6 : k = p
          · rw [if_pos e6] at e3; omega
          · rw [if_neg e6] at e3; exact e3

theorem Rgr.swap' {X : World} {B g n cap c a p : Nat} {gs cs : Nat → Nat} {M : Nat → Nat → Int} (h : Rgr X B (.slice (some ⟨g, 0, none⟩) n cap) n c gs cs M) (ha : a < n) (hp : p < n) :
    ∃ gs' cs', Rgr ((X.setCell ⟨g, a, none⟩ (rv gs cs c p)).setCell ⟨g, p, none⟩ (rv gs cs c a)) B (.slice (some ⟨g, 0, none⟩) n cap) n c gs' cs' (swp M a p) ∧ ∀ i, i < n → ∃ j, j < n ∧ gs' i = gs j := by
  have := h.swap hp ha
  refine ⟨_, _, this.congr (fun i _ => ?_), fun i hi => ?_⟩
  · unfold swp
    by_cases e1 : i = p
    · rw [if_pos e1]
      by_cases e2 : i = a
      · rw [if_pos e2]; rw [← e1, e2]
      · rw [if_neg e2, if_pos e1]
    · rw [if_neg e1]
      by_cases e2 : i = a
      · rw [if_pos e2, if_pos e2]
      · rw [if_neg e2, if_neg e2, if_neg e1]
  · show ∃ j, j < n ∧ (if i = p then gs a else if i = a then gs p else gs i) = gs j
    split
    · exact ⟨a, ha, rfl⟩
    · split
      · exact ⟨p, hp, rfl⟩
      · exact ⟨i, hi, rfl⟩

/-- Rows in blocks of their own, wherever. -/
def RG (W : World) (B : Nat) (v : Value) (n m : Nat) (X : Nat → Nat → Int) : Prop := ∃ gs cs, Rgr W B v n m gs cs X

theorem RG.below {w w' : World} {B n m : Nat} {v : Value} {X : Nat → Nat → Int} (h : RG w B v n m X) (hb : Below w.heap.size w w') : RG w' B v n m X := by
  obtain ⟨gs, cs, h⟩ := h
  exact ⟨gs, cs, h.call hb⟩
theorem RG.ipp {w : World} {B n m : Nat} {v : Value} {X : Nat → Nat → Int} (h : RG w B v n m X) : Ipp w v n (fun _ => m) X := by
  obtain ⟨gs, cs, h⟩ := h
  exact h.ipp
theorem RG.rng {w w' : World} {B H C n m : Nat} {v : Value} {X : Nat → Nat → Int} (h : RG w C v n m X) (hr : Rng B H w w') (hH : H ≤ C) : RG w' C v n m X := by
  obtain ⟨gs, cs, h⟩ := h
  exact ⟨gs, cs, h.rng hr hH⟩

/-- What lies between two places is as it was. -/
def Fix (lo hi : Nat) (w w' : World) : Prop := ∀ k, lo ≤ k → k < hi → w'.heap[k]? = w.heap[k]?

theorem Fix.refl (lo hi : Nat) (w : World) : Fix lo hi w w := fun _ _ _ => rfl
theorem Fix.trans {lo hi : Nat} {w w1 w2 : World} (h : Fix lo hi w w1) (h' : Fix lo hi w1 w2) : Fix lo hi w w2 := fun k h1 h2 => (h' k h1 h2).trans (h k h1 h2)
theorem Fix.below {lo hi : Nat} {w w1 w2 : World} (h : Fix lo hi w w1) (hb : Below w1.heap.size w1 w2) (hh : hi ≤ w1.heap.size) : Fix lo hi w w2 := h.trans (fun k _ h2 => hb.block k (by omega))
theorem Fix.own {lo hi B e s n : Nat} {w w' : World} {v : Value} {xs : List Value} (h : Fix lo hi w w') (ho : w.ownsRow B e s v n xs) (hl : lo ≤ B) (hh : w.heap.size ≤ hi) : w'.ownsRow B e s v n xs := own_at ho (fun g hg => h g (Nat.le_trans hl (World.ownsRow.lt ho g hg).1) (Nat.lt_of_lt_of_le (World.ownsRow.lt ho g hg).2 hh))
theorem Fix.rgr {lo hi B n c : Nat} {w w' : World} {o : Value} {gs cs : Nat → Nat} {M : Nat → Nat → Int} (h : Fix lo hi w w') (ho : Rgr w B o n c gs cs M) (hl : lo ≤ B) (hh : w.heap.size ≤ hi) : Rgr w' B o n c gs cs M := ⟨h.own ho.row hl hh, fun i hi => h.own (ho.rows i hi) hl hh, ho.inj⟩
end Go.Proofs.Ytnfhnchomiejcaa
