/- Lists of paths. -/
import Derived.Test.YtgkcofjhajjjgaaLB
import Derived.Test.YtgkcofjhajjjgaaSC
namespace Go.Proofs.Ytgkcofjhajjjgaa
open Go.RowKit

/-- A list of values as a function. -/
def vls (f : Nat → Value) (n : Nat) : List Value := (List.range n).map f
theorem vls_length (f : Nat → Value) (n : Nat) : (vls f n).length = n := by simp [vls]
theorem vls_get {f : Nat → Value} {n k : Nat} (h : k < n) : (vls f n)[k]? = some (f k) := by simp [vls, h]
theorem vls_snoc (f : Nat → Value) (k : Nat) : vls f (k + 1) = vls f k ++ [f k] := by simp [vls, List.range_succ]
theorem vls_put (f : Nat → Value) (n j : Nat) (y : Value) : (vls f n).set j y = vls (fun i => if i = j then y else f i) n := by
  apply List.ext_getElem
  · simp [vls]
  · intro i h1 h2
    simp only [vls, List.getElem_set, List.getElem_map, List.getElem_range]
    by_cases h : j = i
    · subst h; simp
    · simp [h, Ne.symm h]
theorem vls_congr {f g : Nat → Value} {n : Nat} (h : ∀ k, k < n → f k = g k) : vls f n = vls g n := by
  unfold vls
  apply List.map_congr_left
  intro i hi
  rw [h i (List.mem_range.1 hi)]

/-- Paths one behind the other, cell by cell. -/
def pc (c : Int) (T : Nat → Nat) (S : Nat → Int) (B : Nat → Value) (j : Nat) : Value :=
  if j % 4 = 0 then .int .i64 c else if j % 4 = 1 then .int .i64 (T (j / 4) : Int) else if j % 4 = 2 then .int .i64 (S (j / 4)) else B (j / 4)
theorem pc0 (c : Int) (T : Nat → Nat) (S : Nat → Int) (B : Nat → Value) (k : Nat) : pc c T S B (k * 4) = .int .i64 c := by
  unfold pc; rw [if_pos (by omega)]
theorem pc1 (c : Int) (T : Nat → Nat) (S : Nat → Int) (B : Nat → Value) (k : Nat) : pc c T S B (k * 4 + 1) = .int .i64 (T k : Int) := by
  unfold pc; rw [if_neg (by omega), if_pos (by omega), show (k * 4 + 1) / 4 = k by omega]
theorem pc2 (c : Int) (T : Nat → Nat) (S : Nat → Int) (B : Nat → Value) (k : Nat) : pc c T S B (k * 4 + 2) = .int .i64 (S k) := by
  unfold pc; rw [if_neg (by omega), if_neg (by omega), if_pos (by omega), show (k * 4 + 2) / 4 = k by omega]
theorem pc3 (c : Int) (T : Nat → Nat) (S : Nat → Int) (B : Nat → Value) (k : Nat) : pc c T S B (k * 4 + 3) = B k := by
  unfold pc; rw [if_neg (by omega), if_neg (by omega), if_neg (by omega), show (k * 4 + 3) / 4 = k by omega]

theorem pc_same {c : Int} {T T' : Nat → Nat} {S S' : Nat → Int} {B B' : Nat → Value} {j : Nat} (h1 : T (j / 4) = T' (j / 4)) (h2 : S (j / 4) = S' (j / 4)) (h3 : B (j / 4) = B' (j / 4)) : pc c T S B j = pc c T' S' B' j := by
  unfold pc
  rw [h1, h2, h3]

/-- One entry turned. -/
theorem pc_put (c : Int) (T : Nat → Nat) (S : Nat → Int) (B : Nat → Value) (n k t : Nat) (s : Int) (v : Value) (_ : k < n) :
    ((((vls (pc c T S B) (n * 4)).set (k * 4) (.int .i64 c)).set (k * 4 + 1) (.int .i64 (t : Int))).set (k * 4 + 2) (.int .i64 s)).set (k * 4 + 3) v =
      vls (pc c (fun l => if l = k then t else T l) (fun l => if l = k then s else S l) (fun l => if l = k then v else B l)) (n * 4) := by
  rw [vls_put, vls_put, vls_put, vls_put]
  refine vls_congr fun j hj => ?_
  have hjk : j / 4 = k ↔ (j = k * 4 ∨ j = k * 4 + 1 ∨ j = k * 4 + 2 ∨ j = k * 4 + 3) := by omega
  by_cases h3 : j = k * 4 + 3
  · subst h3; rw [if_pos rfl, pc3, if_pos rfl]
  · rw [if_neg h3]
    by_cases h2 : j = k * 4 + 2
    · subst h2; rw [if_pos rfl, pc2, if_pos rfl]
    · rw [if_neg h2]
      by_cases h1 : j = k * 4 + 1
      · subst h1; rw [if_pos rfl, pc1, if_pos rfl]
      · rw [if_neg h1]
        by_cases h0 : j = k * 4
        · subst h0; rw [if_pos rfl, pc0]
        · rw [if_neg h0]
          have e : ¬ j / 4 = k := by omega
          exact pc_same (if_neg e).symm (if_neg e).symm (if_neg e).symm

/-- One entry more. -/
theorem pc_app (c : Int) (T : Nat → Nat) (S : Nat → Int) (B : Nat → Value) (n t : Nat) (s : Int) (v : Value) :
    vls (pc c T S B) (n * 4) ++ [.int .i64 c, .int .i64 (t : Int), .int .i64 s, v] =
      vls (pc c (fun l => if l = n then t else T l) (fun l => if l = n then s else S l) (fun l => if l = n then v else B l)) ((n + 1) * 4) := by
  rw [show (n + 1) * 4 = n * 4 + 1 + 1 + 1 + 1 by omega, vls_snoc, vls_snoc, vls_snoc, vls_snoc]
  have e1 := pc0 c (fun l => if l = n then t else T l) (fun l => if l = n then s else S l) (fun l => if l = n then v else B l) n
  have e2 := pc1 c (fun l => if l = n then t else T l) (fun l => if l = n then s else S l) (fun l => if l = n then v else B l) n
  have e3 := pc2 c (fun l => if l = n then t else T l) (fun l => if l = n then s else S l) (fun l => if l = n then v else B l) n
  have e4 := pc3 c (fun l => if l = n then t else T l) (fun l => if l = n then s else S l) (fun l => if l = n then v else B l) n
  rw [e1, show n * 4 + 1 + 1 = n * 4 + 2 by omega, show n * 4 + 1 + 1 + 1 = n * 4 + 3 by omega, e2, e3, e4]
  simp only [if_true]
  have e5 : vls (pc c (fun l => if l = n then t else T l) (fun l => if l = n then s else S l) (fun l => if l = n then v else B l)) (n * 4) = vls (pc c T S B) (n * 4) := by
    refine vls_congr fun j hj => ?_
    have e : ¬ j / 4 = n := by omega
    exact pc_same (if_neg e) (if_neg e) (if_neg e)
  rw [e5]
  simp only [List.append_assoc]
  rfl

theorem Try.info59 : (Try.prog.info? 59).map (fun i => (i.zero, i.size, i.bytes)) = some (some (.agg #[.int .i64 0, .int .i64 0, .int .i64 0, .slice none 0 0]), 4, 48) := by kernel_rfl

/-- A row of ints and a row of paths never share a block. -/
theorem ty_ap {w : World} {B B' s s' n m : Nat} {e e' : TypeId} {u v : Value} {xs ys : List Value} (hu : w.ownsRow B e s u n xs) (hv : w.ownsRow B' e' s' v m ys) (he : e ≠ e') : Apart u v := by
  rcases hu.2 with ⟨rfl, _⟩ | ⟨g, cp, cur, rfl, _, hg, _⟩
  · exact .inl rfl
  · rcases hv.2 with ⟨rfl, _⟩ | ⟨g', cp', cur', rfl, _, hg', _⟩
    · exact .inr (fun e9 => by cases e9)
    · refine .inr (fun e9 => ?_)
      have : g = g' := by simpa [Value.ownBlock] using e9
      subst this
      rw [hg] at hg'
      injection hg' with hg'
      injection hg' with _ h2 _
      exact he h2

/-- A list of n paths of c bits. -/
structure Pth (w : World) (B : Nat) (v : Value) (n c : Nat) (T : Nat → Nat) (S : Nat → Int) (U : Nat → Nat → Nat) (P : Nat → Value) : Prop where
  own : w.ownsRow B 59 4 v n (vls (pc (c : Int) T S P) (n * 4))
  bit : ∀ k, k < n → w.ownsRow B 3 1 (P k) c (ils (wy (U k)) c)

theorem Pth.below {w w' : World} {B n c : Nat} {v : Value} {T : Nat → Nat} {S : Nat → Int} {U : Nat → Nat → Nat} {P : Nat → Value} (h : Pth w B v n c T S U P) (hb : Below w.heap.size w w') : Pth w' B v n c T S U P :=
  ⟨own_below h.own hb, fun k hk => own_below (h.bit k hk) hb⟩

theorem Pth.cells {w : World} {B n c g cp k : Nat} {T : Nat → Nat} {S : Nat → Int} {U : Nat → Nat → Nat} {P : Nat → Value} (h : Pth w B (.slice (some ⟨g, 0, none⟩) n cp) n c T S U P) (hk : k < n) :
    w.cell? ⟨g, k * 4, none⟩ = some (.int .i64 (c : Int)) ∧ w.cell? ⟨g, k * 4 + 1, none⟩ = some (.int .i64 (T k : Int)) ∧ w.cell? ⟨g, k * 4 + 2, none⟩ = some (.int .i64 (S k)) ∧ w.cell? ⟨g, k * 4 + 3, none⟩ = some (P k) := by
  refine ⟨?_, ?_, ?_, ?_⟩
  · rw [World.ownsRow.cellAt h.own _ (by omega), vls_get (by omega), pc0]
  · rw [World.ownsRow.cellAt h.own _ (by omega), vls_get (by omega), pc1]
  · rw [World.ownsRow.cellAt h.own _ (by omega), vls_get (by omega), pc2]
  · rw [World.ownsRow.cellAt h.own _ (by omega), vls_get (by omega), pc3]

theorem Pth.il {w : World} {B n c k : Nat} {v : Value} {T : Nat → Nat} {S : Nat → Int} {U : Nat → Nat → Nat} {P : Nat → Value} (h : Pth w B v n c T S U P) (hk : k < n) : Il w (P k) c (wy (U k)) := by
  exact il_of_own (h.bit k hk)

/-- A row of paths grown: the rows of bits are as they were. -/
theorem Pth.app {w w' : World} {B n c t : Nat} {s : Int} {v v' p : Value} {T : Nat → Nat} {S : Nat → Int} {U : Nat → Nat → Nat} {P : Nat → Value} {z : Nat → Nat} (h : Pth w B v n c T S U P) (hp : w.ownsRow B 3 1 p c (ils (wy z) c))
    (ho : w'.ownsRow B 59 4 v' (n + 1) (vls (pc (c : Int) T S P) (n * 4) ++ [.int .i64 (c : Int), .int .i64 (t : Int), .int .i64 s, p])) (hg : w.grownBy w' v.ownBlock) :
    Pth w' B v' (n + 1) c (fun l => if l = n then t else T l) (fun l => if l = n then s else S l) (fun l => if l = n then z else U l) (fun l => if l = n then p else P l) := by
  rw [pc_app] at ho
  refine ⟨ho, fun k hk => ?_⟩
  by_cases e : k = n
  · rw [if_pos e, if_pos e]
    exact own_grown hp hg (ty_ap hp h.own (by decide))
  · rw [if_neg e, if_neg e]
    have h1 := h.bit k (by omega)
    exact own_grown h1 hg (ty_ap h1 h.own (by decide))

/-- One path turned. -/
theorem Pth.put {w : World} {B n c t k g cp : Nat} {s : Int} {p : Value} {T : Nat → Nat} {S : Nat → Int} {U : Nat → Nat → Nat} {P : Nat → Value} {z : Nat → Nat} (h : Pth w B (.slice (some ⟨g, 0, none⟩) n cp) n c T S U P) (hk : k < n) (hp : w.ownsRow B 3 1 p c (ils (wy z) c)) :
    Pth ((((w.setCell ⟨g, k * 4, none⟩ (.int .i64 (c : Int))).setCell ⟨g, k * 4 + 1, none⟩ (.int .i64 (t : Int))).setCell ⟨g, k * 4 + 2, none⟩ (.int .i64 s)).setCell ⟨g, k * 4 + 3, none⟩ p) B (.slice (some ⟨g, 0, none⟩) n cp) n c (fun l => if l = k then t else T l) (fun l => if l = k then s else S l) (fun l => if l = k then z else U l) (fun l => if l = k then p else P l) := by
  have h1 := (World.ownsRow.stored h.own (k * 4) (.int .i64 (c : Int))).1
  have h2 := (World.ownsRow.stored h1 (k * 4 + 1) (.int .i64 (t : Int))).1
  have h3 := (World.ownsRow.stored h2 (k * 4 + 2) (.int .i64 s)).1
  have h4 := (World.ownsRow.stored h3 (k * 4 + 3) p).1
  rw [pc_put _ _ _ _ _ _ _ _ _ hk] at h4
  have hon : Only g w ((((w.setCell ⟨g, k * 4, none⟩ (.int .i64 (c : Int))).setCell ⟨g, k * 4 + 1, none⟩ (.int .i64 (t : Int))).setCell ⟨g, k * 4 + 2, none⟩ (.int .i64 s)).setCell ⟨g, k * 4 + 3, none⟩ p) := ((((Only.refl g w).put _ _).put _ _).put _ _).put _ _
  refine ⟨h4, fun l hl => ?_⟩
  by_cases e : l = k
  · rw [if_pos e, if_pos e]
    exact own_apart (x := .slice (some ⟨g, 0, none⟩) n cp) hp hon (.inl rfl) (ty_ap hp h.own (by decide))
  · rw [if_neg e, if_neg e]
    have h5 := h.bit l hl
    exact own_apart (x := .slice (some ⟨g, 0, none⟩) n cp) h5 hon (.inl rfl) (ty_ap h5 h.own (by decide))
end Go.Proofs.Ytgkcofjhajjjgaa
