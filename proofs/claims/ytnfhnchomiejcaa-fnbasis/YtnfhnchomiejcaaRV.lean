/- A list of lists that grows. -/
import Derived.Test.YtnfhnchomiejcaaRT
import Derived.Test.YtnfhnchomiejcaaAW
import Derived.Test.YtnfhnchomiejcaaD4
namespace Go.Proofs.Ytnfhnchomiejcaa
open Go.RowKit

theorem apart_base {w : World} {B s n g : Nat} {e : TypeId} {t o : Value} {xs : List Value} (ht : w.ownsRow B e s t n xs) (ho : o.ownBlock = some g) (hg : g < B) : Apart t o := by
  refine .inr (fun e => ?_)
  rw [ho] at e
  have := World.ownsRow.lt ht _ e
  omega

/-- Lists of ints in memory of their own, in a list that grows. -/
def Gr (B : Nat) (W : World) (o : Value) (j : Nat) (ms : Nat → Nat) (T : Nat → Nat → Int) : Prop :=
  ∃ R : Nat → Value, W.ownsRow B 29 1 o j ((List.range j).map R) ∧ ∀ k, k < j → W.ownsRow B 3 1 (R k) (ms k) (ils (T k) (ms k)) ∧ Apart (R k) o

theorem Gr.below {B : Nat} {W W' : World} {o : Value} {j : Nat} {ms : Nat → Nat} {T : Nat → Nat → Int} (h : Gr B W o j ms T) (hb : Below W.heap.size W W') : Gr B W' o j ms T := by
  obtain ⟨R, h1, h2⟩ := h
  exact ⟨R, own_below h1 hb, fun k hk => ⟨own_below (h2 k hk).1 hb, (h2 k hk).2⟩⟩

theorem Gr.start (W : World) (ms : Nat → Nat) (T : Nat → Nat → Int) : Gr W.heap.size (W.alloc (.cells #[] 29)) (.slice (some ⟨W.heap.size, 0, none⟩) 0 0) 0 ms T :=
  ⟨fun _ => .bool false, own_empty W 29 1, fun k hk => absurd hk (by omega)⟩

theorem Gr.base {B B' : Nat} {W : World} {o : Value} {j : Nat} {ms : Nat → Nat} {T : Nat → Nat → Int} (h : Gr B W o j ms T) (hB : B' ≤ B) : Gr B' W o j ms T := by
  obtain ⟨R, h1, h2⟩ := h
  exact ⟨R, own_base h1 hB, fun k hk => ⟨own_base (h2 k hk).1 hB, (h2 k hk).2⟩⟩

theorem Gr.ipp {B : Nat} {W : World} {o : Value} {j : Nat} {ms : Nat → Nat} {T : Nat → Nat → Int} (h : Gr B W o j ms T) : Ipp W o j ms T := by
  obtain ⟨R, h1, h2⟩ := h
  rcases h1.2 with ⟨rfl, rfl⟩ | ⟨g, cap, cur, rfl, hb, hg, hcap, hrest⟩
  · exact ⟨none, 0, rfl, Nat.le_refl _, fun h => absurd h (by omega)⟩
  · refine ⟨some ⟨g, 0, none⟩, cap, rfl, hcap, fun _ => ⟨g, 0, R, rfl, (Array.getElem?_eq_some_iff.1 hg).1, fun k hk => ⟨?_, il_of_own (h2 k hk).1⟩⟩⟩
    have := World.ownsRow.cellAt h1 k (by omega)
    rw [Nat.zero_add, this]
    simp [hk]

theorem oneS {w : World} {B n : Nat} {r : Value} {xs : List Value} (h : w.ownsRow B 3 1 r n xs) : r.oneCell' = true := by
  rcases h.2 with ⟨rfl, _⟩ | ⟨g, cap, cur, rfl, _⟩
  · rfl
  · rfl

/-- A list put behind. -/
theorem Gr.grow {B : Nat} {W1 W' : World} {o o' r : Value} {j : Nat} {ms : Nat → Nat} {T : Nat → Nat → Int} (h : Gr B W1 o j ms T) (hr : W1.ownsRow B 3 1 r (ms j) (ils (T j) (ms j))) (ha : Apart r o)
    (ho : ∀ R : Nat → Value, W1.ownsRow B 29 1 o j ((List.range j).map R) → W'.ownsRow B 29 1 o' (j + 1) ((List.range j).map R ++ [r])) (hg : W1.grownBy W' o.ownBlock) {S : Nat} (hk : o'.ownBlock = o.ownBlock ∨ (o'.ownBlock = some S ∧ Below S W1 W')) (hS : S = W1.heap.size) : Gr B W' o' (j + 1) ms T := by
  subst hS
  obtain ⟨R, h1, h2⟩ := h
  refine ⟨fun k => if k = j then r else R k, ?_, fun k hkj => ?_⟩
  · have e : (List.range (j + 1)).map (fun k => if k = j then r else R k) = (List.range j).map R ++ [r] := by
      rw [List.range_succ, List.map_append]
      congr 1
      · apply List.map_congr_left
        intro i hi
        have := List.mem_range.1 hi
        rw [if_neg (by omega)]
      · simp
    rw [e]
    exact ho R h1
  · have hk2 := hk.imp id And.left
    by_cases hkj2 : k = j
    · subst hkj2
      show W'.ownsRow B 3 1 (if k = k then r else R k) _ _ ∧ Apart (if k = k then r else R k) o'
      rw [if_pos rfl]
      exact ⟨own_grown hr hg ha, apart_app hr ha hk2⟩
    · show W'.ownsRow B 3 1 (if k = j then r else R k) _ _ ∧ Apart (if k = j then r else R k) o'
      rw [if_neg hkj2]
      obtain ⟨h3, h4⟩ := h2 k (by omega)
      exact ⟨own_grown h3 hg h4, apart_app h3 h4 hk2⟩

theorem Gr.lt {B : Nat} {W : World} {o : Value} {j : Nat} {ms : Nat → Nat} {T : Nat → Nat → Int} (h : Gr B W o j ms T) {b : Nat} (hb : o.ownBlock = some b) : b < W.heap.size := by
  obtain ⟨R, h1, _⟩ := h
  exact (World.ownsRow.lt h1 b hb).2

/-- A row that was made later lies apart. -/
theorem Gr.apart {B C : Nat} {W W' : World} {o r : Value} {j m : Nat} {ms : Nat → Nat} {T : Nat → Nat → Int} {xs : List Value} (h : Gr B W o j ms T) (hr : W'.ownsRow C 3 1 r m xs) (hC : W.heap.size ≤ C) : Apart r o := by
  by_cases ho : o.ownBlock = none
  · exact apart_symm (.inl ho)
  · obtain ⟨b, hb⟩ := Option.ne_none_iff_exists'.1 ho
    exact apart_base hr hb (Nat.lt_of_lt_of_le (h.lt hb) hC)

theorem Gr.below_grown {B : Nat} {w W W' : World} {o : Value} {j : Nat} {ms : Nat → Nat} {T : Nat → Nat → Int} (h : Gr B W o j ms T) (hb : Below B w W) (hB : B ≤ w.heap.size) (hg : W.grownBy W' o.ownBlock) : Below B w W' := by
  obtain ⟨R, h1, _⟩ := h
  exact grown_below hb hB h1 hg

/-- An append of a list to such a list. -/
theorem wpList_appS {w : World} {ops : Array Oper} {rest : List Oper} {o : Oper} {a : Act} {Q : Exit → Act → World → Prop} (hgd : o.guard = none) (s x : Operand)
    (ho : o.op = .call { callee := .builtin .append, args := #[s, x], argTypes := #[24, 24] }) {B : Nat} {v r : Value} {j : Nat} {ms : Nat → Nat} {T : Nat → Nat → Int} {ad : Addr} {c : Nat}
    (hs : a.eval s = v) (hx : a.eval x = .slice (some ad) 1 c) (hG : Gr B w v j ms T) (hr : w.ownsRow B 3 1 r (ms j) (ils (T j) (ms j))) (ha : Apart r v) (hc : w.cell? ad = some r) (hj : j ≤ 1048576) (hB : B ≤ w.heap.size)
    (h : ∀ v' w', Gr B w' v' (j + 1) ms T → w.grownBy w' v.ownBlock → wpList Try.prog ops Q rest (a.put o.dst v') w') : wpList Try.prog ops Q (o :: rest) a w := by
  obtain ⟨i0, hi, hz0, hz1, hz2⟩ := info_parts Try.info29
  have hG0 := hG
  obtain ⟨R, h1, h2⟩ := hG
  refine wpList_app w hgd s x 24 ho B 29 i0 (.slice none 0 0) 1 24 Try.underlying24 hi hz0 hz1 hz2 rfl (by decide) v j _ hs h1 ad 1 c [r] hx rfl (fun i u hu => ?_) (fun u hu => ?_) (by unfold maxLen; omega) (by omega) hB (by decide) (fun v' w' h3 h4 h5 => h v' w' ?_ h4)
  · match i, hu with
    | 0, hu => simp at hu; subst hu; simpa [Addr.add] using hc
    | n + 1, hu => simp at hu
  · simp at hu
    subst hu
    exact oneS hr
  · refine Gr.grow ⟨R, h1, h2⟩ hr ha (fun R' hR' => ?_) h4 h5 rfl
    have e : (List.range j).map R' = (List.range j).map R := by
      rcases h1.2 with ⟨rfl, rfl⟩ | ⟨g, cap, cur, rfl, _⟩
      · rfl
      · apply List.map_congr_left
        intro i hi
        have hij := List.mem_range.1 hi
        have q1 := World.ownsRow.cellAt h1 i (by omega)
        have q2 := World.ownsRow.cellAt hR' i (by omega)
        rw [q1] at q2
        simpa [hij] using q2.symm
    rw [e]
    exact h3

theorem Gr.keep {B c : Nat} {W W' : World} {o : Value} {j : Nat} {ms : Nat → Nat} {T : Nat → Nat → Int} (h : Gr B W o j ms T) (hk : Keep c W W') (hc : c < B) : Gr B W' o j ms T := by
  obtain ⟨R, h1, h2⟩ := h
  exact ⟨R, own_keep h1 hk hc, fun k hkj => ⟨own_keep (h2 k hkj).1 hk hc, (h2 k hkj).2⟩⟩

/-- Sizes and numbers with those of place j. -/
def msj (ms : Nat → Nat) (j L : Nat) (k : Nat) : Nat := if k = j then L else ms k
def Xj (X : Nat → Nat → Int) (j : Nat) (f : Nat → Int) (k : Nat) : Nat → Int := if k = j then f else X k

theorem msj_at (ms : Nat → Nat) (j L : Nat) : msj ms j L j = L := if_pos rfl
theorem Xj_at (X : Nat → Nat → Int) (j : Nat) (f : Nat → Int) : Xj X j f j = f := if_pos rfl

theorem Gr.re {B : Nat} {W : World} {o : Value} {j : Nat} {ms : Nat → Nat} {X : Nat → Nat → Int} (h : Gr B W o j ms X) (L : Nat) (f : Nat → Int) : Gr B W o j (msj ms j L) (Xj X j f) := by
  obtain ⟨R, h1, h2⟩ := h
  refine ⟨R, h1, fun k hk => ?_⟩
  unfold msj Xj
  rw [if_neg (by omega), if_neg (by omega)]
  exact h2 k hk

end Go.Proofs.Ytnfhnchomiejcaa
