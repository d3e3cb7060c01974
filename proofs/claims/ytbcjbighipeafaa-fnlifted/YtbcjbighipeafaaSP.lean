/- LiftOnce: the model. -/
import Derived.Test.YtbcjbighipeafaaLG
import Derived.Test.YtbcjbighipeafaaAP
namespace Go.Proofs.Ytbcjbighipeafaa
open Go.RowKit

/-- A row that lies below is apart from what was made longer. -/
theorem apart_app {w : World} {B s n : Nat} {e : TypeId} {t o v' : Value} {xs : List Value} (ht : w.ownsRow B e s t n xs) (ha : Apart t o) (hu : v'.ownBlock = o.ownBlock ∨ v'.ownBlock = some w.heap.size) : Apart t v' := by
  rcases hu with hu | hu
  · unfold Apart at *
    rw [hu]
    exact ha
  · refine .inr (fun e => ?_)
    rw [hu] at e
    have := World.ownsRow.lt ht _ e
    omega

/-- A row that was made behind another one's block is apart from it. -/
theorem apart_base {w : World} {B s n g : Nat} {e : TypeId} {t o : Value} {xs : List Value} (ht : w.ownsRow B e s t n xs) (ho : o.ownBlock = some g) (hg : g < B) : Apart t o := by
  refine .inr (fun e => ?_)
  rw [ho] at e
  have := World.ownsRow.lt ht _ e
  omega

/-- An append, and where the row lies behind it. -/
theorem wpList_app {P : Program} (w : World) {ops : Array Oper} {rest : List Oper} {o : Oper} {a : Act} {Q : Exit → Act → World → Prop} (hgd : o.guard = none) (s x : Operand) (t : TypeId)
    (ho : o.op = .call { callee := .builtin .append, args := #[s, x], argTypes := #[t, t] })
    (base : Nat) (e : TypeId) (i : TypeInfo) (z : Value) (size bytes : Nat) (ht : P.underlying t = some (.slice e)) (hi : P.info? e = some i) (hz : i.zero = some z)
    (hsize : i.size = size) (hby : i.bytes = bytes) (hzs : z.cells.size = size) (hsz : 0 < size)
    (v : Value) (n : Nat) (xs : List Value) (hs : a.eval s = v) (hown : w.ownsRow base e size v n xs)
    (ad : Addr) (m c : Nat) (news : List Value) (hx : a.eval x = .slice (some ad) m c) (hl : news.length = m * size) (hnews : ∀ j u, news[j]? = some u → w.cell? (ad.add j) = some u) (h1 : ∀ u ∈ news, u.oneCell' = true)
    (h63 : n + m ≤ maxLen) (hbytes : (n + m) * bytes ≤ 140737488355328) (hbase : base ≤ w.heap.size) (hm : 0 < m)
    (h : ∀ v' w', w'.ownsRow base e size v' (n + m) (xs ++ news) → w.grownBy w' v.ownBlock → (v'.ownBlock = v.ownBlock ∨ (v'.ownBlock = some w.heap.size ∧ Below w.heap.size w w')) → wpList P ops Q rest (a.put o.dst v') w') : wpList P ops Q (o :: rest) a w :=
  wpList_plain hgd fun _ hK => wp_app w s x t ho base e i z size bytes ht hi hz hsize hby hzs hsz v n xs hs hown ad m c news hx hl hnews h1 h63 hbytes hbase hm fun v' w' h2 h3 h4 => hK _ _ (h v' w' h2 h3 h4)

/-- A row apart from the one that grew is as it was. -/
theorem own_grown {w w' : World} {B s n : Nat} {e : TypeId} {t o : Value} {xs : List Value} (h : w.ownsRow B e s t n xs) (hg : w.grownBy w' o.ownBlock) (ha : Apart t o) : w'.ownsRow B e s t n xs := by
  refine ⟨h.1, ?_⟩
  rcases h.2 with h' | ⟨g', cap', cur, h', hb', hg', rest⟩
  · exact .inl h'
  · refine .inr ⟨g', cap', cur, h', hb', (hg.block g' (Array.getElem?_eq_some_iff.1 hg').1 (fun e => ?_)).trans hg', rest⟩
    subst h'
    rcases ha with ha | ha
    · cases ha
    · exact ha e


/-- The odd ones. -/
def ods (xs : Nat → Int) (i : Nat) : Int := xs (2 * i + 1)

/-- Two lists in two blocks. -/
structure Tw (w W : World) (u v : Value) (n m : Nat) (xs ys : Nat → Int) : Prop where
  o1 : W.ownsRow w.heap.size 3 1 u n (ils xs n)
  o2 : W.ownsRow w.heap.size 3 1 v m (ils ys m)
  ap : Apart u v
  bel : Below w.heap.size w W

theorem Tw.below {w W W' : World} {u v : Value} {n m : Nat} {xs ys : Nat → Int} (h : Tw w W u v n m xs ys) (hb : Below W.heap.size W W') : Tw w W' u v n m xs ys := ⟨own_below h.o1 hb, own_below h.o2 hb, h.ap, bstep h.bel hb⟩

theorem Tw.grow1 {w W W' : World} {u v u' : Value} {n m : Nat} {xs ys : Nat → Int} {y : Int} (h : Tw w W u v n m xs ys) (ho : W'.ownsRow w.heap.size 3 1 u' (n + 1) (ils xs n ++ [.int .i64 y])) (hg : W.grownBy W' u.ownBlock) {S : Nat} (hk : u'.ownBlock = u.ownBlock ∨ (u'.ownBlock = some S ∧ Below S W W')) (hS : S = W.heap.size) (hy : y = xs n) : Tw w W' u' v (n + 1) m xs ys := by
  subst hy
  subst hS
  rw [← ils_snoc] at ho
  exact ⟨ho, own_grown h.o2 hg (apart_symm h.ap), apart_symm (apart_app h.o2 (apart_symm h.ap) (hk.imp id And.left)), grown_below h.bel (Nat.le_refl _) h.o1 hg⟩

theorem Tw.cast {w W : World} {u v : Value} {n m n' m' : Nat} {xs ys : Nat → Int} (h : Tw w W u v n m xs ys) (h1 : n' = n) (h2 : m' = m) : Tw w W u v n' m' xs ys := by
  subst h1 h2
  exact h

theorem Tw.swap {w W : World} {u v : Value} {n m : Nat} {xs ys : Nat → Int} (h : Tw w W u v n m xs ys) : Tw w W v u m n ys xs := ⟨h.o2, h.o1, apart_symm h.ap, h.bel⟩

theorem Tw.start (w : World) (xs ys : Nat → Int) : Tw w ((w.alloc (.cells #[] 3)).alloc (.cells #[] 3)) (.slice (some ⟨w.heap.size, 0, none⟩) 0 0) (.slice (some ⟨w.heap.size + 1, 0, none⟩) 0 0) 0 0 xs ys := by
  have h2 := own_base (own_empty (w.alloc (.cells #[] 3)) 3 1) (below_one w (.cells #[] 3)).size
  have hs : (w.alloc (.cells #[] 3)).heap.size = w.heap.size + 1 := by simp
  rw [hs] at h2
  exact ⟨own_below (own_empty w 3 1) (below_one _ _), h2, .inr (by simp [Value.ownBlock]), bstep (below_one _ _) (below_one _ _)⟩

end Go.Proofs.Ytbcjbighipeafaa
