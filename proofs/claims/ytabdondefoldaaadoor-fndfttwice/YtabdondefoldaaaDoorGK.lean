/- Rows that grow inside a list. -/
import Derived.Test.YtabdondefoldaaaDoorGJ
namespace Go.Proofs.YtabdondefoldaaaDoor
open Go.RowKit

/-- Where a row lies that was made longer: where it lay, or in a new block, all else as it was. -/
theorem app_keep {P : Program} (w : World) (base : Nat) (t ty e : TypeId) (i : TypeInfo) (z : Value) (size bytes : Nat) (ht : P.underlying t = some (.slice e)) (hi : P.info? e = some i) (hz : i.zero = some z)
    (hsize : i.size = size) (hby : i.bytes = bytes) (v : Value) (n : Nat) (xs : List Value) (hown : w.ownsRow base e size v n xs)
    (a : Addr) (m c : Nat) (news : List Value) (hl : news.length = m * size) (hnews : ∀ j u, news[j]? = some u → w.cell? (a.add j) = some u) (h1 : ∀ u ∈ news, u.oneCell' = true)
    (h63 : n + m ≤ maxLen) (hbytes : (n + m) * bytes ≤ 140737488355328) (hm : 0 < m) {v' : Value} {w' : World} (hr : (Builtin.append_ #[t, t] ty #[v, .slice (some a) m c]).run P w = .ok v' w') :
    v'.ownBlock = v.ownBlock ∨ (v'.ownBlock = some w.heap.size ∧ Below w.heap.size w w') := by
  subst hsize
  subst hby
  have hsmall : n + m ≤ 9223372036854775807 := by simp only [maxLen] at h63; omega
  rcases hown.2 with ⟨rfl, rfl⟩ | ⟨g, cap, cur, rfl, hbg, hg, hnc, hcm, hcs, htake⟩
  · have h2 := run_append_nil (P := P) w t ty e i z ht hi hz a m c news hl hnews hm (by omega) (by have hb := hbytes; simp only [Nat.zero_add] at hb; omega)
    rw [h2] at hr
    injection hr with hr1 hr2
    rw [← hr1, ← hr2]
    exact .inr ⟨rfl, (Below.refl w.heap.size w).drew.alloc (Nat.le_refl _) _⟩
  · by_cases hroom : n + m ≤ cap
    · have hfit : n * i.size + news.length ≤ cur.size := by rw [hl, hcs, ← Nat.add_mul]; exact Nat.mul_le_mul_right _ hroom
      have h2 := run_append_room (P := P) w t ty e i ht hi g n cap cur hg a m c news hl hnews h1 hroom hfit
      rw [h2] at hr
      injection hr with hr1 hr2
      rw [← hr1]
      exact .inl rfl
    · have h2 := run_append_grow (P := P) w t ty e i z ht hi hz ⟨g, 0, none⟩ n cap xs hown.1 (hown.cells (g := g) rfl) a m c news hl hnews (by omega) (by omega) (growslice_fits (by omega) hbytes)
      rw [h2] at hr
      injection hr with hr1 hr2
      rw [← hr1, ← hr2]
      exact .inr ⟨rfl, (Below.refl w.heap.size w).drew.alloc (Nat.le_refl _) _⟩

/-- n rows in a list, each of its own length and in memory of its own. -/
structure Rin (X : World) (B g n : Nat) (R : Nat → Value) (ln : Nat → Nat) (M : Nat → Nat → Int) : Prop where
  row : X.ownsRow B 29 1 (.slice (some ⟨g, 0, none⟩) n n) n (vls R n)
  rows : ∀ i, i < n → X.ownsRow B 3 1 (R i) (ln i) (ils (M i) (ln i))
  apart : ∀ i j, i < n → j < n → i ≠ j → (R i).ownBlock ≠ none → (R i).ownBlock ≠ (R j).ownBlock

theorem ty_ne2 {X : World} {B B' g n cap n' : Nat} {v : Value} {L L' : List Value} (h : X.ownsRow B 29 1 (.slice (some ⟨g, 0, none⟩) n cap) n L) (h' : X.ownsRow B' 3 1 v n' L') : v.ownBlock ≠ some g := by
  rcases h'.2 with ⟨rfl, _⟩ | ⟨g', cap', cur, rfl, _⟩
  · intro e; cases e
  · intro e
    exact ty_ne h h' e

theorem Rin.call {X X' : World} {B g n : Nat} {R : Nat → Value} {ln : Nat → Nat} {M : Nat → Nat → Int} (h : Rin X B g n R ln M) (hb : Below X.heap.size X X') : Rin X' B g n R ln M :=
  ⟨own_below h.row hb, fun i hi => own_below (h.rows i hi) hb, h.apart⟩

theorem Rin.cell {X : World} {B g n : Nat} {R : Nat → Value} {ln : Nat → Nat} {M : Nat → Nat → Int} (h : Rin X B g n R ln M) {i : Nat} (hi : i < n) : X.cell? ⟨g, i, none⟩ = some (R i) := by
  rw [World.ownsRow.cellAt h.row i (by omega), vls_get hi]

theorem own_at {w w' : World} {B e s n : Nat} {v : Value} {xs : List Value} (h : w.ownsRow B e s v n xs) (q : ∀ g, v.ownBlock = some g → w'.heap[g]? = w.heap[g]?) : w'.ownsRow B e s v n xs := by
  refine ⟨h.1, ?_⟩
  rcases h.2 with h' | ⟨g, cap, cur, rfl, hb, hg, rest⟩
  · exact .inl h'
  · exact .inr ⟨g, cap, cur, rfl, hb, (q g rfl).trans hg, rest⟩

/-- One row made longer by one, and put back into the list. -/
theorem app_in {X : World} {B g n i d : Nat} {R : Nat → Value} {ln : Nat → Nat} {M : Nat → Nat → Int} {x : Int} (h : Rin X B g n R ln M) (hi : i < n) (hl : ln i ≤ 1048576) (hB : B ≤ X.heap.size) (hd : ∀ j, j < n → (R j).ownBlock ≠ some d) (hdl : d < X.heap.size) (hdg : d ≠ g) :
    ∃ v' w', (Builtin.append_ #[29, 29] 29 #[R i, .slice (some ⟨X.heap.size, 0, none⟩) 1 1]).run Tryd.prog (X.alloc (.cells #[.int .i64 x] 3)) = .ok v' w' ∧ w'.cell? ⟨g, i, none⟩ = some (R i) ∧ w'.frozen? ⟨g, i, none⟩ = false ∧
      Rin (w'.setCell ⟨g, i, none⟩ v') B g n (fun q => if q = i then v' else R q) (fun q => if q = i then ln i + 1 else ln q) (fun q => if q = i then (fun t => if t = ln i then x else M i t) else M q) ∧
      (∀ j, j < n → ((fun q => if q = i then v' else R q) j).ownBlock ≠ some d) ∧ (w'.setCell ⟨g, i, none⟩ v').heap[d]? = X.heap[d]? ∧ X.heap.size ≤ (w'.setCell ⟨g, i, none⟩ v').heap.size ∧ (∀ Y : World, B ≤ Y.heap.size → Below B Y X → Below B Y (w'.setCell ⟨g, i, none⟩ v')) := by
  obtain ⟨i0, hi0, hz0, hz1, hz2⟩ := info_parts Tryd.info3
  have bl := below_one X (.cells #[.int .i64 x] 3)
  have H := h.call bl
  have hX : X.heap.size < (X.alloc (.cells #[.int .i64 x] 3)).heap.size := by simp
  obtain ⟨v', w', ha, ho, hg, _⟩ := run_append_own (P := Tryd.prog) (X.alloc (.cells #[.int .i64 x] 3)) B 29 29 3 i0 (.int .i64 0) 1 8 Tryd.underlying29 hi0 hz0 hz1 hz2 rfl (by decide) (R i) (ln i) _ (H.rows i hi) ⟨X.heap.size, 0, none⟩ 1 1 [.int .i64 x] rfl (one_new X _ 3) (by simp [Value.oneCell']) (by unfold maxLen; omega) (by omega) (Nat.le_trans hB bl.size)
  have hk := app_keep (P := Tryd.prog) (X.alloc (.cells #[.int .i64 x] 3)) B 29 29 3 i0 (.int .i64 0) 1 8 Tryd.underlying29 hi0 hz0 hz1 hz2 (R i) (ln i) _ (H.rows i hi) ⟨X.heap.size, 0, none⟩ 1 1 [.int .i64 x] rfl (one_new X _ 3) (by simp [Value.oneCell']) (by unfold maxLen; omega) (by omega) (by omega) ha
  have lt : ∀ j, j < n → ∀ b, (R j).ownBlock = some b → B ≤ b ∧ b < X.heap.size := fun j hj => World.ownsRow.lt (h.rows j hj)
  have gl := World.ownsRow.lt h.row g rfl
  have ng : ∀ j, j < n → (R j).ownBlock ≠ some g := fun j hj => ty_ne2 h.row (h.rows j hj)
  have R1 : w'.ownsRow B 29 1 (.slice (some ⟨g, 0, none⟩) n n) n (vls R n) := H.row.kept hg (.inr (fun e => ng i hi e.symm))
  have vg : v'.ownBlock ≠ some g := ty_ne2 R1 ho
  have vd : v'.ownBlock ≠ some d := by
    rcases hk with hk | ⟨hk, _⟩
    · rw [hk]; exact hd i hi
    · rw [hk]; intro e; injection e with e; omega
  have vj : ∀ j, j < n → j ≠ i → (R j).ownBlock ≠ none → (R j).ownBlock ≠ v'.ownBlock := fun j hj hne hnn => by
    rcases hk with hk | ⟨hk, _⟩
    · rw [hk]; exact h.apart j i hj hi hne hnn
    · rw [hk]; intro e; have := (lt j hj _ e).2; omega
  have sb : ∀ b, b ≠ g → (w'.setCell ⟨g, i, none⟩ v').heap[b]? = w'.heap[b]? := fun b hb => Below.heap_setCell _ _ _ _ hb
  refine ⟨v', w', ha, ?_, R1.frozenAt i, ⟨?_, fun j hj => ?_, fun j k hj hk' hne hnn => ?_⟩, fun j hj => ?_, ?_, ?_, fun Y hY hb => ?_⟩
  · rw [World.ownsRow.cellAt R1 i (by omega), vls_get hi]
  · have := (World.ownsRow.stored R1 i v').1
    rw [vls_put] at this
    exact this
  · by_cases e : j = i
    · simp only [if_pos e]
      rw [ils_snoc, if_pos rfl, ils_congr (g := M i) (fun t ht => if_neg (by omega))]
      exact own_at ho (fun b hb => sb b (fun e2 => vg (by rw [hb, e2])))
    · simp only [if_neg e]
      have q : w'.ownsRow B 3 1 (R j) (ln j) (ils (M j) (ln j)) := (H.rows j hj).kept hg (by
        by_cases hn : (R j).ownBlock = none
        · exact .inl hn
        · exact .inr (h.apart j i hj hi e hn))
      exact own_at q (fun b hb => sb b (fun e2 => ng j hj (by rw [hb, e2])))
  · by_cases e1 : j = i
    · have e2 : ¬ k = i := fun e2 => hne (e1.trans e2.symm)
      simp only [if_pos e1, if_neg e2] at hnn ⊢
      intro e
      exact vj k hk' e2 (by rw [← e]; exact hnn) e.symm
    · by_cases e2 : k = i
      · simp only [if_neg e1, if_pos e2] at hnn ⊢
        exact vj j hj e1 hnn
      · simp only [if_neg e1, if_neg e2] at hnn ⊢
        exact h.apart j k hj hk' hne hnn
  · by_cases e : j = i
    · simp only [if_pos e]; exact vd
    · simp only [if_neg e]; exact hd j hj
  · rw [sb d hdg, hg.block d (by omega) (fun e => hd i hi e.symm)]
    exact bl.block d hdl
  · have := hg.size
    simp only [World.size_setCell]
    omega
  · have b1 : Below B Y (X.alloc (.cells #[.int .i64 x] 3)) := hb.trans (bl.mono hB)
    have b2 : Below B Y w' := grown_below b1 hY (H.rows i hi) hg
    exact b2.setCell gl.1 _

/-- All of one length, none of it nothing: rows in a list. -/
theorem Rin.rgr {X : World} {B g n c : Nat} {R : Nat → Value} {M : Nat → Nat → Int} (h : Rin X B g n R (fun _ => c) M) (hc : 1 ≤ c) : ∃ gs cs, Rgr X B (.slice (some ⟨g, 0, none⟩) n n) n c gs cs M := by
  have hx : ∀ i, ∃ q : Nat × Nat, i < n → R i = .slice (some ⟨q.1, 0, none⟩) c q.2 := fun i => by
    by_cases hi : i < n
    · obtain ⟨g', cap, e, _⟩ := own_some (h.rows i hi) hc
      exact ⟨(g', cap), fun _ => e⟩
    · exact ⟨(0, 0), fun h => absurd h hi⟩
  refine ⟨fun i => (Classical.choose (hx i)).1, fun i => (Classical.choose (hx i)).2, ?_, fun i hi => ?_, fun i k hi hk e => ?_⟩
  · have := h.row
    rw [vls_congr (G := rv (fun i => (Classical.choose (hx i)).1) (fun i => (Classical.choose (hx i)).2) c) (fun i hi => Classical.choose_spec (hx i) hi)] at this
    exact this
  · have := h.rows i hi
    rw [Classical.choose_spec (hx i) hi] at this
    exact this
  · by_cases q : i = k
    · exact q
    · refine absurd ?_ (h.apart i k hi hk q ?_)
      · rw [Classical.choose_spec (hx i) hi, Classical.choose_spec (hx k) hk]
        show some _ = some _
        exact congrArg some e
      · rw [Classical.choose_spec (hx i) hi]
        intro e2; cases e2
end Go.Proofs.YtabdondefoldaaaDoor
