/- Laid together. -/
import Derived.Test.YtlccicbgepfbbaaFA
import Derived.Test.YtlccicbgepfbbaaCK
import Derived.Test.YtlccicbgepfbbaaEF
import Derived.Test.YtlccicbgepfbbaaBE
import Derived.Test.YtlccicbgepfbbaaBC
import Derived.Test.YtlccicbgepfbbaaWI
import Derived.Test.YtlccicbgepfbbaaEG
import Derived.Test.YtlccicbgepfbbaaBH
import Derived.Test.YtlccicbgepfbbaaCI
namespace Go.Proofs.Ytlccicbgepfbbaa
open Go.RowKit

theorem fh_congr {ss : Nat → Wr} {o o' : Nat → Int} : ∀ k, (∀ q, q < k → o q = o' q) → fh ss o k = fh ss o' k
  | 0, _ => rfl
  | k + 1, h => by
    show frd ss (o k) (fh ss o k) = frd ss (o' k) (fh ss o' k)
    rw [h k (by omega), fh_congr k (fun q hq => h q (by omega))]

theorem cnt_congr {o o' : Nat → Int} (b : Nat) : ∀ k, (∀ q, q < k → o q = o' q) → cnt o k b = cnt o' k b
  | 0, _ => rfl
  | k + 1, h => by
    show cnt o k b + (if o k = (b : Int) then 1 else 0) = cnt o' k b + (if o' k = (b : Int) then 1 else 0)
    rw [h k (by omega), cnt_congr b k (fun q hq => h q (by omega))]

/-- One more fires. -/
def mor (y : Nat → Int) (t b : Nat) : Nat → Int := fun i => if i = t then (b : Int) else y i

theorem mor_old {y : Nat → Int} {t b q : Nat} (h : q < t) : y q = mor y t b q := by unfold mor; rw [if_neg (by omega)]
theorem mor_new (y : Nat → Int) (t b : Nat) : mor y t b t = (b : Int) := by unfold mor; rw [if_pos rfl]

/-- t have fired as the list y says, lf are left. -/
structure Chs (n m : Nat) (ss : Nat → Wr) (r : Nat → Nat) (t : Nat) (y : Nat → Int) (lf : Nat → Nat) : Prop where
  run : Run n m ss (wst n m ss r 1 0) (lf, fh ss y t)
  fok : ∀ q, q < t → Fok (n : Int) m ss y q
  cn : ∀ b, b < n → lf b + cnt y t b = r b
  sum : smN n lf + t = smN n r

theorem chs_0 {n m : Nat} {ss : Nat → Wr} {r : Nat → Nat} (y : Nat → Int) : Chs n m ss r 0 y (fun b => if b < n then r b else 0) :=
  ⟨Run.refl, fun q hq => absurd hq (by omega), fun b hb => by rw [if_pos hb]; rfl, by rw [smN_congr (g := r) (fun k hk => by rw [if_pos hk])]; rfl⟩

theorem chs_step {n m t b : Nat} {ss : Nat → Wr} {r lf : Nat → Nat} {y : Nat → Int} (h : Chs n m ss r t y lf) (hb : b < n) (h0 : lf b ≠ 0) (hc : Can m ss (fh ss y t) (b : Int)) : Chs n m ss r (t + 1) (mor y t b) (dec lf b) := by
  have e : fh ss (mor y t b) t = fh ss y t := (fh_congr t (fun q hq => mor_old hq)).symm
  refine ⟨?_, fun q hq => ?_, fun c hcn => ?_, ?_⟩
  · have h1 := Run.step h.run hb h0 hc
    have e2 : fh ss (mor y t b) (t + 1) = frd ss (b : Int) (fh ss y t) := by
      show frd ss (mor y t b t) (fh ss (mor y t b) t) = _
      rw [mor_new, e]
    rw [e2]
    exact h1
  · unfold Fok
    rcases Nat.lt_or_ge q t with h1 | h1
    · have h2 := h.fok q h1
      unfold Fok at h2
      rw [← mor_old h1, ← fh_congr q (fun p hp => mor_old (by omega))]
      exact h2
    · obtain rfl : q = t := by omega
      rw [mor_new, e]
      exact ⟨by omega, hc⟩
  · have h1 := h.cn c hcn
    show dec lf b c + (cnt (mor y t b) t c + (if mor y t b t = (c : Int) then 1 else 0)) = r c
    rw [← cnt_congr (o := y) c t (fun q hq => mor_old hq), mor_new]
    unfold dec
    by_cases e : c = b
    · subst e
      rw [if_pos rfl, if_pos rfl]
      omega
    · rw [if_neg e, if_neg (by omega)]
      omega
  · have h1 := dec_sum hb h0
    have h2 := h.sum
    omega

/-- All have fired. -/
theorem chs_all {n m t : Nat} {ss : Nat → Wr} {r lf : Nat → Nat} {y : Nat → Int} (h : Chs n m ss r t y lf) (ht : smN n r ≤ t) : ∀ b, b < n → lf b = 0 := fun b hb => by
  have := smN_one (f := lf) hb
  have := h.sum
  omega

theorem chs_rch {n m t : Nat} {ss : Nat → Wr} {r lf : Nat → Nat} {y : Nat → Int} (hw : Wok (n : Int) m ss) (h : Chs n m ss r t y lf) : Rch n m ss r (lf, fh ss y t) := rch_run hw (rch_0 hw 1) h.run

/-- A round that ends does so in any order. -/
theorem chs_wend {n m t : Nat} {ss : Nat → Wr} {r lf : Nat → Nat} {y : Nat → Int} (hw : Wok (n : Int) m ss) (hr : smN n r ≤ 2000) (h : Chs n m ss r t y lf) (ht : smN n r ≤ t) : ∃ K, Wend n m ss r 1 K :=
  wend_of hw hr (Nat.le_refl 1) h.run (nz_zero.2 (chs_all h ht))

/-- One that is stuck is stuck in any order. -/
theorem chs_stuck {n m t K : Nat} {ss : Nat → Wr} {r lf : Nat → Nat} {y : Nat → Int} (hw : Wok (n : Int) m ss) (h : Chs n m ss r t y lf) (ht : t < smN n r) (hs : ∀ b, b < n → lf b ≠ 0 → ¬ Can m ss (fh ss y t) (b : Int)) : ¬ Wend n m ss r 1 K := by
  intro hK
  rcases run_more hw (rch_0 (r := r) hw 1) (fun b hb => by have := (chs_rch hw h).le b hb; show lf b ≤ (if b < n then r b else 0); rw [if_pos hb]; exact this) (chs_rch hw h) (run_wst (r := r) (most := 1) hw K) with h1 | ⟨b, hb, h2, h3⟩
  · have h2 : smN n lf = 0 := by
      have h3 : smN n lf ≤ smN n (fun _ => 0) := smN_le fun k hk => by
        have := h1 k hk
        have := nz_zero.1 hK.2 k hk
        show lf k ≤ 0
        have h4 : lf k ≤ (wst n m ss r 1 K).1 k := h1 k hk
        omega
      have h4 : smN n (fun _ => 0) = 0 := by rw [smN_const]; exact Nat.mul_zero n
      omega
    have := h.sum
    omega
  · exact hs b hb h2 h3

/-- What lies there in the end. -/
theorem chs_have {n m t : Nat} {ss : Nat → Wr} {r lf : Nat → Nat} {y : Nat → Int} (hw : Wok (n : Int) m ss) (hr : Sol (wsn ss) n m r) (h : Chs n m ss r t y lf) (ht : smN n r ≤ t) (i : Nat) (hi : i < m) : fh ss y t i = (ss i).ha := by
  obtain ⟨a, b, e1, e2, ha, hb, he⟩ := sol_pr hw hr i hi
  have hz := chs_all h ht
  have h3 := (chs_rch hw h).eq i hi
  have h4 : fh ss y t i = (ss i).ha + ((r (ss i).fr.toNat : Int) - (lf (ss i).fr.toNat : Int)) * (ss i).gi - ((r (ss i).to.toNat : Int) - (lf (ss i).to.toNat : Int)) * (ss i).ta := h3
  rw [h4, hz _ (by omega), hz _ (by omega), e1, e2]
  show (ss i).ha + ((r a : Int) - 0) * (ss i).gi - ((r b : Int) - 0) * (ss i).ta = (ss i).ha
  rw [Int.sub_zero, Int.sub_zero, he]
  omega

theorem chs_cnt {n m t : Nat} {ss : Nat → Wr} {r lf : Nat → Nat} {y : Nat → Int} (h : Chs n m ss r t y lf) (ht : smN n r ≤ t) (b : Nat) (hb : b < n) : cnt y t b = r b := by
  have := h.cn b hb
  have := chs_all h ht b hb
  omega

theorem run_app_none {P : Program} {w : World} (base : Nat) (t ty e : TypeId) (i : TypeInfo) (size : Nat) (ht : P.underlying t = some (.slice e)) (hi : P.info? e = some i)
    (v : Value) (n : Nat) (xs : List Value) (hown : w.ownsRow base e size v n xs) (c : Nat) :
    (Builtin.append_ #[t, t] ty #[v, .slice none 0 c]).run P w = .ok v w := by
  rcases hown.2 with ⟨rfl, rfl⟩ | ⟨g, cap, cur, rfl, _, _, hnc, _⟩
  · simp [Builtin.append_, run_underlying ht, sizeOf, typeInfo, hi, Builtin.lenOf, Builtin.firstCells]
  · simp [Builtin.append_, run_underlying ht, sizeOf, typeInfo, hi, Builtin.lenOf, Builtin.firstCells, hnc, storeCells]

/-- A list that came in put behind a row. -/
theorem wpList_appi {w : World} {ops : Array Oper} {rest : List Oper} {o : Oper} {a : Act} {Q : Exit → Act → World → Prop} (hgd : o.guard = none) (s x : Operand)
    (ho : o.op = .call { callee := .builtin .append, args := #[s, x], argTypes := #[27, 27] }) (base : Nat) (v xv : Value) (n m : Nat) (xs : List Value) (ys : Nat → Int) (hs : a.eval s = v) (hx : a.eval x = xv)
    (hown : w.ownsRow base 3 1 v n xs) (hsrc : Il w xv m ys) (hnm : n + m ≤ 1048576) (hbase : base ≤ w.heap.size)
    (h : ∀ v' w', w'.ownsRow base 3 1 v' (n + m) (xs ++ ils ys m) → w.grownBy w' v.ownBlock → wpList Try.prog ops Q rest (a.put o.dst v') w') : wpList Try.prog ops Q (o :: rest) a w := by
  obtain ⟨i0, hi, hz0, hz1, hz2⟩ := info_parts Try.info3
  obtain ⟨ao, cap, rfl, hcap, hc⟩ := hsrc
  by_cases hm : 0 < m
  · obtain ⟨b, off, rfl, hlt, hcell⟩ := hc hm
    refine wpList_append_own _ hgd s x 27 ho base 3 i0 (.int .i64 0) 1 8 Try.underlying27 hi hz0 hz1 hz2 rfl (by decide) v n xs hs hown ⟨b, off, none⟩ m cap (ils ys m) hx (by rw [ils_length, Nat.mul_one]) (fun j u hu => ?_) (ils_one _ _) (by unfold maxLen; omega) (by omega) hbase (fun v' w' h2 h3 _ => h v' w' h2 h3)
    by_cases hj : j < m
    · rw [ils_get hj] at hu
      have h6 := (hcell j hj).trans hu
      unfold Addr.add
      split
      · rename_i h7
        obtain rfl : j = 0 := by simpa using h7
        exact h6
      · exact h6
    · rw [List.getElem?_eq_none (by rw [ils_length]; omega)] at hu
      cases hu
  · obtain rfl : m = 0 := by omega
    cases ao with
    | none =>
      refine wpList_plain hgd fun K hK => ?_
      have hr := run_app_none (P := Try.prog) (w := w) base 27 o.type 3 i0 1 Try.underlying27 hi v n xs hown cap
      unfold Oper.wp execOp
      simp only [ho, resolve, invoke, builtin, Sem.run_bind, Sem.run_pure, Result.andThen_ok, List.map_toArray, List.map_cons, List.map_nil, hs, hx, hr]
      exact hK _ _ (h v w (by simpa [ils] using hown) (grown_refl _ _))
    | some ad => exact wpList_append_own _ hgd s x 27 ho base 3 i0 (.int .i64 0) 1 8 Try.underlying27 hi hz0 hz1 hz2 rfl (by decide) v n xs hs hown ad 0 cap (ils ys 0) hx (by rw [ils_length, Nat.mul_one]) (fun j u hu => by cases hu) (ils_one _ _) (by unfold maxLen; omega) (by omega) hbase (fun v' w' h2 h3 _ => h v' w' h2 h3)

theorem own_other {w : World} {B sz n g j : Nat} {e : TypeId} {t u : Value} {xs : List Value} (h : w.ownsRow B e sz t n xs) (hg : t.ownBlock ≠ some g) : (w.setCell ⟨g, j, none⟩ u).ownsRow B e sz t n xs := by
  refine ⟨h.1, ?_⟩
  rcases h.2 with h' | ⟨g', cap', cur, h', hb', hg', rest⟩
  · exact .inl h'
  · refine .inr ⟨g', cap', cur, h', hb', (Below.heap_setCell _ _ _ _ (fun e => hg ?_)).trans hg', rest⟩
    have e2 : g' = g := e
    rw [h', e2]
    rfl

/-- What a draw of an order keeps: the order, what is left. -/
structure Og (w wr : World) (o : Value) (t n g c : Nat) (y : Nat → Int) (lf : Nat → Nat) : Prop where
  o1 : wr.ownsRow w.heap.size 3 1 o t (ils y t)
  o2 : wr.ownsRow w.heap.size 3 1 (.slice (some ⟨g, 0, none⟩) n c) n (ils (fun b => (lf b : Int)) n)
  ap : o.ownBlock ≠ some g
  be : Below w.heap.size w wr
  ge : w.heap.size ≤ g

theorem Og.call {w wr w' : World} {o : Value} {t n g c : Nat} {y : Nat → Int} {lf : Nat → Nat} (h : Og w wr o t n g c y lf) (hb : Below wr.heap.size wr w') : Og w w' o t n g c y lf :=
  ⟨own_below h.o1 hb, own_below h.o2 hb, h.ap, bstep h.be hb, h.ge⟩

theorem Og.store {w wr : World} {o : Value} {t n g c b : Nat} {y : Nat → Int} {lf : Nat → Nat} (h : Og w wr o t n g c y lf) : Og w (wr.setCell ⟨g, b, none⟩ (.int .i64 ((lf b - 1 : Nat) : Int))) o t n g c y (dec lf b) := by
  refine ⟨own_other h.o1 h.ap, ?_, h.ap, h.be.setCell (p := ⟨g, b, none⟩) h.ge _, h.ge⟩
  have h1 := (World.ownsRow.stored h.o2 b (.int .i64 ((lf b - 1 : Nat) : Int))).1
  rw [ils_put] at h1
  rw [ils_congr fun i hi => ?_]
  exact h1
  show ((dec lf b i : Nat) : Int) = if i = b then _ else _
  unfold dec
  split <;> rfl

theorem Og.app {w wr w' : World} {o o' : Value} {t n g c k : Nat} {y y' : Nat → Int} {lf : Nat → Nat} (h : Og w wr o t n g c y lf) (ho : w'.ownsRow w.heap.size 3 1 o' k (ils y' k)) (hg : wr.grownBy w' o.ownBlock) (hu : o'.ownBlock = o.ownBlock ∨ o'.ownBlock = some wr.heap.size) : Og w w' o' k n g c y' lf := by
  have ap : Apart (.slice (some ⟨g, 0, none⟩) n c) o := .inr (fun e => h.ap e.symm)
  have ap2 : Apart (.slice (some ⟨g, 0, none⟩) n c) o' := apart_app h.o2 ap hu
  refine ⟨ho, own_grown h.o2 hg ap, ?_, grown_below h.be (Nat.le_refl _) h.o1 hg, h.ge⟩
  rcases ap2 with e | e
  · cases e
  · exact fun e2 => e e2.symm

theorem smN_int (n : Nat) (f : Nat → Nat) : ((smN (n + 1) f : Nat) : Int) = (smN n f : Int) + (f n : Int) := by
  show ((smN n f + f n : Nat) : Int) = _
  omega

/-- Whether one more can fire is what Fire tells. -/
theorem fire_ext {w : World} {v u : Value} {n m t b : Nat} {ss : Nat → Wr} {r lf : Nat → Nat} {y : Nat → Int} (hv : Ow w v m ss) (hu : Il w u (t + 1) (mor y t b)) (hw : Wok (n : Int) m ss) (ht : t + 1 ≤ 2000) (h : Chs n m ss r t y lf) (hb : b < n) :
    Calls Try.prog 16 #[.int .i64 (n : Int), v, u] w fun e w' => ∃ x c, e = .returned (.tuple #[x, .int .i64 c]) ∧ (Can m ss (fh ss y t) (b : Int) → c = -1) ∧ (¬ Can m ss (fh ss y t) (b : Int) → c = (t : Int)) ∧ Below w.heap.size w w' := by
  have e : fh ss (mor y t b) t = fh ss y t := (fh_congr t (fun q hq => mor_old hq)).symm
  have hq : ∀ q, q < t → Fok (n : Int) m ss (mor y t b) q := fun q hq => by
    have h2 := h.fok q hq
    unfold Fok at h2 ⊢
    rw [← mor_old hq, ← fh_congr q (fun p hp => mor_old (by omega))]
    exact h2
  have hl : Fok (n : Int) m ss (mor y t b) t ↔ Can m ss (fh ss y t) (b : Int) := by
    unfold Fok
    rw [mor_new, e]
    exact ⟨fun h => h.2, fun h => ⟨by omega, h⟩⟩
  by_cases hc : Can m ss (fh ss y t) (b : Int)
  · refine (iFire_good (J := t + 1) (n : Int) (-1) hv hu hw ht (Nat.le_refl _) (fun q h1 => ?_) (fun h => absurd h (Nat.lt_irrefl _)) (by rw [if_neg (Nat.lt_irrefl _)])).mono ?_
    · rcases Nat.lt_or_ge q t with h2 | h2
      · exact hq q h2
      · obtain rfl : q = t := by omega
        exact hl.2 hc
    · rintro e w' ⟨u, rfl, _, hb⟩
      exact ⟨_, _, rfl, fun _ => rfl, fun h => absurd hc h, hb⟩
  · refine (iFire_good (J := t) (n : Int) (t : Int) hv hu hw ht (by omega) hq (fun _ h => hc (hl.1 h)) (by rw [if_pos (by omega)])).mono ?_
    rintro e w' ⟨u, rfl, _, hb⟩
    exact ⟨_, _, rfl, fun h => absurd h hc, fun _ => rfl, hb⟩

theorem il_cells {w : World} {ao : Option Addr} {n cap : Nat} {xs : Nat → Int} (h : Il w (.slice ao n cap) n xs) : 0 < n → ∃ b off, ao = some ⟨b, off, none⟩ ∧ b < w.heap.size ∧ ∀ k, k < n → w.cell? ⟨b, off + k, none⟩ = some (.int .i64 (xs k)) := by
  obtain ⟨a, c, e, _, h⟩ := h
  injection e with e
  subst e
  exact h

theorem put_nat (z : Nat → Nat) (q k : Nat) : (fun i => if i = q then (k : Int) else ((z i : Nat) : Int)) = fun i => ((if i = q then k else z i : Nat) : Int) := by
  funext i
  split <;> rfl

/-- The blocks below k that can fire. -/
structure Cn (m : Nat) (ss : Nat → Wr) (h : Nat → Int) (lf : Nat → Nat) (k q : Nat) (z : Nat → Nat) : Prop where
  ok : ∀ j, j < q → z j < k ∧ lf (z j) ≠ 0 ∧ Can m ss h (z j : Int)
  no : q = 0 → ∀ b, b < k → lf b ≠ 0 → ¬ Can m ss h (b : Int)
  le : q ≤ k

theorem cn_0 {m : Nat} {ss : Nat → Wr} {h : Nat → Int} {lf : Nat → Nat} (z : Nat → Nat) : Cn m ss h lf 0 0 z := ⟨fun j hj => absurd hj (by omega), fun _ b hb => absurd hb (by omega), by omega⟩

theorem cn_no {m k q : Nat} {ss : Nat → Wr} {h : Nat → Int} {lf : Nat → Nat} {z : Nat → Nat} (c : Cn m ss h lf k q z) (hn : lf k ≠ 0 → ¬ Can m ss h (k : Int)) : Cn m ss h lf (k + 1) q z :=
  ⟨fun j hj => ⟨by have := (c.ok j hj).1; omega, (c.ok j hj).2⟩, fun hq b hb h0 => by
    rcases Nat.lt_or_ge b k with h1 | h1
    · exact c.no hq b h1 h0
    · obtain rfl : b = k := by omega
      exact hn h0, by have := c.le; omega⟩

theorem cn_yes {m k q : Nat} {ss : Nat → Wr} {h : Nat → Int} {lf : Nat → Nat} {z : Nat → Nat} (c : Cn m ss h lf k q z) (h0 : lf k ≠ 0) (hc : Can m ss h (k : Int)) : Cn m ss h lf (k + 1) (q + 1) (fun i => if i = q then k else z i) :=
  ⟨fun j hj => by
    show (if j = q then k else z j) < k + 1 ∧ lf (if j = q then k else z j) ≠ 0 ∧ Can m ss h ((if j = q then k else z j : Nat) : Int)
    by_cases e : j = q
    · rw [if_pos e]
      exact ⟨by omega, h0, hc⟩
    · rw [if_neg e]
      exact ⟨by have := (c.ok j (by omega)).1; omega, (c.ok j (by omega)).2⟩, fun hq => by omega, by have := c.le; omega⟩

set_option maxRecDepth 20000 in
set_option maxHeartbeats 8000000 in
theorem chosen_any {w : World} {v lv pv : Value} {n m : Nat} {ss : Nat → Wr} {r : Nat → Nat} {ps : Nat → Nat} (hv : Ow w v m ss) (hl : Il w lv n (fun b => (r b : Int))) (hp : Il w pv 60 (fun i => (ps i : Int))) (hw : Wok (n : Int) m ss) (hr : smN n r ≤ 60) :
    Calls Try.prog 19 #[.int .i64 (n : Int), v, lv, pv] w fun e w' => ∃ u t y lf d, e = .returned (.tuple #[u, .bool d]) ∧ Il w' u t y ∧ Below w.heap.size w w' ∧ Chs n m ss r t y lf ∧ t ≤ 60 ∧ (d = true → smN n r ≤ t) ∧ (d = false → t < smN n r ∧ ∀ b, b < n → lf b ≠ 0 → ¬ Can m ss (fh ss y t) (b : Int)) := by
  obtain ⟨i0, hi, hz0, hz1, hz2⟩ := info_parts Try.info3
  have HW : Hid (Wok (n : Int) m ss) := hw
  have HV : Hid (Ow w v m ss) := hv
  have HL : Hid (Il w lv n (fun b => (r b : Int))) := hl
  have HP : Hid (Il w pv 60 (fun i => (ps i : Int))) := hp
  have hn : 1 ≤ n ∧ n ≤ 20 := by have := hw.1; omega
  have HR1 : Hid (∀ b, b < n → r b ≤ 60) := fun b hb => by have := smN_one (f := r) hb; omega
  obtain ⟨al, hal⟩ : ∃ al, al = smN n r := ⟨_, rfl⟩
  have HAL : Hid (al = smN n r) := hal
  have hal6 : al ≤ 60 := by omega
  obtain ⟨ao, cap, rfl, hcap, hc⟩ := hl
  obtain ⟨po, pcap, rfl, hpcap, hpc⟩ := hp
  clear hc hpc hv hw hal hr
  go_enter Try.func19, Try.ntmps19
  go_upto_region 4 with fail
  have B1 : Hid (Below w.heap.size w (w.alloc (.cells #[] 3))) := below_one _ _
  have O1 : Hid ((w.alloc (.cells #[] 3)).ownsRow w.heap.size 3 1 (.slice (some ⟨w.heap.size, 0, none⟩) 0 0) 0 (ils (fun _ => 0) 0)) := own_empty w 3 1
  obtain ⟨g0, hg0⟩ : ∃ g0, g0 = w.heap.size := ⟨_, rfl⟩
  have HG0 : Hid (g0 = w.heap.size) := hg0
  have hsz : g0 < (w.alloc (.cells #[] 3)).heap.size := by rw [hg0]; simp
  rw [← hg0] at O1 ⊢
  generalize w.alloc (.cells #[] 3) = W1 at B1 O1 hsz ⊢
  have L1 : Hid (Il W1 (.slice ao n cap) n (fun b => (r b : Int))) := HL.out.below B1.out
  have C1 := il_cells L1.out
  have HC1 : Hid (0 < n → ∃ b off, ao = some ⟨b, off, none⟩ ∧ b < W1.heap.size ∧ ∀ k, k < n → W1.cell? ⟨b, off + k, none⟩ = some (.int .i64 ((fun b => (r b : Int)) k))) := C1
  clear C1 hg0
  go_loopw [12, 11] (fun i x wr => wr = W1 ∧ ∃ k : Nat, i = .int .i64 k ∧ k ≤ n ∧ x = .int .i64 ((smN k r : Nat) : Int)) (fun i _ _ => n - (intOf i).toNat)
  case atStart => exact ⟨rfl, 0, rfl, by omega, rfl⟩
  case round =>
    obtain ⟨rfl, k, rfl, hk, rfl⟩ := hrel
    by_cases h1 : k < n
    · obtain ⟨b, off, rfl, hlt, hcell⟩ := HC1.out (by omega)
      have c1 := hcell k h1
      have r1 := HR1.out k h1
      have r2 : smN k r ≤ 60 * k := by
        have : smN k r ≤ smN k (fun _ => 60) := smN_le fun j hj => HR1.out j (by omega)
        rw [smN_const] at this
        omega
      have r3 := smN_int k r
      have R3 : Hid (((smN (k + 1) r : Nat) : Int) = (smN k r : Int) + (r k : Int)) := r3
      clear hcell r3
      generalize smN k r = sk at r2 R3 ⊢
      go_wp2
      go_roundw
      case rel => exact ⟨trivial, k + 1, by go_num, by omega, by rw [R3.out]⟩
      case measure => simp [intOf]; omega
    · have hkn : n = k := by omega
      subst hkn
      rw [← HAL.out]
      go_upto_region 8 with (at_builtin; refine wpList_appi rfl _ _ rfl wr.heap.size _ _ 0 n [] _ rfl rfl (own_empty wr 3 1) (L1.out.below (below_one _ _)) (by omega) (below_one _ _).size ?_; intro v1 w2 ho hg; have ho2 := ho; rw [Nat.zero_add, List.nil_append] at ho2; have HO2 : Hid (w2.ownsRow wr.heap.size 3 1 v1 n (ils (fun b => (r b : Int)) n)) := ho2; have HB2 : Hid (Below wr.heap.size wr w2) := grown_below (below_one wr (.cells #[] 3)) (Nat.le_refl _) (own_empty wr 3 1) hg; clear ho ho2 hg)
      obtain ⟨lo, c, rfl, hlg⟩ := own_open HO2.out
      obtain ⟨g, rfl⟩ := hlg (by omega)
      have OG0 : Og w w2 (.slice (some ⟨g0, 0, none⟩) 0 0) 0 n g c (fun _ => 0) (fun b => if b < n then r b else 0) := by
        have h1 := (World.ownsRow.lt HO2.out g rfl).1
        have hb := B1.out.size
        refine ⟨?_, ?_, fun e => ?_, bstep B1.out HB2.out, by omega⟩
        · have := own_below O1.out HB2.out
          rw [HG0.out] at this ⊢
          exact this
        · rw [ils_congr (g := fun b => (r b : Int)) fun b hb => by rw [if_pos hb]]
          exact own_base HO2.out hb
        · injection e with e
          have e2 : g0 = g := e
          omega
      have OG0 : Hid _ := OG0
      clear O1 B1 L1 HC1 HO2 HB2 hlg hk h1
      go_loopw [10, 13, 14] (fun o _ _ wx => ∃ (t : Nat) (oo : Option Addr) (oc : Nat) (y : Nat → Int) (lf : Nat → Nat), o = .slice oo t oc ∧ t ≤ al ∧ Hid (Og w wx (.slice oo t oc) t n g c y lf) ∧ Hid (Chs n m ss r t y lf)) (fun o _ _ _ => match o with | .slice _ l _ => 61 - l | _ => 0)
      case atStart => exact ⟨0, _, _, _, _, rfl, by omega, OG0.out, chs_0 _⟩
      case round =>
        clear OG0
        obtain ⟨t, oo, oc, y, lf, rfl, ht, OG, CH⟩ := hrel
        by_cases h2 : t < al
        · go_upto_region 11 with fail
          have OC : Hid ((wr.alloc (.cells #[] 3)).ownsRow wr.heap.size 3 1 (.slice (some ⟨wr.heap.size, 0, none⟩) 0 0) 0 (ils (fun i => (((fun _ => 0) i : Nat) : Int)) 0)) := own_empty wr 3 1
          have BC : Hid (Below wr.heap.size wr (wr.alloc (.cells #[] 3))) := below_one _ _
          generalize wr = V at OG OC BC ⊢
          generalize V.alloc (.cells #[] 3) = V1 at OC BC ⊢
          have HV1 : Hid (Ow w v m ss) := HV.out
          go_loopw [14, 13] (fun bv cv wq => ∃ (k q : Nat) (co : Option Addr) (cc : Nat) (z : Nat → Nat), bv = .int .i64 k ∧ k ≤ n ∧ cv = .slice co q cc ∧ Hid (wq.ownsRow V.heap.size 3 1 (.slice co q cc) q (ils (fun i => (z i : Int)) q)) ∧ Hid (Below V.heap.size V wq) ∧ Hid (Cn m ss (fh ss y t) lf k q z)) (fun bv _ _ => n - (intOf bv).toNat)
          case atStart => exact ⟨0, 0, _, _, fun _ => 0, rfl, by omega, rfl, OC.out, BC.out, cn_0 _⟩
          case round =>
            clear OC BC
            obtain ⟨k, q, co, cc, z, rfl, hk, rfl, OC, BC, CN⟩ := hrel
            have O2 := OG.out.call BC.out
            have OG2 : Hid (Og w wr (.slice oo t oc) t n g c y lf) := O2
            by_cases h3 : k < n
            · have a0 := World.ownsRow.cellAt O2.o2 k (by omega)
              rw [ils_get h3] at a0
              clear O2
              obtain ⟨x, hx⟩ : ∃ x, x = lf k := ⟨_, rfl⟩
              have HX : Hid (x = lf k) := hx
              rw [← hx] at a0
              clear hx
              have x60 : x ≤ 2000 := by
                have h5 := CH.out.cn k h3
                have h6 := HR1.out k h3
                have h7 : x = lf k := HX.out
                omega
              by_cases h4 : x = 0
              · have CN2 : Hid (Cn m ss (fh ss y t) lf (k + 1) q z) := cn_no CN.out (fun h9 => absurd (HX.out.symm.trans h4) h9)
                subst h4
                go_wp2
                go_roundw
                case rel => exact ⟨k + 1, q, co, cc, z, by go_num, by omega, rfl, OC.out, BC.out, CN2.out⟩
                case measure => simp [intOf]; omega
              · have hx0 : ((x : Int) == 0) = false := beq_false_of_ne (by omega)
                have hxi : ¬ (x : Int) = 0 := by omega
                have HX0 : Hid (lf k ≠ 0) := fun h => h4 (HX.out.trans h)
                clear h4
                have hq20 : q ≤ 20 := by have := CN.out.le; omega
                by_cases h5 : Can m ss (fh ss y t) (k : Int)
                · have HCN : Hid (Can m ss (fh ss y t) (k : Int)) := h5
                  clear h5
                  go_wp2_with (first
                    | (at_builtin; (fail_if_success have := MA); refine wpList_appi rfl _ _ rfl wr.heap.size _ _ 0 t [] y rfl rfl (own_empty wr 3 1) ((il_of_own OG2.out.o1).below (below_one _ _)) (by omega) (below_one _ _).size ?_; intro v1 w2 ho hg; have ho2 := ho; rw [Nat.zero_add, List.nil_append] at ho2; have P1 : Hid (w2.ownsRow wr.heap.size 3 1 v1 t (ils y t)) := ho2; have Q1 : Hid (Below wr.heap.size wr w2) := grown_below (below_one wr (.cells #[] 3)) (Nat.le_refl _) (own_empty wr 3 1) hg; have MA : Hid True := trivial; clear ho ho2 hg)
                    | (at_builtin; have Z := MA; (fail_if_success have := MF); refine wpList_append_own _ rfl _ _ 27 rfl wr.heap.size 3 i0 (.int .i64 0) 1 8 Try.underlying27 hi hz0 hz1 hz2 rfl (by decide) _ _ _ rfl (own_below P1.out (below_one _ _)) ⟨w2.heap.size, 0, none⟩ 1 1 [.int .i64 (k : Int)] rfl rfl (one_new _ _ _) (by simp [Value.oneCell']) (by unfold maxLen; omega) (by omega) (Nat.le_trans Q1.out.size (below_one _ _).size) ?_; intro v2 w3 ho hg _; rw [ils_app] at ho; have P2 : Hid (w3.ownsRow wr.heap.size 3 1 v2 (t + 1) (ils (mor y t k) (t + 1))) := ho; have Q2 : Hid (Below wr.heap.size wr w3) := grown_below (bstep Q1.out (below_one _ _)) (Nat.le_refl _) (own_below P1.out (below_one _ _)) hg; clear ho hg)
                    | (go_at_call 16; refine (fire_ext (b := k) (HV.out.below (bstep OG2.out.be Q2.out)) (il_of_own P2.out) HW.out (by omega) CH.out h3).mono ?_; rintro e w4 ⟨x4, c4, rfl, k1, k2, hb⟩; obtain rfl := k1 HCN.out; have MF : Hid True := trivial; have BC : Hid (Below V.heap.size V w4) := bstep BC.out (bstep Q2.out hb); have OC : Hid (w4.ownsRow V.heap.size 3 1 (.slice co q cc) q (ils (fun i => (z i : Int)) q)) := own_below OC.out (bstep Q2.out hb); clear hb k1 k2)
                    | (at_builtin; have Z := MF; refine wpList_append_own _ rfl _ _ 27 rfl V.heap.size 3 i0 (.int .i64 0) 1 8 Try.underlying27 hi hz0 hz1 hz2 rfl (by decide) _ _ _ rfl (own_below OC.out (below_one _ _)) ⟨w4.heap.size, 0, none⟩ 1 1 [.int .i64 (k : Int)] rfl rfl (one_new _ _ _) (by simp [Value.oneCell']) (by unfold maxLen; omega) (by omega) (bstep BC.out (below_one _ _)).size ?_; intro v5 w5 ho hg _; rw [ils_app, put_nat] at ho; obtain ⟨co2, cc2, rfl, _⟩ := own_open ho; have OC5 : Hid _ := ho; have BC5 : Hid (Below V.heap.size V w5) := grown_below (bstep BC.out (below_one _ _)) (Nat.le_refl _) (own_below OC.out (below_one _ _)) hg; clear ho hg))
                  go_roundw
                  case rel => exact ⟨k + 1, q + 1, co2, cc2, _, by go_num, by omega, rfl, OC5.out, BC5.out, cn_yes CN.out HX0.out HCN.out⟩
                  case measure => simp [intOf]; omega
                · have HCN : Hid (¬ Can m ss (fh ss y t) (k : Int)) := h5
                  clear h5
                  go_wp2_with (first
                    | (at_builtin; (fail_if_success have := MA); refine wpList_appi rfl _ _ rfl wr.heap.size _ _ 0 t [] y rfl rfl (own_empty wr 3 1) ((il_of_own OG2.out.o1).below (below_one _ _)) (by omega) (below_one _ _).size ?_; intro v1 w2 ho hg; have ho2 := ho; rw [Nat.zero_add, List.nil_append] at ho2; have P1 : Hid (w2.ownsRow wr.heap.size 3 1 v1 t (ils y t)) := ho2; have Q1 : Hid (Below wr.heap.size wr w2) := grown_below (below_one wr (.cells #[] 3)) (Nat.le_refl _) (own_empty wr 3 1) hg; have MA : Hid True := trivial; clear ho ho2 hg)
                    | (at_builtin; have Z := MA; (fail_if_success have := MF); refine wpList_append_own _ rfl _ _ 27 rfl wr.heap.size 3 i0 (.int .i64 0) 1 8 Try.underlying27 hi hz0 hz1 hz2 rfl (by decide) _ _ _ rfl (own_below P1.out (below_one _ _)) ⟨w2.heap.size, 0, none⟩ 1 1 [.int .i64 (k : Int)] rfl rfl (one_new _ _ _) (by simp [Value.oneCell']) (by unfold maxLen; omega) (by omega) (Nat.le_trans Q1.out.size (below_one _ _).size) ?_; intro v2 w3 ho hg _; rw [ils_app] at ho; have P2 : Hid (w3.ownsRow wr.heap.size 3 1 v2 (t + 1) (ils (mor y t k) (t + 1))) := ho; have Q2 : Hid (Below wr.heap.size wr w3) := grown_below (bstep Q1.out (below_one _ _)) (Nat.le_refl _) (own_below P1.out (below_one _ _)) hg; clear ho hg)
                    | (go_at_call 16; refine (fire_ext (b := k) (HV.out.below (bstep OG2.out.be Q2.out)) (il_of_own P2.out) HW.out (by omega) CH.out h3).mono ?_; rintro e w4 ⟨x4, c4, rfl, k1, k2, hb⟩; obtain rfl := k2 HCN.out; have MF : Hid True := trivial; have BC : Hid (Below V.heap.size V w4) := bstep BC.out (bstep Q2.out hb); have OC : Hid (w4.ownsRow V.heap.size 3 1 (.slice co q cc) q (ils (fun i => (z i : Int)) q)) := own_below OC.out (bstep Q2.out hb); clear hb k1 k2))
                  go_roundw
                  case rel => exact ⟨k + 1, q, co, cc, z, by go_num, by omega, rfl, OC.out, BC.out, cn_no CN.out (fun _ => HCN.out)⟩
                  case measure => simp [intOf]; omega
            · have hkn : n = k := by omega
              subst hkn
              by_cases h4 : q = 0
              · have NO : Hid (∀ b, b < n → lf b ≠ 0 → ¬ Can m ss (fh ss y t) (b : Int)) := CN.out.no h4
                subst h4
                clear O2
                go_wp2
                go_ret2
                exact ⟨_, t, y, lf, false, rfl, il_of_own OG2.out.o1, OG2.out.be, CH.out, by omega, (fun e => nomatch e), fun _ => ⟨by have := HAL.out; omega, NO.out⟩⟩
              · have hq20 : q ≤ 20 := by have := CN.out.le; omega
                clear O2
                obtain ⟨pb, poff, rfl, hpl, hpc⟩ := il_cells (HP.out.below OG2.out.be) (by omega)
                have p0 := hpc t (by omega)
                clear hpc
                have hm1 : ((t : Int) % 60) = t := by omega
                obtain ⟨x, hx⟩ : ∃ x, x = ps t := ⟨_, rfl⟩
                have hxq : x % q < q := Nat.mod_lt _ (by omega)
                rw [← hx] at p0
                clear hx
                obtain ⟨cg, rfl⟩ : ∃ cg, co = some ⟨cg, 0, none⟩ := by
                  obtain ⟨_, _, e1, e2⟩ := own_open OC.out
                  injection e1 with e1
                  subst e1
                  exact e2 (by omega)
                have c0 := World.ownsRow.cellAt OC.out (x % q) (by omega)
                rw [ils_get hxq] at c0
                obtain ⟨hz1', hz2', hz3'⟩ := CN.out.ok (x % q) hxq
                have HZ : Hid (z (x % q) < n ∧ lf (z (x % q)) ≠ 0 ∧ Can m ss (fh ss y t) (z (x % q) : Int)) := ⟨hz1', hz2', hz3'⟩
                clear hz1' hz2' hz3'
                generalize z (x % q) = b at c0 HZ
                go_upto_region 20 with fail
                have hbn := HZ.out.1
                have hb0 := HZ.out.2.1
                have a1 := World.ownsRow.cellAt OG2.out.o2 b (by omega)
                rw [ils_get hbn] at a1
                have z1 := World.ownsRow.frozenAt OG2.out.o2 b
                have l60 : lf b ≤ 60 := by have h5 := CH.out.cn b hbn; have h6 := HR1.out b hbn; omega
                have ST := OG2.out.store (b := b)
                rw [show ((lf b - 1 : Nat) : Int) = (lf b : Int) - 1 by omega] at ST
                have ST : Hid (Og w (wr.setCell ⟨g, b, none⟩ (.int .i64 ((lf b : Int) - 1))) (.slice oo t oc) t n g c y (dec lf b)) := ST
                have CH2 : Hid (Chs n m ss r (t + 1) (mor y t b) (dec lf b)) := chs_step CH.out hbn hb0 HZ.out.2.2
                generalize lf b = x at a1 l60 hb0 ST
                clear c0 p0
                go_upto_region 21 with fail
                generalize wr.setCell ⟨g, b, none⟩ (.int .i64 ((x : Int) - 1)) = W6 at ST ⊢
                go_wp2_with (at_builtin; refine wpList_app _ rfl _ _ 27 rfl w.heap.size 3 i0 (.int .i64 0) 1 8 Try.underlying27 hi hz0 hz1 hz2 rfl (by decide) _ _ _ rfl (ST.out.call (below_one _ _)).o1 ⟨W6.heap.size, 0, none⟩ 1 1 [.int .i64 (b : Int)] rfl rfl (one_new _ _ _) (by simp [Value.oneCell']) (by unfold maxLen; omega) (by omega) (ST.out.call (below_one _ _)).be.size (by decide) ?_; intro v' w4 ho hg hu; rw [ils_app] at ho; obtain ⟨oo2, oc2, rfl, _⟩ := own_open ho; have OG4 : Hid (Og w w4 (.slice oo2 (t + 1) oc2) (t + 1) n g c (mor y t b) (dec lf b)) := (ST.out.call (below_one _ _)).app ho hg (hu.imp id And.left); clear ho hg hu)
                go_roundw
                case rel => exact ⟨t + 1, oo2, oc2, _, _, rfl, by omega, OG4.out, CH2.out⟩
                case measure => simp only []; omega
        · have e : t = al := by omega
          go_wp2
          go_ret2
          exact ⟨_, t, y, lf, true, rfl, il_of_own OG.out.o1, OG.out.be, CH.out, by omega, fun _ => by have := HAL.out; omega, (fun e => nomatch e)⟩

/-- A net with a round of at most 60 fires. -/
structure Net (N : Int) (n m : Nat) (ss : Nat → Wr) (r : Nat → Nat) : Prop where
  eq : N = (n : Int)
  wok : Wok (n : Int) m ss
  lst : Lst (wsn ss) n m r
  le : smN n r ≤ 60

/-- A line of it. -/
structure Lok (n m : Nat) (ss : Nat → Wr) (r : Nat → Nat) (K : Nat) (y : Nat → Int) : Prop where
  en : Wend n m ss r 1 K
  le : K ≤ 2000
  eq : y = fun k => (wvf n m ss 1 (wst n m ss r 1 k) 0 : Int)

theorem il_congr {w : World} {v : Value} {n : Nat} {f g : Nat → Int} (h : Il w v n f) (he : ∀ k, k < n → f k = g k) : Il w v n g := by
  obtain ⟨a, c, rfl, h1, h2⟩ := h
  refine ⟨a, c, rfl, h1, fun h0 => ?_⟩
  obtain ⟨b, off, rfl, h3, h4⟩ := h2 h0
  exact ⟨b, off, rfl, h3, fun k hk => by rw [← he k hk]; exact h4 k hk⟩

theorem line_or {w : World} {v : Value} {N : Int} {n m : Nat} {ss : Nat → Wr} {r : Nat → Nat} (h : Net N n m ss r) (hv : Ow w v m ss) :
    Calls Try.prog 12 #[.int .i64 N, v] w fun e w' => ∃ u K y d, e = .returned (.tuple #[u, .bool d]) ∧ Il w' u K y ∧ Below w.heap.size w w' ∧ ((d = true ∧ Lok n m ss r K y) ∨ (d = false ∧ K = 0 ∧ ∃ K', Wstk n m ss r 1 K')) := by
  obtain ⟨rfl, hw, hr, _⟩ := h
  refine (iLine_any hv hw hr).mono ?_
  rintro e w' (⟨K, hK, hK2, u, rfl, ho, hb⟩ | ⟨hS, h⟩)
  · exact ⟨u, K, _, true, rfl, il_of_own ho, hb, .inl ⟨rfl, hK, hK2, rfl⟩⟩
  · obtain ⟨u, rfl, ho, hb⟩ := h (fun _ => 0)
    exact ⟨u, 0, _, false, rfl, il_of_own ho, hb, .inr ⟨rfl, rfl, hS⟩⟩

theorem chosen_net {w : World} {v lv pv : Value} {N : Int} {n m K : Nat} {ss : Nat → Wr} {r ps : Nat → Nat} {y0 : Nat → Int} (h : Net N n m ss r) (hv : Ow w v m ss) (hl : Il w lv n (fun b => (r b : Int))) (hp : Il w pv 60 (fun i => (ps i : Int))) (hk : Lok n m ss r K y0) :
    Calls Try.prog 19 #[.int .i64 N, v, lv, pv] w fun e w' => ∃ u t y lf, e = .returned (.tuple #[u, .bool true]) ∧ Il w' u t y ∧ Below w.heap.size w w' ∧ Chs n m ss r t y lf ∧ t ≤ 60 ∧ smN n r ≤ t := by
  obtain ⟨rfl, hw, hr, h6⟩ := h
  refine (chosen_any hv hl hp hw h6).mono ?_
  rintro e w' ⟨u, t, y, lf, d, rfl, i1, hb, ch, t6, k1, k2⟩
  cases d with
  | true => exact ⟨u, t, y, lf, rfl, i1, hb, ch, t6, k1 rfl⟩
  | false => exact (chs_stuck hw ch (k2 rfl).1 (k2 rfl).2 hk.en).elim

theorem chosen_stk {w : World} {v lv pv : Value} {N : Int} {n m : Nat} {ss : Nat → Wr} {r ps : Nat → Nat} (h : Net N n m ss r) (hv : Ow w v m ss) (hl : Il w lv n (fun b => (r b : Int))) (hp : Il w pv 60 (fun i => (ps i : Int))) (hk : ∃ K, Wstk n m ss r 1 K) :
    Calls Try.prog 19 #[.int .i64 N, v, lv, pv] w fun e w' => ∃ u, e = .returned (.tuple #[u, .bool false]) ∧ Below w.heap.size w w' := by
  obtain ⟨rfl, hw, hr, h6⟩ := h
  refine (chosen_any hv hl hp hw h6).mono ?_
  rintro e w' ⟨u, t, y, lf, d, rfl, i1, hb, ch, t6, k1, k2⟩
  cases d with
  | false => exact ⟨u, rfl, hb⟩
  | true =>
    obtain ⟨K, hK⟩ := chs_wend hw (by omega) ch (k1 rfl)
    obtain ⟨K', hS⟩ := hk
    exact (wend_stk hK hS).elim

theorem fire_line {w : World} {v u : Value} {N : Int} {n m K : Nat} {ss : Nat → Wr} {r : Nat → Nat} {y : Nat → Int} (h : Net N n m ss r) (hv : Ow w v m ss) (hk : Lok n m ss r K y) (hu : Il w u K y) :
    Calls Try.prog 16 #[.int .i64 N, v, u] w fun e w' => ∃ x, e = .returned (.tuple #[x, .int .i64 (-1)]) ∧ Il w' x m (fun i => (ss i).ha) ∧ Below w.heap.size w w' := by
  obtain ⟨rfl, hw, hr, _⟩ := h
  obtain ⟨hK, hle, rfl⟩ := hk
  refine (iFire_good (J := K) (n : Int) (-1) hv hu hw hle (Nat.le_refl _) (wend_fok hw hK) (fun h => absurd h (Nat.lt_irrefl _)) (by rw [if_neg (Nat.lt_irrefl _)])).mono ?_
  rintro e w' ⟨x, rfl, ho, hb⟩
  exact ⟨x, rfl, il_congr (il_of_own ho) (wend_have hw hr.1 hK), hb⟩

theorem fire_chs {w : World} {v u : Value} {N : Int} {n m t : Nat} {ss : Nat → Wr} {r lf : Nat → Nat} {y : Nat → Int} (h : Net N n m ss r) (hv : Ow w v m ss) (hc : Chs n m ss r t y lf) (ht : t ≤ 60) (hs : smN n r ≤ t) (hu : Il w u t y) :
    Calls Try.prog 16 #[.int .i64 N, v, u] w fun e w' => ∃ x, e = .returned (.tuple #[x, .int .i64 (-1)]) ∧ Il w' x m (fun i => (ss i).ha) ∧ Below w.heap.size w w' := by
  obtain ⟨rfl, hw, hr, _⟩ := h
  refine (iFire_good (J := t) (n : Int) (-1) hv hu hw (by omega) (Nat.le_refl _) hc.fok (fun h => absurd h (Nat.lt_irrefl _)) (by rw [if_neg (Nat.lt_irrefl _)])).mono ?_
  rintro e w' ⟨x, rfl, ho, hb⟩
  exact ⟨x, rfl, il_congr (il_of_own ho) (chs_have hw hr.1 hc hs), hb⟩

theorem times_line {w : World} {u : Value} {N : Int} {n m K : Nat} {ss : Nat → Wr} {r : Nat → Nat} {y : Nat → Int} (h : Net N n m ss r) (hk : Lok n m ss r K y) (hu : Il w u K y) :
    Calls Try.prog 17 #[.int .i64 N, u] w fun e w' => ∃ x, e = .returned x ∧ Il w' x n (fun b => (r b : Int)) ∧ Below w.heap.size w w' := by
  obtain ⟨rfl, hw, hr, _⟩ := h
  obtain ⟨hK, hle, rfl⟩ := hk
  refine (times_any hu (by have := hw.1; omega) hle (fun q hq => (wend_fok hw hK q hq).1)).mono ?_
  rintro e w' ⟨x, rfl, ho, hb⟩
  exact ⟨x, rfl, il_congr ho (fun b hb => by rw [wend_cnt hw hK b hb]), hb⟩

theorem times_chs {w : World} {u : Value} {N : Int} {n m t : Nat} {ss : Nat → Wr} {r lf : Nat → Nat} {y : Nat → Int} (h : Net N n m ss r) (hc : Chs n m ss r t y lf) (ht : t ≤ 60) (hs : smN n r ≤ t) (hu : Il w u t y) :
    Calls Try.prog 17 #[.int .i64 N, u] w fun e w' => ∃ x, e = .returned x ∧ Il w' x n (fun b => (r b : Int)) ∧ Below w.heap.size w w' := by
  obtain ⟨rfl, hw, hr, _⟩ := h
  refine (times_any hu (by have := hw.1; omega) (by omega) (fun q hq => (hc.fok q hq).1)).mono ?_
  rintro e w' ⟨x, rfl, ho, hb⟩
  exact ⟨x, rfl, il_congr ho (fun b hb => by rw [chs_cnt hc hs b hb]), hb⟩

/-- What Balance of both sides says. -/
theorem cab {m : Nat} {ss : Nat → Wr} (n : Int) (hm : m ≤ 1048576) :
    (∃ (nn : Nat) (r : Nat → Nat), n = (nn : Int) ∧ Wok (nn : Int) m ss ∧ Lst (wsn ss) nn m r ∧ (∀ W v, Ow W v m ss → Calls Try.prog 13 #[.int .i64 (nn : Int), v] W fun e w' => Pst W w' e nn (fun i => (r i : Int)) true) ∧ (∀ W v, Ow W v m ss → Calls Try.prog 11 #[.int .i64 (nn : Int), v] W fun e w' => Pst W w' e nn (fun i => (r i : Int)) true)) ∨
    ((∀ W v, Ow W v m ss → Calls Try.prog 13 #[.int .i64 n, v] W fun e w' => Pst W w' e 0 (fun _ => 0) false) ∧ (∀ W v, Ow W v m ss → Calls Try.prog 11 #[.int .i64 n, v] W fun e w' => Pst W w' e 0 (fun _ => 0) false)) := by
  by_cases h : Wok n m ss
  · obtain ⟨nn, rfl⟩ : ∃ nn : Nat, n = (nn : Int) := ⟨n.toNat, by have := h.1; omega⟩
    by_cases hx : ∃ x, Sol (wsn ss) nn m x
    · obtain ⟨x, hx⟩ := hx
      obtain ⟨r, hr⟩ := lst_ex (wsn_ok h) hx
      exact .inl ⟨nn, r, rfl, h, hr, fun W v hv => (sBal_any hv.il5 h).mono fun _ _ hb => bpo_yes hb hr, fun W v hv => (iBal_any hv.il5 h).mono fun _ _ hb => bpo_yes hb hr⟩
    · exact .inr ⟨fun W v hv => (sBal_any hv.il5 h).mono fun _ _ hb => bpo_no hb hx _, fun W v hv => (iBal_any hv.il5 h).mono fun _ _ hb => bpo_no hb hx _⟩
  · exact .inr ⟨fun W v hv => sBal_bad n hv.il5 hm h _, fun W v hv => iBal_bad n hv.il5 hm h _⟩

def ss2 : Nat → Wr := fun _ => ⟨0, 1, 2, 1, 0⟩
def rr2 : Nat → Nat := fun b => if b = 0 then 1 else 2

theorem two_net : Net 2 2 1 ss2 rr2 := by
  refine ⟨rfl, ⟨by omega, by omega, fun i _ => ?_⟩, ⟨⟨fun b hb => ?_, fun i hi => ?_, ?_⟩, fun x hx b hb => ?_⟩, ?_⟩
  · show Wgd 2 ⟨0, 1, 2, 1, 0⟩
    refine ⟨?_, ?_, ?_, ?_, ?_⟩ <;> simp
  · unfold rr2; split <;> omega
  · rfl
  · decide
  · have h0 := hx.1 0 (by omega)
    have h1 := hx.1 1 (by omega)
    have h2 : x 0 * 2 = x 1 * 1 := hx.2.1 0 (by omega)
    have hb2 : b = 0 ∨ b = 1 := by omega
    rcases hb2 with rfl | rfl
    · show 1 ≤ x 0; omega
    · show 2 ≤ x 1; omega
  · decide

theorem two_ow (w : World) : Ow (w.alloc (.cells #[.int .i64 0, .int .i64 1, .int .i64 2, .int .i64 1, .int .i64 0] 31)) (.slice (some ⟨w.heap.size, 0, none⟩) 1 1) 1 ss2 :=
  ⟨w.heap.size, World.ownsRow_lit (base := w.heap.size) (e := 31) (size := 5) w #[.int .i64 0, .int .i64 1, .int .i64 2, .int .i64 1, .int .i64 0] 1 (Nat.le_refl _) (by decide) rfl⟩

theorem two_il (w : World) : Il (w.alloc (.cells #[.int .i64 1, .int .i64 2] 3)) (.slice (some ⟨w.heap.size, 0, none⟩) 2 2) 2 (fun b => (rr2 b : Int)) := by
  refine il_congr (lit_il w [1, 2]) ?_
  decide

end Go.Proofs.Ytlccicbgepfbbaa
