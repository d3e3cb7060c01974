/- A turned line made. -/
import Derived.Test.YtimjbpmppigaoaaTB
namespace Go.Proofs.Ytimjbpmppigaoaa
open Go.RowKit Go.Shelf
attribute [local go_sem] Oper.semAt_some

theorem own_kept {W W' : World} {row : Option Nat} {B n : Nat} {v : Value} {xs : List Value} (h : W.ownsRow B 3 1 v n xs) (hg : W.grownBy W' row) (hrow : ∀ r, row = some r → ∃ o : Obj, W.heap[r]? = some o ∧ o.isCells = false) : W'.ownsRow B 3 1 v n xs := by
  refine ⟨h.1, ?_⟩
  rcases h.2 with h' | ⟨g', cap', cur, h', hb', hg', rest⟩
  · exact .inl h'
  · exact .inr ⟨g', cap', cur, h', hb', (grownBy_keeps_cells hg hrow hg' rfl).trans hg', rest⟩

theorem own_obj {w : World} {B s n g c : Nat} {e : TypeId} {xs : List Value} (h : w.ownsRow B e s (.slice (some ⟨g, 0, none⟩) n c) n xs) : ∃ o, w.heap[g]? = some o ∧ o.isCells = true := by
  rcases h.2 with ⟨h', _⟩ | ⟨g', cap', cur, h', _, hg', _⟩
  · cases h'
  · injection h' with h1
    injection h1 with h1
    injection h1 with h1
    subst h1
    exact ⟨_, hg', rfl⟩

theorem Kq.put {b c : Nat} {w : World} (hb : b < w.heap.size) (hc : c < w.heap.size) (W : World) (l : Nat) (o o' : Obj) (hl : w.heap.size ≤ l) (h : W.heap[l]? = some o) (h1 : o.isCells = false) (h2 : o.isWalk = false) : Kq b c W (W.putObj l o') :=
  have := belowK_b (n₀ := w.heap.size) (Nat.le_refl _) W l o o' hl h h1 h2
  ⟨this.block b hb, this.block c hc⟩

theorem own_some' {w : World} {B n : Nat} {ao : Option Addr} {cap : Nat} {xs : List Value} (h : w.ownsRow B 3 1 (.slice ao n cap) n xs) (hn : 0 < n) : ∃ gu, ao = some ⟨gu, 0, none⟩ := by
  rcases h.2 with ⟨_, h⟩ | ⟨gu, cu, cur, hu, _, _, hcu, _⟩
  · omega
  · injection hu with h1
    exact ⟨gu, h1⟩

theorem KeepsOthers.kd {W W' : World} {g : Nat} (h : Kd (fun k => k = g) W W') {o : Obj} (hg : W.heap[g]? = some o) (hc : o.isCells = true) : KeepsOthers W W' := ⟨h.size, fun k o' ho hn => by
  by_cases hk : k = g
  · subst hk
    rw [hg] at ho
    injection ho with ho
    subst ho
    rw [hc] at hn
    cases hn
  · exact (h.block k (Array.getElem?_eq_some_iff.1 ho).1 hk).trans ho⟩

/-- What stands while the state comes in. -/
structure Nw (w W : World) (n tc : Nat) (ao : Option Addr) (g : Nat → Int) : Prop where
  bx : W.cell? ⟨w.heap.size + 2, 0, none⟩ = some (.pointer (some ⟨w.heap.size + 1, 0, none⟩))
  tu : Tu W w.heap.size (w.heap.size + 1) w.heap.size n (.slice ao n tc) g

theorem Nw.start (w : World) {n tc : Nat} {ao : Option Addr} (hn : n ≤ 64) (f : Nat → Int) (sv : Value) : Nw w ((((mkd w n).alloc (.cells #[.slice ao n tc, .slice (some ⟨w.heap.size, 0, none⟩) n n] 65)).alloc (.cells #[.pointer (some ⟨w.heap.size + 1, 0, none⟩)] 47)).alloc (.cells #[sv] 24)) n tc ao (ts f (zof []) n) ∧ Below w.heap.size w ((((mkd w n).alloc (.cells #[.slice ao n tc, .slice (some ⟨w.heap.size, 0, none⟩) n n] 65)).alloc (.cells #[.pointer (some ⟨w.heap.size + 1, 0, none⟩)] 47)).alloc (.cells #[sv] 24)) := by
  have s1 := mkd_size w n
  have b0 := mkd_below w n
  have b1 := below_one (mkd w n) (.cells #[.slice ao n tc, .slice (some ⟨w.heap.size, 0, none⟩) n n] 65)
  have b2 := below_one ((mkd w n).alloc (.cells #[.slice ao n tc, .slice (some ⟨w.heap.size, 0, none⟩) n n] 65)) (.cells #[.pointer (some ⟨w.heap.size + 1, 0, none⟩)] 47)
  have b3 := below_one (((mkd w n).alloc (.cells #[.slice ao n tc, .slice (some ⟨w.heap.size, 0, none⟩) n n] 65)).alloc (.cells #[.pointer (some ⟨w.heap.size + 1, 0, none⟩)] 47)) (.cells #[sv] 24)
  have o0 := mkd_own w (B := w.heap.size) (k := n) (by omega) (Nat.le_refl _)
  have o3 := own_below (own_below (own_below o0 b1) b2) b3
  have z0 : ils (ts f (zof []) n) n = ils (fun _ => 0) n := ils_congr fun i _ => ts_zero f n i
  have c0 : ((mkd w n).alloc (.cells #[.slice ao n tc, .slice (some ⟨w.heap.size, 0, none⟩) n n] 65)).cell? ⟨w.heap.size + 1, 0, none⟩ = some (.slice ao n tc) := by rw [← s1]; simp
  have c1 : ((mkd w n).alloc (.cells #[.slice ao n tc, .slice (some ⟨w.heap.size, 0, none⟩) n n] 65)).cell? ⟨w.heap.size + 1, 1, none⟩ = some (.slice (some ⟨w.heap.size, 0, none⟩) n n) := by rw [← s1]; simp
  have s2 : ((mkd w n).alloc (.cells #[.slice ao n tc, .slice (some ⟨w.heap.size, 0, none⟩) n n] 65)).heap.size = w.heap.size + 2 := by simp [s1]
  have cb : (((mkd w n).alloc (.cells #[.slice ao n tc, .slice (some ⟨w.heap.size, 0, none⟩) n n] 65)).alloc (.cells #[.pointer (some ⟨w.heap.size + 1, 0, none⟩)] 47)).cell? ⟨w.heap.size + 2, 0, none⟩ = some (.pointer (some ⟨w.heap.size + 1, 0, none⟩)) := by rw [← s2]; simp
  refine ⟨⟨(b3.cell (World.block_lt_of_cell? _ _ cb)).trans cb, ⟨((bstep b2 b3).cell (World.block_lt_of_cell? _ _ c0)).trans c0, ((bstep b2 b3).cell (World.block_lt_of_cell? _ _ c1)).trans c1, by rw [z0]; exact o3, by omega⟩⟩, bstep (bstep (bstep b0 b1) b2) b3⟩

set_option maxRecDepth 100000 in
set_option maxHeartbeats 4000000 in
theorem newT {w : World} {B n m tc : Nat} {sv : Value} {ao : Option Addr} {f st : Nat → Int} (ht : Il w (.slice ao n tc) n f) (hs : w.ownsRow B 3 1 sv m (ils st m)) (h1 : 1 ≤ n) (h2 : n ≤ 64) (h3 : Wth 1000000 n f) (h4 : Wth 1000000000 m st) (h5 : m + 1 = n) :
    Calls Try.prog 27 #[.slice ao n tc, sv] w fun e w' => ∃ A P, e = .returned (.pointer (some ⟨A, 0, none⟩)) ∧ w.heap.size ≤ A ∧ w.heap.size ≤ P ∧ Tu w' w.heap.size A P n (.slice ao n tc) (ts f (zof (fsO m st h4)) n) ∧ Below w.heap.size w w' := by
  have hmk := fun W => mkd_run W (k := n) (by omega)
  obtain ⟨so, sc, rfl, hsc, _⟩ := il_of_own hs
  obtain ⟨ao', tc', he, htc, hct⟩ := ht
  injection he with e1 _ e3
  subst e1 e3
  obtain ⟨bt, ot, rfl, hbt, hcell⟩ := hct (by omega)
  have HCT : Hid (∀ k, k < n → w.cell? ⟨bt, ot + k, none⟩ = some (.int .i64 (f k))) := hcell
  have H3 : Hid (Wth 1000000 n f) := h3
  have HFS : Hid _ := fsO_at m st h4
  have HFL : Hid _ := fsO_length m st h4
  have HS : Hid (w.ownsRow B 3 1 (.slice so m sc) m (ils st m)) := hs
  have NS : Hid _ := Nw.start w (n := n) (tc := tc) (ao := some ⟨bt, ot, none⟩) h2 f (.slice so m sc)
  generalize fsO m st h4 = fs at HFS HFL ⊢
  have s1 := mkd_size w n
  clear hs h3 hct hcell
  refine (callsIn_wide (n := 3)).1 ?_
  refine callsIn_of_wp_marks Try.func27 rfl trivial ?_ rfl
  simp only [Try.ntmps27, List.size_toArray, List.length_cons, List.length_nil, Nat.reduceAdd, Nat.reduceSub, Array.replicate_succ, Array.replicate_zero, List.push_toArray, List.append_toArray, List.nil_append, List.cons_append]
  gi_wp2_with (first
    | (refine ⟨trivial, ?_⟩; gi_at_call 42; refine (callsIn_wide.2 (bw26 _ _ _ _)).mono ?_; rintro e w' ⟨rfl, hw⟩; subst hw))
  clear hmk
  have S4 : ((((mkd w n).alloc (.cells #[.slice (some ⟨bt, ot, none⟩) n tc, .slice (some ⟨w.heap.size, 0, none⟩) n n] 65)).alloc (.cells #[.pointer (some ⟨w.heap.size + 1, 0, none⟩)] 47)).alloc (.cells #[.slice so m sc] 24)).heap.size = w.heap.size + 4 := by simp [s1]
  have CB : Hid (((((mkd w n).alloc (.cells #[.slice (some ⟨bt, ot, none⟩) n tc, .slice (some ⟨w.heap.size, 0, none⟩) n n] 65)).alloc (.cells #[.pointer (some ⟨w.heap.size + 1, 0, none⟩)] 47)).alloc (.cells #[.slice so m sc] 24)).cell? ⟨w.heap.size + 3, 0, none⟩ = some (.slice so m sc)) := by
    have : (((mkd w n).alloc (.cells #[.slice (some ⟨bt, ot, none⟩) n tc, .slice (some ⟨w.heap.size, 0, none⟩) n n] 65)).alloc (.cells #[.pointer (some ⟨w.heap.size + 1, 0, none⟩)] 47)).heap.size = w.heap.size + 3 := by simp [s1]
    have h := (Boxed.new (((mkd w n).alloc (.cells #[.slice (some ⟨bt, ot, none⟩) n tc, .slice (some ⟨w.heap.size, 0, none⟩) n n] 65)).alloc (.cells #[.pointer (some ⟨w.heap.size + 1, 0, none⟩)] 47)) 24 (.slice so m sc)).cell
    rw [this] at h
    exact h
  generalize ((((mkd w n).alloc (.cells #[.slice (some ⟨bt, ot, none⟩) n tc, .slice (some ⟨w.heap.size, 0, none⟩) n n] 65)).alloc (.cells #[.pointer (some ⟨w.heap.size + 1, 0, none⟩)] 47)).alloc (.cells #[.slice so m sc] 24)) = W4 at *
  have NS1 : Hid (Nw w W4 n tc (some ⟨bt, ot, none⟩) (ts f (zof []) n)) := NS.out.1
  have NS2 : Hid (Below w.heap.size w W4) := NS.out.2
  clear NS
  obtain ⟨lb, hlb1, hlb2, hlb3⟩ : ∃ lb, (lb < w.heap.size ∨ lb = w.heap.size + 3) ∧ lb < W4.heap.size ∧ (0 < m → so = some ⟨lb, 0, none⟩ ∧ lb < W4.heap.size ∧ ∀ j, j < m → W4.cell? ⟨lb, j, none⟩ = some (.int .i64 (st j))) := by
    by_cases hm0 : 0 < m
    · obtain ⟨g, rfl⟩ := own_some' HS.out hm0
      have h2 := own_lt HS.out
      refine ⟨g, .inl h2.2, by omega, fun _ => ⟨rfl, by omega, fun j hj => ?_⟩⟩
      have := World.ownsRow.cellAt HS.out j (by omega)
      rw [ils_get hj] at this
      exact (NS2.out.cell (p := ⟨g, j, none⟩) h2.2).trans this
    · exact ⟨w.heap.size + 3, .inr rfl, by omega, fun h => absurd h hm0⟩
  have sS : w.heap.size + 3 < W4.heap.size := by omega
  have HSQ := bw_stops Fence.wide 2 trivial rfl (by omega) (w.heap.size + 3) lb m sc so (by omega) st fs HFL.out HFS.out _ sS hsc CB.out hlb3
  refine wpIn_rangeFunc_ownF rfl (by omega) (gf := 47) (lb := #[.pointer (some ⟨w.heap.size + 3, 0, none⟩)]) rfl trivial (enters_of Try.func47 (by kernel_rfl) rfl) HSQ (fun h k => h.t k) (fun W l o o' hl h h1 h2 => Kq.put sS hlb2 W l o o' hl h h1 h2) (Below.refl _ _) (fun _ => rfl)
    (fun pre W => Nw w W n tc (some ⟨bt, ot, none⟩) (ts f (zof pre) n) ∧ (Below w.heap.size w W ∧ W4.heap.size ≤ W.heap.size))
    (fun _ _ _ => False)
    (OwnFrom.and (fun s A B row hs hg hr => ⟨cell_kept hs.bx hg (fun r e => (hr r e).2), ⟨cell_kept hs.tu.c0 hg (fun r e => (hr r e).2), cell_kept hs.tu.c1 hg (fun r e => (hr r e).2), own_kept hs.tu.own hg (fun r e => (hr r e).2), hs.tu.ne⟩⟩) (OwnFrom.and (ownFrom_below (Nat.le_refl _) NS2.out.size) (fun _ _ _ _ hs hg _ => Nat.le_trans hs hg.size)))
    (fun _ _ _ _ _ hs _ _ => hs)
    ⟨NS1.out, NS2.out, Nat.le_refl _⟩
    (fun x => { tmps := #[.slice (some ⟨bt, ot, none⟩) n tc, .slice so m sc, undef, undef, .pointer none, .pointer (some ⟨w.heap.size + 1 + 1, 0, none⟩), undef, .int .i64 x.1.2, .slice (some ⟨bt, ot, none⟩) n tc, .slice (some ⟨bt, ot, none⟩) n tc, .int .i64 n, .slice (some ⟨w.heap.size, 0, none⟩) n n, .agg #[.slice (some ⟨bt, ot, none⟩) n tc, .slice (some ⟨w.heap.size, 0, none⟩) n n], .pointer (some ⟨w.heap.size + 1, 0, none⟩), .slice so m sc, .func (.func 47) #[] #[.pointer (some ⟨w.heap.size + 1 + 1 + 1, 0, none⟩)], .int .i64 (x.1.1 : Int), .int .i64 x.1.2, undef, undef, undef, undef], defers := [] }) ?assign ?body ?done ?stop
  case assign =>
    intro l x W K hK
    unfold enl
    gi_wp2
    exact hK
  case body =>
    rintro l pre ⟨⟨q, p⟩, hx⟩ W ⟨hN, hB, hS⟩ hlen
    dsimp only at hx ⊢
    have cb : W.cell? ⟨w.heap.size + 1 + 1, 0, none⟩ = some (.pointer (some ⟨w.heap.size + 1, 0, none⟩)) := hN.bx
    have i5 := tStep2 (x := p) hN.tu htc (fun k hk => (hB.cell (p := ⟨bt, ot + k, none⟩) hbt).trans (HCT.out k hk)) (by omega) h1 h2 H3.out hx (zof_wth pre)
    have HN : Hid (Nw w W n tc (some ⟨bt, ot, none⟩) (ts f (zof pre) n)) := hN
    have HB : Hid (Below w.heap.size w W) := hB
    have HX : Hid (zof (pre ++ [⟨(q, p), hx⟩]) = shf p (zof pre)) := zof_snoc pre ⟨(q, p), hx⟩
    have FIN : Hid (∀ w6 : World, Tu w6 w.heap.size (w.heap.size + 1) w.heap.size n (.slice (some ⟨bt, ot, none⟩) n tc) (ts f (shf p (zof pre)) n) → Kd (fun k => k = w.heap.size) W w6 → KeepsOthers W w6 ∧ Kq (w.heap.size + 3) lb W w6 ∧ (Nw w w6 n tc (some ⟨bt, ot, none⟩) (ts f (zof (pre ++ [⟨(q, p), hx⟩])) n) ∧ (Below w.heap.size w w6 ∧ W4.heap.size ≤ w6.heap.size))) := fun w6 hT hK => by
      obtain ⟨o, ho1, ho2⟩ := own_obj HN.out.tu.own
      refine ⟨KeepsOthers.kd hK ho1 ho2, ⟨hK.block _ (by omega) (by omega), hK.block _ (by omega) (by omega)⟩, ⟨(World.cell?_of_block (w := W) (hK.block (w.heap.size + 2) (by omega) (by omega))).trans HN.out.bx, by rw [HX.out]; exact hT⟩, Kd.below HB.out hK HB.out.size (fun g hg => by omega), Nat.le_trans hS hK.size⟩
    clear hN hB HN HB HX
    gi_wp2_with (first
      | (refine ⟨trivial, ?_⟩; gi_at_call 43; refine (CallsIn.inRound l (callsIn_wide.2 i5)).mono ?_; rintro e w6 ⟨rfl, hT, hK6⟩; have F6 : Hid _ := FIN.out w6 hT hK6; clear hT hK6))
    exact F6.out
  case done =>
    rintro D ys W hD rfl ⟨hN, hB, _⟩ hK
    have cb : W.cell? ⟨w.heap.size + 1 + 1, 0, none⟩ = some (.pointer (some ⟨w.heap.size + 1, 0, none⟩)) := hN.bx
    have HN : Hid (Nw w W n tc (some ⟨bt, ot, none⟩) (ts f (zof ys) n)) := hN
    have HB : Hid (Below w.heap.size w W) := hB
    clear hN hB
    gi_wp2
    refine ⟨by simp, .inl ⟨_, _, rfl, run_takeDeferred hK, ?_⟩⟩
    refine ⟨_, results_tmp rfl _ _ _, ⟨_, _, rfl, Nat.le_succ _, Nat.le_refl _, ⟨cell_kept HN.out.tu.c0 (grownBy_putObj' _ D (.deferred none)) (fun r e => by cases e; exact ⟨_, hK, rfl⟩), cell_kept HN.out.tu.c1 (grownBy_putObj' _ D (.deferred none)) (fun r e => by cases e; exact ⟨_, hK, rfl⟩), own_kept HN.out.tu.own (grownBy_putObj' _ D (.deferred none)) (fun r e => by cases e; exact ⟨_, hK, rfl⟩), HN.out.tu.ne⟩, HB.out.trans (belowK_b (w := w) (Nat.le_refl _) W D _ _ (by omega) hK rfl rfl)⟩⟩
  case stop =>
    rintro D c pre W _ _ h _
    exact h.elim
end Go.Proofs.Ytimjbpmppigaoaa
