/- Adapt: the model. -/
import Derived.Test.YtbkkjbehmpmjeaaDC
namespace Go.Proofs.Ytbkkjbehmpmjeaa
open Go.RowKit

theorem own_cut {w : World} {B g c n m : Nat} {z : Nat → Int} (h : w.ownsRow B 3 1 (.slice (some ⟨g, 0, none⟩) n c) n (ils z n)) (hm : m ≤ n) : w.ownsRow B 3 1 (.slice (some ⟨g, 0, none⟩) m c) m (ils z m) := by
  refine ⟨by rw [ils_length, Nat.mul_one], ?_⟩
  rcases h.2 with ⟨h', _⟩ | ⟨g', c', cur, h', hb, hg, hnc, hcm, hcs, ht⟩
  · cases h'
  · injection h' with e1 _ e3
    subst e3
    refine .inr ⟨g', c, cur, by rw [e1], hb, hg, Nat.le_trans hm hnc, hcm, hcs, ?_⟩
    have e : ils z m = (ils z n).take m := by
      apply List.ext_getElem?
      intro i
      by_cases hi : i < m
      · rw [ils_get hi, List.getElem?_take, if_pos hi, ils_get (by omega)]
      · rw [List.getElem?_eq_none (by rw [ils_length]; omega), List.getElem?_eq_none (by rw [List.length_take, ils_length]; omega)]
    rw [e, ← ht, List.take_take]
    simp only [Nat.mul_one]
    rw [Nat.min_eq_left hm]

theorem ils_shf (x : Int) (z : Nat → Int) {n : Nat} (hn : 1 ≤ n) : [Value.int .i64 x] ++ ils z (n - 1) = ils (shf x z) n := by
  apply List.ext_getElem?
  intro i
  match i with
  | 0 => rw [ils_get (by omega)]; simp [shf]
  | i + 1 =>
    by_cases h : i + 1 < n
    · rw [ils_get h]
      simp only [List.singleton_append, List.getElem?_cons_succ]
      rw [ils_get (by omega)]
      simp [shf]
    · rw [List.getElem?_eq_none (by rw [List.length_append, ils_length]; simp; omega), List.getElem?_eq_none (by rw [ils_length]; omega)]

theorem one_own (W : World) (x : Int) : (W.alloc (.cells #[.int .i64 x] 3)).ownsRow W.heap.size 3 1 (.slice (some ⟨W.heap.size, 0, none⟩) 1 1) 1 [.int .i64 x] := by
  have h := World.ownsRow_lit (base := W.heap.size) (e := 3) (size := 1) W #[.int .i64 x] 1 (Nat.le_refl _) (by unfold maxLen; omega) rfl
  exact h

/-- A row that lies below is apart from what was made longer. -/
theorem apart_app {w : World} {B s n : Nat} {e : TypeId} {t o v' : Value} {xs : List Value} (ht : w.ownsRow B e s t n xs) (ha : Apart t o) (hu : v'.ownBlock = o.ownBlock ∨ v'.ownBlock = some w.heap.size) : Apart t v' := by
  rcases hu with hu | hu
  · unfold Apart at *
    rw [hu]
    exact ha
  · refine .inr (fun e => ?_)
    rw [hu] at e
    have := World.ownsRow.lt ht _ e
    omega

/-- An append, and where the row lies behind it. -/
theorem wpList_app {P : Program} (w : World) {ops : Array Oper} {rest : List Oper} {o : Oper} {a : Act} {Q : Exit → Act → World → Prop} (hgd : o.guard = none) (s x : Operand) (t : TypeId)
    (ho : o.op = .call { callee := .builtin .append, args := #[s, x], argTypes := #[t, t] })
    (base : Nat) (e : TypeId) (i : TypeInfo) (z : Value) (size bytes : Nat) (ht : P.underlying t = some (.slice e)) (hi : P.info? e = some i) (hz : i.zero = some z)
    (hsize : i.size = size) (hby : i.bytes = bytes) (hzs : z.cells.size = size) (hsz : 0 < size)
    (v : Value) (n : Nat) (xs : List Value) (hs : a.eval s = v) (hown : w.ownsRow base e size v n xs)
    (ad : Addr) (m c : Nat) (news : List Value) (hx : a.eval x = .slice (some ad) m c) (hl : news.length = m * size) (hnews : ∀ j u, news[j]? = some u → w.cell? (ad.add j) = some u) (h1 : ∀ u ∈ news, u.oneCell' = true)
    (h63 : n + m ≤ maxLen) (hbytes : (n + m) * bytes ≤ 140737488355328) (hbase : base ≤ w.heap.size) (hm : 0 < m)
    (h : ∀ v' w', w'.ownsRow base e size v' (n + m) (xs ++ news) → w.grownBy w' v.ownBlock → (v'.ownBlock = v.ownBlock ∨ (v'.ownBlock = some w.heap.size ∧ Below w.heap.size w w')) → wpList P ops Q rest (a.put o.dst v') w') : wpList P ops Q (o :: rest) a w :=
  wpList_plain hgd fun _ hK => wp_app w s x t ho base e i z size bytes ht hi hz hsize hby hzs hsz v n xs hs hown ad m c news hx hl hnews h1 h63 hbytes hbase hm fun v' w' h2 h3 h4 => hK _ _ (h v' w' h2 h3 h4)

/-- A row apart from the one that grew is as it was. -/
theorem own_grown {w w' : World} {B s n : Nat} {e : TypeId} {t o : Value} {xs : List Value} (h : w.ownsRow B e s t n xs) (hg : w.grownBy w' o.ownBlock) (ha : Apart t o) : w'.ownsRow B e s t n xs := by
  refine ⟨h.1, ?_⟩
  rcases h.2 with h' | ⟨g', cap', cur, h', hb', hg', rest⟩
  · exact .inl h'
  · refine .inr ⟨g', cap', cur, h', hb', (hg.block g' (Array.getElem?_eq_some_iff.1 hg').1 (fun e => ?_)).trans hg', rest⟩
    subst h'
    rcases ha with ha | ha
    · cases ha
    · exact ha e


/-- What stands while the model adapts. -/
structure Sa (w W : World) (P1 : Nat) (zv ov : Value) (n k : Nat) (f z g : Nat → Int) : Prop where
  o1 : W.ownsRow w.heap.size 3 1 (.slice (some ⟨P1, 0, none⟩) n n) n (ils f n)
  o2 : W.ownsRow w.heap.size 3 1 zv n (ils z n)
  o3 : W.ownsRow w.heap.size 3 1 ov k (ils g k)
  a1 : zv.ownBlock ≠ some P1
  a2 : ov.ownBlock ≠ some P1
  a3 : Apart zv ov
  bel : Below w.heap.size w W

theorem Sa.below {w W W' : World} {P1 : Nat} {zv ov : Value} {n k : Nat} {f z g : Nat → Int} (h : Sa w W P1 zv ov n k f z g) (hb : Below W.heap.size W W') : Sa w W' P1 zv ov n k f z g :=
  ⟨own_below h.o1 hb, own_below h.o2 hb, own_below h.o3 hb, h.a1, h.a2, h.a3, bstep h.bel hb⟩

/-- The samples made anew. -/
theorem Sa.come {w W W' : World} {P1 : Nat} {zv ov zv' : Value} {n k H : Nat} {f z z' g : Nat → Int} (h : Sa w W P1 zv ov n k f z g) (hb : Below W.heap.size W W') (hH : W.heap.size ≤ H) (ho : W'.ownsRow H 3 1 zv' n (ils z' n)) : Sa w W' P1 zv' ov n k f z' g := by
  have l1 := (own_lt h.o1).2
  have lo := h.bel.size
  refine ⟨own_below h.o1 hb, own_base ho (by omega), own_below h.o3 hb, fun e => ?_, h.a2, ?_, bstep h.bel hb⟩
  · have := (World.ownsRow.lt ho _ e).1
    omega
  · cases e0 : zv'.ownBlock with
    | none => exact .inl e0
    | some q =>
      refine .inr (fun e => ?_)
      rw [e0] at e
      have a := (World.ownsRow.lt ho q e0).1
      have b := (World.ownsRow.lt h.o3 q e.symm).2
      omega

/-- A tap of the model put. -/
theorem Sa.tapped {w W : World} {P1 : Nat} {zv ov : Value} {n k j : Nat} {b e : Int} {f z g : Nat → Int} (h : Sa w W P1 zv ov n k (ntj e b f z j) z g) : Sa w (W.setCell ⟨P1, j, none⟩ (.int .i64 (ntp e b f z j))) P1 zv ov n k (ntj e b f z (j + 1)) z g := by
  have st := (World.ownsRow.stored h.o1 j (.int .i64 (ntp e b f z j))).1
  rw [ntj_put] at st
  have kd : Kd (fun q => q = P1) W (W.setCell ⟨P1, j, none⟩ (.int .i64 (ntp e b f z j))) := (Kd.refl (fun q => q = P1) W).put (.inl rfl) j _
  have l1 := own_lt h.o1
  exact ⟨st, own_kd h.o2 kd (fun q hq hd => h.a1 (by rw [hq, hd])), own_kd h.o3 kd (fun q hq hd => h.a2 (by rw [hq, hd])), h.a1, h.a2, h.a3, Kd.below h.bel kd h.bel.size (by rintro q rfl; exact l1.1)⟩

/-- The model's answer made longer. -/
theorem Sa.grown {w W W' : World} {P1 : Nat} {zv ov ov' : Value} {n k : Nat} {f z g : Nat → Int} (h : Sa w W P1 zv ov n k f z g) (ho : W'.ownsRow w.heap.size 3 1 ov' (k + 1) (ils g (k + 1))) (hg : W.grownBy W' ov.ownBlock) (hk : ov'.ownBlock = ov.ownBlock ∨ (ov'.ownBlock = some W.heap.size ∧ Below W.heap.size W W')) : Sa w W' P1 zv ov' n (k + 1) f z g := by
  have l1 := own_lt h.o1
  have a0 : Apart (.slice (some ⟨P1, 0, none⟩) n n) ov := .inr (fun e => h.a2 e.symm)
  refine ⟨own_grown h.o1 hg a0, own_grown h.o2 hg h.a3, ho, h.a1, fun e => ?_, apart_app h.o2 h.a3 (hk.imp id And.left), grown_below h.bel (Nat.le_refl _) h.o3 hg⟩
  rcases hk with hk | ⟨hk, _⟩
  · exact h.a2 (by rw [← hk, e])
  · rw [hk] at e
    injection e with e1
    omega

/-- A whole row put behind another one, in a region that draws its order. -/
theorem wp_appo {w : World} {o : Oper} {a : Act} {K : Act → World → Prop} {Q : Exit → Act → World → Prop} (s x : Operand)
    (ho : o.op = .call { callee := .builtin .append, args := #[s, x], argTypes := #[24, 24] }) (base : Nat) (v : Value) (n : Nat) (xs : List Value) (hs : a.eval s = v) (hown : w.ownsRow base 3 1 v n xs)
    (ad : Addr) (m c : Nat) (news : List Value) (hx : a.eval x = .slice (some ad) m c) (hl : news.length = m * 1) (hnews : ∀ j u, news[j]? = some u → w.cell? (ad.add j) = some u) (h1 : ∀ u ∈ news, u.oneCell' = true) (hnm : n + m ≤ 1048576) (hbase : base ≤ w.heap.size)
    (h : ∀ v' w', w'.ownsRow base 3 1 v' (n + m) (xs ++ news) → w.grownBy w' v.ownBlock → K (a.put o.dst v') w') : o.wp Try.prog a w K Q := by
  obtain ⟨i0, hi, hz0, hz1, hz2⟩ := info_parts Try.info3
  obtain ⟨v', w', hr, h2, h3, _⟩ := run_append_own (P := Try.prog) w base 24 o.type 3 i0 (.int .i64 0) 1 8 Try.underlying24 hi hz0 hz1 hz2 rfl (by decide) v n xs hown ad m c news hl hnews h1 (by unfold maxLen; omega) (by omega) hbase
  unfold Oper.wp execOp
  simp only [ho, resolve, invoke, builtin, Sem.run_bind, Sem.run_pure, Result.andThen_ok, List.map_toArray, List.map_cons, List.map_nil, hs, hx, hr]
  exact h v' w' h2 h3

set_option maxRecDepth 20000 in
set_option maxHeartbeats 8000000 in
theorem sAdapt_good {w : World} {v1 v2 : Value} {N n : Nat} {b : Int} {xs wt : Nat → Int} (h1 : Il w v1 N xs) (h2 : Il w v2 N wt) (hx : Nar N xs) (hw : Nar N wt) (hn0 : 1 ≤ n) (hn : n ≤ 64) (hb : 0 ≤ b ∧ b ≤ 40) :
    Calls Try.prog 7 #[.int .i64 (n : Int), .int .i64 b, v1, v2] w fun e w' => P3 w w' e N n (msA n b xs wt) (tpA n b xs wt N) true := by
  obtain ⟨i0, hi, hz0, hz1, hz2⟩ := info_parts Try.info3
  have i1 := in_any (n : Int) 1 64
  rw [decide_eq_true (by omega)] at i1
  have i2 := in_any b 0 40
  rw [decide_eq_true hb] at i2
  have h512 := hx.1
  have i3 := sWth_any h1 (by omega) (M := 32767) (by omega)
  rw [decide_eq_true hx.2] at i3
  have i4 := sWth_any h2 (by omega) (M := 32767) (by omega)
  rw [decide_eq_true hw.2] at i4
  have H1 : Hid (Il w v1 N xs) := h1
  have H2 : Hid (Il w v2 N wt) := h2
  have hmk := fun W => mkd_run W (k := n) (by omega)
  obtain ⟨ao1, cap1, rfl, hcap1, hc1⟩ := h1
  obtain ⟨ao2, cap2, rfl, hcap2, hc2⟩ := h2
  have HC1 : Hid (0 < N → ∃ b off, ao1 = some ⟨b, off, none⟩ ∧ b < w.heap.size ∧ ∀ k, k < N → w.cell? ⟨b, off + k, none⟩ = some (.int .i64 (xs k))) := hc1
  have HC2 : Hid (0 < N → ∃ b off, ao2 = some ⟨b, off, none⟩ ∧ b < w.heap.size ∧ ∀ k, k < N → w.cell? ⟨b, off + k, none⟩ = some (.int .i64 (wt k))) := hc2
  clear hc1 hc2
  have HX : Hid (Nar N xs) := hx
  have HW : Hid (Nar N wt) := hw
  obtain ⟨b1, b2⟩ := hb
  clear hx hw
  go_enter Try.func7, Try.ntmps7
  go_wp2_with (first
    | (go_at_call 17; (with_reducible refine (i1 _).mono ?_); rintro e w' ⟨rfl, hw⟩; obtain rfl := hw.symm)
    | (go_at_call 17; (with_reducible refine (i2 _).mono ?_); rintro e w' ⟨rfl, hw⟩; obtain rfl := hw.symm)
    | (go_at_call 18; (with_reducible refine i3.mono ?_); rintro e w' ⟨rfl, hw⟩; obtain rfl := hw.symm)
    | (go_at_call 18; (with_reducible refine i4.mono ?_); rintro e w' ⟨rfl, hw⟩; obtain rfl := hw.symm))
  have S0 : Hid (Sa w ((mkd (mkd w n) n).alloc (.cells #[] 3)) w.heap.size (.slice (some ⟨(mkd w n).heap.size, 0, none⟩) n n) (.slice (some ⟨(mkd (mkd w n) n).heap.size, 0, none⟩) 0 0) n 0 (stA n b xs wt 0).1 (stA n b xs wt 0).2 (msA n b xs wt)) := by
    have s1 := mkd_size w n
    have s2 := mkd_size (mkd w n) n
    have bA := below_one (mkd (mkd w n) n) (.cells #[] 3)
    have b1 := mkd_below w n
    have b2 := mkd_below (mkd w n) n
    exact ⟨own_below (own_below (mkd_own w (by omega) (Nat.le_refl _)) b2) bA, own_below (mkd_own (mkd w n) (by omega) (by omega)) bA, own_base (own_empty (mkd (mkd w n) n) 3 1) (by omega), by show some (mkd w n).heap.size ≠ some w.heap.size; intro e; injection e with e; omega, by show some (mkd (mkd w n) n).heap.size ≠ some w.heap.size; intro e; injection e with e; omega, .inr (by show some (mkd w n).heap.size ≠ some (mkd (mkd w n) n).heap.size; intro e; injection e with e; omega), bstep (bstep b1 b2) bA⟩
  clear hmk
  generalize ((mkd (mkd w n) n).alloc (.cells #[] 3)) = W0 at S0 ⊢
  generalize (mkd (mkd w n) n).heap.size = q1 at S0 ⊢
  generalize (mkd w n).heap.size = q2 at S0 ⊢
  obtain ⟨P1, hP1⟩ : ∃ P1, P1 = w.heap.size := ⟨_, rfl⟩
  have HP1 : Hid (P1 = w.heap.size) := hP1
  rw [← hP1] at S0 ⊢
  clear hP1
  go_loopw [12, 13, 14, 15, 16, 17, 18] (fun zv ov i _ _ _ _ wr => ∃ k : Nat, i = .int .i64 k ∧ k ≤ N ∧ Hid (Sa w wr P1 zv ov n k (stA n b xs wt k).1 (stA n b xs wt k).2 (msA n b xs wt))) (fun _ _ i _ _ _ _ _ => N - (intOf i).toNat)
  case atStart => exact ⟨0, rfl, by omega, S0.out⟩
  case round =>
    obtain ⟨k, rfl, hk, hrel⟩ := hrel
    by_cases h1 : k < N
    · have ok := stA_ok (n := n) (b := b) (wt := wt) HX.out.2 k (by omega)
      have HS1 : Hid ((stA n b xs wt (k + 1)) = (ntp (msA n b xs wt k) b (stA n b xs wt k).1 (shf (xs k) (stA n b xs wt k).2), shf (xs k) (stA n b xs wt k).2)) := rfl
      have HMS : Hid (msA n b xs wt k = mis n (stA n b xs wt k).1 (shf (xs k) (stA n b xs wt k).2) (wt k)) := rfl
      generalize stA n b xs wt k = st at ok HS1 HMS hrel
      obtain ⟨f, zf⟩ := st
      have bx := HX.out.2 k h1
      have bwt := HW.out.2 k h1
      have HF : Hid (Wth 1000000 n f) := ok.1
      have HZ : Hid (Wth 32767 n (shf (xs k) zf)) := shf_wth bx ok.2
      obtain ⟨bl, of, rfl, C1L', hcell⟩ := HC1.out (by omega)
      obtain ⟨bl2, of2, rfl, C2L', hcell2⟩ := HC2.out (by omega)
      have SA0 : Hid (Sa w wr P1 u12 u13 n k f zf (msA n b xs wt)) := hrel.out
      have C1 : Hid (wr.cell? ⟨bl, of + k, none⟩ = some (.int .i64 (xs k))) := (SA0.out.bel.cell (p := ⟨bl, of + k, none⟩) C1L').trans (hcell k h1)
      have C1L : Hid (bl < wr.heap.size) := Nat.lt_of_lt_of_le C1L' SA0.out.bel.size
      have C2 : Hid (w.cell? ⟨bl2, of2 + k, none⟩ = some (.int .i64 (wt k))) := hcell2 k h1
      clear hcell hcell2 hrel ok
      generalize xs k = xk at C1 bx HZ HS1 HMS
      generalize wt k = wk at C2 bwt HMS
      obtain ⟨zb, zc, rfl, hzc⟩ : ∃ zb zc, u12 = .slice (some ⟨zb, 0, none⟩) n zc ∧ n ≤ zc := by
        rcases SA0.out.o2.2 with ⟨_, e⟩ | ⟨zb, zc, cur, e, _, _, e2, _⟩
        · omega
        · exact ⟨zb, zc, e, e2⟩
      have OZ : Hid (wr.ownsRow w.heap.size 3 1 (.slice (some ⟨zb, 0, none⟩) n zc) n (ils zf n)) := SA0.out.o2
      obtain ⟨n1, hn1⟩ : ∃ n1, n1 = n - 1 := ⟨_, rfl⟩
      have E7 : Hid ((n : Int) - 1 = (n1 : Int)) := by show (n : Int) - 1 = (n1 : Int); omega
      have E8 : Hid (n1 ≤ zc ∧ n1 ≤ n) := by show n1 ≤ zc ∧ n1 ≤ n; omega
      have N1 : Hid ([Value.int .i64 xk] ++ ils zf n1 = ils (shf xk zf) n) := by show [Value.int .i64 xk] ++ ils zf n1 = ils (shf xk zf) n; rw [hn1]; exact ils_shf xk zf hn0
      have hn2 : n1 + 1 ≤ n := by omega
      have HN2 : Hid (1 + n1 = n) := by show 1 + n1 = n; omega
      have hn3 : n1 ≤ zc := by omega
      clear hn1
      go_upto_region 9 with fail
      refine wp_region_any (by kernel_rfl) ?_
      change wpAny _ _ _ _ _ _ _ (World.drew _)
      refine wpI_any (I := fun X => Below wr.heap.size wr X) _ _ _ _ ?_
      refine wpI_take (i := 0) (v := ?_) rfl (by kernel_rfl) (by kernel_rfl) (by kernel_rfl) (fun _ _ _ h => h) ⟨by rfl, ?_⟩ ?_
      rotate_left
      · intro X hI; go_simp; try go_bits
        try rw [if_pos (by omega)]
        try with_reducible rfl
      refine wpI_take (i := 1) (v := ?_) rfl (by kernel_rfl) (by kernel_rfl) (by kernel_rfl) (fun _ _ _ h => h) ⟨by rfl, ?_⟩ ?_
      rotate_left
      · intro X hI; go_simp; try go_bits
        try rw [if_pos (by omega)]
        try with_reducible rfl
      refine wpI_take (i := 2) (v := ?_) rfl (by kernel_rfl) (by kernel_rfl) (by kernel_rfl) (fun _ _ _ h => h) ⟨by rfl, ?_⟩ ?_
      rotate_left
      · intro X hI; go_simp; try go_bits
        try rw [if_pos (by omega)]
        try with_reducible rfl
      refine wpI_take (i := 3) (v := ?_) rfl (by kernel_rfl) (by kernel_rfl) (by kernel_rfl) (fun _ _ _ h => h) ⟨by rfl, ?_⟩ ?_
      rotate_left
      · intro X hI; have c3 := (hI.cell (p := ⟨bl, of + k, none⟩) C1L.out).trans C1.out; go_simp; try go_bits
        try rw [if_pos (by omega)]
        try with_reducible rfl
      refine wpI_take (i := 5) (v := ?_) rfl (by kernel_rfl) (by kernel_rfl) (by kernel_rfl) (fun _ _ _ h => h) ⟨by rfl, ?_⟩ ?_
      rotate_left
      · intro X hI; go_simp; try go_bits
        try rw [if_pos (by omega)]
        try with_reducible rfl
      refine wpI_take (i := 6) (v := ?_) rfl (by kernel_rfl) (by kernel_rfl) (by kernel_rfl) (fun _ _ _ h => h) ⟨by rfl, ?_⟩ ?_
      rotate_left
      · intro X hI; go_simp; try go_bits
        try rw [if_pos (by omega)]
        try with_reducible rfl
      refine wpI_take (i := 7) (v := ?_) rfl (by kernel_rfl) (by kernel_rfl) (by kernel_rfl) (fun _ _ _ h => h) ⟨by rfl, ?_⟩ ?_
      rotate_left
      · intro X hI; have e7 := E7.out; go_simp; try go_bits
        try rw [if_pos (by omega)]
        try with_reducible rfl
      refine wpI_take (i := 8) (v := .slice (some ⟨zb, 0, none⟩) n1 zc) rfl (by kernel_rfl) (by kernel_rfl) (by kernel_rfl) (fun _ _ _ h => h) ⟨by rfl, ?_⟩ ?_
      · intro X hI
        go_simp
        try (intro h; exact absurd h (by omega))
      have l0 : Below wr.heap.size wr wr.drew := (Below.refl _ _).drew
      refine wpI_only (i := 4) rfl (by kernel_rfl) l0 (by rfl) ?_
      intro K hK
      have l1 : Below wr.heap.size wr (wr.drew.alloc (.cells #[.int .i64 xk] 3)) := l0.alloc l0.size _
      have ow := one_own wr.drew xk
      go_simp
      refine hK _ _ ?_
      clear hK K
      have oz := own_cut (own_below OZ.out l1) (show n1 ≤ n by omega)
      refine wpI_only (i := 9) rfl (by kernel_rfl) l1 (by rfl) ?_
      intro K hK
      refine wp_appo _ _ rfl wr.heap.size _ 1 _ rfl ow ⟨zb, 0, none⟩ n1 zc (ils zf n1) rfl (by rw [ils_length, Nat.mul_one]) (oz.cells rfl) (ils_one _ _) (by omega) l1.size ?_
      intro zv' W1 ho hg
      refine hK _ _ ?_
      clear hK K
      rw [HN2.out, N1.out] at ho
      have l2 : Below wr.heap.size wr W1 := grown_below l1 (Nat.le_refl _) ow hg
      clear hg ow oz
      refine wpI_only (i := 10) rfl (by kernel_rfl) l2 (by rfl) ?_
      intro K hK
      go_simp
      refine hK _ _ ?_
      clear hK K
      refine wpI_done l2 (by kernel_rfl) ?_ _
      have SA1 : Hid (Sa w W1 P1 zv' u13 n k f (shf xk zf) (msA n b xs wt)) := SA0.out.come l2 (Nat.le_refl _) ho
      clear l0 l1 l2 ho SA0 OZ C1 C1L E7 E8 N1 HN2 hn2 hn3 hzc
      obtain ⟨zb, zc, rfl, hzc⟩ : ∃ zb zc, zv' = .slice (some ⟨zb, 0, none⟩) n zc ∧ n ≤ zc := by
        rcases SA1.out.o2.2 with ⟨_, e⟩ | ⟨zb, zc, cur, e, _, _, e2, _⟩
        · omega
        · exact ⟨zb, zc, e, e2⟩
      generalize shf xk zf = zz at SA1 HZ HS1 HMS
      have hzP : zb ≠ P1 := fun e => SA1.out.a1 (by rw [← e]; rfl)
      go_wp2
      go_loopw [15, 16] (fun y kk wr2 => ∃ j : Nat, kk = .int .i64 j ∧ y = .int .i64 (dts f zz j) ∧ j ≤ n ∧ Hid (Sa w wr2 P1 (.slice (some ⟨zb, 0, none⟩) n zc) u13 n k f zz (msA n b xs wt))) (fun _ kk _ => n - (intOf kk).toNat)
      case atStart => exact ⟨0, rfl, rfl, by omega, SA1.out⟩
      case round =>
        obtain ⟨j, rfl, rfl, hj, hrel⟩ := hrel
        by_cases h2 : j < n
        · have d1 := World.ownsRow.cellAt hrel.out.o1 j (by omega)
          rw [ils_get h2] at d1
          have d2 := World.ownsRow.cellAt hrel.out.o2 j (by omega)
          rw [ils_get h2] at d2
          have m0 := mul_bounds (HF.out j h2) (HZ.out j h2) (by omega) (by omega)
          have pb := dts_bounds HF.out HZ.out j (by omega)
          have ed : dts f zz j + f j * zz j = dts f zz (j + 1) := rfl
          have SQ : Hid (Sa w wr P1 (.slice (some ⟨zb, 0, none⟩) n zc) u13 n k f zz (msA n b xs wt)) := hrel.out
          clear hrel
          have bp2 : -2097088000000 ≤ dts f zz j ∧ dts f zz j ≤ 2097088000000 := by omega
          generalize dts f zz (j + 1) = y1 at ed
          have Y1 : Hid (dts f zz j + f j * zz j = y1) := ed
          go_upto_region 14 with fail
          go_quiet (fail)
          have SQ2 : Hid (Sa w (wr.drewN nq) P1 (.slice (some ⟨zb, 0, none⟩) n zc) u13 n k f zz (msA n b xs wt)) := SQ.out.below (drewN_below _ _)
          clear SQ d1 d2 m0 pb ed
          generalize wr.drewN nq = W2 at SQ2 ⊢
          go_wp2
          go_roundw
          case rel => exact ⟨j + 1, by go_num, by rw [← Y1.out]; rfl, by omega, SQ2.out⟩
          case measure => simp [intOf]; omega
        · obtain rfl : n = j := by omega
          have SQ : Hid (Sa w wr P1 (.slice (some ⟨zb, 0, none⟩) n zc) u13 n k f zz (msA n b xs wt)) := hrel.out
          clear hrel
          have pb := dts_bounds HF.out HZ.out n (Nat.le_refl _)
          obtain ⟨sm, hsm⟩ : ∃ sm, sm = dts f zz n := ⟨_, rfl⟩
          have bsm : -2097088000000 ≤ sm ∧ sm ≤ 2097088000000 := by rw [hsm]; omega
          rw [← hsm]
          obtain ⟨sd, hsd⟩ : ∃ sd, sd = shd sm 14 := ⟨_, rfl⟩
          have i5 := sShd (x := sm) (b := 14) (by omega) (by omega)
          rw [← hsd] at i5
          obtain ⟨er, her⟩ : ∃ er, er = msA n b xs wt k := ⟨_, rfl⟩
          have eer : wk - sd = er := by rw [hsd, hsm, her, HMS.out]; rfl
          have ber : -128200000 ≤ er ∧ er ≤ 128200000 := by rw [her, HMS.out]; exact mis_bounds hn HF.out HZ.out bwt
          have HER : Hid (er = msA n b xs wt k) := her
          have bsd := shd_bounds (x := sm) (b := 14) (M := 2097088000000) (by omega) bsm (by omega)
          rw [← hsd] at bsd
          clear hsm hsd her pb HMS
          have c2 := (SQ.out.bel.cell (p := ⟨bl2, of2 + k, none⟩) C2L').trans C2.out
          go_upto_region 15 with fail
          go_quiet ((go_at_call 19; exact Calls.quiet_of_same (i5 _)))
          have SQ3 : Hid (Sa w (wr.drewN nq) P1 (.slice (some ⟨zb, 0, none⟩) n zc) u13 n k (ntj er b f zz 0) zz (msA n b xs wt)) := by
            show Sa w (wr.drewN nq) P1 (.slice (some ⟨zb, 0, none⟩) n zc) u13 n k (ntj er b f zz 0) zz (msA n b xs wt)
            have e0 : ntj er b f zz 0 = f := by funext i; simp [ntj]
            rw [e0]
            exact SQ.out.below (drewN_below _ _)
          clear SQ c2 i5 eer
          generalize wr.drewN nq = W3 at SQ3 ⊢
          go_wp2
          go_loopw [18] (fun kk wr2 => ∃ j : Nat, kk = .int .i64 j ∧ j ≤ n ∧ Hid (Sa w wr2 P1 (.slice (some ⟨zb, 0, none⟩) n zc) u13 n k (ntj er b f zz j) zz (msA n b xs wt))) (fun kk _ => n - (intOf kk).toNat)
          case atStart => exact ⟨0, rfl, by omega, SQ3.out⟩
          case round =>
          obtain ⟨j, rfl, hj, hrel⟩ := hrel
          by_cases h3 : j < n
          · have H5 : Hid (Sa w wr.drew P1 (.slice (some ⟨zb, 0, none⟩) n zc) u13 n k (ntj er b f zz j) zz (msA n b xs wt)) := hrel.out.below (drewN_below _ 1)
            have bz := HZ.out j h3
            have bf := HF.out j h3
            have D5 : Hid (wr.drew.cell? ⟨P1, j, none⟩ = some (.int .i64 (f j))) := by
              have := World.ownsRow.cellAt H5.out.o1 j (by omega)
              rw [ils_get h3, ntj_at] at this
              exact this
            have Z5 : Hid (wr.drew.frozen? ⟨P1, j, none⟩ = false) := World.ownsRow.frozenAt H5.out.o1 j
            have Y5 : Hid (wr.drew.cell? ⟨zb, j, none⟩ = some (.int .i64 (zz j))) := by
              have := World.ownsRow.cellAt H5.out.o2 j (by omega)
              rw [ils_get h3] at this
              exact this
            have HN : Hid (ntp er b f zz j = tap (f j + shd (er * zz j) b)) := rfl
            have H6 : Hid (Sa w (wr.drew.setCell ⟨P1, j, none⟩ (.int .i64 (ntp er b f zz j))) P1 (.slice (some ⟨zb, 0, none⟩) n zc) u13 n k (ntj er b f zz (j + 1)) zz (msA n b xs wt)) := H5.out.tapped
            have l6 : Hid ((wr.drew.setCell ⟨P1, j, none⟩ (.int .i64 (ntp er b f zz j))).cell? ⟨zb, j, none⟩ = some (.int .i64 (zz j))) := by
              have := World.ownsRow.cellAt H6.out.o2 j (by omega)
              rw [ils_get h3] at this
              exact this
            clear hrel
            generalize zz j = zk at bz HN Y5 l6
            generalize f j = fk at bf HN D5
            have mm := mul_bounds ber bz (by omega) (by omega)
            obtain ⟨pr, hpr⟩ : ∃ pr, pr = er * zk := ⟨_, rfl⟩
            have epr : er * zk = pr := hpr.symm
            have bpr : -4200729400000 ≤ pr ∧ pr ≤ 4200729400000 := by rw [hpr]; omega
            have i4 := sShd (x := pr) (b := b) (by omega) (by omega)
            have bs := shd_bounds (x := pr) (b := b) (M := 4200729400000) (by omega) bpr (by omega)
            rw [epr] at HN
            clear hpr mm
            generalize shd pr b = sv at i4 bs HN
            have i5 := sEnd_any (fk + sv)
            rw [← HN.out] at i5
            clear HN
            generalize ntp er b f zz j = tv at i5 H6 l6
            go_upto_region 19 with fail
            refine wp_region_any (by kernel_rfl) ?_
            change wpAny _ _ _ _ _ _ _ (World.drew _)
            refine wpI_any (I := fun X => X.cell? ⟨zb, j, none⟩ = some (.int .i64 zk)) _ _ _ _ ?_
            have l0 := Y5.out
            generalize wr.drew = X0 at l0 H5 D5 Z5 H6 l6 ⊢
            refine wpI_take (i := 0) (v := ?_) rfl (by kernel_rfl) (by kernel_rfl) (by kernel_rfl) (fun _ _ _ h => h) ⟨by rfl, ?_⟩ ?_
            rotate_left
            · intro X hI; go_simp; try go_bits
              try rw [if_pos (by omega)]
              try with_reducible rfl
            refine wpI_take (i := 1) (v := ?_) rfl (by kernel_rfl) (by kernel_rfl) (by kernel_rfl) (fun _ _ _ h => h) ⟨by rfl, ?_⟩ ?_
            rotate_left
            · intro X hI; go_simp; try go_bits
              try rw [if_pos (by omega)]
              try with_reducible rfl
            refine wpI_take (i := 2) (v := ?_) rfl (by kernel_rfl) (by kernel_rfl) (by kernel_rfl) (fun _ _ _ h => h) ⟨by rfl, ?_⟩ ?_
            rotate_left
            · intro X hI; go_simp; try go_bits
              try rw [if_pos (by omega)]
              try with_reducible rfl
            refine wpI_take (i := 3) (v := ?_) rfl (by kernel_rfl) (by kernel_rfl) (by kernel_rfl) (fun _ _ _ h => h) ⟨by rfl, ?_⟩ ?_
            rotate_left
            · intro X hI; go_simp; try go_bits
              try rw [if_pos (by omega)]
              try with_reducible rfl
            refine wpI_take (i := 4) (v := ?_) rfl (by kernel_rfl) (by kernel_rfl) (by kernel_rfl) (fun _ _ _ h => h) ⟨by rfl, ?_⟩ ?_
            rotate_left
            · intro X hI; go_simp; try go_bits
              try rw [if_pos (by omega)]
              try with_reducible rfl
            refine wpI_take (i := 6) (v := ?_) rfl (by kernel_rfl) (by kernel_rfl) (by kernel_rfl) (fun _ _ _ h => h) ⟨by rfl, ?_⟩ ?_
            rotate_left
            · intro X hI; go_simp; try go_bits
              try rw [if_pos (by omega)]
              try with_reducible rfl
            refine wpI_take (i := 7) (v := ?_) rfl (by kernel_rfl) (by kernel_rfl) (by kernel_rfl) (fun _ _ _ h => h) ⟨by rfl, ?_⟩ ?_
            rotate_left
            · intro X hI; go_simp; try go_bits
              try rw [if_pos (by omega)]
              try with_reducible rfl
            refine wpI_take (i := 8) (v := ?_) rfl (by kernel_rfl) (by kernel_rfl) (by kernel_rfl) (fun _ _ _ h => h) ⟨by rfl, ?_⟩ ?_
            rotate_left
            · intro X hI; go_simp; try go_bits
              try rw [if_pos (by omega)]
              try with_reducible rfl
            refine wpI_take (i := 9) (v := ?_) rfl (by kernel_rfl) (by kernel_rfl) (by kernel_rfl) (fun _ _ _ h => h) ⟨by rfl, ?_⟩ ?_
            rotate_left
            · intro X hI; go_simp; try go_bits
              try rw [if_pos (by omega)]
              try with_reducible rfl
            refine wpI_take (i := 10) (v := ?_) rfl (by kernel_rfl) (by kernel_rfl) (by kernel_rfl) (fun _ _ _ h => h) ⟨by rfl, ?_⟩ ?_
            rotate_left
            · intro X hI; go_simp; try go_bits
              try rw [if_pos (by omega)]
              try with_reducible rfl
            refine wpI_take (i := 11) (v := ?_) rfl (by kernel_rfl) (by kernel_rfl) (by kernel_rfl) (fun _ _ _ h => h) ⟨by rfl, ?_⟩ ?_
            rotate_left
            · intro X hI; go_simp; try go_bits
              try rw [if_pos (by omega)]
              try with_reducible rfl
            refine wpI_take (i := 12) (v := ?_) rfl (by kernel_rfl) (by kernel_rfl) (by kernel_rfl) (fun _ _ _ h => h) ⟨by rfl, ?_⟩ ?_
            rotate_left
            · intro X hI; go_simp; try go_bits
              try rw [if_pos (by omega)]
              try with_reducible rfl
            refine wpI_two (i := 5) (j := 13) rfl rfl (by kernel_rfl) l0 (by rfl) (by rfl) ?_ ?_
            · intro K hK
              have d5 := D5.out
              go_simp
              refine hK _ _ ?_
              clear hK K d5
              refine wpI_only (i := 13) rfl (by kernel_rfl) l0 (by rfl) ?_
              intro K hK
              go_simp
              go_wp2_with (go_at_call 19; (with_reducible refine (i4 _).mono ?_); rintro e w' ⟨rfl, hw⟩; obtain rfl := hw.symm)
              refine wpI_take (i := 14) (v := ?_) rfl (by kernel_rfl) (by kernel_rfl) (by kernel_rfl) (fun _ _ _ h => h) ⟨by rfl, ?_⟩ ?_
              rotate_left
              · intro X hI; go_simp; try go_bits
                try with_reducible rfl
              refine wpI_only (i := 15) rfl (by kernel_rfl) l0 (by rfl) ?_
              intro K hK
              go_simp
              go_wp2_with (go_at_call 20; (with_reducible refine (i5 _).mono ?_); rintro e w' ⟨rfl, hw⟩; obtain rfl := hw.symm)
              refine wpI_take (i := 16) (v := ?_) rfl (by kernel_rfl) (by kernel_rfl) (by kernel_rfl) (fun _ _ _ h => h) ⟨by rfl, ?_⟩ ?_
              rotate_left
              · intro X hI; go_simp; try go_bits
                try with_reducible rfl
              refine wpI_only (i := 17) rfl (by kernel_rfl) l0 (by rfl) ?_
              intro K hK
              have d5 := D5.out
              have z5 := Z5.out
              go_simp
              refine hK _ _ ?_
              clear hK K d5 z5
              refine wpI_done l6.out (by kernel_rfl) ?_ _
              go_wp2
              go_roundw
              case rel => exact ⟨j + 1, by go_num, by omega, H6.out⟩
              case measure => simp [intOf]; omega
            · intro K hK
              go_simp
              go_wp2_with (go_at_call 19; (with_reducible refine (i4 _).mono ?_); rintro e w' ⟨rfl, hw⟩; obtain rfl := hw.symm)
              refine wpI_only (i := 5) rfl (by kernel_rfl) l0 (by rfl) ?_
              intro K hK
              have d5 := D5.out
              go_simp
              refine hK _ _ ?_
              clear hK K d5
              refine wpI_take (i := 14) (v := ?_) rfl (by kernel_rfl) (by kernel_rfl) (by kernel_rfl) (fun _ _ _ h => h) ⟨by rfl, ?_⟩ ?_
              rotate_left
              · intro X hI; go_simp; try go_bits
                try with_reducible rfl
              refine wpI_only (i := 15) rfl (by kernel_rfl) l0 (by rfl) ?_
              intro K hK
              go_simp
              go_wp2_with (go_at_call 20; (with_reducible refine (i5 _).mono ?_); rintro e w' ⟨rfl, hw⟩; obtain rfl := hw.symm)
              refine wpI_take (i := 16) (v := ?_) rfl (by kernel_rfl) (by kernel_rfl) (by kernel_rfl) (fun _ _ _ h => h) ⟨by rfl, ?_⟩ ?_
              rotate_left
              · intro X hI; go_simp; try go_bits
                try with_reducible rfl
              refine wpI_only (i := 17) rfl (by kernel_rfl) l0 (by rfl) ?_
              intro K hK
              have d5 := D5.out
              have z5 := Z5.out
              go_simp
              refine hK _ _ ?_
              clear hK K d5 z5
              refine wpI_done l6.out (by kernel_rfl) ?_ _
              go_wp2
              go_roundw
              case rel => exact ⟨j + 1, by go_num, by omega, H6.out⟩
              case measure => simp [intOf]; omega
          · obtain rfl : n = j := by omega
            have SQ4 : Hid (Sa w wr P1 (.slice (some ⟨zb, 0, none⟩) n zc) u13 n k (ntp er b f zz) zz (msA n b xs wt)) := by
              have h := hrel.out
              have o := h.o1
              rw [show ils (ntj er b f zz n) n = ils (ntp er b f zz) n from ils_congr fun i hi => by simp [ntj, hi]] at o
              exact ⟨o, h.o2, h.o3, h.a1, h.a2, h.a3, h.bel⟩
            clear hrel
            have hb3 := below_one wr (.cells #[.int .i64 er] 3)
            have SQ5 : Hid (Sa w (wr.alloc (.cells #[.int .i64 er] 3)) P1 (.slice (some ⟨zb, 0, none⟩) n zc) u13 n k (ntp er b f zz) zz (msA n b xs wt)) := SQ4.out.below hb3
            clear hb3
            go_wp2_with (first | (at_builtin; refine wpList_app _ rfl _ _ 24 rfl w.heap.size 3 i0 (.int .i64 0) 1 8 Try.underlying24 hi hz0 hz1 hz2 rfl (by decide) _ _ _ rfl SQ5.out.o3 ⟨wr.heap.size, 0, none⟩ 1 1 [.int .i64 er] rfl rfl (one_new _ _ _) (by simp [Value.oneCell']) (by unfold maxLen; omega) (by omega) SQ5.out.bel.size (by omega) ?_))
            intro ov' w4 hown' hgrow hwhere
            rw [HER.out, ← ils_snoc (msA n b xs wt) k] at hown'
            have SQ6 : Hid (Sa w w4 P1 (.slice (some ⟨zb, 0, none⟩) n zc) ov' n (k + 1) (stA n b xs wt (k + 1)).1 (stA n b xs wt (k + 1)).2 (msA n b xs wt)) := by
              show Sa w w4 P1 (.slice (some ⟨zb, 0, none⟩) n zc) ov' n (k + 1) (stA n b xs wt (k + 1)).1 (stA n b xs wt (k + 1)).2 (msA n b xs wt)
              rw [HS1.out, ← HER.out]
              exact SQ5.out.grown hown' hgrow (by rw [show (wr.alloc (.cells #[.int .i64 er] 3)).heap.size = wr.heap.size + 1 by simp]; exact hwhere)
            clear hown' hgrow hwhere SQ5 SQ4
            go_wp2
            go_roundw
            case rel => exact ⟨k + 1, by go_num, by omega, SQ6.out⟩
            case measure => simp [intOf]; omega
    · obtain rfl : N = k := by omega
      have SQ : Hid (Sa w wr P1 u12 u13 n N (stA n b xs wt N).1 (stA n b xs wt N).2 (msA n b xs wt)) := hrel.out
      clear hrel
      have AP : Hid (Apart u13 (.slice (some ⟨P1, 0, none⟩) n n)) := .inr (fun e => SQ.out.a2 (by rw [e]; rfl))
      go_wp2
      go_ret3
      exact ⟨_, _, rfl, SQ.out.o3, SQ.out.o1, AP.out, SQ.out.bel⟩
end Go.Proofs.Ytbkkjbehmpmjeaa
