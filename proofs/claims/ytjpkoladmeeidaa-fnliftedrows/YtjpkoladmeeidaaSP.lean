/- LiftOnce: the model. -/
import Derived.Test.YtjpkoladmeeidaaLG
import Derived.Test.YtjpkoladmeeidaaAP
namespace Go.Proofs.Ytjpkoladmeeidaa
open Go.RowKit

/-- A row that lies below is apart from what was made longer. -/
theorem apart_app {w : World} {B s n : Nat} {e : TypeId} {t o v' : Value} {xs : List Value} (ht : w.ownsRow B e s t n xs) (ha : Apart t o) (hu : v'.ownBlock = o.ownBlock ∨ v'.ownBlock = some w.heap.size) : Apart t v' := by
  rcases hu with hu | hu
  · unfold Apart at *
    rw [hu]
    exact ha
  · refine .inr (fun e => ?_)
    rw [hu] at e
    have := World.ownsRow.lt ht _ e
    omega

/-- A row that was made behind another one's block is apart from it. -/
theorem apart_base {w : World} {B s n g : Nat} {e : TypeId} {t o : Value} {xs : List Value} (ht : w.ownsRow B e s t n xs) (ho : o.ownBlock = some g) (hg : g < B) : Apart t o := by
  refine .inr (fun e => ?_)
  rw [ho] at e
  have := World.ownsRow.lt ht _ e
  omega

/-- An append, and where the row lies behind it. -/
theorem wpList_app {P : Program} (w : World) {ops : Array Oper} {rest : List Oper} {o : Oper} {a : Act} {Q : Exit → Act → World → Prop} (hgd : o.guard = none) (s x : Operand) (t : TypeId)
    (ho : o.op = .call { callee := .builtin .append, args := #[s, x], argTypes := #[t, t] })
    (base : Nat) (e : TypeId) (i : TypeInfo) (z : Value) (size bytes : Nat) (ht : P.underlying t = some (.slice e)) (hi : P.info? e = some i) (hz : i.zero = some z)
    (hsize : i.size = size) (hby : i.bytes = bytes) (hzs : z.cells.size = size) (hsz : 0 < size)
    (v : Value) (n : Nat) (xs : List Value) (hs : a.eval s = v) (hown : w.ownsRow base e size v n xs)
    (ad : Addr) (m c : Nat) (news : List Value) (hx : a.eval x = .slice (some ad) m c) (hl : news.length = m * size) (hnews : ∀ j u, news[j]? = some u → w.cell? (ad.add j) = some u) (h1 : ∀ u ∈ news, u.oneCell' = true)
    (h63 : n + m ≤ maxLen) (hbytes : (n + m) * bytes ≤ 140737488355328) (hbase : base ≤ w.heap.size) (hm : 0 < m)
    (h : ∀ v' w', w'.ownsRow base e size v' (n + m) (xs ++ news) → w.grownBy w' v.ownBlock → (v'.ownBlock = v.ownBlock ∨ (v'.ownBlock = some w.heap.size ∧ Below w.heap.size w w')) → wpList P ops Q rest (a.put o.dst v') w') : wpList P ops Q (o :: rest) a w :=
  wpList_plain hgd fun _ hK => wp_app w s x t ho base e i z size bytes ht hi hz hsize hby hzs hsz v n xs hs hown ad m c news hx hl hnews h1 h63 hbytes hbase hm fun v' w' h2 h3 h4 => hK _ _ (h v' w' h2 h3 h4)

/-- A row apart from the one that grew is as it was. -/
theorem own_grown {w w' : World} {B s n : Nat} {e : TypeId} {t o : Value} {xs : List Value} (h : w.ownsRow B e s t n xs) (hg : w.grownBy w' o.ownBlock) (ha : Apart t o) : w'.ownsRow B e s t n xs := by
  refine ⟨h.1, ?_⟩
  rcases h.2 with h' | ⟨g', cap', cur, h', hb', hg', rest⟩
  · exact .inl h'
  · refine .inr ⟨g', cap', cur, h', hb', (hg.block g' (Array.getElem?_eq_some_iff.1 hg').1 (fun e => ?_)).trans hg', rest⟩
    subst h'
    rcases ha with ha | ha
    · cases ha
    · exact ha e


/-- The odd ones. -/
def ods (xs : Nat → Int) (i : Nat) : Int := xs (2 * i + 1)

/-- Two lists in two blocks. -/
structure Tw (w W : World) (u v : Value) (n m : Nat) (xs ys : Nat → Int) : Prop where
  o1 : W.ownsRow w.heap.size 3 1 u n (ils xs n)
  o2 : W.ownsRow w.heap.size 3 1 v m (ils ys m)
  ap : Apart u v
  bel : Below w.heap.size w W

theorem Tw.below {w W W' : World} {u v : Value} {n m : Nat} {xs ys : Nat → Int} (h : Tw w W u v n m xs ys) (hb : Below W.heap.size W W') : Tw w W' u v n m xs ys := ⟨own_below h.o1 hb, own_below h.o2 hb, h.ap, bstep h.bel hb⟩

theorem Tw.grow1 {w W W' : World} {u v u' : Value} {n m : Nat} {xs ys : Nat → Int} {y : Int} (h : Tw w W u v n m xs ys) (ho : W'.ownsRow w.heap.size 3 1 u' (n + 1) (ils xs n ++ [.int .i64 y])) (hg : W.grownBy W' u.ownBlock) {S : Nat} (hk : u'.ownBlock = u.ownBlock ∨ (u'.ownBlock = some S ∧ Below S W W')) (hS : S = W.heap.size) (hy : y = xs n) : Tw w W' u' v (n + 1) m xs ys := by
  subst hy
  subst hS
  rw [← ils_snoc] at ho
  exact ⟨ho, own_grown h.o2 hg (apart_symm h.ap), apart_symm (apart_app h.o2 (apart_symm h.ap) (hk.imp id And.left)), grown_below h.bel (Nat.le_refl _) h.o1 hg⟩

theorem Tw.cast {w W : World} {u v : Value} {n m n' m' : Nat} {xs ys : Nat → Int} (h : Tw w W u v n m xs ys) (h1 : n' = n) (h2 : m' = m) : Tw w W u v n' m' xs ys := by
  subst h1 h2
  exact h

theorem Tw.swap {w W : World} {u v : Value} {n m : Nat} {xs ys : Nat → Int} (h : Tw w W u v n m xs ys) : Tw w W v u m n ys xs := ⟨h.o2, h.o1, apart_symm h.ap, h.bel⟩

theorem Tw.start (w : World) (xs ys : Nat → Int) : Tw w ((w.alloc (.cells #[] 3)).alloc (.cells #[] 3)) (.slice (some ⟨w.heap.size, 0, none⟩) 0 0) (.slice (some ⟨w.heap.size + 1, 0, none⟩) 0 0) 0 0 xs ys := by
  have h2 := own_base (own_empty (w.alloc (.cells #[] 3)) 3 1) (below_one w (.cells #[] 3)).size
  have hs : (w.alloc (.cells #[] 3)).heap.size = w.heap.size + 1 := by simp
  rw [hs] at h2
  exact ⟨own_below (own_empty w 3 1) (below_one _ _), h2, .inr (by simp [Value.ownBlock]), bstep (below_one _ _) (below_one _ _)⟩

set_option maxRecDepth 20000 in
set_option maxHeartbeats 8000000 in
theorem sOnce_any {w : World} {v : Value} {n : Nat} {xs : Nat → Int} {kind M : Int} (hk : Knd kind) (hv : Il w v n xs) (hn : n ≤ 1048576) (hM4 : 4 ≤ M) (hM : M ≤ 1000000000000000) (hx : Wth M n xs) :
    Calls Try.prog 35 #[.int .i64 kind, v] w fun e w' => P2 w w' e ((n + 1) / 2) (n / 2) (loL kind n xs) (hiL kind n xs) := by
  obtain ⟨i0, hi, hz0, hz1, hz2⟩ := info_parts Try.info3
  have HX : Hid (Wth M n xs) := hx
  have HEV : Hid (Wth M ((n + 1) / 2) (evs xs)) := evs_with hx
  have HIB : Hid (Wth (3 * M) (n / 2) (hiL kind n xs)) := hi_with hM4 hx
  clear hx
  obtain ⟨ao, cap, rfl, hcap, hc⟩ := hv
  have HC : Hid (0 < n → ∃ b off, ao = some ⟨b, off, none⟩ ∧ b < w.heap.size ∧ ∀ k, k < n → w.cell? ⟨b, off + k, none⟩ = some (.int .i64 (xs k))) := hc
  clear hc
  have T0 : Hid _ := Tw.start w (evs xs) (ods xs)
  go_enter Try.func35, Try.ntmps35
  go_wp2
  go_loopw [6, 7, 8] (fun u v i wr => ∃ k : Nat, i = .int .i64 k ∧ k ≤ n ∧ Hid (Tw w wr u v ((k + 1) / 2) (k / 2) (evs xs) (ods xs))) (fun _ _ i _ => n - (intOf i).toNat)
  case atStart => exact ⟨0, rfl, by omega, T0.out⟩
  case round =>
    obtain ⟨k, rfl, hk2, hrel⟩ := hrel
    by_cases h1 : k < n
    · obtain ⟨b, off, rfl, hlt, hcell⟩ := HC.out (by omega)
      have c : wr.cell? ⟨b, off + k, none⟩ = some (.int .i64 (xs k)) := (hrel.out.bel.cell (p := ⟨b, off + k, none⟩) hlt).trans (hcell k h1)
      clear hcell
      by_cases hp0 : k % 2 = 0
      · have hpar : (k : Int) % 2 = 0 := by omega
        have T3 := (hrel.out.below (below_one wr (.cells #[.int .i64 (xs k)] 3)))
        have HT3 : Hid _ := T3
        have HB3 := T3.bel
        clear T3
        go_wp2_with (first | (at_builtin; refine wpList_app _ rfl _ _ 29 rfl w.heap.size 3 i0 (.int .i64 0) 1 8 Try.underlying29 hi hz0 hz1 hz2 rfl (by decide) _ _ _ rfl HT3.out.o1 ⟨wr.heap.size, 0, none⟩ 1 1 [.int .i64 (xs k)] rfl rfl (one_new _ _ _) (by simp [Value.oneCell']) (by unfold maxLen; omega) (by omega) HB3.size (by decide) ?_))
        intro v' w4 hown' hgrow hkeep
        have T4 : Hid _ := HT3.out.grow1 hown' hgrow hkeep (by simp) (by unfold evs; congr 1; omega)
        clear hown' hgrow hkeep HT3 HB3
        go_wp2
        go_roundw
        case rel => exact ⟨k + 1, by go_num, by omega, Tw.cast T4.out (by omega) (by omega)⟩
        case measure => simp [intOf]; omega
      · have hpar : (k : Int) % 2 = 1 := by omega
        have T3 := (hrel.out.swap.below (below_one wr (.cells #[.int .i64 (xs k)] 3)))
        have HT3 : Hid _ := T3
        have HB3 := T3.bel
        clear T3
        go_wp2_with (first | (at_builtin; refine wpList_app _ rfl _ _ 29 rfl w.heap.size 3 i0 (.int .i64 0) 1 8 Try.underlying29 hi hz0 hz1 hz2 rfl (by decide) _ _ _ rfl HT3.out.o1 ⟨wr.heap.size, 0, none⟩ 1 1 [.int .i64 (xs k)] rfl rfl (one_new _ _ _) (by simp [Value.oneCell']) (by unfold maxLen; omega) (by omega) HB3.size (by decide) ?_))
        intro v' w4 hown' hgrow hkeep
        have T4 : Hid _ := HT3.out.grow1 hown' hgrow hkeep (by simp) (by unfold ods; congr 1; omega)
        clear hown' hgrow hkeep HT3 HB3
        go_wp2
        go_roundw
        case rel => exact ⟨k + 1, by go_num, by omega, Tw.cast T4.out.swap (by omega) (by omega)⟩
        case measure => simp [intOf]; omega
    · obtain rfl : n = k := by omega
      obtain ⟨p, hp⟩ : ∃ p, (n + 1) / 2 = p := ⟨_, rfl⟩
      obtain ⟨q, hq⟩ : ∃ q, n / 2 = q := ⟨_, rfl⟩
      have bp : p ≤ 1048576 := by omega
      have bq : q ≤ 1048576 := by omega
      have T := hrel.out
      rw [hp, hq] at T
      rw [hp] at HEV
      rw [hq] at HIB
      have HP : Hid ((n + 1) / 2 = p ∧ n / 2 = q) := ⟨hp, hq⟩
      clear hp hq hrel T0 HC
      have ile := il_of_own T.o1
      have ilo := il_of_own T.o2
      obtain ⟨eao, ecap, hE, hec1, hec⟩ := ile
      obtain ⟨oao, ocap, hO, hoc1, hoc⟩ := ilo
      subst hE hO
      have HE8 : Hid (Il wr (.slice eao p ecap) p (evs xs)) := ⟨eao, ecap, rfl, hec1, hec⟩
      have HOC : Hid (0 < q → ∃ b off, oao = some ⟨b, off, none⟩ ∧ b < wr.heap.size ∧ ∀ k, k < q → wr.cell? ⟨b, off + k, none⟩ = some (.int .i64 (ods xs k))) := hoc
      have HEC : Hid (0 < p → ∃ b off, eao = some ⟨b, off, none⟩ ∧ b < wr.heap.size ∧ ∀ k, k < p → wr.cell? ⟨b, off + k, none⟩ = some (.int .i64 (evs xs k))) := hec
      have B8 : Hid (Below w.heap.size w wr) := T.bel
      clear hec hoc T
      have hs9 : Hid (wr.heap.size + 1 = (wr.alloc (.cells #[] 3)).heap.size) := by show wr.heap.size + 1 = (wr.alloc (.cells #[] 3)).heap.size; simp
      have B9 := below_one wr (.cells #[] 3)
      have L9 : Hid ((wr.alloc (.cells #[] 3)).ownsRow wr.heap.size 3 1 (.slice (some ⟨wr.heap.size, 0, none⟩) 0 0) 0 (ils (loL kind n xs) 0)) := own_empty wr 3 1
      have O9 : Hid (((wr.alloc (.cells #[] 3)).alloc (.cells #[] 3)).ownsRow (wr.alloc (.cells #[] 3)).heap.size 3 1 (.slice (some ⟨(wr.alloc (.cells #[] 3)).heap.size, 0, none⟩) 0 0) 0 (ils (hiL kind n xs) 0)) := own_empty (wr.alloc (.cells #[] 3)) 3 1
      go_wp2
      rw [hs9.out]
      generalize wr = W8 at HE8 HOC HEC B8 hs9 B9 L9 O9 ⊢
      generalize W8.alloc (.cells #[] 3) = W9 at hs9 B9 L9 O9 ⊢
      have B9 : Hid (Below W8.heap.size W8 W9) := B9
      have bw8 : w.heap.size ≤ W8.heap.size := B8.out.size
      have lt9 : W8.heap.size < W9.heap.size := by have := hs9.out; omega
      clear hs9
      go_loopw [10, 11] (fun o i W_ => ∃ k : Nat, i = .int .i64 k ∧ k ≤ q ∧ Hid (W_.ownsRow W9.heap.size 3 1 o k (ils (hiL kind n xs) k) ∧ Below W9.heap.size W9 W_)) (fun _ i _ => q - (intOf i).toNat)
      case atStart => exact ⟨0, rfl, by omega, O9.out, below_one _ _⟩
      case round =>
        obtain ⟨k, rfl, hk3, hrel⟩ := hrel
        by_cases h2 : k < q
        · have hk4 : 2 * k + 1 < n ∧ k < p := by have := HP.out; omega
          obtain ⟨b1, off1, rfl, hlt, hcell⟩ := HOC.out (by omega)
          have c9 := (B9.out.cell (p := ⟨b1, off1 + k, none⟩) hlt).trans (hcell k h2)
          have c : wr.drew.cell? ⟨b1, off1 + k, none⟩ = some (.int .i64 (ods xs k)) := (hrel.out.2.cell (p := ⟨b1, off1 + k, none⟩) (by show b1 < W9.heap.size; omega)).trans c9
          have ev : Il wr.drew (.slice eao p ecap) p (evs xs) := ((HE8.out.below B9.out).below hrel.out.2).below (Below.refl _ _).drew
          have gc := sGuess_any hk ev bp (by omega) HEV.out k hk4.2
          have e1 : Hid (ods xs k - gs kind p (evs xs) k = hiL kind n xs k) := by show ods xs k - gs kind p (evs xs) k = hiL kind n xs k; unfold hiL ods; rw [HP.out.1]
          have y0 : -M ≤ ods xs k ∧ ods xs k ≤ M := HX.out (2 * k + 1) hk4.1
          have y1 := gs_bounds (kind := kind) hM4 HEV.out hk4.2
          generalize gs kind p (evs xs) k = Gv at e1 gc y1
          generalize ods xs k = Xv at e1 c c9 y0
          have l0 : wr.drew.cell? ⟨b1, off1 + k, none⟩ = some (.int .i64 Xv) := c
          clear hcell c ev
          go_wp2
          refine wp_region_any (by kernel_rfl) ?_
          change wpAny _ _ _ _ _ _ _ (World.drew _)
          refine wpI_any (I := fun X => X.cell? ⟨b1, off1 + k, none⟩ = some (.int .i64 Xv)) _ _ _ _ ?_
          refine wpI_take (i := 0) (v := ?_) rfl (by kernel_rfl) (by kernel_rfl) (by kernel_rfl) (fun _ _ _ h => h) ⟨by rfl, ?_⟩ ?_
          rotate_left
          · intro X hI; go_simp; try go_bits
            try rw [if_pos (by omega)]
            try with_reducible rfl
          refine wpI_take (i := 1) (v := ?_) rfl (by kernel_rfl) (by kernel_rfl) (by kernel_rfl) (fun _ _ _ h => h) ⟨by rfl, ?_⟩ ?_
          rotate_left
          · intro X hI; go_simp; try go_bits
            try rw [if_pos (by omega)]
            try with_reducible rfl
          refine wpI_take (i := 2) (v := ?_) rfl (by kernel_rfl) (by kernel_rfl) (by kernel_rfl) (fun _ _ _ h => h) ⟨by rfl, ?_⟩ ?_
          rotate_left
          · intro X hI; go_simp; try go_bits
            try rw [if_pos (by omega)]
            try with_reducible rfl
          refine wpI_take (i := 3) (v := ?_) rfl (by kernel_rfl) (by kernel_rfl) (by kernel_rfl) (fun _ _ _ h => h) ⟨by rfl, ?_⟩ ?_
          rotate_left
          · intro X hI; go_simp; try go_bits
            try rw [if_pos (by omega)]
            try with_reducible rfl
          refine wpI_take (i := 4) (v := ?_) rfl (by kernel_rfl) (by kernel_rfl) (by kernel_rfl) (fun _ _ _ h => h) ⟨by rfl, ?_⟩ ?_
          rotate_left
          · intro X hI; go_simp; try go_bits
            try rw [if_pos (by omega)]
            try with_reducible rfl
          refine wpI_take (i := 5) (v := ?_) rfl (by kernel_rfl) (by kernel_rfl) (by kernel_rfl) (fun _ _ _ h => h) ⟨by rfl, ?_⟩ ?_
          rotate_left
          · intro X hI; go_simp; try go_bits
            try rw [if_pos (by omega)]
            try with_reducible rfl
          refine wpI_take (i := 6) (v := ?_) rfl (by kernel_rfl) (by kernel_rfl) (by kernel_rfl) (fun _ _ _ h => h) ⟨by rfl, ?_⟩ ?_
          rotate_left
          · intro X hI; go_simp; try go_bits
            try rw [if_pos (by omega)]
            try with_reducible rfl
          refine wpI_take (i := 7) (v := ?_) rfl (by kernel_rfl) (by kernel_rfl) (by kernel_rfl) (fun _ _ _ h => h) ⟨by rfl, ?_⟩ ?_
          rotate_left
          · intro X hI; go_simp; try go_bits
            try rw [if_pos (by omega)]
            try with_reducible rfl
          refine wpI_only (i := 8) rfl (by kernel_rfl) l0 (by rfl) ?_
          intro K hK
          go_simp
          go_wp2_with (go_at_call 40; (with_reducible refine gc.mono ?_); rintro e X1 ⟨rfl, m, hX1⟩; have hb1 : Below wr.heap.size wr X1 := (by rw [hX1]; exact below_drewN (Below.refl _ _).drew m); have l1 : X1.cell? ⟨b1, off1 + k, none⟩ = some (.int .i64 Xv) := (by rw [hX1]; exact l0); have hb2 := bstep hb1 (below_one X1 (.cells #[.int .i64 (Xv - Gv)] 3)); have HO3 : Hid _ := own_below hrel.out.1 hb2; have HB3 : Hid _ := bstep hrel.out.2 hb2; have l2 : (X1.alloc (.cells #[.int .i64 (Xv - Gv)] 3)).cell? ⟨b1, off1 + k, none⟩ = some (.int .i64 Xv) := ((below_one X1 _).cell (World.block_lt_of_cell? _ _ l1)).trans l1; clear hb1 hb2 hX1)
          refine wpI_only (i := 9) rfl (by kernel_rfl) l1 (by rfl) ?_
          intro K hK
          go_simp
          try go_bits
          refine hK _ _ ?_
          refine wpI_only (i := 10) rfl (by kernel_rfl) l1 (by rfl) ?_
          intro K hK
          go_simp
          try go_bits
          refine hK _ _ ?_
          refine wpI_only (i := 11) rfl (by kernel_rfl) l2 (by rfl) ?_
          intro K hK
          refine wp_app _ _ _ 29 rfl W9.heap.size 3 i0 (.int .i64 0) 1 8 Try.underlying29 hi hz0 hz1 hz2 rfl (by decide) _ _ _ rfl HO3.out ⟨X1.heap.size, 0, none⟩ 1 1 [.int .i64 (Xv - Gv)] rfl rfl (fun j u h => one_new X1 _ 3 j u h) (by simp [Value.oneCell']) (by unfold maxLen; omega) (by omega) HB3.out.size (by decide) ?_
          intro v' w4 hown' hgrow hkeep
          have HB4 : Hid (Below W9.heap.size W9 w4) := grown_below HB3.out (Nat.le_refl _) HO3.out hgrow
          have l3 : w4.cell? ⟨b1, off1 + k, none⟩ = some (.int .i64 Xv) := (HB4.out.cell (p := ⟨b1, off1 + k, none⟩) (by show b1 < W9.heap.size; omega)).trans c9
          have HO4 : Hid (w4.ownsRow W9.heap.size 3 1 v' (k + 1) (ils (hiL kind n xs) (k + 1))) := by show w4.ownsRow W9.heap.size 3 1 v' (k + 1) (ils (hiL kind n xs) (k + 1)); rw [ils_snoc, ← e1.out]; exact hown'
          clear hown' hgrow hkeep
          refine hK _ _ ?_
          refine wpI_only (i := 12) rfl (by kernel_rfl) l3 (by rfl) ?_
          intro K hK
          go_simp
          try go_bits
          refine hK _ _ ?_
          refine wpI_done l3 (by kernel_rfl) ?_ _
          clear l0 l1 l2 l3 gc hrel
          go_wp2
          go_roundw
          case rel => exact ⟨k + 1, by go_num, by omega, HO4.out, HB4.out⟩
          case measure => simp [intOf]; omega
        · obtain rfl : q = k := by omega
          have H9 := hrel.out.1
          have TT : Tw W8 wr (.slice (some ⟨W8.heap.size, 0, none⟩) 0 0) u10 0 q (loL kind n xs) (hiL kind n xs) := ⟨own_below L9.out hrel.out.2, own_base H9 B9.out.size, apart_symm (apart_base H9 rfl (by omega)), bstep B9.out hrel.out.2⟩
          obtain ⟨hao, hcap2, hH, hh1, hhc⟩ := il_of_own H9
          subst hH
          have TT : Hid _ := TT
          clear H9 hhc hrel L9 O9 HOC HE8
          go_wp2
          go_loopw [9, 12] (fun o i W_ => ∃ k : Nat, i = .int .i64 k ∧ k ≤ p ∧ Hid (Tw W8 W_ o (.slice hao q hcap2) k q (loL kind n xs) (hiL kind n xs))) (fun _ i _ => p - (intOf i).toNat)
          case atStart => exact ⟨0, rfl, by omega, TT.out⟩
          case round =>
            obtain ⟨k, rfl, hk3, hrel⟩ := hrel
            by_cases h2 : k < p
            · have hk4 : 2 * k < n := by have := HP.out; omega
              obtain ⟨b1, off1, rfl, h8, hcell⟩ := HEC.out (by omega)
              have c8 := hcell k h2
              have c : wr.drew.cell? ⟨b1, off1 + k, none⟩ = some (.int .i64 (evs xs k)) := (hrel.out.bel.cell (p := ⟨b1, off1 + k, none⟩) h8).trans c8
              have ev : Il wr.drew (.slice hao q hcap2) q (hiL kind n xs) := (il_of_own hrel.out.o2).below (Below.refl _ _).drew
              have gc := sMend_any hk ev bq (M := 3 * M) (by omega) HIB.out k (by omega)
              have e1 : Hid (evs xs k + md kind q (hiL kind n xs) k = loL kind n xs k) := by show evs xs k + md kind q (hiL kind n xs) k = loL kind n xs k; unfold loL; rw [HP.out.2]
              have y0 := HEV.out k h2
              have y1 := md_bounds (kind := kind) (by omega) HIB.out k
              generalize md kind q (hiL kind n xs) k = Gv at e1 gc y1
              generalize evs xs k = Xv at e1 c c8 y0
              have l0 : wr.drew.cell? ⟨b1, off1 + k, none⟩ = some (.int .i64 Xv) := c
              clear hcell c ev
              go_wp2
              refine wp_region_any (by kernel_rfl) ?_
              change wpAny _ _ _ _ _ _ _ (World.drew _)
              refine wpI_any (I := fun X => X.cell? ⟨b1, off1 + k, none⟩ = some (.int .i64 Xv)) _ _ _ _ ?_
              refine wpI_take (i := 0) (v := ?_) rfl (by kernel_rfl) (by kernel_rfl) (by kernel_rfl) (fun _ _ _ h => h) ⟨by rfl, ?_⟩ ?_
              rotate_left
              · intro X hI; go_simp; try go_bits
                try rw [if_pos (by omega)]
                try with_reducible rfl
              refine wpI_take (i := 1) (v := ?_) rfl (by kernel_rfl) (by kernel_rfl) (by kernel_rfl) (fun _ _ _ h => h) ⟨by rfl, ?_⟩ ?_
              rotate_left
              · intro X hI; go_simp; try go_bits
                try rw [if_pos (by omega)]
                try with_reducible rfl
              refine wpI_take (i := 2) (v := ?_) rfl (by kernel_rfl) (by kernel_rfl) (by kernel_rfl) (fun _ _ _ h => h) ⟨by rfl, ?_⟩ ?_
              rotate_left
              · intro X hI; go_simp; try go_bits
                try rw [if_pos (by omega)]
                try with_reducible rfl
              refine wpI_take (i := 3) (v := ?_) rfl (by kernel_rfl) (by kernel_rfl) (by kernel_rfl) (fun _ _ _ h => h) ⟨by rfl, ?_⟩ ?_
              rotate_left
              · intro X hI; go_simp; try go_bits
                try rw [if_pos (by omega)]
                try with_reducible rfl
              refine wpI_take (i := 4) (v := ?_) rfl (by kernel_rfl) (by kernel_rfl) (by kernel_rfl) (fun _ _ _ h => h) ⟨by rfl, ?_⟩ ?_
              rotate_left
              · intro X hI; go_simp; try go_bits
                try rw [if_pos (by omega)]
                try with_reducible rfl
              refine wpI_take (i := 5) (v := ?_) rfl (by kernel_rfl) (by kernel_rfl) (by kernel_rfl) (fun _ _ _ h => h) ⟨by rfl, ?_⟩ ?_
              rotate_left
              · intro X hI; go_simp; try go_bits
                try rw [if_pos (by omega)]
                try with_reducible rfl
              refine wpI_take (i := 6) (v := ?_) rfl (by kernel_rfl) (by kernel_rfl) (by kernel_rfl) (fun _ _ _ h => h) ⟨by rfl, ?_⟩ ?_
              rotate_left
              · intro X hI; go_simp; try go_bits
                try rw [if_pos (by omega)]
                try with_reducible rfl
              refine wpI_take (i := 7) (v := ?_) rfl (by kernel_rfl) (by kernel_rfl) (by kernel_rfl) (fun _ _ _ h => h) ⟨by rfl, ?_⟩ ?_
              rotate_left
              · intro X hI; go_simp; try go_bits
                try rw [if_pos (by omega)]
                try with_reducible rfl
              refine wpI_only (i := 8) rfl (by kernel_rfl) l0 (by rfl) ?_
              intro K hK
              go_simp
              go_wp2_with (go_at_call 39; (with_reducible refine gc.mono ?_); rintro e X1 ⟨rfl, m, hX1⟩; have hb1 : Below wr.heap.size wr X1 := (by rw [hX1]; exact below_drewN (Below.refl _ _).drew m); have l1 : X1.cell? ⟨b1, off1 + k, none⟩ = some (.int .i64 Xv) := (by rw [hX1]; exact l0); have hb2 := bstep hb1 (below_one X1 (.cells #[.int .i64 (Xv + Gv)] 3)); have HT3 : Hid _ := hrel.out.below hb2; have l2 : (X1.alloc (.cells #[.int .i64 (Xv + Gv)] 3)).cell? ⟨b1, off1 + k, none⟩ = some (.int .i64 Xv) := ((below_one X1 _).cell (World.block_lt_of_cell? _ _ l1)).trans l1; clear hb1 hb2 hX1)
              refine wpI_only (i := 9) rfl (by kernel_rfl) l1 (by rfl) ?_
              intro K hK
              go_simp
              try go_bits
              refine hK _ _ ?_
              refine wpI_only (i := 10) rfl (by kernel_rfl) l1 (by rfl) ?_
              intro K hK
              go_simp
              try go_bits
              refine hK _ _ ?_
              refine wpI_only (i := 11) rfl (by kernel_rfl) l2 (by rfl) ?_
              intro K hK
              refine wp_app _ _ _ 29 rfl W8.heap.size 3 i0 (.int .i64 0) 1 8 Try.underlying29 hi hz0 hz1 hz2 rfl (by decide) _ _ _ rfl HT3.out.o1 ⟨X1.heap.size, 0, none⟩ 1 1 [.int .i64 (Xv + Gv)] rfl rfl (fun j u h => one_new X1 _ 3 j u h) (by simp [Value.oneCell']) (by unfold maxLen; omega) (by omega) HT3.out.bel.size (by decide) ?_
              intro v' w4 hown' hgrow hkeep
              have T4 : Hid (Tw W8 w4 v' (.slice hao q hcap2) (k + 1) q (loL kind n xs) (hiL kind n xs)) := HT3.out.grow1 hown' hgrow hkeep rfl e1.out
              have l3 : w4.cell? ⟨b1, off1 + k, none⟩ = some (.int .i64 Xv) := (T4.out.bel.cell (p := ⟨b1, off1 + k, none⟩) h8).trans c8
              clear hown' hgrow hkeep
              refine hK _ _ ?_
              refine wpI_only (i := 12) rfl (by kernel_rfl) l3 (by rfl) ?_
              intro K hK
              go_simp
              try go_bits
              refine hK _ _ ?_
              refine wpI_done l3 (by kernel_rfl) ?_ _
              clear l0 l1 l2 l3 gc hrel HT3
              go_wp2
              go_roundw
              case rel => exact ⟨k + 1, by go_num, by omega, T4.out⟩
              case measure => simp [intOf]; omega
            · obtain rfl : p = k := by omega
              have T9 : Hid _ := hrel.out
              clear hrel TT
              go_wp2
              go_ret2
              have hpq := HP.out
              rw [hpq.1, hpq.2]
              exact ⟨_, _, rfl, own_base T9.out.o1 bw8, own_base T9.out.o2 bw8, T9.out.ap, B8.out.trans (T9.out.bel.mono bw8)⟩
end Go.Proofs.Ytjpkoladmeeidaa
