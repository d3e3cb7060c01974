/- Lift2: the model lifts each row. -/
import Derived.Test.YtjpkoladmeeidaaRW
import Derived.Test.YtjpkoladmeeidaaBS
import Derived.Test.YtjpkoladmeeidaaRQ
namespace Go.Proofs.Ytjpkoladmeeidaa
open Go.RowKit

/-- An append of a list to a list of lists, in a region that draws its order. -/
theorem wp_appS {w : World} {o : Oper} {a : Act} {K : Act → World → Prop} {Q : Exit → Act → World → Prop} (s x : Operand)
    (ho : o.op = .call { callee := .builtin .append, args := #[s, x], argTypes := #[24, 24] }) {B : Nat} {v r : Value} {j : Nat} {ms : Nat → Nat} {T : Nat → Nat → Int} {ad : Addr} {c : Nat}
    (hs : a.eval s = v) (hx : a.eval x = .slice (some ad) 1 c) (hG : Gr B w v j ms T) (hr : w.ownsRow B 3 1 r (ms j) (ils (T j) (ms j))) (ha : Apart r v) (hc : w.cell? ad = some r) (hj : j ≤ 1048576) (hB : B ≤ w.heap.size)
    (h : ∀ v' w', Gr B w' v' (j + 1) ms T → w.grownBy w' v.ownBlock → K (a.put o.dst v') w') : o.wp Try.prog a w K Q := by
  obtain ⟨i0, hi, hz0, hz1, hz2⟩ := info_parts Try.info29
  obtain ⟨R, h1, h2⟩ := hG
  refine wp_app w s x 24 ho B 29 i0 (.slice none 0 0) 1 24 Try.underlying24 hi hz0 hz1 hz2 rfl (by decide) v j _ hs h1 ad 1 c [r] hx rfl (fun i u hu => ?_) (fun u hu => ?_) (by unfold maxLen; omega) (by omega) hB (by decide) (fun v' w' h3 h4 h5 => h v' w' ?_ h4)
  · match i, hu with
    | 0, hu => simp at hu; subst hu; simpa [Addr.add] using hc
    | n + 1, hu => simp at hu
  · simp at hu
    subst hu
    exact oneS hr
  · refine Gr.grow ⟨R, h1, h2⟩ hr ha (fun R' hR' => ?_) h4 h5 rfl
    have e : (List.range j).map R' = (List.range j).map R := by
      rcases h1.2 with ⟨rfl, rfl⟩ | ⟨g, cap, cur, rfl, _⟩
      · rfl
      · apply List.map_congr_left
        intro i hi
        have hij := List.mem_range.1 hi
        have q1 := World.ownsRow.cellAt h1 i (by omega)
        have q2 := World.ownsRow.cellAt hR' i (by omega)
        rw [q1] at q2
        simpa [hij] using q2.symm
    rw [e]
    exact h3

set_option maxRecDepth 20000 in
set_option maxHeartbeats 8000000 in
theorem sEachF {w : World} {v : Value} {n m : Nat} {X : Nat → Nat → Int} {kind M : Int} (hkn : Knd kind) (hv : Ipp w v n (fun _ => m) X) (hn : n ≤ 64) (hm : m ≤ 64) (h4 : 4 ≤ M) (hM : M ≤ 1000000000000000) (hx : ∀ k, k < n → Wth M m (X k)) :
    Calls Try.prog 23 #[.int .i64 kind, v, .bool false] w fun e w' => ∃ u, e = .returned u ∧ Gr w.heap.size w' u n (fun _ => m) (fun k => lft kind m (X k)) ∧ Below w.heap.size w w' := by
  obtain ⟨ao, cap, rfl, hcap, hc⟩ := hv
  have HC : Hid (0 < n → ∃ b off, ∃ R : Nat → Value, ao = some ⟨b, off, none⟩ ∧ b < w.heap.size ∧ ∀ k, k < n → w.cell? ⟨b, off + k, none⟩ = some (R k) ∧ Il w (R k) m (X k)) := hc
  have HX : Hid (∀ k, k < n → Wth M m (X k)) := hx
  clear hc hx
  have G0 : Hid (Gr w.heap.size (w.alloc (.cells #[] 29)) (.slice (some ⟨w.heap.size, 0, none⟩) 0 0) 0 (fun _ => m) (fun k => lft kind m (X k))) := Gr.start w _ _
  go_enter Try.func23, Try.ntmps23
  go_wp2
  go_loopw [7, 8] (fun o i wr => ∃ p : Nat, i = .int .i64 p ∧ p ≤ n ∧ Hid (Gr w.heap.size wr o p (fun _ => m) (fun k => lft kind m (X k)) ∧ Below w.heap.size w wr)) (fun _ i _ => n - (intOf i).toNat)
  case atStart => exact ⟨0, rfl, by omega, G0.out, below_one _ _⟩
  case round =>
    obtain ⟨p, rfl, hp, hrel⟩ := hrel
    by_cases h2 : p < n
    · have K0 : Hid (Gr w.heap.size wr u7 p (fun _ => m) (fun k => lft kind m (X k))) := hrel.out.1
      have B0 : Hid (Below w.heap.size w wr) := hrel.out.2
      have sz0 : w.heap.size ≤ wr.heap.size := hrel.out.2.size
      clear hrel
      obtain ⟨b, off, Q, rfl, hlt, hcell⟩ := HC.out (by omega)
      obtain ⟨hc1, hfp⟩ := hcell p h2
      have HIL : Hid (Il wr (Q p) m (X p)) := hfp.below B0.out
      obtain ⟨qa, qc, hq, hqc, hqq⟩ := hfp
      rw [hq] at HIL hc1
      have c : wr.cell? ⟨b, off + p, none⟩ = some (.slice qa m qc) := (B0.out.cell (p := ⟨b, off + p, none⟩) hlt).trans hc1
      clear hc1 hq hcell
      have i3 := sOnce_any hkn HIL.out (by omega) h4 hM (HX.out p h2)
      go_wp2_with (first
        | (go_at_call 35; (with_reducible refine i3.mono ?_); rintro e w1 ⟨u0, u1, rfl, h1, h2', h3, h4'⟩; have H1 : Hid _ := h1; have H2 : Hid _ := h2'; have H4 : Hid _ := h4'; have Z1 := h4'.size; clear h1 h2' h4')
        | (at_builtin; refine wpList_appo rfl _ _ rfl wr.heap.size wr.heap.size _ _ _ _ _ _ rfl rfl H1.out H2.out (by omega) Z1 ?_))
      intro v1 W5 ho hg
      rw [lft_split, show (m + 1) / 2 + m / 2 = m by omega] at ho
      have O1 : Hid (W5.ownsRow wr.heap.size 3 1 v1 m (ils (lft kind m (X p)) m)) := ho
      have B1 : Hid (Below wr.heap.size wr W5) := grown_below H4.out (Nat.le_refl _) H1.out hg
      clear ho hg H1 H2 H4
      obtain ⟨va, vc, hu5, hvc, _⟩ := il_of_own O1.out
      subst hu5
      have bx := below_one W5 (.cells #[.slice va m vc] 29)
      have O5 : Hid ((W5.alloc (.cells #[.slice va m vc] 29)).ownsRow wr.heap.size 3 1 (.slice va m vc) m (ils (lft kind m (X p)) m)) := own_below O1.out bx
      have B5 : Hid (Below wr.heap.size wr (W5.alloc (.cells #[.slice va m vc] 29))) := bstep B1.out bx
      have G5 : Hid (Gr w.heap.size (W5.alloc (.cells #[.slice va m vc] 29)) u7 p (fun _ => m) (fun k => lft kind m (X k))) := K0.out.below B5.out
      have A5 : Hid (Apart (.slice va m vc) u7) := K0.out.apart O5.out (Nat.le_refl _)
      have c5 : Hid ((W5.alloc (.cells #[.slice va m vc] 29)).cell? ⟨W5.heap.size, 0, none⟩ = some (.slice va m vc)) := one_new W5 (.slice va m vc) 29 0 (.slice va m vc) rfl
      have o5 := oneS O5.out
      have Z5 : w.heap.size ≤ (W5.alloc (.cells #[.slice va m vc] 29)).heap.size := (bstep B0.out B5.out).size
      clear bx
      go_wp2_with (first | (at_builtin; refine wpList_appS rfl _ _ rfl rfl rfl G5.out (own_base O5.out sz0) A5.out c5.out (by omega) Z5 ?_))
      intro v' w6 hG6 hgrow
      have G6 : Hid (Gr w.heap.size w6 v' (p + 1) (fun _ => m) (fun k => lft kind m (X k))) := hG6
      have B6 : Hid (Below w.heap.size w w6) := G5.out.below_grown (bstep B0.out B5.out) (Nat.le_refl _) hgrow
      clear hG6 hgrow
      go_wp2
      go_roundw
      case rel => exact ⟨p + 1, by go_num, by omega, G6.out, B6.out⟩
      case measure => simp [intOf]; omega
    · obtain rfl : n = p := by omega
      have K0 : Hid (Gr w.heap.size wr u7 n (fun _ => m) (fun k => lft kind m (X k))) := hrel.out.1
      have B0 : Hid (Below w.heap.size w wr) := hrel.out.2
      clear hrel
      go_wp2
      go_ret
      exact ⟨_, rfl, K0.out, B0.out⟩

set_option maxRecDepth 20000 in
set_option maxHeartbeats 8000000 in
theorem sEachT {w : World} {v : Value} {n m : Nat} {X : Nat → Nat → Int} {kind M : Int} (hkn : Knd kind) (hv : Ipp w v n (fun _ => m) X) (hn : n ≤ 64) (hm : m ≤ 64) (h4 : 4 ≤ M) (hM : M ≤ 1000000000000000) (hx : ∀ k, k < n → Wth M m (X k)) :
    Calls Try.prog 23 #[.int .i64 kind, v, .bool true] w fun e w' => ∃ u, e = .returned u ∧ Gr w.heap.size w' u n (fun _ => m) (fun k => ubk kind m (X k)) ∧ Below w.heap.size w w' := by
  obtain ⟨ao, cap, rfl, hcap, hc⟩ := hv
  have HC : Hid (0 < n → ∃ b off, ∃ R : Nat → Value, ao = some ⟨b, off, none⟩ ∧ b < w.heap.size ∧ ∀ k, k < n → w.cell? ⟨b, off + k, none⟩ = some (R k) ∧ Il w (R k) m (X k)) := hc
  have HX : Hid (∀ k, k < n → Wth M m (X k)) := hx
  clear hc hx
  have G0 : Hid (Gr w.heap.size (w.alloc (.cells #[] 29)) (.slice (some ⟨w.heap.size, 0, none⟩) 0 0) 0 (fun _ => m) (fun k => ubk kind m (X k))) := Gr.start w _ _
  go_enter Try.func23, Try.ntmps23
  go_wp2
  go_loopw [7, 8] (fun o i wr => ∃ p : Nat, i = .int .i64 p ∧ p ≤ n ∧ Hid (Gr w.heap.size wr o p (fun _ => m) (fun k => ubk kind m (X k)) ∧ Below w.heap.size w wr)) (fun _ i _ => n - (intOf i).toNat)
  case atStart => exact ⟨0, rfl, by omega, G0.out, below_one _ _⟩
  case round =>
    obtain ⟨p, rfl, hp, hrel⟩ := hrel
    by_cases h2 : p < n
    · have K0 : Hid (Gr w.heap.size wr u7 p (fun _ => m) (fun k => ubk kind m (X k))) := hrel.out.1
      have B0 : Hid (Below w.heap.size w wr) := hrel.out.2
      have sz0 : w.heap.size ≤ wr.heap.size := hrel.out.2.size
      clear hrel
      obtain ⟨b, off, Q, rfl, hlt, hcell⟩ := HC.out (by omega)
      obtain ⟨hc1, hfp⟩ := hcell p h2
      have HIL : Hid (Il wr (Q p) m (X p)) := hfp.below B0.out
      obtain ⟨qa, qc, hq, hqc, hqq⟩ := hfp
      rw [hq] at HIL hc1
      have c : wr.cell? ⟨b, off + p, none⟩ = some (.slice qa m qc) := (B0.out.cell (p := ⟨b, off + p, none⟩) hlt).trans hc1
      clear hq hcell
      obtain ⟨P, hP⟩ : ∃ P, Hid (P = (m + 1) / 2) := ⟨_, rfl⟩
      have hpm : P ≤ m := by have := hP.out; omega
      have E : Hid (((m : Int) + 1) / 2 = (P : Int)) := by show ((m : Int) + 1) / 2 = (P : Int); have := hP.out; omega
      have HW1 : Hid (Wth M P (X p)) := fun k hk => HX.out p h2 k (by omega)
      have HW2 : Hid (Wth M (m - P) (fun i => X p (P + i))) := fun k hk => HX.out p h2 _ (by omega)
      have HV : Hid (Il wr.drew (.slice qa m qc) m (X p)) := HIL.out.below (Below.refl _ _).drew
      have HE : Hid (∀ (e : Ending) (w' : World), P1 wr.drew w' e (P + (m - P)) (bck kind P (m - P) (X p) (fun i => X p (P + i))) → ∃ u, e = .returned u ∧ Hid (w'.ownsRow wr.heap.size 3 1 u m (ils (ubk kind m (X p)) m) ∧ Below wr.heap.size wr w')) := fun e w' => by
        rintro ⟨u, h1, h2, h3⟩
        have e1 : P + (m - P) = m := by omega
        have e2 : bck kind P (m - P) (X p) (fun i => X p (P + i)) = ubk kind m (X p) := by
          have := hP.out
          subst this
          unfold ubk
          rw [show m - (m + 1) / 2 = m / 2 by omega]
        rw [e1, e2] at h2
        exact ⟨u, h1, h2, (Below.refl _ _).drew.trans h3⟩
      have bP : P ≤ 64 ∧ m - P ≤ P ∧ P ≤ m - P + 1 := by have := hP.out; omega
      by_cases h0 : 0 < m
      · obtain ⟨b2, off2, rfl, hlt2, _⟩ := hqq h0
        have l0 : wr.drew.cell? ⟨b, off + p, none⟩ = some (.slice (some ⟨b2, off2, none⟩) m qc) := c
        have i5 := sBack_any hkn (il_lo HV.out hpm) (il_hi HV.out hpm) bP.2.1 bP.2.2 (by omega) h4 hM HW1.out HW2.out
        go_upto_region 7 with fail
        rw [E.out]
        refine wp_region_any (by kernel_rfl) ?_
        change wpAny _ _ _ _ _ _ _ (World.drew _)
        refine wpI_any (I := fun X => X.cell? ⟨b, off + p, none⟩ = some (.slice (some ⟨b2, off2, none⟩) m qc)) _ _ _ _ ?_
        refine wpI_take (i := 0) (v := ?_) rfl (by kernel_rfl) (by kernel_rfl) (by kernel_rfl) (fun _ _ _ h => h) ⟨by rfl, ?_⟩ ?_
        rotate_left
        · intro X hI; go_simp; try go_bits
          try rw [if_pos (by omega)]
          try with_reducible rfl
        refine wpI_take (i := 1) (v := ?_) rfl (by kernel_rfl) (by kernel_rfl) (by kernel_rfl) (fun _ _ _ h => h) ⟨by rfl, ?_⟩ ?_
        rotate_left
        · intro X hI; go_simp; try go_bits
          try rw [if_pos (by omega)]
          try with_reducible rfl
        refine wpI_take (i := 2) (v := ?_) rfl (by kernel_rfl) (by kernel_rfl) (by kernel_rfl) (fun _ _ _ h => h) ⟨by rfl, ?_⟩ ?_
        rotate_left
        · intro X hI; go_simp; try go_bits
          try rw [if_pos (by omega)]
          try with_reducible rfl
        refine wpI_take (i := 3) (v := ?_) rfl (by kernel_rfl) (by kernel_rfl) (by kernel_rfl) (fun _ _ _ h => h) ⟨by rfl, ?_⟩ ?_
        rotate_left
        · intro X hI; go_simp; try go_bits
          try rw [if_pos (by omega)]
          try with_reducible rfl
        refine wpI_take (i := 4) (v := ?_) rfl (by kernel_rfl) (by kernel_rfl) (by kernel_rfl) (fun _ _ _ h => h) ⟨by rfl, ?_⟩ ?_
        rotate_left
        · intro X hI; go_simp; try go_bits
          try rw [if_pos (by omega)]
          try with_reducible rfl
        refine wpI_take (i := 5) (v := ?_) rfl (by kernel_rfl) (by kernel_rfl) (by kernel_rfl) (fun _ _ _ h => h) ⟨by rfl, ?_⟩ ?_
        rotate_left
        · intro X hI; have q1 : X.cell? ⟨b, off + p, none⟩ = some (.slice (some ⟨b2, off2, none⟩) m qc) := hI; go_simp; try go_bits
          try rw [if_pos (by omega)]
          try with_reducible rfl
        refine wpI_take (i := 6) (v := ?_) rfl (by kernel_rfl) (by kernel_rfl) (by kernel_rfl) (fun _ _ _ h => h) ⟨by rfl, ?_⟩ ?_
        rotate_left
        · intro X hI; go_simp; try go_bits
          try rw [if_pos (by omega)]
          try with_reducible rfl
        refine wpI_take (i := 7) (v := ?_) rfl (by kernel_rfl) (by kernel_rfl) (by kernel_rfl) (fun _ _ _ h => h) ⟨by rfl, ?_⟩ ?_
        rotate_left
        · intro X hI; go_simp; try go_bits
          try rw [if_pos (by omega)]
          try with_reducible rfl
        refine wpI_take (i := 8) (v := ?_) rfl (by kernel_rfl) (by kernel_rfl) (by kernel_rfl) (fun _ _ _ h => h) ⟨by rfl, ?_⟩ ?_
        rotate_left
        · intro X hI; go_simp; try go_bits
          try rw [if_pos (by omega)]
          try with_reducible rfl
        refine wpI_take (i := 9) (v := ?_) rfl (by kernel_rfl) (by kernel_rfl) (by kernel_rfl) (fun _ _ _ h => h) ⟨by rfl, ?_⟩ ?_
        rotate_left
        · intro X hI; go_simp; try go_bits
          try rw [if_pos (by omega)]
          try with_reducible rfl
        refine wpI_take (i := 10) (v := ?_) rfl (by kernel_rfl) (by kernel_rfl) (by kernel_rfl) (fun _ _ _ h => h) ⟨by rfl, ?_⟩ ?_
        rotate_left
        · intro X hI; go_simp; try go_bits
          try rw [if_pos (by omega)]
          try with_reducible rfl
        refine wpI_take (i := 11) (v := ?_) rfl (by kernel_rfl) (by kernel_rfl) (by kernel_rfl) (fun _ _ _ h => h) ⟨by rfl, ?_⟩ ?_
        rotate_left
        · intro X hI; have q1 : X.cell? ⟨b, off + p, none⟩ = some (.slice (some ⟨b2, off2, none⟩) m qc) := hI; go_simp; try go_bits
          try rw [if_pos (by omega)]
          try with_reducible rfl
        refine wpI_take (i := 12) (v := ?_) rfl (by kernel_rfl) (by kernel_rfl) (by kernel_rfl) (fun _ _ _ h => h) ⟨by rfl, ?_⟩ ?_
        rotate_left
        · intro X hI; go_simp; try go_bits
          try rw [if_pos (by omega)]
          try with_reducible rfl
        refine wpI_take (i := 13) (v := ?_) rfl (by kernel_rfl) (by kernel_rfl) (by kernel_rfl) (fun _ _ _ h => h) ⟨by rfl, ?_⟩ ?_
        rotate_left
        · intro X hI; go_simp; try go_bits
          try rw [if_pos (by omega)]
          try with_reducible rfl
        refine wpI_only (i := 14) rfl (by kernel_rfl) l0 (by rfl) ?_
        intro K hK
        go_simp
        generalize (if qc = P then some (⟨b2, off2, none⟩ : Addr) else some ⟨b2, off2 + P, none⟩) = hv at i5 ⊢
        go_wp2_with (go_at_call 34; (with_reducible refine i5.mono ?_); intro e W5 hW5; obtain ⟨v1, rfl, H1⟩ := HE.out _ _ hW5; clear hW5)
        all_goals
          have O1 : Hid (W5.ownsRow wr.heap.size 3 1 v1 m (ils (ubk kind m (X p)) m)) := H1.out.1
          have B1 : Hid (Below wr.heap.size wr W5) := H1.out.2
          clear H1
          obtain ⟨va, vc, hu5, hvc, _⟩ := il_of_own O1.out
          subst hu5
          have bx := below_one W5 (.cells #[.slice va m vc] 29)
          have O5 : Hid ((W5.alloc (.cells #[.slice va m vc] 29)).ownsRow wr.heap.size 3 1 (.slice va m vc) m (ils (ubk kind m (X p)) m)) := own_below O1.out bx
          have B5 : Hid (Below wr.heap.size wr (W5.alloc (.cells #[.slice va m vc] 29))) := bstep B1.out bx
          have G5 : Hid (Gr w.heap.size (W5.alloc (.cells #[.slice va m vc] 29)) u7 p (fun _ => m) (fun k => ubk kind m (X k))) := K0.out.below B5.out
          have A5 : Hid (Apart (.slice va m vc) u7) := K0.out.apart O5.out (Nat.le_refl _)
          have c5 : Hid ((W5.alloc (.cells #[.slice va m vc] 29)).cell? ⟨W5.heap.size, 0, none⟩ = some (.slice va m vc)) := one_new W5 (.slice va m vc) 29 0 (.slice va m vc) rfl
          have o5 := oneS O5.out
          have Z5 : w.heap.size ≤ (W5.alloc (.cells #[.slice va m vc] 29)).heap.size := (bstep B0.out B5.out).size
          clear bx
          have l1 : W5.cell? ⟨b, off + p, none⟩ = some (.slice (some ⟨b2, off2, none⟩) m qc) := (B1.out.cell (p := ⟨b, off + p, none⟩) (Nat.lt_of_lt_of_le hlt sz0)).trans c
          have l2 : (W5.alloc (.cells #[.slice va m vc] 29)).cell? ⟨b, off + p, none⟩ = some (.slice (some ⟨b2, off2, none⟩) m qc) := (B5.out.cell (p := ⟨b, off + p, none⟩) (Nat.lt_of_lt_of_le hlt sz0)).trans c
          refine wpI_only (i := 15) rfl (by kernel_rfl) l1 (by rfl) ?_
          intro K hK
          go_simp
          try go_bits
          refine hK _ _ ?_
          refine wpI_only (i := 16) rfl (by kernel_rfl) l2 (by rfl) ?_
          intro K hK
          refine wp_appS _ _ rfl rfl rfl G5.out (own_base O5.out sz0) A5.out c5.out (by omega) Z5 ?_
          intro v' w6 hG6 hgrow
          have G6 : Hid (Gr w.heap.size w6 v' (p + 1) (fun _ => m) (fun k => ubk kind m (X k))) := hG6
          have B6 : Hid (Below w.heap.size w w6) := G5.out.below_grown (bstep B0.out B5.out) (Nat.le_refl _) hgrow
          clear hG6 hgrow
          have l3 : w6.cell? ⟨b, off + p, none⟩ = some (.slice (some ⟨b2, off2, none⟩) m qc) := (B6.out.cell (p := ⟨b, off + p, none⟩) hlt).trans hc1
          refine hK _ _ ?_
          refine wpI_only (i := 17) rfl (by kernel_rfl) l3 (by rfl) ?_
          intro K hK
          go_simp
          try go_bits
          refine hK _ _ ?_
          refine wpI_done l3 (by kernel_rfl) ?_ _
          clear l0 l1 l2 l3
          go_wp2
          go_roundw
          case rel => exact ⟨p + 1, by go_num, by omega, G6.out, B6.out⟩
          case measure => simp [intOf]; omega
      · cases qa with
        | none =>
          have l0 : wr.drew.cell? ⟨b, off + p, none⟩ = some (.slice none m qc) := c
          have i5 := sBack_any hkn (il_lo HV.out hpm) (il_nought (w := wr.drew) (ao := none) (m := m - P) (cap := qc - P) (xs := fun i => X p (P + i)) (by omega) (by omega)) bP.2.1 bP.2.2 (by omega) h4 hM HW1.out HW2.out
          go_upto_region 7 with fail
          rw [E.out]
          refine wp_region_any (by kernel_rfl) ?_
          change wpAny _ _ _ _ _ _ _ (World.drew _)
          refine wpI_any (I := fun X => X.cell? ⟨b, off + p, none⟩ = some (.slice none m qc)) _ _ _ _ ?_
          refine wpI_take (i := 0) (v := ?_) rfl (by kernel_rfl) (by kernel_rfl) (by kernel_rfl) (fun _ _ _ h => h) ⟨by rfl, ?_⟩ ?_
          rotate_left
          · intro X hI; go_simp; try go_bits
            try rw [if_pos (by omega)]
            try with_reducible rfl
          refine wpI_take (i := 1) (v := ?_) rfl (by kernel_rfl) (by kernel_rfl) (by kernel_rfl) (fun _ _ _ h => h) ⟨by rfl, ?_⟩ ?_
          rotate_left
          · intro X hI; go_simp; try go_bits
            try rw [if_pos (by omega)]
            try with_reducible rfl
          refine wpI_take (i := 2) (v := ?_) rfl (by kernel_rfl) (by kernel_rfl) (by kernel_rfl) (fun _ _ _ h => h) ⟨by rfl, ?_⟩ ?_
          rotate_left
          · intro X hI; go_simp; try go_bits
            try rw [if_pos (by omega)]
            try with_reducible rfl
          refine wpI_take (i := 3) (v := ?_) rfl (by kernel_rfl) (by kernel_rfl) (by kernel_rfl) (fun _ _ _ h => h) ⟨by rfl, ?_⟩ ?_
          rotate_left
          · intro X hI; go_simp; try go_bits
            try rw [if_pos (by omega)]
            try with_reducible rfl
          refine wpI_take (i := 4) (v := ?_) rfl (by kernel_rfl) (by kernel_rfl) (by kernel_rfl) (fun _ _ _ h => h) ⟨by rfl, ?_⟩ ?_
          rotate_left
          · intro X hI; go_simp; try go_bits
            try rw [if_pos (by omega)]
            try with_reducible rfl
          refine wpI_take (i := 5) (v := ?_) rfl (by kernel_rfl) (by kernel_rfl) (by kernel_rfl) (fun _ _ _ h => h) ⟨by rfl, ?_⟩ ?_
          rotate_left
          · intro X hI; have q1 : X.cell? ⟨b, off + p, none⟩ = some (.slice none m qc) := hI; go_simp; try go_bits
            try rw [if_pos (by omega)]
            try with_reducible rfl
          refine wpI_take (i := 6) (v := ?_) rfl (by kernel_rfl) (by kernel_rfl) (by kernel_rfl) (fun _ _ _ h => h) ⟨by rfl, ?_⟩ ?_
          rotate_left
          · intro X hI; go_simp; try go_bits
            try rw [if_pos (by omega)]
            try with_reducible rfl
          refine wpI_take (i := 7) (v := ?_) rfl (by kernel_rfl) (by kernel_rfl) (by kernel_rfl) (fun _ _ _ h => h) ⟨by rfl, ?_⟩ ?_
          rotate_left
          · intro X hI; go_simp; try go_bits
            try rw [if_pos (by omega)]
            try with_reducible rfl
          refine wpI_take (i := 8) (v := ?_) rfl (by kernel_rfl) (by kernel_rfl) (by kernel_rfl) (fun _ _ _ h => h) ⟨by rfl, ?_⟩ ?_
          rotate_left
          · intro X hI; go_simp; try go_bits
            try rw [if_pos (by omega)]
            try with_reducible rfl
          refine wpI_take (i := 9) (v := ?_) rfl (by kernel_rfl) (by kernel_rfl) (by kernel_rfl) (fun _ _ _ h => h) ⟨by rfl, ?_⟩ ?_
          rotate_left
          · intro X hI; go_simp; try go_bits
            try rw [if_pos (by omega)]
            try with_reducible rfl
          refine wpI_take (i := 10) (v := ?_) rfl (by kernel_rfl) (by kernel_rfl) (by kernel_rfl) (fun _ _ _ h => h) ⟨by rfl, ?_⟩ ?_
          rotate_left
          · intro X hI; go_simp; try go_bits
            try rw [if_pos (by omega)]
            try with_reducible rfl
          refine wpI_take (i := 11) (v := ?_) rfl (by kernel_rfl) (by kernel_rfl) (by kernel_rfl) (fun _ _ _ h => h) ⟨by rfl, ?_⟩ ?_
          rotate_left
          · intro X hI; have q1 : X.cell? ⟨b, off + p, none⟩ = some (.slice none m qc) := hI; go_simp; try go_bits
            try rw [if_pos (by omega)]
            try with_reducible rfl
          refine wpI_take (i := 12) (v := ?_) rfl (by kernel_rfl) (by kernel_rfl) (by kernel_rfl) (fun _ _ _ h => h) ⟨by rfl, ?_⟩ ?_
          rotate_left
          · intro X hI; go_simp; try go_bits
            try rw [if_pos (by omega)]
            try with_reducible rfl
          refine wpI_take (i := 13) (v := ?_) rfl (by kernel_rfl) (by kernel_rfl) (by kernel_rfl) (fun _ _ _ h => h) ⟨by rfl, ?_⟩ ?_
          rotate_left
          · intro X hI; go_simp; try go_bits
            try rw [if_pos (by omega)]
            try with_reducible rfl
          refine wpI_only (i := 14) rfl (by kernel_rfl) l0 (by rfl) ?_
          intro K hK
          go_simp
          go_wp2_with (go_at_call 34; (with_reducible refine i5.mono ?_); intro e W5 hW5; obtain ⟨v1, rfl, H1⟩ := HE.out _ _ hW5; clear hW5)
          all_goals
            have O1 : Hid (W5.ownsRow wr.heap.size 3 1 v1 m (ils (ubk kind m (X p)) m)) := H1.out.1
            have B1 : Hid (Below wr.heap.size wr W5) := H1.out.2
            clear H1
            obtain ⟨va, vc, hu5, hvc, _⟩ := il_of_own O1.out
            subst hu5
            have bx := below_one W5 (.cells #[.slice va m vc] 29)
            have O5 : Hid ((W5.alloc (.cells #[.slice va m vc] 29)).ownsRow wr.heap.size 3 1 (.slice va m vc) m (ils (ubk kind m (X p)) m)) := own_below O1.out bx
            have B5 : Hid (Below wr.heap.size wr (W5.alloc (.cells #[.slice va m vc] 29))) := bstep B1.out bx
            have G5 : Hid (Gr w.heap.size (W5.alloc (.cells #[.slice va m vc] 29)) u7 p (fun _ => m) (fun k => ubk kind m (X k))) := K0.out.below B5.out
            have A5 : Hid (Apart (.slice va m vc) u7) := K0.out.apart O5.out (Nat.le_refl _)
            have c5 : Hid ((W5.alloc (.cells #[.slice va m vc] 29)).cell? ⟨W5.heap.size, 0, none⟩ = some (.slice va m vc)) := one_new W5 (.slice va m vc) 29 0 (.slice va m vc) rfl
            have o5 := oneS O5.out
            have Z5 : w.heap.size ≤ (W5.alloc (.cells #[.slice va m vc] 29)).heap.size := (bstep B0.out B5.out).size
            clear bx
            have l1 : W5.cell? ⟨b, off + p, none⟩ = some (.slice none m qc) := (B1.out.cell (p := ⟨b, off + p, none⟩) (Nat.lt_of_lt_of_le hlt sz0)).trans c
            have l2 : (W5.alloc (.cells #[.slice va m vc] 29)).cell? ⟨b, off + p, none⟩ = some (.slice none m qc) := (B5.out.cell (p := ⟨b, off + p, none⟩) (Nat.lt_of_lt_of_le hlt sz0)).trans c
            refine wpI_only (i := 15) rfl (by kernel_rfl) l1 (by rfl) ?_
            intro K hK
            go_simp
            try go_bits
            refine hK _ _ ?_
            refine wpI_only (i := 16) rfl (by kernel_rfl) l2 (by rfl) ?_
            intro K hK
            refine wp_appS _ _ rfl rfl rfl G5.out (own_base O5.out sz0) A5.out c5.out (by omega) Z5 ?_
            intro v' w6 hG6 hgrow
            have G6 : Hid (Gr w.heap.size w6 v' (p + 1) (fun _ => m) (fun k => ubk kind m (X k))) := hG6
            have B6 : Hid (Below w.heap.size w w6) := G5.out.below_grown (bstep B0.out B5.out) (Nat.le_refl _) hgrow
            clear hG6 hgrow
            have l3 : w6.cell? ⟨b, off + p, none⟩ = some (.slice none m qc) := (B6.out.cell (p := ⟨b, off + p, none⟩) hlt).trans hc1
            refine hK _ _ ?_
            refine wpI_only (i := 17) rfl (by kernel_rfl) l3 (by rfl) ?_
            intro K hK
            go_simp
            try go_bits
            refine hK _ _ ?_
            refine wpI_done l3 (by kernel_rfl) ?_ _
            clear l0 l1 l2 l3
            go_wp2
            go_roundw
            case rel => exact ⟨p + 1, by go_num, by omega, G6.out, B6.out⟩
            case measure => simp [intOf]; omega
        | some a =>
          have l0 : wr.drew.cell? ⟨b, off + p, none⟩ = some (.slice (some a) m qc) := c
          have i5 := sBack_any hkn (il_lo HV.out hpm) (il_nought (w := wr.drew) (ao := if qc = P then some a else some (a.add P)) (m := m - P) (cap := qc - P) (xs := fun i => X p (P + i)) (by omega) (by omega)) bP.2.1 bP.2.2 (by omega) h4 hM HW1.out HW2.out
          go_upto_region 7 with fail
          rw [E.out]
          refine wp_region_any (by kernel_rfl) ?_
          change wpAny _ _ _ _ _ _ _ (World.drew _)
          refine wpI_any (I := fun X => X.cell? ⟨b, off + p, none⟩ = some (.slice (some a) m qc)) _ _ _ _ ?_
          refine wpI_take (i := 0) (v := ?_) rfl (by kernel_rfl) (by kernel_rfl) (by kernel_rfl) (fun _ _ _ h => h) ⟨by rfl, ?_⟩ ?_
          rotate_left
          · intro X hI; go_simp; try go_bits
            try rw [if_pos (by omega)]
            try with_reducible rfl
          refine wpI_take (i := 1) (v := ?_) rfl (by kernel_rfl) (by kernel_rfl) (by kernel_rfl) (fun _ _ _ h => h) ⟨by rfl, ?_⟩ ?_
          rotate_left
          · intro X hI; go_simp; try go_bits
            try rw [if_pos (by omega)]
            try with_reducible rfl
          refine wpI_take (i := 2) (v := ?_) rfl (by kernel_rfl) (by kernel_rfl) (by kernel_rfl) (fun _ _ _ h => h) ⟨by rfl, ?_⟩ ?_
          rotate_left
          · intro X hI; go_simp; try go_bits
            try rw [if_pos (by omega)]
            try with_reducible rfl
          refine wpI_take (i := 3) (v := ?_) rfl (by kernel_rfl) (by kernel_rfl) (by kernel_rfl) (fun _ _ _ h => h) ⟨by rfl, ?_⟩ ?_
          rotate_left
          · intro X hI; go_simp; try go_bits
            try rw [if_pos (by omega)]
            try with_reducible rfl
          refine wpI_take (i := 4) (v := ?_) rfl (by kernel_rfl) (by kernel_rfl) (by kernel_rfl) (fun _ _ _ h => h) ⟨by rfl, ?_⟩ ?_
          rotate_left
          · intro X hI; go_simp; try go_bits
            try rw [if_pos (by omega)]
            try with_reducible rfl
          refine wpI_take (i := 5) (v := ?_) rfl (by kernel_rfl) (by kernel_rfl) (by kernel_rfl) (fun _ _ _ h => h) ⟨by rfl, ?_⟩ ?_
          rotate_left
          · intro X hI; have q1 : X.cell? ⟨b, off + p, none⟩ = some (.slice (some a) m qc) := hI; go_simp; try go_bits
            try rw [if_pos (by omega)]
            try with_reducible rfl
          refine wpI_take (i := 6) (v := ?_) rfl (by kernel_rfl) (by kernel_rfl) (by kernel_rfl) (fun _ _ _ h => h) ⟨by rfl, ?_⟩ ?_
          rotate_left
          · intro X hI; go_simp; try go_bits
            try rw [if_pos (by omega)]
            try with_reducible rfl
          refine wpI_take (i := 7) (v := ?_) rfl (by kernel_rfl) (by kernel_rfl) (by kernel_rfl) (fun _ _ _ h => h) ⟨by rfl, ?_⟩ ?_
          rotate_left
          · intro X hI; go_simp; try go_bits
            try rw [if_pos (by omega)]
            try with_reducible rfl
          refine wpI_take (i := 8) (v := ?_) rfl (by kernel_rfl) (by kernel_rfl) (by kernel_rfl) (fun _ _ _ h => h) ⟨by rfl, ?_⟩ ?_
          rotate_left
          · intro X hI; go_simp; try go_bits
            try rw [if_pos (by omega)]
            try with_reducible rfl
          refine wpI_take (i := 9) (v := ?_) rfl (by kernel_rfl) (by kernel_rfl) (by kernel_rfl) (fun _ _ _ h => h) ⟨by rfl, ?_⟩ ?_
          rotate_left
          · intro X hI; go_simp; try go_bits
            try rw [if_pos (by omega)]
            try with_reducible rfl
          refine wpI_take (i := 10) (v := ?_) rfl (by kernel_rfl) (by kernel_rfl) (by kernel_rfl) (fun _ _ _ h => h) ⟨by rfl, ?_⟩ ?_
          rotate_left
          · intro X hI; go_simp; try go_bits
            try rw [if_pos (by omega)]
            try with_reducible rfl
          refine wpI_take (i := 11) (v := ?_) rfl (by kernel_rfl) (by kernel_rfl) (by kernel_rfl) (fun _ _ _ h => h) ⟨by rfl, ?_⟩ ?_
          rotate_left
          · intro X hI; have q1 : X.cell? ⟨b, off + p, none⟩ = some (.slice (some a) m qc) := hI; go_simp; try go_bits
            try rw [if_pos (by omega)]
            try with_reducible rfl
          refine wpI_take (i := 12) (v := ?_) rfl (by kernel_rfl) (by kernel_rfl) (by kernel_rfl) (fun _ _ _ h => h) ⟨by rfl, ?_⟩ ?_
          rotate_left
          · intro X hI; go_simp; try go_bits
            try rw [if_pos (by omega)]
            try with_reducible rfl
          refine wpI_take (i := 13) (v := ?_) rfl (by kernel_rfl) (by kernel_rfl) (by kernel_rfl) (fun _ _ _ h => h) ⟨by rfl, ?_⟩ ?_
          rotate_left
          · intro X hI; go_simp; try go_bits
            try rw [if_pos (by omega)]
            try with_reducible rfl
          refine wpI_only (i := 14) rfl (by kernel_rfl) l0 (by rfl) ?_
          intro K hK
          go_simp
          generalize (if qc = P then some a else some (a.add P)) = hv at i5 ⊢
          go_wp2_with (go_at_call 34; (with_reducible refine i5.mono ?_); intro e W5 hW5; obtain ⟨v1, rfl, H1⟩ := HE.out _ _ hW5; clear hW5)
          all_goals
            have O1 : Hid (W5.ownsRow wr.heap.size 3 1 v1 m (ils (ubk kind m (X p)) m)) := H1.out.1
            have B1 : Hid (Below wr.heap.size wr W5) := H1.out.2
            clear H1
            obtain ⟨va, vc, hu5, hvc, _⟩ := il_of_own O1.out
            subst hu5
            have bx := below_one W5 (.cells #[.slice va m vc] 29)
            have O5 : Hid ((W5.alloc (.cells #[.slice va m vc] 29)).ownsRow wr.heap.size 3 1 (.slice va m vc) m (ils (ubk kind m (X p)) m)) := own_below O1.out bx
            have B5 : Hid (Below wr.heap.size wr (W5.alloc (.cells #[.slice va m vc] 29))) := bstep B1.out bx
            have G5 : Hid (Gr w.heap.size (W5.alloc (.cells #[.slice va m vc] 29)) u7 p (fun _ => m) (fun k => ubk kind m (X k))) := K0.out.below B5.out
            have A5 : Hid (Apart (.slice va m vc) u7) := K0.out.apart O5.out (Nat.le_refl _)
            have c5 : Hid ((W5.alloc (.cells #[.slice va m vc] 29)).cell? ⟨W5.heap.size, 0, none⟩ = some (.slice va m vc)) := one_new W5 (.slice va m vc) 29 0 (.slice va m vc) rfl
            have o5 := oneS O5.out
            have Z5 : w.heap.size ≤ (W5.alloc (.cells #[.slice va m vc] 29)).heap.size := (bstep B0.out B5.out).size
            clear bx
            have l1 : W5.cell? ⟨b, off + p, none⟩ = some (.slice (some a) m qc) := (B1.out.cell (p := ⟨b, off + p, none⟩) (Nat.lt_of_lt_of_le hlt sz0)).trans c
            have l2 : (W5.alloc (.cells #[.slice va m vc] 29)).cell? ⟨b, off + p, none⟩ = some (.slice (some a) m qc) := (B5.out.cell (p := ⟨b, off + p, none⟩) (Nat.lt_of_lt_of_le hlt sz0)).trans c
            refine wpI_only (i := 15) rfl (by kernel_rfl) l1 (by rfl) ?_
            intro K hK
            go_simp
            try go_bits
            refine hK _ _ ?_
            refine wpI_only (i := 16) rfl (by kernel_rfl) l2 (by rfl) ?_
            intro K hK
            refine wp_appS _ _ rfl rfl rfl G5.out (own_base O5.out sz0) A5.out c5.out (by omega) Z5 ?_
            intro v' w6 hG6 hgrow
            have G6 : Hid (Gr w.heap.size w6 v' (p + 1) (fun _ => m) (fun k => ubk kind m (X k))) := hG6
            have B6 : Hid (Below w.heap.size w w6) := G5.out.below_grown (bstep B0.out B5.out) (Nat.le_refl _) hgrow
            clear hG6 hgrow
            have l3 : w6.cell? ⟨b, off + p, none⟩ = some (.slice (some a) m qc) := (B6.out.cell (p := ⟨b, off + p, none⟩) hlt).trans hc1
            refine hK _ _ ?_
            refine wpI_only (i := 17) rfl (by kernel_rfl) l3 (by rfl) ?_
            intro K hK
            go_simp
            try go_bits
            refine hK _ _ ?_
            refine wpI_done l3 (by kernel_rfl) ?_ _
            clear l0 l1 l2 l3
            go_wp2
            go_roundw
            case rel => exact ⟨p + 1, by go_num, by omega, G6.out, B6.out⟩
            case measure => simp [intOf]; omega
    · obtain rfl : n = p := by omega
      have K0 : Hid (Gr w.heap.size wr u7 n (fun _ => m) (fun k => ubk kind m (X k))) := hrel.out.1
      have B0 : Hid (Below w.heap.size w wr) := hrel.out.2
      clear hrel
      go_wp2
      go_ret
      exact ⟨_, rfl, K0.out, B0.out⟩

end Go.Proofs.Ytjpkoladmeeidaa
