/- Spread: the program. -/
import Derived.Test.YtgkcofjhajjjgaaSB
import Derived.Test.YtgkcofjhajjjgaaAI
import Derived.Test.YtgkcofjhajjjgaaKB
namespace Go.Proofs.Ytgkcofjhajjjgaa
open Go.RowKit

/-- A block as a row of no cells, to lie apart from. -/
abbrev ZV (g : Nat) : Value := .slice (some ⟨g, 0, none⟩) 0 0

theorem Cdm.block {W W' : World} {g : Nat} {m a b : Int} (h : Cdm W g m a b) (hb : W'.heap[g]? = W.heap[g]?) : Cdm W' g m a b :=
  ⟨(World.cell?_of_block (w := W) hb).trans h.c0, (World.cell?_of_block (w := W) hb).trans h.c1, (World.cell?_of_block (w := W) hb).trans h.c2⟩
theorem Stm.block {W W' : World} {g : Nat} {c l : Int} (h : Stm W g c l) (hb : W'.heap[g]? = W.heap[g]?) : Stm W' g c l :=
  ⟨(World.cell?_of_block (w := W) hb).trans h.c0, (World.cell?_of_block (w := W) hb).trans h.c1, (World.frozen?_of_block (w := W) hb).trans h.z0, (World.frozen?_of_block (w := W) hb).trans h.z1⟩

theorem apart_zz {x g n c : Nat} (h : x ≠ g) : Apart (.slice (some ⟨x, 0, none⟩) n c) (ZV g) := .inr (fun e => h (by simpa [Value.ownBlock] using e))

theorem apart_ne {o : Value} {g : Nat} (h : Apart o (ZV g)) : o.ownBlock ≠ some g := by
  rcases h with h | h
  · rw [h]; exact fun e => by cases e
  · exact h

theorem apart_new {o v' : Value} {g s : Nat} (h : Apart o (ZV g)) (hg : g < s) (hu : v'.ownBlock = o.ownBlock ∨ v'.ownBlock = some s) : Apart v' (ZV g) := by
  refine .inr (fun e => ?_)
  rcases hu with hu | hu
  · exact apart_ne h (hu.symm.trans e)
  · have e2 : some s = some g := hu.symm.trans e
    injection e2 with e3
    omega

theorem only_two (w : World) (g : Nat) (x y : Value) : Only g w ((w.setCell ⟨g, 0, none⟩ x).setCell ⟨g, 1, none⟩ y) := ((Only.refl g w).put 0 x).put 1 y

/-- What stands while Spread goes on. -/
structure Spv (w wr : World) (g11 g12 : Nat) (m a b : Int) (o ls : Value) (N k : Nat) (c l : Int) (f : Nat → Int) (L : List Value) : Prop where
  own : wr.ownsRow w.heap.size 3 1 o k L
  row : wr.ownsRow w.heap.size 3 1 ls N (ils f N)
  ap : Apart ls o
  ao : Apart o (ZV g12)
  al : Apart ls (ZV g12)
  ac : Apart o (ZV g11)
  cd : Cdm wr g11 m a b
  st : Stm wr g12 c l
  ne : g11 ≠ g12
  ge : w.heap.size ≤ g12
  bl : Below w.heap.size w wr

theorem Spv.call {w wr w' : World} {g11 g12 N k : Nat} {m a b c l : Int} {o ls : Value} {f : Nat → Int} {L : List Value} (h : Spv w wr g11 g12 m a b o ls N k c l f L) (hb : Below wr.heap.size wr w') : Spv w w' g11 g12 m a b o ls N k c l f L :=
  ⟨own_below h.own hb, own_below h.row hb, h.ap, h.ao, h.al, h.ac, h.cd.below hb, h.st.below hb, h.ne, h.ge, bstep h.bl hb⟩

theorem Spv.grow {w wr w' : World} {g11 g12 N k k' : Nat} {m a b c l : Int} {o v' ls : Value} {f : Nat → Int} {L L' : List Value} (h : Spv w wr g11 g12 m a b o ls N k c l f L)
    (ho : w'.ownsRow w.heap.size 3 1 v' k' L') (hg : wr.grownBy w' o.ownBlock) (hw : v'.ownBlock = o.ownBlock ∨ v'.ownBlock = some wr.heap.size) : Spv w w' g11 g12 m a b v' ls N k' c l f L' :=
  ⟨ho, own_grown h.row hg h.ap, apart_app h.row h.ap hw, apart_new h.ao h.st.lt hw, h.al, apart_new h.ac h.cd.lt hw, h.cd.block (hg.block _ h.cd.lt (fun e => apart_ne h.ac e.symm)), h.st.block (hg.block _ h.st.lt (fun e => apart_ne h.ao e.symm)), h.ne, h.ge, grown_below h.bl (Nat.le_refl _) h.own hg⟩

theorem Spv.put {w wr : World} {g11 g12 N k : Nat} {m a b c l c' l' : Int} {o ls : Value} {f : Nat → Int} {L : List Value} (h : Spv w wr g11 g12 m a b o ls N k c l f L) : Spv w ((wr.setCell ⟨g12, 0, none⟩ (.int .i64 c')).setCell ⟨g12, 1, none⟩ (.int .i64 l')) g11 g12 m a b o ls N k c' l' f L :=
  ⟨own_apart (x := ZV g12) h.own (only_two _ _ _ _) (.inl rfl) h.ao, own_apart (x := ZV g12) h.row (only_two _ _ _ _) (.inl rfl) h.al, h.ap, h.ao, h.al, h.ac, h.cd.block ((only_two wr g12 _ _).block _ h.ne), h.st.put _ _, h.ne, h.ge, Below.only h.bl (only_two _ _ _ _) h.ge⟩

theorem ub_row (n M : Nat) {xs : Nat → Int} (h : ∀ k, k < n → Bit (xs k)) : ils xs n ++ List.replicate M (.int .i64 0) = ils (fun i => ((ub n xs i : Nat) : Int)) (n + M) := by
  apply List.ext_getElem?
  intro i
  by_cases h1 : i < n
  · rw [List.getElem?_append_left (by rw [ils_length]; exact h1), ils_get h1, ils_get (by omega)]
    unfold ub
    rw [if_pos h1]
    rcases h i h1 with e | e <;> rw [e] <;> rfl
  · rw [List.getElem?_append_right (by rw [ils_length]; omega), ils_length]
    by_cases h2 : i < n + M
    · rw [ils_get h2, List.getElem?_replicate, if_pos (by omega)]
      unfold ub
      rw [if_neg h1]
      rfl
    · rw [List.getElem?_eq_none (by rw [List.length_replicate]; omega), List.getElem?_eq_none (by rw [ils_length]; omega)]

set_option maxHeartbeats 8000000 in
theorem iSpr_good {w : World} {v : Value} {n : Nat} {xs : Nat → Int} (hv : Il w v n xs) (h : Bts n xs) (hn : n ≤ 120) {m : Int} {a b : Nat} (hab : Cd m a b) :
    Calls Try.prog 11 #[.int .i64 m, .int .i64 (a : Int), .int .i64 (b : Int), v] w fun e w' => Pst w w' e (2 * (n + m.toNat)) (spd m.toNat a b (ub n xs)) true := by
  obtain ⟨i0, hi, hz0, hz1, hz2⟩ := info_parts Try.info3
  obtain ⟨M, hM⟩ : ∃ M : Nat, M = m.toNat := ⟨_, rfl⟩
  have hmM : m = (M : Int) := by have := hab.1; omega
  subst hmM
  rw [← hM]
  clear hM
  have ha8 := mk_lt (by have := hab.1; omega) hab.2.1
  have hb8 := mk_lt (by have := hab.1; omega) hab.2.2
  have hM6 : 1 ≤ M ∧ M ≤ 6 := by have := hab.1; omega
  have i2 := one_any (m := (M : Int)) (a := (a : Int)) (b := (b : Int))
  rw [decide_eq_true hab] at i2
  clear hab
  have HBT : Hid (∀ k, k < n → Bit (xs k)) := h.2
  have HU : Hid (∀ i, ub n xs i ≤ 1) := ub_le h.2
  have HV : Hid (Il w v n xs) := hv
  have HTT : Hid (Bts n xs) := h
  have OW : Hid ((w.alloc (.cells #[] 3)).ownsRow w.heap.size 3 1 (.slice (some ⟨w.heap.size, 0, none⟩) 0 0) 0 []) := own_empty w 3 1
  have BL : Hid (Below w.heap.size w (w.alloc (.cells #[] 3))) := below_one _ _
  have C0 : Hid (Cdm ((w.alloc (.cells #[] 3)).alloc (.cells #[.int .i64 (M : Int), .int .i64 (a : Int), .int .i64 (b : Int)] 48)) (w.heap.size + 1) M a b) := by
    have := Cdm.new (w.alloc (.cells #[] 3)) M a b 48
    rw [size_one] at this
    exact this
  obtain ⟨ao, cap, rfl, hcap, hc⟩ := hv
  clear hc h
  go_enter Try.func11, Try.ntmps11
  go_upto_region 6 with (first
    | (go_at_call 31; (with_reducible refine (i2 _).mono ?_); rintro e w3 ⟨rfl, hb⟩; have hb2 := bstep (below_one (w.alloc (.cells #[] 3)) (.cells #[.int .i64 (M : Int), .int .i64 (a : Int), .int .i64 (b : Int)] 48)) hb; have OW3 : Hid (w3.ownsRow w.heap.size 3 1 (.slice (some ⟨w.heap.size, 0, none⟩) 0 0) 0 []) := own_below OW.out hb2; have BL3 : Hid (Below w.heap.size w w3) := bstep BL.out hb2; have C3 : Hid (Cdm w3 (w.heap.size + 1) M a b) := C0.out.below hb; have hs3 : w.heap.size + 2 ≤ w3.heap.size := (by have := hb.size; rw [size_one, size_one] at this; omega); have i1 := iBits_any (HV.out.below BL3.out) (by omega); rw [decide_eq_true HTT.out] at i1; clear hb hb2 OW BL C0)
    | (go_at_call 32; (with_reducible refine (i1).mono ?_); rintro e w' ⟨rfl, hw⟩; obtain rfl := hw.symm))
  clear i1 i2
  obtain ⟨G, hG⟩ : ∃ G, G = w3.heap.size := ⟨_, rfl⟩
  have S5 : Hid (Stm (w3.alloc (.cells #[.int .i64 0, .int .i64 0] 52)) G 0 0) := by rw [hG]; exact Stm.new _ _ _ _
  have hb5 := below_one w3 (.cells #[.int .i64 0, .int .i64 0] 52)
  have OW5 : Hid ((w3.alloc (.cells #[.int .i64 0, .int .i64 0] 52)).ownsRow w.heap.size 3 1 (.slice (some ⟨w.heap.size, 0, none⟩) 0 0) 0 []) := own_below OW3.out hb5
  have BL5 : Hid (Below w.heap.size w (w3.alloc (.cells #[.int .i64 0, .int .i64 0] 52))) := bstep BL3.out hb5
  have C5 : Hid (Cdm (w3.alloc (.cells #[.int .i64 0, .int .i64 0] 52)) (w.heap.size + 1) M a b) := C3.out.below hb5
  rw [← hG] at hs3
  have hG5 : G < (w3.alloc (.cells #[.int .i64 0, .int .i64 0] 52)).heap.size := S5.out.lt
  rw [← hG]
  clear hb5 OW3 BL3 C3 hG
  generalize w3.alloc (.cells #[.int .i64 0, .int .i64 0] 52) = W5 at *
  have BE : Hid (Below W5.heap.size W5 (W5.alloc (.cells #[] 3))) := below_one _ _
  have IE : Hid (Il (W5.alloc (.cells #[] 3)) (.slice ao n cap) n xs) := HV.out.below (bstep BL5.out BE.out)
  go_upto_region 7 with (first
    | (at_builtin; refine wpList_appi rfl _ _ rfl W5.heap.size _ _ 0 n [] xs rfl rfl (own_empty W5 3 1) IE.out (by omega) BE.out.size ?_; intro v1 W6 ho1 hg1; have OR : Hid (W6.ownsRow W5.heap.size 3 1 v1 (0 + n) ([] ++ ils xs n)) := ho1; have B6 : Hid (Below W5.heap.size W5 W6) := grown_below BE.out (Nat.le_refl _) (own_empty W5 3 1) hg1; clear ho1 hg1)
    | (at_builtin; obtain ⟨v2, W7, hr7, ho7, hg7⟩ := zeros_own W6 W5.heap.size 24 v1 (0 + n) M _ OR.out (by omega) (by omega) B6.out.size; refine Lib.wpList_append_run _ rfl _ _ 24 3 rfl _ _ rfl rfl v2 W7 hr7 ?_; have B7 : Hid (Below W5.heap.size W5 W7) := grown_below B6.out (Nat.le_refl _) OR.out hg7; rw [List.nil_append, Nat.zero_add, ub_row n M HBT.out] at ho7; obtain ⟨a2, c2, rfl⟩ := own_slice ho7; have O7 : Hid (W7.ownsRow W5.heap.size 3 1 (.slice a2 (n + M) c2) (n + M) (ils (fun i => ((ub n xs i : Nat) : Int)) (n + M))) := ho7; clear hr7 ho7 hg7 OR B6))
  have SV : Hid (Spv w W7 (w.heap.size + 1) G M a b (.slice (some ⟨w.heap.size, 0, none⟩) 0 0) (.slice a2 (n + M) c2) (n + M) 0 ((0 : Nat) : Int) ((0 : Nat) : Int) (fun i => ((ub n xs i : Nat) : Int)) (ils (spd M a b (ub n xs)) (2 * 0))) := by
    refine ⟨own_below OW5.out B7.out, own_base O7.out BL5.out.size, apart_base (g := w.heap.size) O7.out rfl (by omega), apart_zz (by omega), apart_base (g := G) O7.out rfl hG5, apart_zz (by omega), C5.out.below B7.out, S5.out.below B7.out, by omega, by omega, bstep BL5.out B7.out⟩
  clear OW5 BL5 C5 S5 BE IE B7 O7 hG5
  generalize (w.heap.size + 1) = G1 at *
  go_loopw [10, 14, 15, 16, 43] (fun o _ _ _ i wr => ∃ (j : Nat), i = .int .i64 j ∧ j ≤ n + M ∧ Hid (Spv w wr G1 G M a b o (.slice a2 (n + M) c2) (n + M) (2 * j) (j : Int) ((stt M (ub n xs) j : Nat) : Int) (fun i => ((ub n xs i : Nat) : Int)) (ils (spd M a b (ub n xs)) (2 * j)))) (fun _ _ _ _ i _ => n + M - (intOf i).toNat)
  case atStart => exact ⟨0, rfl, by omega, SV.out⟩
  case round =>
    obtain ⟨j, rfl, hj, hrel⟩ := hrel
    by_cases h1 : j < n + M
    · obtain ⟨po2, cap4, he, _, hc4⟩ := il_of_own hrel.out.row
      injection he with e1 e2 e3
      obtain ⟨b9, off9, e4, hlt9, hcell9⟩ := hc4 (by omega)
      rw [e4] at e1
      subst e1
      clear e2 e3 e4 hc4
      have c := hcell9 j h1
      obtain ⟨x, hx⟩ : ∃ x, x = ub n xs j := ⟨_, rfl⟩
      have hx1 : x ≤ 1 := by rw [hx]; exact HU.out j
      replace c : wr.cell? ⟨b9, off9 + j, none⟩ = some (.int .i64 (x : Int)) := by rw [hx]; exact c
      obtain ⟨l, hl⟩ : ∃ l, l = stt M (ub n xs) j := ⟨_, rfl⟩
      have hl63 : l ≤ 63 := by rw [hl]; exact stt_le hM6 j
      obtain ⟨r, hr⟩ : ∃ r, r = rgg M (ub n xs) j := ⟨_, rfl⟩
      have hr8 : r < 128 := by rw [hr]; exact rgg_lt hM6 (HU.out j)
      have hrl : 2 * (l : Int) + (x : Int) = (r : Int) := by rw [hr, hx, hl]; unfold rgg; omega
      have i3 := reg_any (c := (j : Int)) (l := (l : Int)) (x := (x : Int)) (by omega) (by omega)
      rw [hrl] at i3
      have i4 := tells_any (m := (M : Int)) (a := a) (b := b) (r := r) (by omega) (by omega) hr8
      have i5 := next_any (m := (M : Int)) (by omega) (a := (a : Int)) (b := (b : Int)) (c := j) (l := l) (x := x) (by omega) (by omega) hx1
      rw [Int.toNat_natCast, show (2 * l + x) % 2 ^ M = stt M (ub n xs) (j + 1) by rw [← stt_next, ← hr]; congr 1; omega] at i5
      obtain ⟨l', hl'⟩ : ∃ l', l' = stt M (ub n xs) (j + 1) := ⟨_, rfl⟩
      rw [← hl'] at i5
      obtain ⟨p1, hp1⟩ : ∃ p, p = par (r &&& a) := ⟨_, rfl⟩
      obtain ⟨p2, hp2⟩ : ∃ p, p = par (r &&& b) := ⟨_, rfl⟩
      rw [← hp1, ← hp2] at i4
      have SV : Hid _ := hrel.out
      have CD : Hid (Cdm wr G1 M a b) := hrel.out.cd
      have SM : Hid (Stm wr G (j : Int) (l : Int)) := by rw [hl]; exact hrel.out.st
      have HL : Hid (l = stt M (ub n xs) j) := hl
      have HL' : Hid (l' = stt M (ub n xs) (j + 1)) := hl'
      have HR : Hid (r = rgg M (ub n xs) j) := hr
      have HP1 : Hid (p1 = par (r &&& a)) := hp1
      have HP2 : Hid (p2 = par (r &&& b)) := hp2
      clear hcell9 hrel hx hl hr hl' hp1 hp2 hrl
      go_upto_region 9 with (fail)
      refine wp_region_any (by kernel_rfl) ?_
      change wpAny _ _ _ _ _ _ _ (World.drew _)
      refine wpI_any (I := fun X => Below wr.heap.size wr X) _ _ _ _ ?_
      have l0 : Below wr.heap.size wr wr.drew := (Below.refl _ _).drew
      refine wpI_take (i := 0) (v := ?_) rfl (by kernel_rfl) (by kernel_rfl) (by kernel_rfl) (fun _ _ _ h => h) ⟨by rfl, ?_⟩ ?_
      rotate_left
      · intro X hI; obtain ⟨c0, c1, c2⟩ := CD.out.at hI CD.out.lt; go_simp; try go_bits
        try rw [if_pos (by omega)]
        try with_reducible rfl
      refine wpI_take (i := 1) (v := ?_) rfl (by kernel_rfl) (by kernel_rfl) (by kernel_rfl) (fun _ _ _ h => h) ⟨by rfl, ?_⟩ ?_
      rotate_left
      · intro X hI; obtain ⟨c0, c1, z0, z1⟩ := SM.out.at hI SM.out.lt; go_simp; try go_bits
        try rw [if_pos (by omega)]
        try with_reducible rfl
      refine wpI_take (i := 2) (v := ?_) rfl (by kernel_rfl) (by kernel_rfl) (by kernel_rfl) (fun _ _ _ h => h) ⟨by rfl, ?_⟩ ?_
      rotate_left
      · intro X hI; go_simp; try go_bits
        try rw [if_pos (by omega)]
        try with_reducible rfl
      refine wpI_only (i := 3) rfl (by kernel_rfl) l0 (by rfl) ?_
      intro K hK
      go_simp
      go_wp2_with (go_at_call 34; (with_reducible refine (i3 _).mono ?_); rintro e w5 ⟨rfl, hb⟩; have l1 : Below wr.heap.size wr w5 := bstep (w := wr) l0 hb; clear hb)
      refine wpI_only (i := 4) rfl (by kernel_rfl) l1 (by rfl) ?_
      intro K hK
      go_simp
      go_wp2_with (go_at_call 33; (with_reducible refine (i4 _).mono ?_); rintro e w6 ⟨rfl, hb⟩; have l2 : Below wr.heap.size wr w6 := bstep (w := wr) l1 hb; clear hb)
      refine wpI_take (i := 5) (v := ?_) rfl (by kernel_rfl) (by kernel_rfl) (by kernel_rfl) (fun _ _ _ h => h) ⟨by rfl, ?_⟩ ?_
      rotate_left
      · intro X hI; go_simp; try go_bits
        try rw [if_pos (by omega)]
        try with_reducible rfl
      refine wpI_take (i := 6) (v := ?_) rfl (by kernel_rfl) (by kernel_rfl) (by kernel_rfl) (fun _ _ _ h => h) ⟨by rfl, ?_⟩ ?_
      rotate_left
      · intro X hI; go_simp; try go_bits
        try rw [if_pos (by omega)]
        try with_reducible rfl
      refine wpI_take (i := 7) (v := ?_) rfl (by kernel_rfl) (by kernel_rfl) (by kernel_rfl) (fun _ _ _ h => h) ⟨by rfl, ?_⟩ ?_
      rotate_left
      · intro X hI; go_simp; try go_bits
        try rw [if_pos (by omega)]
        try with_reducible rfl
      refine wpI_take (i := 8) (v := ?_) rfl (by kernel_rfl) (by kernel_rfl) (by kernel_rfl) (fun _ _ _ h => h) ⟨by rfl, ?_⟩ ?_
      rotate_left
      · intro X hI; go_simp; try go_bits
        try rw [if_pos (by omega)]
        try with_reducible rfl
      refine wpI_take (i := 9) (v := ?_) rfl (by kernel_rfl) (by kernel_rfl) (by kernel_rfl) (fun _ _ _ h => h) ⟨by rfl, ?_⟩ ?_
      rotate_left
      · intro X hI; go_simp; try go_bits
        try rw [if_pos (by omega)]
        try with_reducible rfl
      refine wpI_done l2 (by kernel_rfl) ?_ _
      have S6 : Hid _ := SV.out.call l2
      have hb3 := below_one w6 (.cells #[.int .i64 (p1 : Int), .int .i64 (p2 : Int)] 3)
      have S7 := S6.out.call hb3
      clear hb3 CD SM SV c
      clear l2
      go_upto_region 11 with (first | (at_builtin; refine wpList_app _ rfl _ _ 24 rfl w.heap.size 3 i0 (.int .i64 0) 1 8 Try.underlying24 hi hz0 hz1 hz2 rfl (by decide) _ _ _ rfl S7.own ⟨w6.heap.size, 0, none⟩ 2 2 [.int .i64 (p1 : Int), .int .i64 (p2 : Int)] rfl rfl (two_new _ _ _ _) (by simp [Value.oneCell']) (by unfold maxLen; omega) (by omega) S7.bl.size (by omega) ?_))
      intro v' w8 hown' hgrow hwh
      rw [HP1.out, HP2.out, HR.out, ils_spd] at hown'
      have S8 : Hid (Spv w w8 G1 G M a b v' _ (n + M) (2 * j + 2) (j : Int) ((stt M (ub n xs) j : Nat) : Int) (fun i => ((ub n xs i : Nat) : Int)) (ils (spd M a b (ub n xs)) (2 * j + 2))) := S7.grow hown' hgrow (hwh.imp id (fun h => h.1.trans (congrArg some (Array.size_push _).symm)))
      clear hown' hgrow hwh S7 S6
      have d0 := S8.out.cd.c0
      have d1 := S8.out.cd.c1
      have d2 := S8.out.cd.c2
      have t0 := S8.out.st.c0
      have t1 := S8.out.st.c1
      rw [← HL.out] at t1
      go_wp2_with (first | (go_at_call 35; (with_reducible refine (i5 _).mono ?_); rintro e w9 ⟨rfl, hb⟩; have S9 : Hid _ := S8.out.call hb; have t0 := S9.out.st.c0; have t1 := S9.out.st.c1; have z0 := S9.out.st.z0; have z1 := S9.out.st.z1; clear hb))
      go_roundw
      case rel => exact ⟨j + 1, by go_num, by omega, by rw [show 2 * (j + 1) = 2 * j + 2 by omega, ← HL'.out]; exact S9.out.put⟩
      case measure => simp [intOf]; omega
    · obtain rfl : j = n + M := by omega
      go_wp2
      go_ret2
      exact ⟨_, rfl, hrel.out.own, hrel.out.bl⟩
end Go.Proofs.Ytgkcofjhajjjgaa
