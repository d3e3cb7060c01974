/- Lift: the model. -/
import Derived.Test.YtmecmdiideedfaaLN
namespace Go.Proofs.Ytmecmdiideedfaa
open Go.RowKit

theorem ils_join (f : Nat → Int) {a n : Nat} (h : a ≤ n) : ils f a ++ ils (fun i => f (i + a)) (n - a) = ils f n := by
  apply List.ext_getElem?
  intro i
  by_cases h1 : i < a
  · rw [List.getElem?_append_left (by rw [ils_length]; exact h1), ils_get h1, ils_get (by omega)]
  · rw [List.getElem?_append_right (by rw [ils_length]; omega), ils_length]
    by_cases h2 : i < n
    · rw [ils_get (by omega), ils_get h2, show i - a + a = i by omega]
    · rw [List.getElem?_eq_none (by rw [ils_length]; omega), List.getElem?_eq_none (by rw [ils_length]; omega)]

theorem low_step (kind : Int) (n : Nat) (xs : Nat → Int) (k : Nat) : ils (loL kind (lnt n k) (stL kind n xs k)) ((lnt n k + 1) / 2) = ils (stL kind n xs (k + 1)) (lnt n (k + 1)) := by
  show _ = ils (stL kind n xs (k + 1)) ((lnt n k + 1) / 2)
  refine ils_congr fun i hi => ?_
  show _ = if i < lnt n k then lft kind (lnt n k) (stL kind n xs k) i else stL kind n xs k i
  rw [if_pos (by omega)]
  unfold lft
  rw [if_pos hi]

theorem behind_step (kind : Int) {n : Nat} (xs : Nat → Int) (k : Nat) : ils (hiL kind (lnt n k) (stL kind n xs k)) (lnt n k / 2) ++ ils (fun i => stL kind n xs k (i + lnt n k)) (n - lnt n k) = ils (fun i => stL kind n xs (k + 1) (i + lnt n (k + 1))) (n - lnt n (k + 1)) := by
  have hle := lnt_le n k
  have e1 : lnt n (k + 1) = (lnt n k + 1) / 2 := rfl
  rw [e1]
  apply List.ext_getElem?
  intro i
  by_cases h1 : i < lnt n k / 2
  · rw [List.getElem?_append_left (by rw [ils_length]; exact h1), ils_get h1, ils_get (by omega)]
    show _ = some (Value.int .i64 (if i + (lnt n k + 1) / 2 < lnt n k then lft kind (lnt n k) (stL kind n xs k) (i + (lnt n k + 1) / 2) else stL kind n xs k (i + (lnt n k + 1) / 2)))
    rw [if_pos (by omega)]
    unfold lft
    rw [if_neg (by omega), show i + (lnt n k + 1) / 2 - (lnt n k + 1) / 2 = i by omega]
  · rw [List.getElem?_append_right (by rw [ils_length]; omega), ils_length]
    by_cases h2 : i < n - (lnt n k + 1) / 2
    · rw [ils_get (by omega), ils_get h2]
      show _ = some (Value.int .i64 (if i + (lnt n k + 1) / 2 < lnt n k then lft kind (lnt n k) (stL kind n xs k) (i + (lnt n k + 1) / 2) else stL kind n xs k (i + (lnt n k + 1) / 2)))
      rw [if_neg (by omega), show i - lnt n k / 2 + lnt n k = i + (lnt n k + 1) / 2 by omega]
    · rw [List.getElem?_eq_none (by rw [ils_length]; omega), List.getElem?_eq_none (by rw [ils_length]; omega)]

set_option maxRecDepth 20000 in
set_option maxHeartbeats 8000000 in
theorem sLift_good {w : World} {v : Value} {n L J B : Nat} {xs : Nat → Int} {kind : Int} (hk : Knd kind) (hs : Sig n xs) (hL : L ≤ 8) (hJ : Stp n L J) (hv : w.ownsRow B 3 1 v n (ils xs n)) :
    Calls Try.prog 15 #[.int .i64 kind, v, .int .i64 L] w fun e w' => Pst w w' e n (stL kind n xs J) true := by
  have hn : n ≤ 512 := hs.1
  have i1 := sKind_any kind
  rw [decide_eq_true hk] at i1
  have i2 := sSig_any (il_of_own hv) (by omega)
  rw [decide_eq_true hs] at i2
  have i3 := in_any (L : Int) 0 8
  rw [decide_eq_true (by omega)] at i3
  have HS : Hid (Sig n xs) := hs
  have HJ : Hid (Stp n L J) := hJ
  have HV : Hid _ := own_below hv (below_one w (.cells #[] 3))
  have HE : Hid ((w.alloc (.cells #[] 3)).ownsRow w.heap.size 3 1 (.slice (some ⟨w.heap.size, 0, none⟩) 0 0) 0 (ils xs 0)) := own_empty w 3 1
  have BE : Hid _ := below_one w (.cells #[] 3)
  clear hs hJ
  obtain ⟨ao, cap, hvv, hcap, hc⟩ := il_of_own hv
  clear hc hv
  subst hvv
  go_enter Try.func15, Try.ntmps15
  go_wp2_with (first
    | (go_at_call 19; (with_reducible refine (i1 _).mono ?_); rintro e w' ⟨rfl, hw⟩; obtain rfl := hw.symm)
    | (go_at_call 20; (with_reducible refine i2.mono ?_); rintro e w' ⟨rfl, hw⟩; obtain rfl := hw.symm)
    | (go_at_call 25; (with_reducible refine (i3 _).mono ?_); rintro e w' ⟨rfl, hw⟩; obtain rfl := hw.symm)
    | (at_builtin; refine wpList_appo rfl _ _ rfl w.heap.size B _ _ _ _ _ _ rfl rfl HE.out HV.out (by omega) BE.out.size ?_))
  intro v' w2 ho hg
  have HW : Hid (w2.ownsRow w.heap.size 3 1 v' n (ils xs n)) := ho
  have BW : Hid (Below w.heap.size w w2) := grown_below BE.out (Nat.le_refl _) HE.out hg
  clear ho hg i1 i2 i3 HV HE BE
  have HW3 : Hid ((w2.alloc (.cells #[] 3)).ownsRow w.heap.size 3 1 v' n (ils xs n)) := own_below HW.out (below_one _ _)
  have HB3 : Hid ((w2.alloc (.cells #[] 3)).ownsRow w.heap.size 3 1 (.slice (some ⟨w2.heap.size, 0, none⟩) 0 0) (n - n) (ils (fun i => xs (i + n)) (n - n))) := by
    have h := own_base (own_empty w2 3 1) BW.out.size
    rw [Nat.sub_self]
    exact h
  have BW3 : Hid (Below w.heap.size w (w2.alloc (.cells #[] 3))) := bstep BW.out (below_one _ _)
  clear HW BW
  go_wp2
  go_loopw [8, 9, 10, 11, 12] (fun lo be i _ _ W_ => ∃ k : Nat, i = .int .i64 k ∧ k ≤ L ∧ Hid (W_.ownsRow w.heap.size 3 1 lo (lnt n k) (ils (stL kind n xs k) (lnt n k)) ∧ W_.ownsRow w.heap.size 3 1 be (n - lnt n k) (ils (fun i => stL kind n xs k (i + lnt n k)) (n - lnt n k)) ∧ Below w.heap.size w W_ ∧ ∀ i, i < k → 1 < lnt n i)) (fun _ _ i _ _ _ => L - (intOf i).toNat)
  case atStart => exact ⟨0, rfl, by omega, HW3.out, HB3.out, BW3.out, fun i hi => absurd hi (by omega)⟩
  case round =>
    obtain ⟨k, rfl, hk2, hrel⟩ := hrel
    obtain ⟨hlow, hbeh, hbel, hall⟩ := hrel.out
    have hA2 := lnt_le n k
    obtain ⟨lao, lcap, hlv, hlc, _⟩ := il_of_own hlow
    subst hlv
    have HLOW : Hid _ := hlow
    have HBEH : Hid _ := hbeh
    have HBEL : Hid _ := hbel
    have HALL : Hid _ := hall
    clear hrel hlow hbeh hbel hall
    have exit : ∀ (j : Nat), j = k → J = k → ils (stL kind n xs k) (lnt n k) ++ ils (fun i => stL kind n xs k (i + lnt n k)) (n - lnt n k) = ils (stL kind n xs J) n := fun _ _ h => by subst h; exact ils_join _ hA2
    have EXIT : Hid _ := exit
    clear exit
    by_cases h1 : k < L
    · by_cases h2 : 1 < lnt n k
      · have hk8 : k ≤ 8 := by omega
        have i5 := sOnce_any hk (il_of_own HLOW.out) (by omega) (M := 10000000000000) (by omega) (by omega) (fun j hj => stL_bound HS.out hk8 j (by omega))
        have ALL : Hid (∀ i, i < k + 1 → 1 < lnt n i) := fun i hi => by
          by_cases hik : i < k
          · exact HALL.out i hik
          · obtain rfl : i = k := by omega
            exact h2
        have E1 : Hid _ := low_step kind n xs k
        have E2 : Hid _ := behind_step kind (n := n) xs k
        have E3 : Hid (lnt n (k + 1) = (lnt n k + 1) / 2) := rfl
        go_wp2_with (first
          | (go_at_call 21; (with_reducible refine i5.mono ?_); rintro e w4 ⟨u0, u1, rfl, o0, o1, _, b4⟩; have O0 : Hid _ := o0; have BH4 : Hid _ := own_below HBEH.out b4; have B4 : Hid _ := bstep HBEL.out b4; have D5 : Hid ((w4.alloc (.cells #[] 3)).ownsRow w4.heap.size 3 1 (.slice (some ⟨w4.heap.size, 0, none⟩) 0 0) 0 (ils xs 0)) := own_empty w4 3 1; have S5 : Hid _ := own_below o1 (below_one w4 (.cells #[] 3)); have b5 := below_one w4 (.cells #[] 3); have hw4 := b4.size; clear o0 o1 b4)
          | (at_builtin; refine wpList_appo rfl _ _ rfl w4.heap.size wr.heap.size _ _ _ _ _ _ rfl rfl D5.out S5.out (by omega) b5.size ?_))
        intro v5 w6 ho5 hg5
        have B6 := grown_below b5 (Nat.le_refl _) D5.out hg5
        have V6 : Hid (w6.ownsRow w4.heap.size 3 1 v5 (lnt n k / 2) (ils (hiL kind (lnt n k) (stL kind n xs k)) (lnt n k / 2))) := ho5
        have O04 : Hid _ := O0.out
        have BH6 : Hid _ := own_below BH4.out B6
        have B46 : Hid _ := bstep B4.out B6
        have hsz := B6.size
        have B6 : Hid (Below w4.heap.size w4 w6) := B6
        clear ho5 hg5 b5 D5 S5 BH4 O0
        go_wp2_with (first
          | (at_builtin; refine wpList_appo rfl _ _ rfl w4.heap.size w.heap.size _ _ _ _ _ _ rfl rfl V6.out BH6.out (by omega) hsz ?_))
        intro v7 w7 ho7 hg7
        have B7 := grown_below B6.out (Nat.le_refl _) V6.out hg7
        rw [E2.out, show lnt n k / 2 + (n - lnt n k) = n - lnt n (k + 1) by have := E3.out; omega] at ho7
        have hb4 : w.heap.size ≤ w4.heap.size := B4.out.size
        have V7 : Hid (w7.ownsRow w.heap.size 3 1 v7 (n - lnt n (k + 1)) (ils (fun i => stL kind n xs (k + 1) (i + lnt n (k + 1))) (n - lnt n (k + 1)))) := own_base ho7 hb4
        have O07 : Hid (w7.ownsRow w.heap.size 3 1 u0 (lnt n (k + 1)) (ils (stL kind n xs (k + 1)) (lnt n (k + 1)))) := by
          have h := own_base (own_below O04.out B7) HBEL.out.size
          rw [E1.out, ← E3.out] at h
          exact h
        have B47 : Hid (Below w.heap.size w w7) := B4.out.trans (B7.mono hb4)
        clear ho7 hg7 B7 B6 V6 BH6 B46 O04 HLOW HBEH HBEL HALL
        go_wp2
        go_roundw
        case rel => exact ⟨k + 1, by go_num, by omega, O07.out, V7.out, B47.out, ALL.out⟩
        case measure => simp [intOf]; omega
      · have e := HJ.out.uniq ⟨hk2, HALL.out, .inr (by omega)⟩
        have H1 : Hid _ := HLOW.out
        clear HALL HS
        go_wp2_with (first | (at_builtin; refine wpList_appo rfl _ _ rfl w.heap.size w.heap.size _ _ _ _ _ _ rfl rfl HLOW.out HBEH.out (by omega) HBEL.out.size ?_))
        intro v5 w5 ho hg
        rw [EXIT.out k rfl e] at ho
        have R : Hid (w5.ownsRow w.heap.size 3 1 v5 n (ils (stL kind n xs J) n)) := ho
        have RB : Hid (Below w.heap.size w w5) := grown_below HBEL.out (Nat.le_refl _) HLOW.out hg
        clear ho hg H1
        go_wp2
        go_ret2
        exact ⟨_, rfl, R.out, RB.out⟩
    · obtain rfl : L = k := by omega
      have e := HJ.out.uniq ⟨Nat.le_refl _, HALL.out, .inl rfl⟩
      have H1 : Hid _ := HLOW.out
      clear HALL HS
      go_wp2_with (first | (at_builtin; refine wpList_appo rfl _ _ rfl w.heap.size w.heap.size _ _ _ _ _ _ rfl rfl HLOW.out HBEH.out (by omega) HBEL.out.size ?_))
      intro v5 w5 ho hg
      rw [EXIT.out L rfl e] at ho
      have R : Hid (w5.ownsRow w.heap.size 3 1 v5 n (ils (stL kind n xs J) n)) := ho
      have RB : Hid (Below w.heap.size w w5) := grown_below HBEL.out (Nat.le_refl _) HLOW.out hg
      clear ho hg H1
      go_wp2
      go_ret2
      exact ⟨_, rfl, R.out, RB.out⟩
end Go.Proofs.Ytmecmdiideedfaa
