/- Lift: steps, appends of rows, lengths, one lifting. -/
import Derived.Test.YtbcjbighipeafaaLJ
import Derived.Test.YtbcjbighipeafaaBA
import Derived.Laws.CopyOwn
namespace Go.Proofs.Ytbcjbighipeafaa
open Go.RowKit

/-- J liftings are done of n numbers at L levels. -/
structure Stp (n L J : Nat) : Prop where
  le : J ≤ L
  all : ∀ i, i < J → 1 < lnt n i
  stop : J = L ∨ lnt n J ≤ 1

theorem Stp.uniq {n L J K : Nat} (h : Stp n L J) (k : Stp n L K) : J = K := by
  rcases Nat.lt_trichotomy J K with h1 | h1 | h1
  · have := k.all J h1
    have := k.le
    rcases h.stop with h2 | h2 <;> omega
  · exact h1
  · have := h.all K h1
    have := h.le
    rcases k.stop with h2 | h2 <;> omega

theorem Stp.exists (n : Nat) : ∀ L, ∃ J, Stp n L J
  | 0 => ⟨0, Nat.le_refl _, fun i hi => absurd hi (by omega), .inl rfl⟩
  | L + 1 => by
    obtain ⟨J, h⟩ := Stp.exists n L
    by_cases h1 : J = L ∧ 1 < lnt n L
    · refine ⟨L + 1, Nat.le_refl _, fun i hi => ?_, .inl rfl⟩
      by_cases hi2 : i < J
      · exact h.all i hi2
      · obtain rfl : i = L := by omega
        exact h1.2
    · refine ⟨J, Nat.le_succ_of_le h.le, h.all, .inr ?_⟩
      rcases h.stop with h2 | h2
      · subst h2
        have : ¬ 1 < lnt n J := fun h3 => h1 ⟨rfl, h3⟩
        omega
      · exact h2

theorem lft_split (kind : Int) (n : Nat) (xs : Nat → Int) : ils (loL kind n xs) ((n + 1) / 2) ++ ils (hiL kind n xs) (n / 2) = ils (lft kind n xs) n := by
  apply List.ext_getElem?
  intro i
  by_cases h : i < (n + 1) / 2
  · rw [List.getElem?_append_left (by rw [ils_length]; exact h), ils_get h, ils_get (by omega)]
    unfold lft
    rw [if_pos h]
  · rw [List.getElem?_append_right (by rw [ils_length]; omega), ils_length]
    by_cases h2 : i < n
    · rw [ils_get (by omega), ils_get h2]
      unfold lft
      rw [if_neg h]
    · rw [List.getElem?_eq_none (by rw [ils_length]; omega), List.getElem?_eq_none (by rw [ils_length]; omega)]

theorem ils_one (f : Nat → Int) (n : Nat) : ∀ u ∈ ils f n, u.oneCell' = true := by
  intro u hu
  simp only [ils, List.mem_map] at hu
  obtain ⟨i, _, rfl⟩ := hu
  rfl

theorem grown_refl (w : World) (r : Option Nat) : w.grownBy w r := ⟨rfl, rfl, rfl, Nat.le_refl _, fun _ _ _ => rfl⟩

/-- A whole row put behind another one. -/
theorem wpList_appo {w : World} {ops : Array Oper} {rest : List Oper} {o : Oper} {a : Act} {Q : Exit → Act → World → Prop} (hgd : o.guard = none) (s x : Operand)
    (ho : o.op = .call { callee := .builtin .append, args := #[s, x], argTypes := #[24, 24] }) (base B2 : Nat) (v xv : Value) (n m : Nat) (xs : List Value) (ys : Nat → Int) (hs : a.eval s = v) (hx : a.eval x = xv)
    (hown : w.ownsRow base 3 1 v n xs) (hsrc : w.ownsRow B2 3 1 xv m (ils ys m)) (hnm : n + m ≤ 1048576) (hbase : base ≤ w.heap.size)
    (h : ∀ v' w', w'.ownsRow base 3 1 v' (n + m) (xs ++ ils ys m) → w.grownBy w' v.ownBlock → wpList Try.prog ops Q rest (a.put o.dst v') w') : wpList Try.prog ops Q (o :: rest) a w := by
  obtain ⟨i0, hi, hz0, hz1, hz2⟩ := info_parts Try.info3
  rcases hsrc.2 with ⟨rfl, rfl⟩ | ⟨g, cap, cur, rfl, hb, hg, hcap, _⟩
  · refine wpList_plain hgd fun K hK => ?_
    have hr := run_append_owned_none (P := Try.prog) w base 24 o.type 3 i0 1 Try.underlying24 hi v n xs hown
    unfold Oper.wp execOp
    simp only [ho, resolve, invoke, builtin, Sem.run_bind, Sem.run_pure, Result.andThen_ok, List.map_toArray, List.map_cons, List.map_nil, hs, hx, hr]
    exact hK _ _ (h v w (by simpa [ils] using hown) (grown_refl _ _))
  · exact wpList_append_own _ hgd s x 24 ho base 3 i0 (.int .i64 0) 1 8 Try.underlying24 hi hz0 hz1 hz2 rfl (by decide) v n xs hs hown ⟨g, 0, none⟩ m cap (ils ys m) hx (by rw [ils_length, Nat.mul_one]) (hsrc.cells rfl) (ils_one _ _) (by unfold maxLen; omega) (by omega) hbase (fun v' w' h2 h3 _ => h v' w' h2 h3)

set_option maxHeartbeats 2000000 in
theorem iLifted_any {w : World} {v : Value} {n : Nat} {xs : Nat → Int} {kind M : Int} (hk : Knd kind) (hv : Il w v n xs) (hn : n ≤ 1048576) (hM4 : 4 ≤ M) (hM : M ≤ 1000000000000000) (hx : Wth M n xs) :
    Calls Try.prog 30 #[.int .i64 kind, v] w fun e w' => P1 w w' e n (lft kind n xs) := by
  have i3 := iOnce_any hk hv hn hM4 hM hx
  obtain ⟨ao, cap, rfl, hcap, hc⟩ := hv
  clear hc hx
  go_enter Try.func30, Try.ntmps30
  go_wp2_with (first
    | (go_at_call 24; (with_reducible refine i3.mono ?_); rintro e w1 ⟨u0, u1, rfl, h1, h2, h3, h4⟩; have H1 : Hid _ := h1; have H2 : Hid _ := h2; clear h1 h2)
    | (at_builtin; refine wpList_appo rfl _ _ rfl w.heap.size w.heap.size _ _ _ _ _ _ rfl rfl H1.out H2.out (by omega) h4.size ?_))
  intro v' w2 ho hg
  rw [lft_split, show (n + 1) / 2 + n / 2 = n by omega] at ho
  have H3 : Hid (w2.ownsRow w.heap.size 3 1 v' n (ils (lft kind n xs) n)) := ho
  have H4 : Hid (Below w.heap.size w w2) := grown_below h4 (Nat.le_refl _) H1.out hg
  clear ho hg
  go_wp2
  go_ret
  exact ⟨_, rfl, H3.out, H4.out⟩

set_option maxHeartbeats 2000000 in
theorem iLens_any {w : World} {n L J : Nat} (hn : n ≤ 1048576) (hL : L ≤ 8) (hJ : Stp n L J) :
    Calls Try.prog 29 #[.int .i64 n, .int .i64 L] w fun e w' => P1 w w' e J (fun j => (lnt n j : Int)) := by
  obtain ⟨i0, hi, hz0, hz1, hz2⟩ := info_parts Try.info3
  have HJ : Hid (Stp n L J) := hJ
  clear hJ
  go_enter Try.func29, Try.ntmps29
  go_wp2
  go_loopw [0, 5, 8] (fun q o i wr => ∃ k : Nat, i = .int .i64 k ∧ q = .int .i64 (lnt n k : Int) ∧ k ≤ L ∧ Hid (wr.ownsRow w.heap.size 3 1 o k (ils (fun j => (lnt n j : Int)) k) ∧ Below w.heap.size w wr ∧ ∀ i, i < k → 1 < lnt n i)) (fun _ _ i _ => L - (intOf i).toNat)
  case atStart => exact ⟨0, rfl, rfl, by omega, own_empty w 3 1, below_one _ _, fun i hi => absurd hi (by omega)⟩
  case round =>
    obtain ⟨k, rfl, rfl, hk, hrel⟩ := hrel
    by_cases h1 : k < L
    · by_cases h2 : 1 < lnt n k
      · have i2 := fun W => lowOf_any (w := W) (n := lnt n k) (p := lnt n (k + 1)) (Nat.le_trans (lnt_le n k) hn) rfl
        have hle := lnt_le n k
        have hb3 := below_one wr (.cells #[.int .i64 (lnt n k : Int)] 3)
        have HO3 := own_below hrel.out.1 hb3
        have HB3 := bstep hrel.out.2.1 hb3
        have ALL : Hid (∀ i, i < k + 1 → 1 < lnt n i) := fun i hi => by
          by_cases hik : i < k
          · exact hrel.out.2.2 i hik
          · obtain rfl : i = k := by omega
            exact h2
        clear hb3
        have es : Hid (ils (fun j => (lnt n j : Int)) k ++ [.int .i64 (lnt n k : Int)] = ils (fun j => (lnt n j : Int)) (k + 1)) := (ils_snoc _ _).symm
        generalize lnt n k = A at i2 hle h2 HO3 HB3 es ⊢
        go_wp2_with (first
          | (go_at_call 25; (with_reducible refine (i2 _).mono ?_); rintro e w' ⟨rfl, hw⟩; obtain rfl := hw.symm)
          | (at_builtin; refine wpList_append_own _ rfl _ _ 24 rfl w.heap.size 3 i0 (.int .i64 0) 1 8 Try.underlying24 hi hz0 hz1 hz2 rfl (by decide) _ _ _ rfl HO3 ⟨wr.heap.size, 0, none⟩ 1 1 [.int .i64 (A : Int)] rfl rfl (one_new _ _ _) (by simp [Value.oneCell']) (by unfold maxLen; omega) (by omega) HB3.size ?_))
        intro v' w4 hown' hgrow _
        have HB4 : Hid (Below w.heap.size w w4) := grown_below HB3 (Nat.le_refl _) HO3 hgrow
        rw [es.out] at hown'
        have HO4 : Hid (w4.ownsRow w.heap.size 3 1 v' (k + 1) (ils (fun j => (lnt n j : Int)) (k + 1))) := hown'
        clear hown' hgrow HB3 HO3 es
        go_wp2_with (go_at_call 25; (with_reducible refine (i2 _).mono ?_); rintro e w' ⟨rfl, hw⟩; obtain rfl := hw.symm)
        go_roundw
        case rel => exact ⟨k + 1, by go_num, rfl, by omega, HO4.out, HB4.out, ALL.out⟩
        case measure => simp [intOf]; omega
      · have e := HJ.out.uniq ⟨hk, hrel.out.2.2, .inr (by omega)⟩
        have H1 : Hid _ := hrel.out.1
        have H2 : Hid _ := hrel.out.2.1
        clear hrel HJ
        generalize lnt n k = A at h2 ⊢
        go_wp2
        go_ret
        exact ⟨_, rfl, by rw [e]; exact H1.out, H2.out⟩
    · obtain rfl : L = k := by omega
      have e := HJ.out.uniq ⟨Nat.le_refl _, hrel.out.2.2, .inl rfl⟩
      have H1 : Hid _ := hrel.out.1
      have H2 : Hid _ := hrel.out.2.1
      clear hrel HJ
      go_wp2
      go_ret
      exact ⟨_, rfl, by rw [e]; exact H1.out, H2.out⟩
end Go.Proofs.Ytbcjbighipeafaa
