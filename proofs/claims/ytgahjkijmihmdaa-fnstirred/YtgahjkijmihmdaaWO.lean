/- The order in which places are woven: both sides. -/
import Derived.Test.YtgahjkijmihmdaaWM
namespace Go.Proofs.Ytgahjkijmihmdaa
open Go.RowKit

theorem pieces_any {n r q : Nat} (hn : n ≤ 1048576) (h0 : 1 ≤ r) (hr : r ≤ 1048576) (hq : q = (n + r - 1) / r) (w : World) : Calls Try.prog 29 #[.int .i64 (n : Int), .int .i64 (r : Int)] w fun e w' => e = .returned (.int .i64 (q : Int)) ∧ w' = w := by
  obtain ⟨s, hs⟩ : ∃ s : Nat, s = n + r - 1 := ⟨_, rfl⟩
  have e0 : (n : Int) + (r : Int) - 1 = (s : Int) := by omega
  have e1 : (s : Int) / (r : Int) = (q : Int) := by rw [hq, ← hs]; exact (Int.natCast_ediv s r).symm
  have e2 : (s : Int).tdiv (r : Int) = (q : Int) := by rw [Int.tdiv_eq_ediv_of_nonneg (by omega)]; exact e1
  have e3 : ¬ ((r : Int) = 0) := by omega
  have hqs : q ≤ s := by rw [hq, ← hs]; exact Nat.div_le_self _ _
  clear hq hs
  go_enter Try.func29, Try.ntmps29
  go_wp2
  go_ret
  exact ⟨rfl, rfl⟩

theorem su_le {f : Nat → Nat} (h : ∀ i, f i ≤ 1) (a : Nat) : su f a ≤ a := by
  induction a with
  | zero => exact Nat.le_refl _
  | succ a ih => rw [su]; have := h a; omega

theorem su_le2 {f : Nat → Nat} {M : Nat} (h : ∀ i, f i ≤ M) (a : Nat) : su f a ≤ a * M := by
  induction a with
  | zero => exact Nat.zero_le _
  | succ a ih => rw [su, Nat.succ_mul]; have := h a; omega

theorem ind_le (L n i k : Nat) : ind L n i k ≤ 1 := by unfold ind; split <;> omega

theorem len_room {L n r k i : Nat} (hL : L = wln n r) (hn : n ≤ 1024) (h0 : 1 ≤ r) (hr : r ≤ 64) (hk : k ≤ L) (hi : i ≤ r) : su (fun k => su (fun i => ind L n i k) r) k + su (fun i => ind L n i k) i ≤ 200000 := by
  have h1 := su_le2 (f := fun k => su (fun i => ind L n i k) r) (M := 64) (fun k => Nat.le_trans (su_le (fun i => ind_le L n i k) r) hr) k
  have h2 := su_le (f := fun i => ind L n i k) (fun i => ind_le L n i k) i
  have h3 : L * r ≤ n + r - 1 := by rw [hL]; exact wln_le (by omega)
  have h4 := Nat.le_mul_of_pos_right L (show 0 < r by omega)
  omega

set_option maxHeartbeats 8000000 in
theorem iOrd_any {w : World} {n r : Nat} (hn : n ≤ 1024) (h0 : 1 ≤ r) (hr : r ≤ 64) :
    Calls Try.prog 27 #[.int .i64 (n : Int), .int .i64 (r : Int)] w fun e w' => ∃ u, e = .returned u ∧ w'.ownsRow w.heap.size 3 1 u n (ils (plf (wov n r)) n) ∧ Below w.heap.size w w' := by
  obtain ⟨i0, hi, hz0, hz1, hz2⟩ := info_parts Try.info3
  obtain ⟨L, hL⟩ : ∃ L : Nat, L = wln n r := ⟨_, rfl⟩
  have HLL : Hid (L = wln n r) := hL
  have hLr : L * r ≤ n + r - 1 := by rw [hL]; exact wln_le (by omega)
  have hLb : L ≤ 1087 := by have h9 := Nat.le_mul_of_pos_right L (show 0 < r by omega); omega
  have HLR : Hid (L * r ≤ n + r - 1) := hLr
  have i1 := pieces_any (n := n) (r := r) (q := L) (by omega) h0 (by omega) hL
  have OW : Hid ((w.alloc (.cells #[] 3)).ownsRow w.heap.size 3 1 (.slice (some ⟨w.heap.size, 0, none⟩) 0 0) (wcl L n r 0).length (ils (plf (wcl L n r 0)) (wcl L n r 0).length)) := own_empty w 3 1
  have BL : Hid (Below w.heap.size w (w.alloc (.cells #[] 3))) := below_one _ _
  clear hL hLr
  go_enter Try.func27, Try.ntmps27
  go_wp2_with (first | (go_at_call 29; (with_reducible refine (i1 _).mono ?_); rintro e w' ⟨rfl, hw⟩; obtain rfl := hw.symm))
  clear i1
  generalize w.alloc (.cells #[] 3) = W at *
  go_loopw [5, 7, 8, 9, 15, 19] (fun o _ _ _ ko _ wr => ∃ k : Nat, ko = .int .i64 k ∧ k ≤ L ∧ Hid (wr.ownsRow w.heap.size 3 1 o (wcl L n r k).length (ils (plf (wcl L n r k)) (wcl L n r k).length) ∧ Below w.heap.size w wr)) (fun _ _ _ _ ko _ _ => L - (intOf ko).toNat)
  case atStart => exact ⟨0, rfl, by omega, OW.out, BL.out⟩
  case round =>
    obtain ⟨k, rfl, hk, hrel⟩ := hrel
    by_cases h1 : k < L
    · have HS : Hid (wr.ownsRow w.heap.size 3 1 u5 (wcl L n r k ++ wpl L n k 0).length (ils (plf (wcl L n r k ++ wpl L n k 0)) (wcl L n r k ++ wpl L n k 0).length) ∧ Below w.heap.size w wr) := by
        have h9 := hrel.out
        rw [show wpl L n k 0 = [] from rfl, List.append_nil]
        exact h9
      clear hrel
      go_wp2
      go_loopw [5, 8, 9, 19] (fun o _ _ io wr2 => ∃ i : Nat, io = .int .i64 i ∧ i ≤ r ∧ Hid (wr2.ownsRow w.heap.size 3 1 o (wcl L n r k ++ wpl L n k i).length (ils (plf (wcl L n r k ++ wpl L n k i)) (wcl L n r k ++ wpl L n k i).length) ∧ Below w.heap.size w wr2)) (fun _ _ _ io _ => r - (intOf io).toNat)
      case atStart => exact ⟨0, rfl, by omega, HS.out⟩
      case round =>
        rename World => V0
        clear HS
        obtain ⟨i, rfl, hi2, hrel⟩ := hrel
        by_cases h2 : i < r
        · obtain ⟨q, hq⟩ : ∃ q : Nat, q = i * L := ⟨_, rfl⟩
          have e4 : (i : Int) * (L : Int) = (q : Int) := by rw [hq]; exact (Int.natCast_mul i L).symm
          have hqb : q ≤ 1087 := by
            have h9 := Nat.mul_le_mul_right L (show i ≤ r by omega)
            have h10 := HLR.out
            rw [Nat.mul_comm] at h10
            omega
          have HO := hrel.out.1
          have HB := hrel.out.2
          have hlen : (wcl L n r k ++ wpl L n k i).length ≤ 200000 := by
            rw [List.length_append, wcl_len, wpl_len]
            exact len_room HLL.out hn h0 hr (by omega) (by omega)
          obtain ⟨m, hm⟩ : ∃ m : Nat, m = q + k := ⟨_, rfl⟩
          have e5 : (q : Int) + (k : Int) = (m : Int) := by omega
          have hmm : m = i * L + k := by rw [hm, hq]
          have HMM : Hid (m = i * L + k) := hmm
          clear hq hrel hm hmm
          by_cases h3 : m < n
          · have HX : Hid (wcl L n r k ++ wpl L n k (i + 1) = (wcl L n r k ++ wpl L n k i) ++ [m]) := by
              show _ ++ (if _ then _ else _) = _
              rw [← HMM.out, if_pos h3, List.append_assoc]
            have hb3 := below_one V0 (.cells #[.int .i64 (m : Int)] 3)
            have HO3 := own_below HO hb3
            have HB3 := bstep HB hb3
            clear hb3 HO HB
            go_wp2_with (first | (at_builtin; refine wpList_append_own _ rfl _ _ 24 rfl w.heap.size 3 i0 (.int .i64 0) 1 8 Try.underlying24 hi hz0 hz1 hz2 rfl (by decide) _ _ _ rfl HO3 ⟨V0.heap.size, 0, none⟩ 1 1 [.int .i64 (m : Int)] rfl rfl (one_new _ _ _) (by simp [Value.oneCell']) (by unfold maxLen; omega) (by omega) HB3.size ?_))
            intro v' w4 hown' hgrow _
            have HB4 : Hid (Below w.heap.size w w4) := grown_below HB3 (Nat.le_refl _) HO3 hgrow
            have HO4 : Hid (w4.ownsRow w.heap.size 3 1 v' (wcl L n r k ++ wpl L n k (i + 1)).length (ils (plf (wcl L n r k ++ wpl L n k (i + 1))) (wcl L n r k ++ wpl L n k (i + 1)).length)) := by rw [← List.length_append] at hown'; rw [HX.out]; exact own_plf hown'
            clear hown' hgrow HB3 HO3
            go_wp2
            go_roundw
            case rel => exact ⟨i + 1, by go_num, by omega, HO4.out, HB4.out⟩
            case measure => simp [intOf]; omega
          · have HX : Hid (wcl L n r k ++ wpl L n k (i + 1) = wcl L n r k ++ wpl L n k i) := by
              show _ ++ (if _ then _ else _) = _
              rw [← HMM.out, if_neg h3]
            have HS2 : Hid (V0.ownsRow w.heap.size 3 1 u5 (wcl L n r k ++ wpl L n k i).length (ils (plf (wcl L n r k ++ wpl L n k i)) (wcl L n r k ++ wpl L n k i).length) ∧ Below w.heap.size w V0) := ⟨HO, HB⟩
            clear HO HB
            go_wp2
            go_roundw
            case rel => exact ⟨i + 1, by go_num, by omega, by rw [HX.out]; exact HS2.out.1, HS2.out.2⟩
            case measure => simp [intOf]; omega
        · obtain rfl : r = i := by omega
          have HS2 : Hid (V0.ownsRow w.heap.size 3 1 u5 (wcl L n r (k + 1)).length (ils (plf (wcl L n r (k + 1))) (wcl L n r (k + 1)).length) ∧ Below w.heap.size w V0) := hrel.out
          clear hrel
          go_wp2
          go_roundw
          case rel => exact ⟨k + 1, by go_num, by omega, HS2.out⟩
          case measure => simp [intOf]; omega
    · obtain rfl : L = k := by omega
      have HF : Hid (wr.ownsRow w.heap.size 3 1 u5 n (ils (plf (wov n r)) n) ∧ Below w.heap.size w wr) := by
        have h9 := hrel.out
        have h10 : wcl L n r L = wov n r := by unfold wov; rw [← HLL.out]
        rw [h10, wov_len (by omega)] at h9
        exact h9
      clear hrel
      go_wp2
      go_ret
      exact ⟨_, rfl, HF.out⟩
end Go.Proofs.Ytgahjkijmihmdaa
