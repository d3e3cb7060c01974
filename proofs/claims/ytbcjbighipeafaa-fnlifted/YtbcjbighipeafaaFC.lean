/- Unlift: plain numbers; where the program refuses. -/
import Derived.Test.YtbcjbighipeafaaFB
namespace Go.Proofs.Ytbcjbighipeafaa
open Go.RowKit

theorem nea_congr {n : Nat} {f g : Nat → Int} (hn : 0 < n) (h : ∀ k, k < n → f k = g k) (i : Int) : nea n f i = nea n g i := h _ (npl_lt hn)

theorem md_congr {kind : Int} {m : Nat} {f g : Nat → Int} (h : ∀ k, k < m → f k = g k) (i : Nat) : md kind m f i = md kind m g i := by
  unfold md
  by_cases h1 : m = 0 ∨ kind = 1 ∧ m ≤ i
  · rw [if_pos h1, if_pos h1]
  · rw [if_neg h1, if_neg h1]
    by_cases h2 : kind = 1
    · rw [if_pos h2, if_pos h2, h i (by omega)]
    · rw [if_neg h2, if_neg h2, nea_congr (by omega) h, nea_congr (by omega) h]

theorem gs_congr {kind : Int} {n : Nat} {f g : Nat → Int} (h : ∀ k, k < n → f k = g k) {i : Nat} (hi : i < n) : gs kind n f i = gs kind n g i := by
  unfold gs
  rw [h i hi, nea_congr (by omega) h, nea_congr (by omega) h, nea_congr (by omega) h]


theorem bck_congr {kind : Int} {a b : Nat} {lo lo' hs hs' : Nat → Int} (h1 : ∀ k, k < a → lo k = lo' k) (h2 : ∀ k, k < b → hs k = hs' k) (hba : b ≤ a) (hab : a ≤ b + 1) {k : Nat} (hk : k < a + b) : bck kind a b lo hs k = bck kind a b lo' hs' k := by
  have hb : ∀ i, i < a → bev kind b lo hs i = bev kind b lo' hs' i := fun i hi => by
    unfold bev
    rw [h1 i hi, md_congr h2]
  unfold bck
  by_cases h : k % 2 = 0
  · rw [if_pos h, if_pos h, hb _ (by omega)]
  · rw [if_neg h, if_neg h, h2 _ (by omega), gs_congr hb (by omega)]

/-- What the model has when t levels are lifted back. -/
def lw (kind : Int) (n J : Nat) (xs : Nat → Int) : Nat → Nat → Int
  | 0 => xs
  | t + 1 => bck kind (lnt n (J - t)) (lnt n (J - 1 - t) - lnt n (J - t)) (lw kind n J xs t) (fun i => xs (lnt n (J - t) + i))

theorem uF_lw {kind : Int} {n J : Nat} {xs : Nat → Int} {fs : List (Ln n)} (hfl : fs.length = J) (hf : ∀ k (h : k < fs.length), (fs[k]'h).1 = (J - 1 - k, lnt n (J - 1 - k))) : ∀ t, t ≤ J → ∀ i, uF kind xs (fs.take t) i = if i < lnt n (J - t) then lw kind n J xs t i else xs i
  | 0, _, i => by
    simp [uF, lw]
  | t + 1, ht, i => by
    have ih := uF_lw (kind := kind) (xs := xs) hfl hf t (by omega)
    have hp : (fs[t]'(by omega)).1.2 = lnt n (J - 1 - t) := by rw [hf t (by omega)]
    rw [take_more fs (by omega), uF_snoc, hp]
    have e1 : lnt n (J - t) = (lnt n (J - 1 - t) + 1) / 2 := by
      rw [show J - t = (J - 1 - t) + 1 by omega]
      rfl
    have e2 : J - (t + 1) = J - 1 - t := by omega
    rw [e2]
    unfold st1
    by_cases h : i < lnt n (J - 1 - t)
    · rw [if_pos h, if_pos h]
      show ubk kind (lnt n (J - 1 - t)) (uF kind xs (fs.take t)) i = bck kind (lnt n (J - t)) (lnt n (J - 1 - t) - lnt n (J - t)) (lw kind n J xs t) (fun i => xs (lnt n (J - t) + i)) i
      unfold ubk
      rw [← e1, show lnt n (J - 1 - t) / 2 = lnt n (J - 1 - t) - lnt n (J - t) by omega]
      refine bck_congr (fun k hk => ?_) (fun k hk => ?_) (by omega) (by omega) (by omega)
      · rw [ih, if_pos hk]
      · show uF kind xs (fs.take t) (lnt n (J - t) + k) = _
        rw [ih, if_neg (by omega)]
    · rw [if_neg h, if_neg h, ih, if_neg (by omega)]

theorem lens_list {n L J : Nat} (h : Stp n L J) : ∃ fs : List (Ln n), fs.length = J ∧ ∀ k (hk : k < fs.length), (fs[k]'hk).1 = (J - 1 - k, lnt n (J - 1 - k)) :=
  ⟨List.ofFn (fun k : Fin J => ⟨(J - 1 - k.1, lnt n (J - 1 - k.1)), h.all _ (by have := k.2; omega), lnt_le n _⟩), by simp, fun k hk => by simp⟩

theorem iUnlift_ok {w : World} {v : Value} {n L J B : Nat} {xs : Nat → Int} {kind : Int} (g : Gu kind n xs L) (hJ : Stp n L J) (hv : w.ownsRow B 3 1 v n (ils xs n)) :
    Calls Try.prog 13 #[.int .i64 kind, v, .int .i64 L] w fun e w' => Pst w w' e n (lw kind n J xs J) true := by
  obtain ⟨fs, hfl, hf⟩ := lens_list hJ
  refine (iUnlift_good g hJ hv fs hfl hf).mono ?_
  rintro e w' ⟨u, rfl, ho, hb⟩
  refine ⟨u, rfl, ?_, hb⟩
  have e : ils (uF kind xs fs) n = ils (lw kind n J xs J) n := ils_congr fun i hi => by
    have := uF_lw (kind := kind) (xs := xs) hfl hf J (Nat.le_refl _) i
    rw [List.take_of_length_le (by omega), Nat.sub_self, show lnt n 0 = n from rfl, if_pos hi] at this
    exact this
  rw [← e]
  exact ho

set_option maxHeartbeats 4000000 in
theorem iUnlift_bad {w : World} {v : Value} {n : Nat} {xs : Nat → Int} {kind L : Int} (hv : Il w v n xs) (hn : n ≤ 1048576) (hg : ¬ (Knd kind ∧ n ≤ 512 ∧ Wth 8000000000 n xs ∧ 0 ≤ L ∧ L ≤ 8)) (ys : Nat → Int) :
    Calls Try.prog 13 #[.int .i64 kind, v, .int .i64 L] w fun e w' => Pst w w' e 0 ys false := by
  have BK : Hid (Below w.heap.size w (w.alloc (.cells #[.int .i64 kind] 3))) := below_one _ _
  have OE : Hid (((w.alloc (.cells #[.int .i64 kind] 3)).alloc (.cells #[] 3)).ownsRow w.heap.size 3 1 (.slice (some ⟨w.heap.size + 1, 0, none⟩) 0 0) 0 (ils ys 0)) := by
    have h := own_base (own_empty (w.alloc (.cells #[.int .i64 kind] 3)) 3 1) (below_one w (.cells #[.int .i64 kind] 3)).size
    rw [World.size_alloc] at h
    exact h
  have BE : Hid (Below w.heap.size w ((w.alloc (.cells #[.int .i64 kind] 3)).alloc (.cells #[] 3))) := bstep (below_one _ _) (below_one _ _)
  have i1 := iKind_any kind
  have i2 := fun (W : World) (hW : Below w.heap.size w W) => iWide_any (hv.below hW) hn
  have i3 := iLev_any L
  obtain ⟨ao, cap, rfl, hcap, _⟩ := hv
  by_cases h1 : Knd kind
  · rw [decide_eq_true h1] at i1
    by_cases h2 : n ≤ 512
    · by_cases h3 : Wth 8000000000 n xs
      · rw [decide_eq_true h3] at i2
        rw [decide_eq_false (fun h4 => hg ⟨h1, h2, h3, h4⟩)] at i3
        clear hg h3
        refine (callsIn_wide (n := 3)).1 ?_
        refine callsIn_of_wp_marks Try.func13 rfl trivial ?_ rfl
        simp only [Try.ntmps13, List.size_toArray, List.length_cons, List.length_nil, Nat.reduceAdd, Nat.reduceSub, Array.replicate_succ, Array.replicate_zero, List.push_toArray, List.append_toArray, List.nil_append, List.cons_append]
        gi_wp2_with (first
          | (refine ⟨trivial, ?_⟩; gi_at_call 22; refine (callsIn_wide.2 (i1 _)).mono ?_; rintro e w' ⟨rfl, hw⟩; obtain rfl := hw.symm)
          | (refine ⟨trivial, ?_⟩; gi_at_call 26; refine (callsIn_wide.2 (i2 _ BK.out)).mono ?_; rintro e w' ⟨rfl, hw⟩; obtain rfl := hw.symm)
          | (refine ⟨trivial, ?_⟩; gi_at_call 28; refine (callsIn_wide.2 (i3 _)).mono ?_; rintro e w' ⟨rfl, hw⟩; obtain rfl := hw.symm)
          | (refine ⟨trivial, ?_⟩))
        exact ⟨_, results_tmp2 rfl _ _ _, ⟨_, rfl, OE.out, BE.out⟩⟩
      · rw [decide_eq_false h3] at i2
        clear hg h3
        refine (callsIn_wide (n := 3)).1 ?_
        refine callsIn_of_wp_marks Try.func13 rfl trivial ?_ rfl
        simp only [Try.ntmps13, List.size_toArray, List.length_cons, List.length_nil, Nat.reduceAdd, Nat.reduceSub, Array.replicate_succ, Array.replicate_zero, List.push_toArray, List.append_toArray, List.nil_append, List.cons_append]
        gi_wp2_with (first
          | (refine ⟨trivial, ?_⟩; gi_at_call 22; refine (callsIn_wide.2 (i1 _)).mono ?_; rintro e w' ⟨rfl, hw⟩; obtain rfl := hw.symm)
          | (refine ⟨trivial, ?_⟩; gi_at_call 26; refine (callsIn_wide.2 (i2 _ BK.out)).mono ?_; rintro e w' ⟨rfl, hw⟩; obtain rfl := hw.symm)
          | (refine ⟨trivial, ?_⟩; gi_at_call 28; refine (callsIn_wide.2 (i3 _)).mono ?_; rintro e w' ⟨rfl, hw⟩; obtain rfl := hw.symm)
          | (refine ⟨trivial, ?_⟩))
        exact ⟨_, results_tmp2 rfl _ _ _, ⟨_, rfl, OE.out, BE.out⟩⟩
    · clear hg
      refine (callsIn_wide (n := 3)).1 ?_
      refine callsIn_of_wp_marks Try.func13 rfl trivial ?_ rfl
      simp only [Try.ntmps13, List.size_toArray, List.length_cons, List.length_nil, Nat.reduceAdd, Nat.reduceSub, Array.replicate_succ, Array.replicate_zero, List.push_toArray, List.append_toArray, List.nil_append, List.cons_append]
      gi_wp2_with (first
        | (refine ⟨trivial, ?_⟩; gi_at_call 22; refine (callsIn_wide.2 (i1 _)).mono ?_; rintro e w' ⟨rfl, hw⟩; obtain rfl := hw.symm)
        | (refine ⟨trivial, ?_⟩; gi_at_call 26; refine (callsIn_wide.2 (i2 _ BK.out)).mono ?_; rintro e w' ⟨rfl, hw⟩; obtain rfl := hw.symm)
        | (refine ⟨trivial, ?_⟩; gi_at_call 28; refine (callsIn_wide.2 (i3 _)).mono ?_; rintro e w' ⟨rfl, hw⟩; obtain rfl := hw.symm)
        | (refine ⟨trivial, ?_⟩))
      exact ⟨_, results_tmp2 rfl _ _ _, ⟨_, rfl, OE.out, BE.out⟩⟩
  · rw [decide_eq_false h1] at i1
    clear hg
    refine (callsIn_wide (n := 3)).1 ?_
    refine callsIn_of_wp_marks Try.func13 rfl trivial ?_ rfl
    simp only [Try.ntmps13, List.size_toArray, List.length_cons, List.length_nil, Nat.reduceAdd, Nat.reduceSub, Array.replicate_succ, Array.replicate_zero, List.push_toArray, List.append_toArray, List.nil_append, List.cons_append]
    gi_wp2_with (first
      | (refine ⟨trivial, ?_⟩; gi_at_call 22; refine (callsIn_wide.2 (i1 _)).mono ?_; rintro e w' ⟨rfl, hw⟩; obtain rfl := hw.symm)
      | (refine ⟨trivial, ?_⟩; gi_at_call 26; refine (callsIn_wide.2 (i2 _ BK.out)).mono ?_; rintro e w' ⟨rfl, hw⟩; obtain rfl := hw.symm)
      | (refine ⟨trivial, ?_⟩; gi_at_call 28; refine (callsIn_wide.2 (i3 _)).mono ?_; rintro e w' ⟨rfl, hw⟩; obtain rfl := hw.symm)
      | (refine ⟨trivial, ?_⟩))
    exact ⟨_, results_tmp2 rfl _ _ _, ⟨_, rfl, OE.out, BE.out⟩⟩
end Go.Proofs.Ytbcjbighipeafaa
