/- Paths held against each other; rows that are closed at their end. -/
import Derived.Test.YtgkcofjhajjjgaaLA
import Derived.Test.YtgkcofjhajjjgaaAZ
namespace Go.Proofs.Ytgkcofjhajjjgaa
open Go.RowKit

abbrev pav (c l s : Int) (p : Value) : Value := .agg #[.int .i64 c, .int .i64 l, .int .i64 s, p]

set_option maxHeartbeats 2000000 in
theorem beats_any {w : World} {p q : Value} {i : Nat} {u v : Nat → Nat} (hp : Il w p i (wy u)) (hq : Il w q i (wy v)) (hi : i ≤ 1000) (c1 l1 s1 c2 l2 s2 : Int) {d : Bool} (hd : d = true ↔ s2 < s1 ∨ (s1 = s2 ∧ Tr.Fs u v i)) : Calls Try.prog 61 #[pav c1 l1 s1 p, pav c2 l2 s2 q] w fun e w' => e = .returned (.bool d) ∧ Below w.heap.size w w' := by
  have HP : Hid (Il w p i (wy u)) := hp
  have HQ : Hid (Il w q i (wy v)) := hq
  have HD : Hid (d = true ↔ s2 < s1 ∨ (s1 = s2 ∧ Tr.Fs u v i)) := hd
  obtain ⟨ao, cap, rfl, hcap, hc⟩ := hp
  obtain ⟨bo, cap2, rfl, hcap2, hc2⟩ := hq
  clear hc hc2 hd
  have BL : Hid (Below w.heap.size w ((w.alloc (.cells #[.int .i64 c1, .int .i64 l1, .int .i64 s1, .slice ao i cap] 59)).alloc (.cells #[.int .i64 c2, .int .i64 l2, .int .i64 s2, .slice bo i cap2] 59))) := bstep (below_one _ _) (below_one _ _)
  by_cases h1 : s1 = s2
  · subst h1
    have i1 := compare_any (HP.out.below BL.out) (HQ.out.below BL.out) hi
    go_enter Try.func61, Try.ntmps61
    go_wp2_with (first | (go_at_call 66; (with_reducible refine i1.mono ?_); rintro e w' ⟨r, rfl, hr, hw⟩; obtain rfl := hw.symm; have HR : Hid (r < 0 ↔ Tr.Fs u v i) := hr; clear hr))
    go_ret
    refine ⟨congrArg (fun z => Ending.returned (.bool z)) ?_, BL.out⟩
    have h9 := HD.out
    cases d with
    | true =>
      have h8 := h9.1 rfl
      exact decide_eq_true (HR.out.2 (h8.elim (fun h => by omega) (fun h => h.2)))
    | false => exact decide_eq_false (fun h => by cases h9.2 (.inr ⟨by trivial, HR.out.1 h⟩))
  · have h2 : (s1 != s2) = true := by simp [h1]
    have H1 : Hid (¬ s1 = s2) := h1
    clear h1
    go_enter Try.func61, Try.ntmps61
    go_wp2
    go_ret
    refine ⟨congrArg (fun z => Ending.returned (.bool z)) ?_, BL.out⟩
    have h9 := HD.out
    cases d with
    | true => exact decide_eq_true ((h9.1 rfl).elim id (fun h => absurd h.1 H1.out))
    | false => exact decide_eq_false (fun h => by cases h9.2 (.inl h))

/-- A row that grew into a new block. -/
theorem own_grow (w : World) (xs : List Value) (n _ old : Nat) (hx : xs.length = n) (hn : n ≤ 100000) : (w.drew.alloc (.cells (xs.toArray ++ Builtin.zeroCells (Value.int .i64 0).cells (grownCap w n old 3 - n)) 3)).ownsRow w.heap.size 3 1 (.slice (some ⟨w.heap.size, 0, none⟩) n (grownCap w n old 3)) n xs := by
  have hge := grownCap_ge w n old 3
  have hcm : grownCap w n old 3 ≤ maxLen := grownCap_le_maxLen w n old 3 (by unfold maxLen; omega)
  refine ⟨by omega, .inr ⟨w.heap.size, _, _, rfl, Nat.le_refl _, heap_alloc_new w.drew _, hge, hcm, ?_, ?_⟩⟩
  · simp only [Array.size_append, List.size_toArray, size_zeroCells, hx]
    simp [Value.cells]
    omega
  · simp only [Array.toList_append]
    rw [Nat.mul_one, ← hx]
    exact List.take_left

/-- An append behind a row that is closed at its end: always in new memory. -/
theorem app_closed {w : World} {ao : Option Addr} {i c g : Nat} {f : Nat → Int} {x : Int} (h : Il w (.slice ao i c) i f) (hi : i ≤ 1000) (hg : w.cell? ⟨g, 0, none⟩ = some (.int .i64 x)) (ty : TypeId) :
    ∃ v' w', (Builtin.append_ #[24, 24] ty #[.slice ao i i, .slice (some ⟨g, 0, none⟩) 1 1]).run Try.prog w = .ok v' w' ∧ w'.ownsRow w.heap.size 3 1 v' (i + 1) (ils f i ++ [.int .i64 x]) ∧ Below w.heap.size w w' := by
  obtain ⟨i0, hi0, hz0, hz1, hz2⟩ := info_parts Try.info3
  have hnews : ∀ j u, [Value.int .i64 x][j]? = some u → w.cell? ((⟨g, 0, none⟩ : Addr).add j) = some u := by
    intro j u hu
    match j, hu with
    | 0, hu => simp at hu; subst hu; simpa [Addr.add] using hg
    | j + 1, hu => simp at hu
  have hlen : (ils f i ++ [Value.int .i64 x]).length = i + 1 := by rw [List.length_append, ils_length]; rfl
  obtain ⟨ao', c', he, _, hc⟩ := h
  cases he
  cases ao with
  | none =>
    obtain rfl : i = 0 := by
      rcases Nat.eq_zero_or_pos i with h0 | h0
      · exact h0
      · obtain ⟨b, off, h1, _⟩ := hc h0
        cases h1
    have hr := run_append_nil (P := Try.prog) w 24 ty 3 i0 (.int .i64 0) Try.underlying24 hi0 hz0 ⟨g, 0, none⟩ 1 1 [.int .i64 x] (by rw [hz1]; rfl) hnews (by omega) (by omega) (by rw [hz2]; omega)
    have ho := own_grow w [.int .i64 x] 1 1 0 rfl (by omega)
    refine ⟨_, _, hr, ?_, (Below.refl w.heap.size w).drew.alloc (Nat.le_refl _) _⟩
    simpa [ils] using ho
  | some ad =>
    have hold : ∀ j u, (ils f i)[j]? = some u → w.cell? (ad.add j) = some u := by
      intro j u hu
      by_cases hj : j < i
      · rw [ils_get hj] at hu
        obtain ⟨b, off, h1, _, h3⟩ := hc (by omega)
        injection h1 with h1
        subst h1
        have h6 := (h3 j hj).trans hu
        unfold Addr.add
        split
        · rename_i h7
          obtain rfl : j = 0 := by simpa using h7
          exact h6
        · exact h6
      · rw [List.getElem?_eq_none (by rw [ils_length]; omega)] at hu
        cases hu
    have hr := run_append_grow (P := Try.prog) w 24 ty 3 i0 (.int .i64 0) Try.underlying24 hi0 hz0 ad i i (ils f i) (by rw [hz1, ils_length, Nat.mul_one]) hold ⟨g, 0, none⟩ 1 1 [.int .i64 x] (by rw [hz1]; rfl) hnews (by omega) (by omega) (growslice_fits (by omega) (by rw [hz2]; omega))
    have ho := own_grow w (ils f i ++ [.int .i64 x]) (i + 1) 1 i hlen (by omega)
    refine ⟨_, _, hr, ?_, (Below.refl w.heap.size w).drew.alloc (Nat.le_refl _) _⟩
    simpa using ho
end Go.Proofs.Ytgkcofjhajjjgaa
