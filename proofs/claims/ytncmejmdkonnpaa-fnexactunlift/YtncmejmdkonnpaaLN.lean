/- Lift: the program. -/
import Derived.Test.YtncmejmdkonnpaaLL
namespace Go.Proofs.Ytncmejmdkonnpaa
open Go.RowKit

theorem iLev_any (x : Int) (w : World) : Calls Try.prog 16 #[.int .i64 x] w fun e w' => e = .returned (.bool (decide (0 ≤ x ∧ x ≤ 8))) ∧ w' = w := by
  go_enter Try.func16, Try.ntmps16
  by_cases h : 0 ≤ x
  · by_cases h1 : x ≤ 8
    · go_wp2
      go_ret
      exact ⟨by simp [h, h1], rfl⟩
    · go_wp2
      go_ret
      exact ⟨by simp [h1], rfl⟩
  · go_wp2
    go_ret
    exact ⟨by simp; omega, rfl⟩

theorem stL_bound {kind : Int} {n : Nat} {xs : Nat → Int} {k : Nat} (hs : Sig n xs) (hk : k ≤ 8) : Wth 10000000000000 n (stL kind n xs k) := fun i hi => by
  have h := stL_with (kind := kind) (M := 1000000000) (by omega) (sig_with hs) k i hi
  have h2 : (3 : Int) ^ k * 1000000000 ≤ 10000000000000 := by
    have : k = 0 ∨ k = 1 ∨ k = 2 ∨ k = 3 ∨ k = 4 ∨ k = 5 ∨ k = 6 ∨ k = 7 ∨ k = 8 := by omega
    rcases this with rfl | rfl | rfl | rfl | rfl | rfl | rfl | rfl | rfl <;> decide
  omega

theorem size3 : (Try.prog.info? 3).map (·.size) = some 1 := by kernel_rfl

theorem copied_own {w : World} {B g n c m : Nat} {f h : Nat → Int} (ho : w.ownsRow B 3 1 (.slice (some ⟨g, 0, none⟩) n c) n (ils f n)) (hm : m ≤ n) :
    ∃ cur : Array Value, w.heap[g]? = some (.cells cur 3 (0, 0)) ∧ m ≤ cur.size ∧ (w.setRow g (cur.toList.take 0 ++ (ils h m ++ cur.toList.drop (0 + (ils h m).length))).toArray).ownsRow B 3 1 (.slice (some ⟨g, 0, none⟩) n c) n (ils (fun i => if i < m then h i else f i) n) ∧ Only g w (w.setRow g (cur.toList.take 0 ++ (ils h m ++ cur.toList.drop (0 + (ils h m).length))).toArray) := by
  rcases ho.2 with ⟨hx, _⟩ | ⟨g', c', cur, hx, hb, hg, h1, h2, h3, h4⟩
  · cases hx
  · injection hx with hx1 hx2 hx3
    injection hx1 with hx1
    injection hx1 with hx1
    subst hx1 hx3
    refine ⟨cur, hg, by omega, ⟨by rw [ils_length, Nat.mul_one], .inr ⟨g, c, _, rfl, hb, setRow_heap w g _ _ 3 _ hg, h1, h2, ?_, ?_⟩⟩, ⟨rfl, rfl, rfl, by simp [World.setRow], fun k hk => setRow_other w g k _ hk⟩⟩
    · simp only [List.size_toArray, List.length_append, List.length_take, List.length_drop, ils_length, Array.length_toList]
      omega
    · rw [List.take_zero, List.nil_append, Nat.zero_add, ils_length]
      apply List.ext_getElem?
      intro i
      by_cases hi : i < n
      · rw [List.getElem?_take_of_lt (by omega), ils_get hi]
        by_cases him : i < m
        · rw [List.getElem?_append_left (by rw [ils_length]; exact him), ils_get him, if_pos him]
        · rw [List.getElem?_append_right (by rw [ils_length]; omega), ils_length, List.getElem?_drop, if_neg him, show m + (i - m) = i by omega]
          have h5 : (List.take (n * 1) cur.toList)[i]? = (ils f n)[i]? := by rw [h4]
          rw [List.getElem?_take_of_lt (by omega), ils_get hi] at h5
          exact h5
      · rw [List.getElem?_eq_none (by rw [List.length_take]; omega), List.getElem?_eq_none (by rw [ils_length]; omega)]

theorem copied_run {w : World} {B g n c m g2 c2 : Nat} {f h : Nat → Int} (ho : w.ownsRow B 3 1 (.slice (some ⟨g, 0, none⟩) n c) n (ils f n)) (hm : m ≤ n) (hs : ∀ j u, (ils h m)[j]? = some u → w.cell? ((⟨g2, 0, none⟩ : Addr).add j) = some u) :
    ∃ w', (Builtin.copy_ #[22, 22] 3 #[.slice (some ⟨g, 0, none⟩) n c, .slice (some ⟨g2, 0, none⟩) m c2]).run Try.prog w = .ok (.int .i64 m) w' ∧ w'.ownsRow B 3 1 (.slice (some ⟨g, 0, none⟩) n c) n (ils (fun i => if i < m then h i else f i) n) ∧ Only g w w' := by
  obtain ⟨cur, h1, h2, h3, h4⟩ := copied_own (h := h) ho hm
  have hr := run_copy_row (P := Try.prog) w 22 22 3 3 g 0 n c ⟨g2, 0, none⟩ m c2 cur 3 (ils h m) Try.underlying22 size3 h1 (by rw [ils_length]; exact (Nat.min_eq_left hm).symm) hs (by rw [ils_length, Nat.zero_add]; exact h2) (ils_one _ _)
  refine ⟨_, hr.trans ?_, h3, h4⟩
  rw [ils_length]
  rfl

end Go.Proofs.Ytncmejmdkonnpaa
