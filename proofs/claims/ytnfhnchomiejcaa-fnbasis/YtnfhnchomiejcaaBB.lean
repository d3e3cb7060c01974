/- A column cleared. -/
import Derived.Test.YtnfhnchomiejcaaBA
namespace Go.Proofs.Ytnfhnchomiejcaa
open Go.RowKit

/-- Cleared up to row i, place k. -/
def clp (R : Nat → Nat → Int) (a c i k : Nat) : Nat → Nat → Int := fun j t => if j < i ∨ (j = i ∧ t < k) then clr R a c j t else R j t

theorem clp_start (R : Nat → Nat → Int) (a c : Nat) : clp R a c 0 0 = R := by
  funext j t
  unfold clp
  rw [if_neg (by omega)]

theorem clr_top (R : Nat → Nat → Int) (a c t : Nat) : clr R a c a t = R a t := by
  unfold clr
  rw [if_neg (fun q => q.1 rfl)]

theorem clp_top (R : Nat → Nat → Int) (a c i k t : Nat) : clp R a c i k a t = R a t := by
  unfold clp
  split
  · exact clr_top R a c t
  · rfl

theorem clp_new {R : Nat → Nat → Int} {a c i k t : Nat} (h : k ≤ t) : clp R a c i k i t = R i t := by
  unfold clp
  rw [if_neg (by omega)]

theorem clp_skip {R : Nat → Nat → Int} {a c i : Nat} (h : i = a ∨ R i c ≠ 1) (j t : Nat) : clp R a c i 0 j t = clp R a c (i + 1) 0 j t := by
  unfold clp
  by_cases e : j < i
  · rw [if_pos (.inl e), if_pos (.inl (by omega))]
  · rw [if_neg (by omega)]
    by_cases e2 : j = i
    · subst e2
      rw [if_pos (.inl (by omega))]
      unfold clr
      rw [if_neg (fun q => h.elim q.1 (fun z => z q.2))]
    · rw [if_neg (by omega)]

theorem clp_step {R : Nat → Nat → Int} {a c i k : Nat} {y : Int} (hy : y = clr R a c i k) (j t : Nat) : (if j = i ∧ t = k then y else clp R a c i k j t) = clp R a c i (k + 1) j t := by
  unfold clp
  by_cases e : j = i ∧ t = k
  · rw [if_pos e, if_pos (.inr (by omega)), hy, e.1, e.2]
  · rw [if_neg e]
    by_cases e2 : j < i ∨ (j = i ∧ t < k)
    · rw [if_pos e2, if_pos (by omega)]
    · rw [if_neg e2, if_neg (by omega)]

theorem clp_next {R : Nat → Nat → Int} {a c i n : Nat} (j t : Nat) (ht : t < n) : clp R a c i n j t = clp R a c (i + 1) 0 j t := by
  unfold clp
  by_cases e2 : j < i ∨ (j = i ∧ t < n)
  · rw [if_pos e2, if_pos (by omega)]
  · rw [if_neg e2, if_neg (by omega)]

theorem clp_end {R : Nat → Nat → Int} {a c M : Nat} (j t : Nat) (hj : j < M) : clp R a c M 0 j t = clr R a c j t := by
  unfold clp
  rw [if_pos (.inl hj)]

set_option maxRecDepth 20000 in
set_option maxHeartbeats 4000000 in
theorem clear_any {w : World} {B g cap M n a c : Nat} {gs cs : Nat → Nat} {R : Nat → Nat → Int} (h : Rgr w B (.slice (some ⟨g, 0, none⟩) M cap) M n gs cs R) (hb : ∀ i k, i < M → k < n → Bit (R i k)) (ha : a < M) (hc : c < n) (hn : n ≤ 128) (hM : M ≤ 64) :
    Calls Try.prog 49 #[.slice (some ⟨g, 0, none⟩) M cap, .int .i64 (a : Int), .int .i64 (c : Int)] w fun e w' => e = .returned (.tuple #[]) ∧ Rgr w' B (.slice (some ⟨g, 0, none⟩) M cap) M n gs cs (clr R a c) ∧ Kdd (fun k => ∃ i, i < M ∧ k = gs i) w w' := by
  have HBT : Hid (∀ i k, i < M → k < n → Bit (R i k)) := hb
  have HR0 : Hid (Rgr w B (.slice (some ⟨g, 0, none⟩) M cap) M n gs cs (clp R a c 0 0)) := by show Rgr _ _ _ _ _ _ _ _; rw [clp_start]; exact h
  clear h hb
  go_enter Try.func49, Try.ntmps49
  go_wp2
  go_loopw [6, 7, 8, 9, 12, 32] (fun _ _ _ _ ix _ wr => ∃ i : Nat, ix = .int .i64 i ∧ i ≤ M ∧ Hid (Rgr wr B (.slice (some ⟨g, 0, none⟩) M cap) M n gs cs (clp R a c i 0) ∧ Kdd (fun k => ∃ i, i < M ∧ k = gs i) w wr)) (fun _ _ _ _ ix _ _ => M - (intOf ix).toNat)
  case atStart => exact ⟨0, rfl, by omega, HR0.out, Kdd.refl _ _⟩
  case round =>
    obtain ⟨i, rfl, hi, HRL⟩ := hrel
    by_cases h1 : i < M
    · have hR := HRL.out.1
      have c1 := hR.at h1
      have c2 := hR.at ha
      have c3 := (hR.rows i h1).cellAt c (by omega)
      rw [ils_get hc, clp_new (Nat.zero_le _)] at c3
      have HR : Hid (Rgr wr B (.slice (some ⟨g, 0, none⟩) M cap) M n gs cs (clp R a c i 0)) := hR
      have HK : Hid (Kdd (fun k => ∃ i, i < M ∧ k = gs i) w wr) := HRL.out.2
      clear hR HRL
      by_cases hia : i = a
      · have hbe : ((i : Int) == (a : Int)) = true := by simp; omega
        have HN : Hid (Rgr wr B (.slice (some ⟨g, 0, none⟩) M cap) M n gs cs (clp R a c (i + 1) 0)) := HR.out.cong2 (fun j t _ _ => clp_skip (.inl hia) j t)
        clear hia c3
        go_wp2
        go_roundw
        case rel => exact ⟨i + 1, by go_num, by omega, HN.out, HK.out⟩
        case measure => simp [intOf]; omega
      · have hbe : ((i : Int) == (a : Int)) = false := by simp; omega
        rcases HBT.out i c h1 hc with h0 | h0
        · have HN : Hid (Rgr wr B (.slice (some ⟨g, 0, none⟩) M cap) M n gs cs (clp R a c (i + 1) 0)) := HR.out.cong2 (fun j t _ _ => clp_skip (.inr (by omega)) j t)
          rw [h0] at c3
          clear h0 hia
          go_wp2
          go_roundw
          case rel => exact ⟨i + 1, by go_num, by omega, HN.out, HK.out⟩
          case measure => simp [intOf]; omega
        · rw [h0] at c3
          have H01 : Hid (i ≠ a ∧ R i c = 1) := ⟨hia, h0⟩
          clear h0 hia
          go_wp2
          clear c1 c2 c3
          go_loopw [8, 9, 32] (fun _ _ jx wi => ∃ k : Nat, jx = .int .i64 k ∧ k ≤ n ∧ Hid (Rgr wi B (.slice (some ⟨g, 0, none⟩) M cap) M n gs cs (clp R a c i k) ∧ Kdd (fun k => ∃ i, i < M ∧ k = gs i) w wi)) (fun _ _ jx _ => n - (intOf jx).toNat)
          case atStart => exact ⟨0, rfl, by omega, HR.out, HK.out⟩
          case round =>
            obtain ⟨k, rfl, hk, HIN⟩ := hrel
            by_cases h2 : k < n
            · have hR := HIN.out.1
              have c4 := (hR.rows i h1).cellAt k (by omega)
              rw [ils_get h2, clp_new (Nat.le_refl _)] at c4
              have c5 := (hR.rows a ha).cellAt k (by omega)
              rw [ils_get h2, clp_top] at c5
              have fz := (hR.rows i h1).frozenAt k
              have hx := xor_bit (HBT.out i k h1 h2) (HBT.out a k ha h2)
              have HST : Hid (Rgr (wr.setCell ⟨gs i, k, none⟩ (.int .i64 (xb (R i k) (R a k)))) B (.slice (some ⟨g, 0, none⟩) M cap) M n gs cs (clp R a c i (k + 1))) := (hR.put h1 k _).cong2 (fun j t _ _ => clp_step (by unfold clr; rw [if_pos H01.out]) j t)
              have HK2 : Hid (Kdd (fun k => ∃ i, i < M ∧ k = gs i) w (wr.setCell ⟨gs i, k, none⟩ (.int .i64 (xb (R i k) (R a k))))) := HIN.out.2.put ⟨i, h1, rfl⟩ k _
              generalize xb (R i k) (R a k) = z at *
              generalize R i k = x at *
              generalize R a k = y at *
              clear hR HIN
              go_wp2
              go_roundw
              case rel => exact ⟨k + 1, by go_num, by omega, HST.out, HK2.out⟩
              case measure => simp [intOf]; omega
            · obtain rfl : k = n := by omega
              have HN : Hid (Rgr wr B (.slice (some ⟨g, 0, none⟩) M cap) M k gs cs (clp R a c (i + 1) 0)) := HIN.out.1.cong2 (fun j t _ ht => clp_next j t ht)
              go_wp2
              go_roundw
              case rel => exact ⟨i + 1, by go_num, by omega, HN.out, HIN.out.2⟩
              case measure => simp [intOf]; omega
    · obtain rfl : i = M := by omega
      go_wp2
      go_end0
      exact ⟨rfl, HRL.out.1.cong2 (fun j t hj _ => clp_end j t hj), HRL.out.2⟩

theorem fp_le {f : Nat → Int} : ∀ (s a : Nat), fp f s a ≤ a + s
  | 0, a => by unfold fp; omega
  | s + 1, a => by
    unfold fp
    split
    · have := fp_le (f := f) s (a + 1)
      omega
    · omega

theorem fp_shift (f : Nat → Int) (s a : Nat) : fp f s a = a + fp (fun i => f (a + i)) s 0 := by
  refine fp_eq (by omega) (by have := fp_le (f := fun i => f (a + i)) s 0; omega) (fun j h1 h2 => ?_) ?_
  · have := fp_nul (f := fun i => f (a + i)) s 0 (j - a) (Nat.zero_le _) (by omega)
    have e : a + (j - a) = j := by omega
    simp only [e] at this
    exact this
  · have h1 := fp_le (f := fun i => f (a + i)) s 0
    by_cases h : fp (fun i => f (a + i)) s 0 < s
    · right; exact fp_one (f := fun i => f (a + i)) s 0 (by omega)
    · left; omega
end Go.Proofs.Ytnfhnchomiejcaa
