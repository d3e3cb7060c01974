/- Marks from K on, and rows that lie apart. -/
import Derived.Test.YtlccicbgepfbbaaC1
namespace Go.Proofs.Ytlccicbgepfbbaa
open Go.RowKit

/-- Marks from K on. -/
def mkF (K : Int) (i : Nat) : Int := K + (i : Int)

/-- Two rows in two blocks. -/
def Apart (u v : Value) : Prop := u.ownBlock = none ∨ u.ownBlock ≠ v.ownBlock

theorem apart_symm {u v : Value} (h : Apart u v) : Apart v u := by
  unfold Apart at *
  rcases h with h | h
  · rw [h]
    by_cases hv : v.ownBlock = none
    · exact .inl hv
    · exact .inr hv
  · exact .inr (fun e => h e.symm)

theorem own_apart {w w' : World} {B s n g : Nat} {e : TypeId} {v x : Value} {xs : List Value} (h : w.ownsRow B e s v n xs) (ho : Only g w w') (hor : x.ownBlock = some g ∨ w' = w) (ha : Apart v x) : w'.ownsRow B e s v n xs := by
  rcases hor with hg | rfl
  · refine ⟨h.1, ?_⟩
    rcases h.2 with h' | ⟨g', cap', cur, rfl, hb', hg', rest⟩
    · exact .inl h'
    · have hne : g' ≠ g := by
        rintro rfl
        rcases ha with ha | ha
        · cases ha
        · exact ha hg.symm
      exact .inr ⟨g', cap', cur, rfl, hb', (ho.block g' hne).trans hg', rest⟩
  · exact h

set_option maxHeartbeats 2000000 in
theorem mark_F {w : World} {B g n cap : Nat} {f : Nat → Int} {K : Int} (ho : w.ownsRow B 3 1 (.slice (some ⟨g, 0, none⟩) n cap) n (ils f n)) (hn : n ≤ 1048576) (hK : 0 ≤ K ∧ K ≤ 1099511627776) :
    Calls Try.prog 35 #[.slice (some ⟨g, 0, none⟩) n cap, .int .i64 K] w fun e w' => e = .returned (.int .i64 (K + (n : Int))) ∧ w'.ownsRow B 3 1 (.slice (some ⟨g, 0, none⟩) n cap) n (ils (mkF K) n) ∧ Only g w w' := by
  have HO : Hid _ := ho
  clear ho
  go_enter Try.func35, Try.ntmps35
  go_wp2
  go_loopw [1, 5] (fun kk i wr => ∃ q : Nat, i = .int .i64 q ∧ kk = .int .i64 (K + (q : Int)) ∧ q ≤ n ∧ Hid ((∃ f', wr.ownsRow B 3 1 (.slice (some ⟨g, 0, none⟩) n cap) n (ils f' n) ∧ ∀ j, j < q → f' j = mkF K j) ∧ Only g w wr)) (fun _ i _ => n - (intOf i).toNat)
  case atStart => exact ⟨0, rfl, by simp, by omega, ⟨f, HO.out, fun i hi => by omega⟩, Only.refl _ _⟩
  case round =>
    obtain ⟨q, rfl, rfl, hq, hrel⟩ := hrel
    obtain ⟨⟨f', hf, hmk⟩, hon⟩ := hrel.out
    by_cases h1 : q < n
    · have d0 := World.ownsRow.cellAt hf q (by omega)
      rw [ils_get h1] at d0
      have z0 := World.ownsRow.frozenAt hf q
      have st := (World.ownsRow.stored hf q (.int .i64 (K + (q : Int)))).1
      rw [ils_put] at st
      have OP : Hid _ := st
      have ON : Hid _ := hon.put q (.int .i64 (K + (q : Int)))
      have HM : Hid _ := hmk
      clear hf hmk hon hrel st
      go_wp2
      go_roundw
      case rel =>
        refine ⟨q + 1, by go_num, by first | go_num | (congr 1; omega), by omega, ⟨_, OP.out, fun i hi => ?_⟩, ON.out⟩
        by_cases hik : i = q
        · subst hik; simp [mkF]
        · simp only [if_neg hik]
          exact HM.out i (by omega)
      case measure => simp [intOf]; omega
    · obtain rfl : q = n := by omega
      rw [ils_congr hmk] at hf
      have HM : Hid _ := hf
      have ON : Hid _ := hon
      clear hf hmk hon hrel
      go_wp2
      go_ret
      exact ⟨rfl, HM.out, ON.out⟩

set_option maxHeartbeats 2000000 in
theorem held_F {w : World} {B g n cap : Nat} {K : Int} (ho : w.ownsRow B 3 1 (.slice (some ⟨g, 0, none⟩) n cap) n (ils (mkF K) n)) (hn : n ≤ 1048576) (hK : 0 ≤ K ∧ K ≤ 1099511627776) :
    Calls Try.prog 36 #[.slice (some ⟨g, 0, none⟩) n cap, .int .i64 K] w fun e w' => e = .returned (.int .i64 (K + (n : Int))) ∧ w' = w := by
  have HO : Hid _ := ho
  clear ho
  go_enter Try.func36, Try.ntmps36
  go_wp2
  go_loopw [1, 5] (fun kk i wr => ∃ q : Nat, i = .int .i64 q ∧ kk = .int .i64 (K + (q : Int)) ∧ q ≤ n ∧ wr = w) (fun _ i _ => n - (intOf i).toNat)
  case atStart => exact ⟨0, rfl, by simp, by omega, rfl⟩
  case round =>
    obtain ⟨q, rfl, rfl, hq, rfl⟩ := hrel
    by_cases h1 : q < n
    · have d0 := World.ownsRow.cellAt HO.out q (by omega)
      rw [ils_get h1] at d0
      unfold mkF at d0
      go_wp2
      go_roundw
      case rel => exact ⟨q + 1, by go_num, by first | go_num | (congr 1; omega), by omega, by trivial⟩
      case measure => simp [intOf]; omega
    · obtain rfl : q = n := by omega
      go_wp2
      go_ret
      exact ⟨rfl, rfl⟩

set_option maxHeartbeats 1000000 in
theorem mark_nilF (w : World) (K : Int) : Calls Try.prog 35 #[.slice none 0 0, .int .i64 K] w fun e w' => e = .returned (.int .i64 K) ∧ w' = w := by
  go_enter Try.func35, Try.ntmps35
  go_wp2
  go_loopw [1, 5] (fun kk i wr => i = .int .i64 0 ∧ kk = .int .i64 K ∧ wr = w) (fun _ _ _ => 0)
  case atStart => exact ⟨rfl, rfl, rfl⟩
  case round =>
    obtain ⟨rfl, rfl, rfl⟩ := hrel
    go_wp2
    go_ret
    exact ⟨rfl, rfl⟩

set_option maxHeartbeats 1000000 in
theorem held_nilF (w : World) (K : Int) : Calls Try.prog 36 #[.slice none 0 0, .int .i64 K] w fun e w' => e = .returned (.int .i64 K) ∧ w' = w := by
  go_enter Try.func36, Try.ntmps36
  go_wp2
  go_loopw [1, 5] (fun kk i wr => i = .int .i64 0 ∧ kk = .int .i64 K ∧ wr = w) (fun _ _ _ => 0)
  case atStart => exact ⟨rfl, rfl, rfl⟩
  case round =>
    obtain ⟨rfl, rfl, rfl⟩ := hrel
    go_wp2
    go_ret
    exact ⟨rfl, rfl⟩

/-- Marked from K on: what the row's world turns into. -/
theorem markedF {w : World} {B n : Nat} {v : Value} {f : Nat → Int} {K : Int} (h : w.ownsRow B 3 1 v n (ils f n)) (hB : B ≤ w.heap.size) (hn : n ≤ 1048576) (hK : 0 ≤ K ∧ K ≤ 1099511627776) :
    Calls Try.prog 35 #[v, .int .i64 K] w fun e w' => e = .returned (.int .i64 (K + (n : Int))) ∧ w'.ownsRow B 3 1 v n (ils (mkF K) n) ∧ ∃ g, B ≤ g ∧ (v.ownBlock = some g ∨ w' = w) ∧ Only g w w' := by
  rcases h.2 with ⟨rfl, rfl⟩ | ⟨g, cap, cur, rfl, hb, hg, _⟩
  · refine (mark_nilF w K).mono ?_
    rintro e w' ⟨rfl, rfl⟩
    exact ⟨by simp, ⟨rfl, .inl ⟨rfl, rfl⟩⟩, w'.heap.size, hB, .inr rfl, Only.refl _ _⟩
  · refine (mark_F h hn hK).mono ?_
    rintro e w' ⟨rfl, h1, hon⟩
    exact ⟨rfl, h1, g, hb, .inl rfl, hon⟩

theorem heldF {w : World} {B n : Nat} {v : Value} {K : Int} (h : w.ownsRow B 3 1 v n (ils (mkF K) n)) (hn : n ≤ 1048576) (hK : 0 ≤ K ∧ K ≤ 1099511627776) : Calls Try.prog 36 #[v, .int .i64 K] w fun e w' => e = .returned (.int .i64 (K + (n : Int))) ∧ w' = w := by
  rcases h.2 with ⟨rfl, rfl⟩ | ⟨g, cap, cur, rfl, hb, hg, _⟩
  · refine (held_nilF w K).mono ?_
    rintro e w' ⟨rfl, rfl⟩
    exact ⟨by simp, rfl⟩
  · exact held_F h hn hK
end Go.Proofs.Ytlccicbgepfbbaa
