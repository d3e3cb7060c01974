/- Walsh: the program, and the law. -/
import Derived.Test.YtfmllgohmlocoaaW2
import Derived.BigRegion

namespace Go.Proofs.Ytfmllgohmlocoaa
open Go.RowKit

/-- How great a number is behind some rounds. -/
def wInv (r : Nat) (x : Int) : Prop := -1000000000 * 2 ^ r ≤ x ∧ x ≤ 1000000000 * 2 ^ r

theorem pow_le {r m : Nat} (h : r < m) (hm : m ≤ 8) : (2 : Int) ^ r ≤ 128 := by
  have : r = 0 ∨ r = 1 ∨ r = 2 ∨ r = 3 ∨ r = 4 ∨ r = 5 ∨ r = 6 ∨ r = 7 := by omega
  rcases this with rfl | rfl | rfl | rfl | rfl | rfl | rfl | rfl <;> decide

theorem meet_any {a b : Int} {t : Nat} (ha : -128000000000 ≤ a ∧ a ≤ 128000000000) (hb : -128000000000 ≤ b ∧ b ≤ 128000000000) (w : World) :
    Calls Try.prog 26 #[.int .i64 a, .int .i64 b, .int .i64 t] w fun e w' => e = .returned (.tuple #[.int .i64 (wmf a b t).1, .int .i64 (wmf a b t).2]) ∧ w' = w := by
  unfold wmf
  go_enter Try.func26, Try.ntmps26
  go_wp2
  go_ret2
  exact ⟨rfl, rfl⟩

set_option maxHeartbeats 2000000 in
theorem iWalsh_yes {w : World} {v : Value} {n m : Nat} {xs : Nat → Int} (hv : Il w v n xs) (hg : GW n xs) (hm : m ≤ 8) (hn : n = 2 ^ m) :
    Calls Try.prog 7 #[v] w fun e w' => Pst w w' e n (wlv m xs) true := by
  have hb := hg.2.bounds
  have i1 := iSig_any hv (by omega)
  have i2 := iWhl_any n
  rw [decide_eq_true hg.1] at i1
  rw [decide_eq_true hg.2] at i2
  have i3 := clone_any hv (by omega) (by omega)
  have i4 : Hid (∀ W u, W.ownsRow w.heap.size 3 1 u n (ils xs n) → Below w.heap.size w W → Calls Try.prog 25 #[u, .func (.func 26) #[] #[]] W fun e w' => e = .returned (.tuple #[]) ∧ w'.ownsRow w.heap.size 3 1 u n (ils (wlv m xs) n) ∧ Below w.heap.size w w') := by
    intro W u hrow hbl
    have hrow' := hrow
    rcases hrow.2 with ⟨rfl, h0⟩ | ⟨g, cap, cur, rfl, hbg, hgg, _⟩
    · exfalso; omega
    · refine (trf_any (mf := wmf) wInv hm hn (fun W => len_whl hm hn W) hrow' (fun t ht => by unfold wInv; have := hg.1.2 t ht; unfold Smp at this; simp; omega) ?_ ?_).mono ?_
      · intro W' _ r a b t hr _ ha hb'
        have := pow_le hr hm
        unfold wInv at ha hb'
        exact meet_any (by omega) (by omega) W'
      · intro r a b t hr _ ha hb'
        unfold wInv at ha hb' ⊢
        unfold wmf
        rw [Int.pow_succ]
        show (_ ≤ a + b ∧ a + b ≤ _) ∧ (_ ≤ a - b ∧ a - b ≤ _)
        omega
      · rintro e w' ⟨rfl, h1, hon⟩
        refine ⟨rfl, ?_, Below.only hbl hon hbg⟩
        rw [← ils_congr (f := trf wmf n xs m) (fun k hk => by rw [hn]; exact walsh_whole (by rw [← hn]; exact hk))]
        exact h1
  obtain ⟨ao1, cap1, rfl, hcap1, hc1⟩ := hv
  clear hc1 hg hn
  go_enter Try.func7, Try.ntmps7
  go_wp2_with (first | (go_at_call 22; (with_reducible refine (i1).mono ?_); rintro e w' ⟨rfl, hw⟩; obtain rfl := hw.symm) | (go_at_call 23; (with_reducible refine (i2 _).mono ?_); rintro e w' ⟨rfl, hw⟩; obtain rfl := hw.symm) | (go_at_call 24; (with_reducible refine (i3).mono ?_); rintro e w1 ⟨u, rfl, hr1, hb1⟩; have R1 : Hid (w1.ownsRow w.heap.size 3 1 u n (ils xs n)) := hr1; have B1 : Hid (Below w.heap.size w w1) := hb1; clear hr1 hb1) | (go_at_call 25; refine (i4.out _ _ R1.out B1.out).mono ?_; rintro e w2 ⟨rfl, hr2, hb2⟩; have R2 : Hid _ := hr2; have B2 : Hid _ := hb2; clear hr2 hb2))
  go_ret2
  exact ⟨_, rfl, R2.out, B2.out⟩

end Go.Proofs.Ytfmllgohmlocoaa
