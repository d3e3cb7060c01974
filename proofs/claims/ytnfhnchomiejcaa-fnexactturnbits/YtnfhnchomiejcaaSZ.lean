/- How many numbers rows have. -/
import Derived.Test.YtnfhnchomiejcaaRT
namespace Go.Proofs.Ytnfhnchomiejcaa
open Go.RowKit

theorem sz6_any (m : Nat) (ao : Option Addr) (cap : Nat) (hm : m ≤ 9223372036854775807) (l : Int) (hl : 0 ≤ l ∧ l ≤ 1048576) (w : World) : Calls Try.prog 37 #[.slice ao m cap, .int .i64 l] w fun e w' => (∃ x : Int, e = .returned (.int .i64 x) ∧ x ≤ 1048576 ∧ (0 ≤ x → m ≤ 1048576 ∧ x = l - (m : Int))) ∧ w' = w := by
  by_cases h : l - (m : Int) < 0
  · go_enter Try.func37, Try.ntmps37
    go_wp2
    go_ret
    exact ⟨⟨_, rfl, by omega, by omega⟩, rfl⟩
  · go_enter Try.func37, Try.ntmps37
    go_wp2
    go_ret
    exact ⟨⟨_, rfl, by omega, by omega⟩, rfl⟩

set_option maxHeartbeats 1000000 in
theorem szT_any {w : World} {v : Value} {n : Nat} {ms : Nat → Nat} {X : Nat → Nat → Int} (hv : Ipp w v n ms X) (hn : n ≤ 9223372036854775807) (hms : ∀ k, k < n → ms k ≤ 9223372036854775807) :
    Calls Try.prog 15 #[v, .int .i64 1048576] w fun e w' => (∃ x : Int, e = .returned (.int .i64 x) ∧ (0 ≤ x → (n ≤ 1048576 ∧ tot ms n ≤ 1048576) ∧ ∀ k, k < n → ms k ≤ 1048576)) ∧ w' = w := by
  obtain ⟨ao, cap, rfl, hcap, hc⟩ := hv
  have HC : Hid (0 < n → ∃ b off, ∃ R : Nat → Value, ao = some ⟨b, off, none⟩ ∧ b < w.heap.size ∧ ∀ k, k < n → w.cell? ⟨b, off + k, none⟩ = some (R k) ∧ Il w (R k) (ms k) (X k)) := hc
  have HMS : Hid (∀ k, k < n → ms k ≤ 9223372036854775807) := hms
  clear hc hms
  by_cases h : n ≤ 1048576
  · go_enter Try.func15, Try.ntmps15
    go_wp2
    go_loopw [1, 5] (fun l i wr => ∃ (k : Nat) (x : Int), i = .int .i64 k ∧ l = .int .i64 x ∧ k ≤ n ∧ 0 ≤ x ∧ x ≤ 1048576 ∧ wr = w ∧ Hid ((∀ j, j < k → ms j ≤ 1048576) ∧ (tot ms k : Int) + x ≤ 1048576)) (fun _ i _ => n - (intOf i).toNat)
    case atStart => exact ⟨0, _, rfl, rfl, by omega, by omega, by omega, rfl, fun j hj => by omega, by show ((0 : Nat) : Int) + _ ≤ _; omega⟩
    case round =>
      obtain ⟨k, x, rfl, rfl, hk, hx0, hx1, rfl, hal⟩ := hrel
      by_cases h1 : k < n
      · obtain ⟨b, off, R, rfl, hlt, hcell⟩ := HC.out (by omega)
        obtain ⟨c, hfp⟩ := hcell k h1
        obtain ⟨qa, qc, hq, _, _⟩ := hfp
        rw [hq] at c
        have i1 := sz6_any (ms k) qa qc (HMS.out k h1) x ⟨hx0, hx1⟩
        clear hcell hq
        go_upto_region 8 with (go_at_call 37; refine (i1 _).mono ?_; rintro e w' ⟨⟨y, rfl, hy1, hy2⟩, hw⟩; obtain rfl := hw.symm)
        by_cases hy : y < 0
        · go_wp2
          go_ret
          exact ⟨⟨_, rfl, fun h => by omega⟩, rfl⟩
        · have HY : Hid (ms k ≤ 1048576 ∧ y = x - (ms k : Int)) := hy2 (by omega)
          clear hy2
          go_wp2
          go_roundw
          case rel =>
            refine ⟨k + 1, y, by go_num, rfl, by omega, by omega, by omega, by trivial, fun j hj => ?_, ?_⟩
            · by_cases hjk : j = k
              · subst hjk; exact HY.out.1
              · exact hal.out.1 j (by omega)
            · have h1 := HY.out.2
              have h2 := hal.out.2
              show ((tot ms k + ms k : Nat) : Int) + y ≤ 1048576
              omega
          case measure => simp [intOf]; omega
      · obtain rfl : n = k := by omega
        go_wp2
        go_ret
        exact ⟨⟨_, rfl, fun _ => ⟨⟨h, by have := hal.out.2; omega⟩, hal.out.1⟩⟩, rfl⟩
  · go_enter Try.func15, Try.ntmps15
    go_wp2
    go_ret
    exact ⟨⟨_, rfl, fun h => by omega⟩, rfl⟩

theorem own_only2 {w w' w3 : World} {B3 s s2 n m g : Nat} {e e2 : TypeId} {v x : Value} {xs L : List Value} (h : w.ownsRow w3.heap.size e s v n xs) (ho : Only g w w') (hor : x.ownBlock = some g ∨ w' = w) (hx : w3.ownsRow B3 e2 s2 x m L) : w'.ownsRow w3.heap.size e s v n xs := by
  rcases hor with hg | rfl
  · exact own_only h ho (World.ownsRow.lt hx g hg).2
  · exact h
end Go.Proofs.Ytnfhnchomiejcaa
