/- The transform of rows by what turningOf told. -/
import Derived.Test.YtabdondefoldaaaDoorGD
namespace Go.Proofs.YtabdondefoldaaaDoor
open Go.RowKit

set_option maxHeartbeats 2000000 in
theorem trR_one {w : World} {g cap : Nat} {RV : Value} : Calls Tryd.prog 17 #[.slice (some ⟨g, 0, none⟩) 1 cap, .func (.func 19) #[RV] #[]] w fun e w' => e = .returned (.tuple #[]) ∧ w' = w := by
  have hL := len_pow (n := 1) (m := 0) (by omega) rfl
  go_enter Tryd.func17, Tryd.ntmps17
  go_wp2_with (go_at_call 31; refine (hL _).mono ?_; rintro e w' ⟨rfl, hw⟩; obtain rfl := hw.symm)
  go_loopw [13] (fun rv wr => rv = .int .i64 0 ∧ wr = w) (fun _ _ => 0)
  case atStart => exact ⟨rfl, rfl⟩
  case round =>
    obtain ⟨rfl, rfl⟩ := hrel
    go_wp2
    go_end0
    exact ⟨rfl, rfl⟩

theorem trR_all {w : World} {B B' g n cap m c : Nat} {gs cs : Nat → Nat} {M : Nat → Nat → Int} {p sh : Int} {Tt : Nat → Int} {tu : Value} (hm : m ≤ 8) (hn : n = 2 ^ m) (hrow : Rws w B g n cap c gs cs M) (hc : c ≤ 1048576) (h0 : ∀ i, i < n → ∀ j, j < c → 0 ≤ M i j ∧ M i j < p) (hs : 0 ≤ sh ∧ sh < p) (hp : 1 ≤ p ∧ p ≤ 998244353)
    (ht : w.ownsRow B' 3 1 tu (n / 2) (ils Tt (n / 2))) (hb : ∀ t, 0 ≤ Tt t ∧ Tt t < p) (hg : g < B') (hgs : ∀ i, i < n → gs i < B') :
    Calls Tryd.prog 17 #[.slice (some ⟨g, 0, none⟩) n cap, .func (.func 19) #[.agg #[.int .i64 p, .int .i64 sh, tu]] #[]] w fun e w' => e = .returned (.tuple #[]) ∧ Rws w' B g n cap c gs cs (ctf (dmf p sh Tt) n M m) ∧ Kdd (fun k => k = g ∨ ∃ i, i < n ∧ k = gs i) w w' := by
  cases m with
  | zero =>
    subst hn
    refine (trR_one (g := g) (cap := cap)).mono ?_
    rintro e w' ⟨rfl, rfl⟩
    exact ⟨rfl, hrow, Kdd.refl _ _⟩
  | succ m =>
    have h2 : 0 < n / 2 := by
      rw [hn, Nat.pow_succ]
      have := Nat.one_le_two_pow (n := m)
      omega
    rcases ht.2 with ⟨_, e0⟩ | ⟨gt, capt, cur, rfl, hbt, _⟩
    · omega
    · refine trR_any hm hn (fun W => len_pow hm hn W) hrow hc h0 hs hp (own_ltg ht) (by omega) (fun i hi => by have := hgs i hi; omega) (fun t htt => ⟨htt, hb t, ?_⟩)
      have hcc := World.ownsRow.cellAt ht t (by omega)
      rw [ils_get htt] at hcc
      rw [Nat.zero_add]
      exact hcc
end Go.Proofs.YtabdondefoldaaaDoor
