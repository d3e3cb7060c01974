/- LiftOnce: both sides. -/
import Derived.Test.YtbcjbighipeafaaSP
import Derived.Test.YtbcjbighipeafaaLH
import Derived.Test.YtbcjbighipeafaaLI
namespace Go.Proofs.Ytbcjbighipeafaa
open Go.RowKit

theorem iOnce_any {w : World} {v : Value} {n : Nat} {xs : Nat → Int} {kind M : Int} (hk : Knd kind) (hv : Il w v n xs) (hn : n ≤ 1048576) (hM4 : 4 ≤ M) (hM : M ≤ 1000000000000000) (hx : Wth M n xs) :
    Calls Try.prog 24 #[.int .i64 kind, v] w fun e w' => P2 w w' e ((n + 1) / 2) (n / 2) (loL kind n xs) (hiL kind n xs) := by
  have hcases : kind = 1 ∨ kind = 2 ∨ kind = 3 := by omega
  rcases hcases with rfl | rfl | rfl
  · exact iOnce_1 hv hn hM4 hM hx
  · exact iOnce_2 hv hn hM4 hM hx
  · exact iOnce_3 hv hn hM4 hM hx

theorem sKind_any (x : Int) (w : World) : Calls Try.prog 31 #[.int .i64 x] w fun e w' => e = .returned (.bool (decide (Knd x))) ∧ w' = w := by
  have i1 := in_any x 1 3
  generalize decide (1 ≤ x ∧ x ≤ 3) = d at i1
  go_enter Try.func31, Try.ntmps31
  go_wp2_with (first | (go_at_call 32; (with_reducible refine (i1 _).mono ?_); rintro e w' ⟨rfl, hw⟩; obtain rfl := hw.symm))
  go_ret
  exact ⟨rfl, rfl⟩

theorem iKind_any (x : Int) (w : World) : Calls Try.prog 22 #[.int .i64 x] w fun e w' => e = .returned (.bool (decide (Knd x))) ∧ w' = w := by
  go_enter Try.func22, Try.ntmps22
  by_cases h : 1 ≤ x
  · by_cases h1 : x ≤ 3
    · go_wp2
      go_ret
      exact ⟨by simp [h, h1], rfl⟩
    · go_wp2
      go_ret
      exact ⟨by simp [h1], rfl⟩
  · go_wp2
    go_ret
    exact ⟨by simp; omega, rfl⟩

/-- Two lists and a bool told. -/
def P3 (w w' : World) (e : Ending) (n m : Nat) (ys zs : Nat → Int) (ok : Bool) : Prop := ∃ u0 u1, e = .returned (.tuple #[u0, u1, .bool ok]) ∧ w'.ownsRow w.heap.size 3 1 u0 n (ils ys n) ∧ w'.ownsRow w.heap.size 3 1 u1 m (ils zs m) ∧ Apart u0 u1 ∧ Below w.heap.size w w'

theorem sig_with {n : Nat} {xs : Nat → Int} (h : Sig n xs) : Wth 1000000000 n xs := h.2

set_option maxHeartbeats 2000000 in
theorem iLift1_good {w : World} {v : Value} {n : Nat} {xs : Nat → Int} {kind : Int} (hv : Il w v n xs) (hk : Knd kind) (hs : Sig n xs) :
    Calls Try.prog 8 #[.int .i64 kind, v] w fun e w' => P3 w w' e ((n + 1) / 2) (n / 2) (loL kind n xs) (hiL kind n xs) true := by
  have hn : n ≤ 1048576 := Nat.le_trans hs.1 (by omega)
  have i1 := iKind_any kind
  rw [decide_eq_true hk] at i1
  have i2 := iSig_any hv hn
  rw [decide_eq_true hs] at i2
  have i3 := iOnce_any hk hv hn (M := 1000000000) (by omega) (by omega) (sig_with hs)
  obtain ⟨ao, cap, rfl, hcap, hc⟩ := hv
  clear hc hs
  go_enter Try.func8, Try.ntmps8
  go_wp2_with (first
    | (go_at_call 22; (with_reducible refine (i1 _).mono ?_); rintro e w' ⟨rfl, hw⟩; obtain rfl := hw.symm)
    | (go_at_call 23; (with_reducible refine i2.mono ?_); rintro e w' ⟨rfl, hw⟩; obtain rfl := hw.symm)
    | (go_at_call 24; (with_reducible refine i3.mono ?_); rintro e w1 ⟨u0, u1, rfl, h1, h2, h3, h4⟩; have H1 : Hid _ := h1; have H2 : Hid _ := h2; clear h1 h2))
  go_ret3
  exact ⟨_, _, rfl, H1.out, H2.out, h3, h4⟩

set_option maxHeartbeats 2000000 in
theorem iLift1_bad {w : World} {v : Value} {n : Nat} {xs : Nat → Int} {kind : Int} (hv : Il w v n xs) (hn : n ≤ 1048576) (h : ¬ (Knd kind ∧ Sig n xs)) (ys zs : Nat → Int) :
    Calls Try.prog 8 #[.int .i64 kind, v] w fun e w' => P3 w w' e 0 0 ys zs false := by
  have i1 := iKind_any kind
  have i2 := iSig_any hv hn
  have T0 : Hid _ := Tw.start w ys zs
  obtain ⟨ao, cap, rfl, hcap, hc⟩ := hv
  clear hc
  by_cases hk : Knd kind
  · rw [decide_eq_true hk] at i1
    rw [decide_eq_false (fun hs => h ⟨hk, hs⟩)] at i2
    clear h
    go_enter Try.func8, Try.ntmps8
    go_wp2_with (first
      | (go_at_call 22; (with_reducible refine (i1 _).mono ?_); rintro e w' ⟨rfl, hw⟩; obtain rfl := hw.symm)
      | (go_at_call 23; (with_reducible refine i2.mono ?_); rintro e w' ⟨rfl, hw⟩; obtain rfl := hw.symm))
    go_ret3
    exact ⟨_, _, rfl, T0.out.o1, T0.out.o2, T0.out.ap, T0.out.bel⟩
  · rw [decide_eq_false hk] at i1
    clear h hk i2
    go_enter Try.func8, Try.ntmps8
    go_wp2_with (first
      | (go_at_call 22; (with_reducible refine (i1 _).mono ?_); rintro e w' ⟨rfl, hw⟩; obtain rfl := hw.symm))
    go_ret3
    exact ⟨_, _, rfl, T0.out.o1, T0.out.o2, T0.out.ap, T0.out.bel⟩

end Go.Proofs.Ytbcjbighipeafaa
