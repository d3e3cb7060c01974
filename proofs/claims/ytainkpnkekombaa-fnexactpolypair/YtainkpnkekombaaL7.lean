/- PolyPair: the law. -/
import Derived.Test.YtainkpnkekombaaL5
import Derived.Test.YtainkpnkekombaaL6
namespace Go.Proofs.Ytainkpnkekombaa
open Go.RowKit

set_option maxHeartbeats 2000000 in
theorem sPoly_no {w : World} {v : Value} {n : Nat} {xs ys : Nat → Nat} (x1 x2 : Nat) (hv : Fp w v n xs ys) (hn : ¬ (0 < n ∧ n ≤ 128)) (hm : n ≤ 9223372036854775807) :
    Calls Try.prog 6 #[v, Pv x1 x2] w fun e w' => e = .returned (Pv 0 0) ∧ Below w.heap.size w w' := by
  obtain ⟨ao, cap, rfl, hcap, hc⟩ := hv
  clear hc
  have hST := rStore
  by_cases h : n = 0
  · subst h
    go_enter Try.func6, Try.ntmps6
    go_wp2
    refine bodyPost_ret (v := Pv 0 0) (by simp [results, Try.results6, go_sem]) rfl ⟨rfl, ?_⟩
    repeat first | exact Below.refl _ _ | refine Below.setCell ?_ (by simp; try omega) _ | refine Below.alloc ?_ (by simp; try omega) _
  · have hz : ((n : Int) == 0) = false := by simp; omega
    go_enter Try.func6, Try.ntmps6
    go_wp2
    refine bodyPost_ret (v := Pv 0 0) (by simp [results, Try.results6, go_sem]) rfl ⟨rfl, ?_⟩
    repeat first | exact Below.refl _ _ | refine Below.setCell ?_ (by simp; try omega) _ | refine Below.alloc ?_ (by simp; try omega) _

set_option maxHeartbeats 2000000 in
theorem iPoly_no {w : World} {v : Value} {n : Nat} {xs ys : Nat → Nat} (x1 x2 : Nat) (hv : Fp w v n xs ys) (hn : ¬ (0 < n ∧ n ≤ 128)) (hm : n ≤ 9223372036854775807) :
    Calls Try.prog 9 #[v, Pv x1 x2] w fun e w' => e = .returned (Pv 0 0) ∧ Below w.heap.size w w' := by
  obtain ⟨ao, cap, rfl, hcap, hc⟩ := hv
  clear hc
  have hST := rStore
  by_cases h : n = 0
  · subst h
    go_enter Try.func9, Try.ntmps9
    go_wp2
    refine bodyPost_ret (v := Pv 0 0) (by simp [results, Try.results9, go_sem]) rfl ⟨rfl, ?_⟩
    repeat first | exact Below.refl _ _ | refine Below.setCell ?_ (by simp; try omega) _ | refine Below.alloc ?_ (by simp; try omega) _
  · have hz : ((n : Int) == 0) = false := by simp; omega
    go_enter Try.func9, Try.ntmps9
    go_wp2
    refine bodyPost_ret (v := Pv 0 0) (by simp [results, Try.results9, go_sem]) rfl ⟨rfl, ?_⟩
    repeat first | exact Below.refl _ _ | refine Below.setCell ?_ (by simp; try omega) _ | refine Below.alloc ?_ (by simp; try omega) _

theorem walk_poly {w : World} {v : Value} {n : Nat} {xs ys : Nat → Nat} (x1 x2 : Nat) (hv : Fp w v n xs ys) (hn : n ≤ 9223372036854775807) :
    Calls Try.prog 3 #[v, Pv x1 x2] w fun e w' => e = .returned (.bool true) ∧ Below w.heap.size w w' := by
  by_cases h : 0 < n ∧ n ≤ 128
  · refine walk_poly_of x1 x2 hv hn (fun a b => cn a = (cpoly xs ys n (cn x1) (cn x2) (n - 1)).1 ∧ cn b = (cpoly xs ys n (cn x1) (cn x2) (n - 1)).2) (fun x y x' y' h1 h2 => ⟨h1.1.trans h2.1.symm, h1.2.trans h2.2.symm⟩) (fun W u hu => ?_) (fun W u hu => ?_)
    · refine (sPoly_any x1 x2 hu h.1 h.2).mono ?_
      rintro e w' ⟨a, b, rfl, h1, h2, hb⟩
      exact ⟨a, b, rfl, ⟨h1, h2⟩, hb⟩
    · refine (iPoly_any x1 x2 hu h.1 h.2).mono ?_
      rintro e w' ⟨a, b, rfl, h1, h2, hb⟩
      exact ⟨a, b, rfl, ⟨h1, h2⟩, hb⟩
  · refine walk_poly_of x1 x2 hv hn (fun a b => a = 0 ∧ b = 0) (fun x y x' y' h1 h2 => ?_) (fun W u hu => ?_) (fun W u hu => ?_)
    · obtain ⟨rfl, rfl⟩ := h1
      obtain ⟨rfl, rfl⟩ := h2
      exact ⟨rfl, rfl⟩
    · exact (sPoly_no x1 x2 hu h hn).mono fun e w' ⟨he, hb⟩ => ⟨0, 0, he, ⟨rfl, rfl⟩, hb⟩
    · exact (iPoly_no x1 x2 hu h hn).mono fun e w' ⟨he, hb⟩ => ⟨0, 0, he, ⟨rfl, rfl⟩, hb⟩
end Go.Proofs.Ytainkpnkekombaa
