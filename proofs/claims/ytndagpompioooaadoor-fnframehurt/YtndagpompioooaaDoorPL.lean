/- PackFrame: both sides alike. -/
import Derived.Test.YtndagpompioooaaDoorPJ
import Derived.Test.YtndagpompioooaaDoorPK
namespace Go.Proofs.YtndagpompioooaaDoor
open Go.RowKit

set_option maxRecDepth 20000 in
set_option maxHeartbeats 2000000 in
theorem sFrame_none {w : World} {v : Value} {n : Nat} {xs : Nat → Int} (hv : Il w v n xs) (hn : 1 ≤ n ∧ n ≤ 128) (h : Sig n xs) {q : Nat} (hq : q = min n 4) (hs : shp n xs q = (-1, 0, 0)) (ys : Nat → Int) :
    Calls Tryd.prog 26 #[v] w fun e w' => Psb w w' e 0 ys false := by
  have i1 := in_any (n : Int) 1 128
  rw [decide_eq_true (by omega)] at i1
  have i2 := sSig_any hv (by omega)
  rw [decide_eq_true h] at i2
  have i3 := order17_any hv h hn.2 hq
  rw [hs] at i3
  have HOR : Hid (Calls Tryd.prog 66 #[v] w fun e w' => e = .returned (.tuple #[.int .i64 (-1), .int .i64 0, .bool false]) ∧ Below w.heap.size w w') := by
    refine i3.mono ?_
    rintro e w' ⟨rfl, hb⟩
    exact ⟨rfl, hb⟩
  obtain ⟨ao, cap, rfl, hcap, hc⟩ := hv
  clear hc h i3 hs hq
  go_enter Tryd.func26, Tryd.ntmps26
  go_wp2_with (first | (go_at_call 59; (with_reducible refine (i1 _).mono ?_); rintro e w' ⟨rfl, hw⟩; obtain rfl := hw.symm) | (go_at_call 58; (with_reducible refine (i2).mono ?_); rintro e w' ⟨rfl, hw⟩; obtain rfl := hw.symm) | (go_at_call 66; refine HOR.out.mono ?_; rintro e w1 ⟨rfl, hb⟩; have BW : Hid (Below w.heap.size w w1) := hb; clear hb))
  go_ret2
  exact ⟨_, rfl, own_base (own_empty w1 5 1) BW.out.size, bstep BW.out (below_one _ _)⟩

set_option maxRecDepth 20000 in
set_option maxHeartbeats 2000000 in
theorem sFrame_bad {w : World} {v : Value} {n : Nat} {xs : Nat → Int} (hv : Il w v n xs) (hn : n ≤ 1048576) (h : ¬ ((1 ≤ (n : Int) ∧ (n : Int) ≤ 128) ∧ Sig n xs)) (ys : Nat → Int) :
    Calls Tryd.prog 26 #[v] w fun e w' => Psb w w' e 0 ys false := by
  have i1 := in_any (n : Int) 1 128
  have i2 := sSig_any hv hn
  obtain ⟨ao, cap, rfl, hcap, hc⟩ := hv
  clear hc
  by_cases c1 : 1 ≤ (n : Int) ∧ (n : Int) ≤ 128
  · rw [decide_eq_true c1] at i1
    rw [decide_eq_false (fun c2 => h ⟨c1, c2⟩)] at i2
    clear h
    go_enter Tryd.func26, Tryd.ntmps26
    go_wp2_with (first | (go_at_call 59; (with_reducible refine (i1 _).mono ?_); rintro e w' ⟨rfl, hw⟩; obtain rfl := hw.symm) | (go_at_call 58; (with_reducible refine (i2).mono ?_); rintro e w' ⟨rfl, hw⟩; obtain rfl := hw.symm))
    go_ret2
    exact ⟨_, rfl, own_empty w 5 1, below_one _ _⟩
  · rw [decide_eq_false c1] at i1
    clear h
    clear i2
    go_enter Tryd.func26, Tryd.ntmps26
    go_wp2_with (first | (go_at_call 59; (with_reducible refine (i1 _).mono ?_); rintro e w' ⟨rfl, hw⟩; obtain rfl := hw.symm))
    go_ret2
    exact ⟨_, rfl, own_empty w 5 1, below_one _ _⟩

/-- What PackFrame tells: both sides alike. -/
theorem frame_any {n : Nat} {xs : Nat → Int} (hn : n ≤ 1048576) : ∃ (N : Nat) (ys : Nat → Int) (ok : Bool), N ≤ 12600 ∧ (∀ W u, Il W u n xs → Calls Tryd.prog 26 #[u] W fun e w' => Psb W w' e N ys ok) ∧ ∀ W u, Il W u n xs → Calls Tryd.prog 20 #[u] W fun e w' => Psb W w' e N ys ok := by
  by_cases h1 : 1 ≤ n ∧ n ≤ 128
  · by_cases h2 : Sig n xs
    · rcases shp_told (n := n) (xs := xs) (min n 4) with hs | ⟨a, k, C, hs, _, _, hC, _⟩
      · refine ⟨0, fun _ => 0, false, by omega, fun W u hu => sFrame_none hu h1 h2 rfl hs _, fun W u hu => iFrame_none hu h1 ?_ _⟩
        refine (shape_good hu h2 h1.2 rfl).mono ?_
        rintro e w' (⟨_, rfl, hb⟩ | ⟨a, k, C, u, e1, _⟩)
        · exact ⟨rfl, hb⟩
        · rw [hs] at e1
          injection e1 with e1 _
          omega
      · exact ⟨3 + (C + 7) / 8 + 2, _, true, by omega, fun W u hu => sFrame_good hu h1 h2 rfl hs rfl, fun W u hu => iFrame_good hu h1 h2 rfl hs rfl⟩
    · exact ⟨0, fun _ => 0, false, by omega, fun W u hu => sFrame_bad hu hn (fun h => h2 h.2) _, fun W u hu => iFrame_none hu h1 (shape_bad hu h2 h1.2 rfl) _⟩
  · exact ⟨0, fun _ => 0, false, by omega, fun W u hu => sFrame_bad hu hn (fun h => h1 (by omega)) _, fun W u hu => iFrame_size hu h1 _⟩
end Go.Proofs.YtndagpompioooaaDoor
