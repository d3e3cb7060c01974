/- Best: the model, and what is refused. -/
import Derived.Test.YthcphcjaomhmmaaMD
namespace Go.Proofs.Ythcphcjaomhmmaa
open Go.RowKit Go.Shelf
attribute [local go_sem] Oper.semAt_some

set_option maxRecDepth 100000 in
set_option maxHeartbeats 4000000 in
theorem iBest_bad {w : World} {v u : Value} {n m : Nat} {xs ps : Nat → Int} (hv : Il w v n xs) (hu : Il w u m ps) (hn : n ≤ 1048576) (hm : m ≤ 1048576) (h : ¬ GM n xs m ps) :
    Calls Try.prog 12 #[v, u] w fun e w' => e = .returned (.tuple #[.int .i64 (-1), .int .i64 0]) ∧ Below w.heap.size w w' := by
  have i1 := places_any hv hu hn hm
  rw [decide_eq_false h] at i1
  obtain ⟨ao, cap, rfl, hcap, hc⟩ := hv
  obtain ⟨bo, cap2, rfl, hcap2, hc2⟩ := hu
  clear hc hc2 h
  refine (callsIn_wide (n := 3)).1 ?_
  refine callsIn_of_wp_marks Try.func12 rfl trivial ?_ rfl
  simp only [Try.ntmps12, List.size_toArray, List.length_cons, List.length_nil, Nat.reduceAdd, Nat.reduceSub, Array.replicate_succ, Array.replicate_zero, List.push_toArray, List.append_toArray, List.nil_append, List.cons_append]
  gi_wp2_with (first
    | (refine ⟨trivial, ?_⟩; gi_at_call 15; refine (callsIn_wide.2 i1).mono ?_; rintro e w' ⟨rfl, hw⟩; obtain rfl := hw.symm)
    | (refine ⟨trivial, ?_⟩))
  exact ⟨_, results_tmp2 rfl _ _ _, rfl, Below.refl _ _⟩

theorem sBest_bad {w : World} {v u : Value} {n m : Nat} {xs ps : Nat → Int} (hv : Il w v n xs) (hu : Il w u m ps) (hn : n ≤ 1048576) (hm : m ≤ 1048576) (h : ¬ GM n xs m ps) :
    Calls Try.prog 11 #[v, u] w fun e w' => e = .returned (.tuple #[.int .i64 (-1), .int .i64 0]) ∧ Below w.heap.size w w' := by
  have i1 := sMatch_bad hv hu hn hm h (fun _ => 0)
  obtain ⟨ao, cap, rfl, hcap, hc⟩ := hv
  obtain ⟨bo, cap2, rfl, hcap2, hc2⟩ := hu
  clear hc hc2 h
  go_enter Try.func11, Try.ntmps11
  go_wp2_with (first
    | (go_at_call 5; (with_reducible refine i1.mono ?_); rintro e w1 ⟨r, rfl, ho, hb⟩; have HB : Hid (Below w.heap.size w w1) := hb; clear hb ho))
  go_ret2
  exact ⟨rfl, HB.out⟩

set_option maxHeartbeats 4000000 in
theorem sBest_good {w : World} {v u : Value} {n m J : Nat} {xs ps : Nat → Int} (hv : Il w v n xs) (hu : Il w u m ps) (h : GM n xs m ps) (hJ : J = n - m + 1) :
    Calls Try.prog 11 #[v, u] w fun e w' => e = .returned (.tuple #[.int .i64 (bsw (fun i => dsm ps xs i m) J : Int), .int .i64 (dsm ps xs (bsw (fun i => dsm ps xs i m) J) m)]) ∧ Below w.heap.size w w' := by
  have i1 := sMatch_good hv hu h
  rw [← hJ] at i1
  have hJ2 : 1 ≤ J ∧ J ≤ 512 := by have := h.1.1.1; have := h.2.2; omega
  have hf : ∃ f : Nat → Int, f = fun i => dsm ps xs i m := ⟨_, rfl⟩
  obtain ⟨f, hf⟩ := hf
  rw [show dsm ps xs (bsw (fun i => dsm ps xs i m) J) m = f (bsw f J) by rw [hf], ← hf]
  rw [← hf] at i1
  obtain ⟨ao, cap, rfl, hcap, hc⟩ := hv
  obtain ⟨bo, cap2, rfl, hcap2, hc2⟩ := hu
  clear hc hc2 h hJ hf
  go_enter Try.func11, Try.ntmps11
  go_upto_region 6 with (first
    | (go_at_call 5; (with_reducible refine i1.mono ?_); rintro e w1 ⟨r, rfl, ho, hb⟩; have HB : Hid (Below w.heap.size w w1) := hb; obtain ⟨g, off, c, rfl, hcc, hlt, hcell⟩ : ∃ g off c, r = .slice (some ⟨g, off, none⟩) J c ∧ J ≤ c ∧ g < w1.heap.size ∧ ∀ k, k < J → w1.cell? ⟨g, off + k, none⟩ = some (.int .i64 (f k)) := (by obtain ⟨ao, cap, rfl, hcap, hc⟩ := il_of_own ho; obtain ⟨b, off, rfl, hlt, hcell⟩ := hc (by omega); exact ⟨b, off, cap, rfl, hcap, hlt, hcell⟩); have HC : Hid (g < w1.heap.size ∧ ∀ k, k < J → w1.cell? ⟨g, off + k, none⟩ = some (.int .i64 (f k))) := ⟨hlt, hcell⟩; clear hb ho hlt hcell))
  clear i1
  go_loopw [8, 9] (fun a i wr => ∃ p k : Nat, i = .int .i64 (k : Int) ∧ a = .int .i64 (p : Int) ∧ k ≤ J ∧ p < J ∧ Hid (p = bsw f k ∧ Below w1.heap.size w1 wr)) (fun _ i _ => J - (intOf i).toNat)
  case atStart => exact ⟨0, 0, rfl, rfl, by omega, by omega, rfl, Below.refl _ _⟩
  case round =>
    obtain ⟨p, k, rfl, rfl, hk, hp, hrel⟩ := hrel
    have c1 := (hrel.out.2.cell (p := ⟨g, off + p, none⟩) HC.out.1).trans (HC.out.2 p hp)
    by_cases h1 : k < J
    · have c2 := (hrel.out.2.cell (p := ⟨g, off + k, none⟩) HC.out.1).trans (HC.out.2 k h1)
      have HN : Hid (bsw f (k + 1) = if f p < f k then k else p) := by show bsw f (k + 1) = _; rw [hrel.out.1]; rfl
      have BB : Hid (Below w1.heap.size w1 wr) := hrel.out.2
      clear hrel
      by_cases h2 : f p < f k
      · have HE : Hid (k = bsw f (k + 1)) := by show k = _; rw [HN.out, if_pos h2]
        clear HN
        obtain ⟨x, hx⟩ : ∃ x, x = f p := ⟨_, rfl⟩
        obtain ⟨y, hy⟩ : ∃ y, y = f k := ⟨_, rfl⟩
        rw [← hx] at c1 h2
        rw [← hy] at c2 h2
        clear hx hy
        go_wp2_with (go_quiet (fail))
        go_roundw
        case rel => exact ⟨k, k + 1, by go_num, rfl, by omega, by omega, HE.out, below_drewN BB.out _⟩
        case measure => simp [intOf]; omega
      · have HE : Hid (p = bsw f (k + 1)) := by show p = _; rw [HN.out, if_neg h2]
        clear HN
        obtain ⟨x, hx⟩ : ∃ x, x = f p := ⟨_, rfl⟩
        obtain ⟨y, hy⟩ : ∃ y, y = f k := ⟨_, rfl⟩
        rw [← hx] at c1 h2
        rw [← hy] at c2 h2
        clear hx hy
        go_wp2_with (go_quiet (fail))
        go_roundw
        case rel => exact ⟨p, k + 1, by go_num, rfl, by omega, by omega, HE.out, below_drewN BB.out _⟩
        case measure => simp [intOf]; omega
    · obtain rfl : J = k := by omega
      have PE : Hid (p = bsw f J) := hrel.out.1
      have BB : Hid (Below w.heap.size w wr) := bstep HB.out hrel.out.2
      obtain ⟨x, hx⟩ : ∃ x, x = f p := ⟨_, rfl⟩
      rw [← hx] at c1
      have XE : Hid (x = f p) := hx
      clear hrel hx
      go_wp2_with (go_quiet (fail))
      go_ret2
      exact ⟨by rw [← PE.out, ← XE.out]; rfl, below_drewN BB.out _⟩

end Go.Proofs.Ythcphcjaomhmmaa
