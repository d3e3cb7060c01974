/- Rational: a line's state; the draws. -/
import Derived.Test.YtgamambcbaobnaaRS
import Derived.Test.YtgamambcbaobnaaGA
import Derived.Test.YtgamambcbaobnaaHA
namespace Go.Proofs.Ytgamambcbaobnaa
open Go.RowKit

theorem has_any {w : World} {tv sv : Value} {n m : Nat} {f st : Nat → Int} (ht : Il w tv n f) (hs : Il w sv m st) (hn : n ≤ 1048576) (hm : m ≤ 1048576) : Calls Try.prog 29 #[tv, sv] w fun e w' => e = .returned (.bool (decide (GT n m f st))) ∧ w' = w := by
  have i1 := iTaps_any ht hn
  have i2 := iSig_any hs hm
  obtain ⟨ao, tc, rfl, _, hc1⟩ := ht
  obtain ⟨so, sc, rfl, _, hc2⟩ := hs
  clear hc1 hc2
  obtain ⟨d, hd⟩ : ∃ d, d = decide (GT n m f st) := ⟨_, rfl⟩
  rw [← hd]
  have HD : Hid (d = decide (GT n m f st)) := hd
  clear hd
  by_cases h1 : Tp n f
  · rw [decide_eq_true h1] at i1
    have hn1 := h1.1
    by_cases h4 : Sig m st
    · rw [decide_eq_true h4] at i2
      by_cases h5 : m + 1 = n
      · have e5 : (m : Int) = (n : Int) - 1 := by omega
        have e6 : ((m : Int) == (n : Int) - 1) = true := beq_iff_eq.2 e5
        have HH : Hid (GT n m f st) := ⟨h1, h4, h5⟩
        have e7 : (n : Int) - 1 = (m : Int) := by omega
        clear h1 h4 e5
        go_enter Try.func29, Try.ntmps29
        go_wp2_with (first
          | (go_at_call 18; (with_reducible refine i1.mono ?_); rintro e w' ⟨rfl, hw⟩; obtain rfl := hw.symm)
          | (go_at_call 28; (with_reducible refine i2.mono ?_); rintro e w' ⟨rfl, hw⟩; obtain rfl := hw.symm))
        go_ret
        exact ⟨congrArg (fun z => Ending.returned (.bool z)) (by rw [HD.out]; exact (decide_eq_true HH.out).symm), rfl⟩
      · have e6 : ((m : Int) == (n : Int) - 1) = false := (by rw [Bool.eq_false_iff]; intro h; have := beq_iff_eq.1 h; omega)
        have HH : Hid (¬ GT n m f st) := fun h => h5 h.2.2
        clear h1 h4
        go_enter Try.func29, Try.ntmps29
        go_wp2_with (first
          | (go_at_call 18; (with_reducible refine i1.mono ?_); rintro e w' ⟨rfl, hw⟩; obtain rfl := hw.symm)
          | (go_at_call 28; (with_reducible refine i2.mono ?_); rintro e w' ⟨rfl, hw⟩; obtain rfl := hw.symm))
        go_ret
        exact ⟨congrArg (fun z => Ending.returned (.bool z)) (by rw [HD.out]; exact (decide_eq_false HH.out).symm), rfl⟩
    · rw [decide_eq_false h4] at i2
      have HH : Hid (¬ GT n m f st) := fun h => h4 h.2.1
      clear h1 h4
      go_enter Try.func29, Try.ntmps29
      go_wp2_with (first
        | (go_at_call 18; (with_reducible refine i1.mono ?_); rintro e w' ⟨rfl, hw⟩; obtain rfl := hw.symm)
        | (go_at_call 28; (with_reducible refine i2.mono ?_); rintro e w' ⟨rfl, hw⟩; obtain rfl := hw.symm))
      go_ret
      exact ⟨congrArg (fun z => Ending.returned (.bool z)) (by rw [HD.out]; exact (decide_eq_false HH.out).symm), rfl⟩
  · rw [decide_eq_false h1] at i1
    have HH : Hid (¬ GT n m f st) := fun h => h1 h.1
    clear h1 i2
    go_enter Try.func29, Try.ntmps29
    go_wp2_with (first
      | (go_at_call 18; (with_reducible refine i1.mono ?_); rintro e w' ⟨rfl, hw⟩; obtain rfl := hw.symm))
    go_ret
    exact ⟨congrArg (fun z => Ending.returned (.bool z)) (by rw [HD.out]; exact (decide_eq_false HH.out).symm), rfl⟩

theorem results_tmp4 {fn : Func} {t u v x : Tmp} (h : fn.results = #[.tmp t, .tmp u, .tmp v, .tmp x]) (tmps : Array Value) (P : Program) (w : World) :
    (results fn tmps).run P w = .ok (.tuple #[tmps.getD t undef, tmps.getD u undef, tmps.getD v undef, tmps.getD x undef]) w := by
  simp [results, h]

theorem dby_x {w : World} {c : Nat} {a : Option Addr} {len cap : Nat} (h : Cu w c a len cap) :
    Calls Try.prog 16 #[.pointer (some ⟨c, 0, none⟩)] w fun e w' => ∃ k : Int, e = .returned (.int .i64 k) ∧ Cu w' c a len cap ∧ Keep c w w' := by
  have i1 := pick_lit [1, 2, 3, 4, 5, 7, 16, 17, 0] (by decide) (by decide) h
  clear h
  go_enter Try.func16, Try.ntmps16
  go_wp2_with (first
    | (go_at_call 33; refine i1.mono ?_; rintro e w4 ⟨lv, rfl, hc, hk⟩; have HC : Hid (Cu w4 c a len cap ∧ Keep c w w4) := ⟨hc, hk⟩; clear hc hk))
  go_ret
  exact ⟨_, rfl, HC.out.1, HC.out.2⟩

theorem drat_x {w : World} {a : Option Addr} {len cap : Nat} (hr : Row w a len) (hl : len ≤ 1048576) :
    Calls Try.prog 5 #[.slice a len cap] w fun e w' => ∃ (u t : Value) (i j : Int), e = .returned (.tuple #[u, t, .int .i64 i, .int .i64 j]) ∧ Hid ((∃ n ys, n ≤ 64 ∧ Il w' u n ys) ∧ (∃ m f, m ≤ 65 ∧ Il w' t m f) ∧ Below w.heap.size w w') := by
  have HR : Hid (Row w a len) := hr
  clear hr
  obtain ⟨c, hcd⟩ : ∃ c, w.heap.size = c := ⟨_, rfl⟩
  have HN : Hid (Calls Try.prog 12 #[.slice a len cap] w fun e w' => e = .returned (.pointer (some ⟨c, 0, none⟩)) ∧ Cu w' c a len cap ∧ Below w.heap.size w w') := by have := new_x (cap := cap) HR.out (by omega); rw [← hcd]; exact this
  have HCD : Hid (w.heap.size ≤ c) := Nat.le_of_eq hcd
  clear hcd
  go_enter Try.func5, Try.ntmps5
  go_wp2_with (first
    | (go_at_call 12; refine HN.out.mono ?_; rintro e w1 ⟨rfl, hc, hb⟩; have CU : Hid (Cu w1 c a len cap) := hc; have B1 : Hid (Below w.heap.size w w1) := hb; clear hc hb)
    | (go_at_call 14; refine (size_x a len cap 24 hl).mono ?_; rintro e w' ⟨z, rfl, hz5, _, hz6, hw⟩; obtain rfl := hw.symm; have hz7 := hz6 (by omega); clear hz6)
    | (go_at_call 13; refine (dsm_x CU.out z (by omega)).mono ?_; rintro e w3 ⟨v, n, ys, rfl, hn, hI, hc, hk⟩; have L1 : Hid (c < w1.heap.size) := CU.out.lt; have F3 : Hid (n ≤ 64 ∧ w3.ownsRow w1.heap.size 3 1 v n (ils ys n)) := ⟨hn, hI⟩; have KE : Hid (Keep c w1 w3) := hk; have CU : Hid (Cu w3 c a len cap) := hc; clear hc hk hI hn)
    | (go_at_call 15; refine (dtaps_x CU.out).mono ?_; rintro e w4 ⟨t, m, f, rfl, hm, hI, hc, hk⟩; have L3 : Hid (c < w3.heap.size) := CU.out.lt; have F3 : Hid (n ≤ 64 ∧ w4.ownsRow w1.heap.size 3 1 v n (ils ys n)) := ⟨F3.out.1, own_keep F3.out.2 hk L1.out⟩; have F4 : Hid (m ≤ 65 ∧ w4.ownsRow w3.heap.size 3 1 t m (ils f m)) := ⟨hm, hI⟩; have KE : Hid (Keep c w1 w4) := KE.out.trans hk; have CU : Hid (Cu w4 c a len cap) := hc; clear hc hk hI hm)
    | (go_at_call 16; refine (dby_x CU.out).mono ?_; rintro e w5 ⟨lv, rfl, hc, hk⟩; have F3 : Hid (n ≤ 64 ∧ w5.ownsRow w1.heap.size 3 1 v n (ils ys n)) := ⟨F3.out.1, own_keep F3.out.2 hk L1.out⟩; have F4 : Hid (m ≤ 65 ∧ w5.ownsRow w3.heap.size 3 1 t m (ils f m)) := ⟨F4.out.1, own_keep F4.out.2 hk L3.out⟩; have KE : Hid (Keep c w1 w5) := KE.out.trans hk; have CU : Hid (Cu w5 c a len cap) := hc; clear hc hk))
  (try simp only [Exit.inBlock, Exit.then])
  refine bodyPost_ret (results_tmp4 rfl _ _ _) rfl ?_
  exact ⟨_, _, _, _, rfl, ⟨_, _, F3.out.1, il_of_own F3.out.2⟩, ⟨_, _, F4.out.1, il_of_own F4.out.2⟩, Below.keep B1.out KE.out HCD.out⟩
end Go.Proofs.Ytgamambcbaobnaa
