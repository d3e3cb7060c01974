/- The law of the order: for every form and every two words its calls' answers stand to one another as the law asks. -/
import Derived.Test.YtmoeojmnfcbdaaaDoorO1
namespace Go.Proofs.YtmoeojmnfcbdaaaDoor
open Go.RowKit

theorem nxt_range (S i m x : Int) (hS : 0 < S) (hx0 : 0 ≤ x) (hx1 : x < 2 * S) (hnx : ¬ i < sz S x) : 0 ≤ nxt S i m x ∧ nxt S i m x < 2 * S := by
  unfold nxt
  rw [if_neg hnx]
  repeat' split
  all_goals omega

theorem facts_of (f x y : Int) (hx0 : 0 ≤ x) (hx1 : x < 18446744073709551616) (hy0 : 0 ≤ y) (hy1 : y < 18446744073709551616) : Facts f x y := by
  obtain ⟨n, hn⟩ := next_ans f x hx0 hx1
  by_cases hf : f < 1 ∨ 3 < f
  · exact ⟨2, 2, 2, n, 0, 0, Ans.of_same fun w _ => order_no f x y w hf, Ans.of_same fun w _ => order_no f y x w hf, fun w => sorder_no f x y w hf,
      Ans.of_same fun w hs => compare_bad f x y w hs false false (fun w _ => isBits_no f x w hf) (fun w _ => isBits_no f y w hf) (Or.inl rfl), hn, Or.inl rfl, Or.inl ⟨rfl, rfl, rfl⟩⟩
  obtain ⟨wd, p, t, S, D, h, q, hF⟩ := frm_of f hf
  have hD : 0 < D ∧ D = 2 * S ∧ 0 < S ∧ 0 < (2 * t + 1) * h ∧ (2 * t + 1) * h < S := by
    rcases hF with ⟨rfl, rfl, rfl, rfl, rfl, rfl, rfl, rfl⟩ | ⟨rfl, rfl, rfl, rfl, rfl, rfl, rfl, rfl⟩ | ⟨rfl, rfl, rfl, rfl, rfl, rfl, rfl, rfl⟩ <;> decide
  by_cases hb : D ≤ x ∨ D ≤ y
  · refine ⟨2, 2, 2, n, 0, 0, Ans.of_same fun w hs => order_bad hF.form x y w hs hb, Ans.of_same fun w hs => order_bad hF.form y x w hs hb.symm, fun w => sorder_bad hF.form x y w hx0 hx1 hy0 hy1 hb,
      Ans.of_same fun w hs => compare_bad f x y w hs _ _ (fun w hs => isBits_any hF.form x w hs) (fun w hs => isBits_any hF.form y w hs) ?_, hn, Or.inl rfl, Or.inl ⟨rfl, rfl, rfl⟩⟩
    rcases hb with hb | hb
    · exact Or.inl (div_no hD.1 hb)
    · exact Or.inr (div_no hD.1 hb)
  have hxD : x < D := by omega
  have hyD : y < D := by omega
  have o1 : Ans 6 #[.int .i64 f, .int .u64 x, .int .u64 y] (.int .i64 (ord S x y)) := fun w hs => by
    rw [← ord_eq S x y hx0 hy0]; exact order_yes hF.form x y w hs hx0 hxD hy0 hyD
  have o2 : Ans 6 #[.int .i64 f, .int .u64 y, .int .u64 x] (.int .i64 (ord S y x)) := fun w hs => by
    rw [← ord_eq S y x hy0 hx0]; exact order_yes hF.form y x w hs hy0 hyD hx0 hxD
  have o3 := fun w => sorder_yes hF.form x y w hx0 hxD hy0 hyD
  have c1 := compare_ans hF x y hx0 hxD hy0 hyD
  have n1 : Ans 9 #[.int .i64 f, .int .u64 x] (.int .u64 (nxt S ((2 * t + 1) * h) ((2 * t + 1) * h + h / 2) x)) := fun w hs => next_any hF x w hs hx0 hxD
  have an := ord_anti S x y
  by_cases hnan : (2 * t + 1) * h < sz S x ∨ (2 * t + 1) * h < sz S y
  · rw [if_pos hnan] at c1
    exact ⟨ord S x y, ord S y x, 2, _, 0, 0, o1, o2, o3, c1, n1, Or.inl rfl, Or.inr ⟨an.1, an.2, Or.inl rfl, by omega⟩⟩
  · rw [if_neg hnan] at c1
    have r1 := nxt_range S ((2 * t + 1) * h) ((2 * t + 1) * h + h / 2) x hD.2.2.1 hx0 (by omega) (by omega)
    have d1 := compare_ans hF x (nxt S ((2 * t + 1) * h) ((2 * t + 1) * h + h / 2) x) hx0 hxD r1.1 (by omega)
    have g1 := compare_ans hF y (nxt S ((2 * t + 1) * h) ((2 * t + 1) * h + h / 2) x) hy0 hyD r1.1 (by omega)
    refine ⟨ord S x y, ord S y x, _, _, _, _, o1, o2, o3, c1, n1, Or.inr ⟨d1, g1⟩, Or.inr ⟨an.1, an.2, Or.inr ?_, ?_⟩⟩
    · rw [cmp_eq S x y hx0 hy0 hD.2.2.1]
      split
      · exact Or.inl rfl
      · exact Or.inr rfl
    · rintro ⟨e1, _, e3⟩
      have nb := none_between S ((2 * t + 1) * h) ((2 * t + 1) * h + h / 2) x y hD.2.2.1 hD.2.2.2.1 hD.2.2.2.2 hx0 (by omega) hy0 (by omega) (by omega) (by omega) e1
      rw [if_neg (by have := nb.1; omega)] at e3
      exact nb.2.1 e3

theorem last_next : Ans 9 #[.int .i64 1, .int .u64 0] (.int .u64 1) := fun w hs => by
  have hF : Frm 1 16 11 15 32768 65536 1024 32 := Or.inl ⟨rfl, rfl, rfl, rfl, rfl, rfl, rfl, rfl⟩
  exact next_any hF 0 w hs (by decide) (by decide)

theorem last_compare : Ans 8 #[.int .i64 1, .int .u64 1, .int .u64 2] (.int .i64 (-1)) := fun w hs => by
  have hF : Frm 1 16 11 15 32768 65536 1024 32 := Or.inl ⟨rfl, rfl, rfl, rfl, rfl, rfl, rfl, rfl⟩
  exact compare_yes hF 1 2 w hs (by decide) (by decide) (by decide) (by decide)

set_option maxHeartbeats 4000000 in
theorem walk_ordered {w : World} {a : Option Addr} {len cap : Nat} (hs : Shp w) (hr : Row w a len) :
    Calls Tryd.prog 3 #[.slice a len cap] w fun e w' => e = .returned (.bool true) ∧ Below w.heap.size w w' := by
  by_cases hbig : (1048576 : Int) < len
  · go_enter Tryd.func3, Tryd.ntmps3
    go_wp2
    go_ret
    exact ⟨rfl, Below.refl _ _⟩
  · have hl : (len : Int) ≤ 4611686018427387904 := by omega
    have hz := shp_pos hs
    have HD : Hid (Calls Tryd.prog 5 #[.slice a len cap] w (Two w 3)) := drawOrder_any hr hl
    have HS : Hid (Shp w) := hs
    clear hr hs hl
    unfold Two at HD
    simp only [if_neg (show ¬ (3 = 4) by decide)] at HD
    go_enter Tryd.func3, Tryd.ntmps3
    go_wp2_with (first | (go_at_call 4; go_in) | (go_at_call 5; refine HD.out.mono ?_; rintro e w' ⟨f, m, x, y, hx0, hx1, hy0, hy1, rfl, hb⟩; have HB : Hid (Below w.heap.size w w') := hb; clear hb))
    obtain ⟨r, r', c, n, d, g, a1, a2, a3, a4, a5, a6, a7⟩ := facts_of f x y hx0 hx1 hy0 hy1
    have l1 := last_next
    have l2 := last_compare
    unfold Ans at a1 a2 a4 a5 a6 l1 l2
    clear hx0 hx1 hy0 hy1 HD
    rcases a7 with ⟨rfl, rfl, rfl⟩ | ⟨rfl, hr, hc, hno⟩
    · clear a6
      go_wp2_with (first | (go_at_call 6; (first | with_reducible refine (a1 _ (shp_below HS.out hz HB.out)).mono ?_ | with_reducible refine (a2 _ (shp_below HS.out hz HB.out)).mono ?_); rintro e w' ⟨rfl, hb⟩; have HB : Hid (Below w.heap.size w w') := HB.out.trans (hb.mono HB.out.size); clear hb) | (go_at_call 7; refine (a3 _).mono ?_; rintro e w' ⟨rfl, hw⟩; replace hw := hw.symm; subst hw) | (go_at_call 8; (first | with_reducible refine (a4 _ (shp_below HS.out hz HB.out)).mono ?_ | with_reducible refine (l2 _ (shp_below HS.out hz HB.out)).mono ?_); rintro e w' ⟨rfl, hb⟩; have HB : Hid (Below w.heap.size w w') := HB.out.trans (hb.mono HB.out.size); clear hb) | (go_at_call 9; (first | with_reducible refine (a5 _ (shp_below HS.out hz HB.out)).mono ?_ | with_reducible refine (l1 _ (shp_below HS.out hz HB.out)).mono ?_); rintro e w' ⟨rfl, hb⟩; have HB : Hid (Below w.heap.size w w') := HB.out.trans (hb.mono HB.out.size); clear hb))
      go_ret
      exact ⟨rfl, HB.out⟩
    · rcases a6 with rfl | ⟨b1, b2⟩
      · clear hno hc
        rcases hr with rfl | rfl | rfl
        all_goals
          go_wp2_with (first | (go_at_call 6; (first | with_reducible refine (a1 _ (shp_below HS.out hz HB.out)).mono ?_ | with_reducible refine (a2 _ (shp_below HS.out hz HB.out)).mono ?_); rintro e w' ⟨rfl, hb⟩; have HB : Hid (Below w.heap.size w w') := HB.out.trans (hb.mono HB.out.size); clear hb) | (go_at_call 7; refine (a3 _).mono ?_; rintro e w' ⟨rfl, hw⟩; replace hw := hw.symm; subst hw) | (go_at_call 8; (first | with_reducible refine (a4 _ (shp_below HS.out hz HB.out)).mono ?_ | with_reducible refine (l2 _ (shp_below HS.out hz HB.out)).mono ?_); rintro e w' ⟨rfl, hb⟩; have HB : Hid (Below w.heap.size w w') := HB.out.trans (hb.mono HB.out.size); clear hb) | (go_at_call 9; (first | with_reducible refine (a5 _ (shp_below HS.out hz HB.out)).mono ?_ | with_reducible refine (l1 _ (shp_below HS.out hz HB.out)).mono ?_); rintro e w' ⟨rfl, hb⟩; have HB : Hid (Below w.heap.size w w') := HB.out.trans (hb.mono HB.out.size); clear hb))
          go_ret
          exact ⟨rfl, HB.out⟩
      · rcases hc with rfl | rfl | rfl
        · clear hno
          rcases hr with rfl | rfl | rfl
          all_goals
            go_wp2_with (first | (go_at_call 6; (first | with_reducible refine (a1 _ (shp_below HS.out hz HB.out)).mono ?_ | with_reducible refine (a2 _ (shp_below HS.out hz HB.out)).mono ?_); rintro e w' ⟨rfl, hb⟩; have HB : Hid (Below w.heap.size w w') := HB.out.trans (hb.mono HB.out.size); clear hb) | (go_at_call 7; refine (a3 _).mono ?_; rintro e w' ⟨rfl, hw⟩; replace hw := hw.symm; subst hw) | (go_at_call 8; (first | with_reducible refine (a4 _ (shp_below HS.out hz HB.out)).mono ?_ | with_reducible refine (l2 _ (shp_below HS.out hz HB.out)).mono ?_ | with_reducible refine (b1 _ (shp_below HS.out hz HB.out)).mono ?_ | with_reducible refine (b2 _ (shp_below HS.out hz HB.out)).mono ?_); rintro e w' ⟨rfl, hb⟩; have HB : Hid (Below w.heap.size w w') := HB.out.trans (hb.mono HB.out.size); clear hb) | (go_at_call 9; (first | with_reducible refine (a5 _ (shp_below HS.out hz HB.out)).mono ?_ | with_reducible refine (l1 _ (shp_below HS.out hz HB.out)).mono ?_); rintro e w' ⟨rfl, hb⟩; have HB : Hid (Below w.heap.size w w') := HB.out.trans (hb.mono HB.out.size); clear hb))
            go_ret
            exact ⟨rfl, HB.out⟩
        · clear hno
          rcases hr with rfl | rfl | rfl
          all_goals
            go_wp2_with (first | (go_at_call 6; (first | with_reducible refine (a1 _ (shp_below HS.out hz HB.out)).mono ?_ | with_reducible refine (a2 _ (shp_below HS.out hz HB.out)).mono ?_); rintro e w' ⟨rfl, hb⟩; have HB : Hid (Below w.heap.size w w') := HB.out.trans (hb.mono HB.out.size); clear hb) | (go_at_call 7; refine (a3 _).mono ?_; rintro e w' ⟨rfl, hw⟩; replace hw := hw.symm; subst hw) | (go_at_call 8; (first | with_reducible refine (a4 _ (shp_below HS.out hz HB.out)).mono ?_ | with_reducible refine (l2 _ (shp_below HS.out hz HB.out)).mono ?_ | with_reducible refine (b1 _ (shp_below HS.out hz HB.out)).mono ?_ | with_reducible refine (b2 _ (shp_below HS.out hz HB.out)).mono ?_); rintro e w' ⟨rfl, hb⟩; have HB : Hid (Below w.heap.size w w') := HB.out.trans (hb.mono HB.out.size); clear hb) | (go_at_call 9; (first | with_reducible refine (a5 _ (shp_below HS.out hz HB.out)).mono ?_ | with_reducible refine (l1 _ (shp_below HS.out hz HB.out)).mono ?_); rintro e w' ⟨rfl, hb⟩; have HB : Hid (Below w.heap.size w w') := HB.out.trans (hb.mono HB.out.size); clear hb))
            all_goals
              go_ret
              exact ⟨rfl, HB.out⟩
        · rcases hr with rfl | rfl | rfl
          · by_cases hd : d = -1
            · have hg : (g == -1) = false := by simp; omega
              have hd1 : (d == -1) = true := by simpa using hd
              clear hno hd
              go_wp2_with (first | (go_at_call 6; (first | with_reducible refine (a1 _ (shp_below HS.out hz HB.out)).mono ?_ | with_reducible refine (a2 _ (shp_below HS.out hz HB.out)).mono ?_); rintro e w' ⟨rfl, hb⟩; have HB : Hid (Below w.heap.size w w') := HB.out.trans (hb.mono HB.out.size); clear hb) | (go_at_call 7; refine (a3 _).mono ?_; rintro e w' ⟨rfl, hw⟩; replace hw := hw.symm; subst hw) | (go_at_call 8; (first | with_reducible refine (a4 _ (shp_below HS.out hz HB.out)).mono ?_ | with_reducible refine (l2 _ (shp_below HS.out hz HB.out)).mono ?_ | with_reducible refine (b1 _ (shp_below HS.out hz HB.out)).mono ?_ | with_reducible refine (b2 _ (shp_below HS.out hz HB.out)).mono ?_); rintro e w' ⟨rfl, hb⟩; have HB : Hid (Below w.heap.size w w') := HB.out.trans (hb.mono HB.out.size); clear hb) | (go_at_call 9; (first | with_reducible refine (a5 _ (shp_below HS.out hz HB.out)).mono ?_ | with_reducible refine (l1 _ (shp_below HS.out hz HB.out)).mono ?_); rintro e w' ⟨rfl, hb⟩; have HB : Hid (Below w.heap.size w w') := HB.out.trans (hb.mono HB.out.size); clear hb))
              go_ret
              exact ⟨rfl, HB.out⟩
            · have hd1 : (d == -1) = false := by simpa using hd
              clear hno hd
              go_wp2_with (first | (go_at_call 6; (first | with_reducible refine (a1 _ (shp_below HS.out hz HB.out)).mono ?_ | with_reducible refine (a2 _ (shp_below HS.out hz HB.out)).mono ?_); rintro e w' ⟨rfl, hb⟩; have HB : Hid (Below w.heap.size w w') := HB.out.trans (hb.mono HB.out.size); clear hb) | (go_at_call 7; refine (a3 _).mono ?_; rintro e w' ⟨rfl, hw⟩; replace hw := hw.symm; subst hw) | (go_at_call 8; (first | with_reducible refine (a4 _ (shp_below HS.out hz HB.out)).mono ?_ | with_reducible refine (l2 _ (shp_below HS.out hz HB.out)).mono ?_ | with_reducible refine (b1 _ (shp_below HS.out hz HB.out)).mono ?_ | with_reducible refine (b2 _ (shp_below HS.out hz HB.out)).mono ?_); rintro e w' ⟨rfl, hb⟩; have HB : Hid (Below w.heap.size w w') := HB.out.trans (hb.mono HB.out.size); clear hb) | (go_at_call 9; (first | with_reducible refine (a5 _ (shp_below HS.out hz HB.out)).mono ?_ | with_reducible refine (l1 _ (shp_below HS.out hz HB.out)).mono ?_); rintro e w' ⟨rfl, hb⟩; have HB : Hid (Below w.heap.size w w') := HB.out.trans (hb.mono HB.out.size); clear hb))
              go_ret
              exact ⟨rfl, HB.out⟩
          all_goals
            clear hno
            go_wp2_with (first | (go_at_call 6; (first | with_reducible refine (a1 _ (shp_below HS.out hz HB.out)).mono ?_ | with_reducible refine (a2 _ (shp_below HS.out hz HB.out)).mono ?_); rintro e w' ⟨rfl, hb⟩; have HB : Hid (Below w.heap.size w w') := HB.out.trans (hb.mono HB.out.size); clear hb) | (go_at_call 7; refine (a3 _).mono ?_; rintro e w' ⟨rfl, hw⟩; replace hw := hw.symm; subst hw) | (go_at_call 8; (first | with_reducible refine (a4 _ (shp_below HS.out hz HB.out)).mono ?_ | with_reducible refine (l2 _ (shp_below HS.out hz HB.out)).mono ?_ | with_reducible refine (b1 _ (shp_below HS.out hz HB.out)).mono ?_ | with_reducible refine (b2 _ (shp_below HS.out hz HB.out)).mono ?_); rintro e w' ⟨rfl, hb⟩; have HB : Hid (Below w.heap.size w w') := HB.out.trans (hb.mono HB.out.size); clear hb) | (go_at_call 9; (first | with_reducible refine (a5 _ (shp_below HS.out hz HB.out)).mono ?_ | with_reducible refine (l1 _ (shp_below HS.out hz HB.out)).mono ?_); rintro e w' ⟨rfl, hb⟩; have HB : Hid (Below w.heap.size w w') := HB.out.trans (hb.mono HB.out.size); clear hb))
            all_goals
              go_ret
              exact ⟨rfl, HB.out⟩
end Go.Proofs.YtmoeojmnfcbdaaaDoor
