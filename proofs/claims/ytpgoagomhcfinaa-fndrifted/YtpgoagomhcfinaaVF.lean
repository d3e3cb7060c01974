/- FnDrifted: the draws. -/
import Derived.Test.YtpgoagomhcfinaaD4
namespace Go.Proofs.Ytpgoagomhcfinaa
open Go.RowKit

theorem results_tmp4 {fn : Func} {t u v x : Tmp} (h : fn.results = #[.tmp t, .tmp u, .tmp v, .tmp x]) (tmps : Array Value) (P : Program) (w : World) :
    (results fn tmps).run P w = .ok (.tuple #[tmps.getD t undef, tmps.getD u undef, tmps.getD v undef, tmps.getD x undef]) w := by
  simp [results, h]

set_option maxHeartbeats 1000000 in
theorem pick_p {w : World} {c : Nat} {a : Option Addr} {len cap : Nat} (h : Cu w c a len cap) {g n cp : Nat} {xs : Nat → Int} (hg : g ≠ c) (hlt : g < w.heap.size) (h0 : 0 < n) (h1 : n ≤ 256) (hx : ∀ k, k < n → w.cell? ⟨g, k, none⟩ = some (.int .i64 (xs k))) (P : Int → Prop) (hP : ∀ k, k < n → P (xs k)) :
    Calls Try.prog 13 #[.pointer (some ⟨c, 0, none⟩), .slice (some ⟨g, 0, none⟩) n cp] w fun e w' => ∃ x : Int, P x ∧ e = .returned (.int .i64 x) ∧ Cu w' c a len cap ∧ Keep c w w' := by
  have HC : Hid (Cu w c a len cap) := h
  have HX : Hid _ := hx
  have HP : Hid (∀ k, k < n → P (xs k)) := hP
  clear h hx hP
  go_enter Try.func13, Try.ntmps13
  go_wp2_with (go_at_call 14; refine (below_x HC.out n).mono ?_; rintro e w' ⟨x, hx0, hx1, hx2, rfl, hc, hk⟩; have hx3 := hx2 (by omega); obtain ⟨k, rfl⟩ := Int.eq_ofNat_of_zero_le hx0; have HC2 : Hid (Cu w' c a len cap) := hc; have HK : Hid (Keep c w w') := hk; have cc : w'.cell? ⟨g, k, none⟩ = some (.int .i64 (xs k)) := (hk.cell (p := ⟨g, k, none⟩) hg hlt).trans (HX.out k (by omega)); clear hc hk hx2)
  go_ret
  exact ⟨_, HP.out k (by omega), rfl, HC2.out, HK.out⟩

theorem pick_lp (L : List Int) (h0 : 0 < L.length) (h1 : L.length ≤ 256) (P : Int → Prop) (hP : ∀ k, k < L.length → P (L.getD k 0)) {W : World} {c : Nat} {a : Option Addr} {len cap : Nat} (h : Cu W c a len cap) :
    Calls Try.prog 13 #[.pointer (some ⟨c, 0, none⟩), .slice (some ⟨W.heap.size, 0, none⟩) L.length L.length] (W.alloc (.cells (L.map (fun x => Value.int .i64 x)).toArray 3)) fun e w' => ∃ x : Int, P x ∧ e = .returned (.int .i64 x) ∧ Cu w' c a len cap ∧ Keep c W w' := by
  refine (pick_p (h.call (below_one _ _)) (Nat.ne_of_gt h.lt) (by simp) h0 h1 (lit_cells W L 3) P hP).mono ?_
  rintro e w' ⟨x, hx, rfl, hc, hk⟩
  exact ⟨x, hx, rfl, hc, ((Keep.refl _ _).call (below_one _ _)).trans hk⟩

theorem pk7 {W : World} {c : Nat} {a : Option Addr} {len cap : Nat} (h : Cu W c a len cap) :
    Calls Try.prog 13 #[.pointer (some ⟨c, 0, none⟩), .slice (some ⟨W.heap.size, 0, none⟩) 7 7] (W.alloc (.cells #[.int .i64 1, .int .i64 2, .int .i64 7, .int .i64 10, .int .i64 1000, .int .i64 1000000, .int .i64 48000] 3)) fun e w' => ∃ x : Int, (1 ≤ x ∧ x ≤ 1000000) ∧ e = .returned (.int .i64 x) ∧ Cu w' c a len cap ∧ Keep c W w' :=
  pick_lp [1, 2, 7, 10, 1000, 1000000, 48000] (by simp) (by simp) (fun x => 1 ≤ x ∧ x ≤ 1000000) (by decide) h

theorem pk4 {W : World} {c : Nat} {a : Option Addr} {len cap : Nat} (h : Cu W c a len cap) :
    Calls Try.prog 13 #[.pointer (some ⟨c, 0, none⟩), .slice (some ⟨W.heap.size, 0, none⟩) 4 4] (W.alloc (.cells #[.int .i64 0, .int .i64 1000000, .int .i64 1000001, .int .i64 1] 3)) fun e w' => ∃ x : Int, (True) ∧ e = .returned (.int .i64 x) ∧ Cu w' c a len cap ∧ Keep c W w' :=
  pick_lp [0, 1000000, 1000001, 1] (by simp) (by simp) (fun x => True) (fun _ _ => trivial) h

theorem pk2 {W : World} {c : Nat} {a : Option Addr} {len cap : Nat} (h : Cu W c a len cap) :
    Calls Try.prog 13 #[.pointer (some ⟨c, 0, none⟩), .slice (some ⟨W.heap.size, 0, none⟩) 2 2] (W.alloc (.cells #[.int .i64 0, .int .i64 1000001] 3)) fun e w' => ∃ x : Int, (True) ∧ e = .returned (.int .i64 x) ∧ Cu w' c a len cap ∧ Keep c W w' :=
  pick_lp [0, 1000001] (by simp) (by simp) (fun x => True) (fun _ _ => trivial) h

theorem pkd {W : World} {c : Nat} {a : Option Addr} {len cap : Nat} (h : Cu W c a len cap) (d : Int) :
    Calls Try.prog 13 #[.pointer (some ⟨c, 0, none⟩), .slice (some ⟨W.heap.size, 0, none⟩) 2 2] (W.alloc (.cells #[.int .i64 (-1), .int .i64 d] 3)) fun e w' => ∃ x : Int, (True) ∧ e = .returned (.int .i64 x) ∧ Cu w' c a len cap ∧ Keep c W w' :=
  pick_lp [-1, d] (by simp) (by simp) (fun x => True) (fun _ _ => trivial) h

set_option maxHeartbeats 4000000 in
theorem ddrift_x {w : World} {a : Option Addr} {len cap : Nat} (hr : Row w a len) (hl : len ≤ 1048576) :
    Calls Try.prog 5 #[.slice a len cap] w fun e w' => ∃ (u : Value) (i j k : Int), e = .returned (.tuple #[u, .int .i64 i, .int .i64 j, .int .i64 k]) ∧ Hid ((∃ n ys, n ≤ 513 ∧ Il w' u n ys) ∧ Below w.heap.size w w') := by
  have HR : Hid (Row w a len) := hr
  clear hr
  obtain ⟨c, hcd⟩ : ∃ c, w.heap.size = c := ⟨_, rfl⟩
  have HN : Hid (Calls Try.prog 12 #[.slice a len cap] w fun e w' => e = .returned (.pointer (some ⟨c, 0, none⟩)) ∧ Cu w' c a len cap ∧ Below w.heap.size w w') := by have := new_x (cap := cap) HR.out (by omega); rw [← hcd]; exact this
  have HCD : Hid (w.heap.size ≤ c) := Nat.le_of_eq hcd
  clear hcd
  go_enter Try.func5, Try.ntmps5
  go_wp2_with (first
    | (go_at_call 12; refine HN.out.mono ?_; rintro e w1 ⟨rfl, hc, hb⟩; have CU : Hid (Cu w1 c a len cap) := hc; have B1 : Hid (Below w.heap.size w w1) := hb; have KE : Hid (Keep c w1 w1) := Keep.refl _ _; clear hc hb)
    | (go_at_call 13; (fail_if_success have := M1); (with_reducible refine (pk7 CU.out).mono ?_); rintro e w2 ⟨den, hden, rfl, hc, hk⟩; have M1 : Hid True := trivial; have CU : Hid (Cu w2 c a len cap) := hc; have KE : Hid (Keep c w1 w2) := KE.out.trans hk; clear hc hk)
    | (go_at_call 14; (with_reducible refine (below_x CU.out _).mono ?_); rintro e w3 ⟨bx, hx0, hx1, hx2, rfl, hc, hk⟩; have CU : Hid (Cu w3 c a len cap) := hc; have KE : Hid (Keep c w1 w3) := KE.out.trans hk; clear hc hk hx2)
    | (go_at_call 13; have ZZ := M1; (with_reducible refine (pk4 CU.out).mono ?_); rintro e w4 ⟨px, _, rfl, hc, hk⟩; have CU : Hid (Cu w4 c a len cap) := hc; have KE : Hid (Keep c w1 w4) := KE.out.trans hk; clear hc hk)
    | (go_at_call 13; have ZZ := M1; (with_reducible refine (pk2 CU.out).mono ?_); rintro e w4 ⟨px, _, rfl, hc, hk⟩; have CU : Hid (Cu w4 c a len cap) := hc; have KE : Hid (Keep c w1 w4) := KE.out.trans hk; clear hc hk)
    | (go_at_call 13; have ZZ := M1; (with_reducible refine (pkd CU.out den).mono ?_); rintro e w4 ⟨px, _, rfl, hc, hk⟩; have CU : Hid (Cu w4 c a len cap) := hc; have KE : Hid (Keep c w1 w4) := KE.out.trans hk; clear hc hk)
    | (go_at_call 16; refine (size_x a len cap 30 hl).mono ?_; rintro e w' ⟨z, rfl, hz5, _, hz6, hw⟩; obtain rfl := hw.symm; have hz7 := hz6 (by omega); clear hz6)
    | (go_at_call 15; refine (dany_x CU.out z (by omega)).mono ?_; rintro e w8 ⟨v, n, ys, rfl, hn, hI, hc, hk⟩; have F8 : Hid ((∃ n ys, n ≤ 513 ∧ Il w8 v n ys) ∧ Below w.heap.size w w8) := ⟨⟨n, ys, hn, il_of_own hI⟩, Below.keep B1.out (KE.out.trans hk) HCD.out⟩; clear hc hk hI))
  all_goals ((try simp only [Exit.inBlock, Exit.then]); refine bodyPost_ret (results_tmp4 rfl _ _ _) rfl ?_; exact ⟨_, _, _, _, rfl, F8.out⟩)
end Go.Proofs.Ytpgoagomhcfinaa
