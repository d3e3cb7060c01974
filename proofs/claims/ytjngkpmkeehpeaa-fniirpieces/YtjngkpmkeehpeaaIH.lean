/- FnIirPieces: what is drawn. -/
import Derived.Test.YtjngkpmkeehpeaaIG
import Derived.Test.YtjngkpmkeehpeaaI1
namespace Go.Proofs.Ytjngkpmkeehpeaa
open Go.RowKit

theorem set_fin {W : World} {s : Nat} {x0 x1 x2 x3 x4 y0 y1 y2 y3 y4 : Int} (h : F5 W s x0 x1 x2 x3 x4) : F5 (((((W.setCell ⟨s, 0, none⟩ (.int .i64 y0)).setCell ⟨s, 1, none⟩ (.int .i64 y1)).setCell ⟨s, 2, none⟩ (.int .i64 y2)).setCell ⟨s, 3, none⟩ (.int .i64 y3)).setCell ⟨s, 4, none⟩ (.int .i64 y4)) s y0 y1 y2 y3 y4 ∧ Below s W (((((W.setCell ⟨s, 0, none⟩ (.int .i64 y0)).setCell ⟨s, 1, none⟩ (.int .i64 y1)).setCell ⟨s, 2, none⟩ (.int .i64 y2)).setCell ⟨s, 3, none⟩ (.int .i64 y3)).setCell ⟨s, 4, none⟩ (.int .i64 y4)) ∧ Kd (fun k => k = s) W (((((W.setCell ⟨s, 0, none⟩ (.int .i64 y0)).setCell ⟨s, 1, none⟩ (.int .i64 y1)).setCell ⟨s, 2, none⟩ (.int .i64 y2)).setCell ⟨s, 3, none⟩ (.int .i64 y3)).setCell ⟨s, 4, none⟩ (.int .i64 y4)) :=
  ⟨((((h.put0 y0).put1 y1).put2 y2).put3 y3).put4 y4, (((((Below.refl _ _).setCell (p := ⟨s, 0, none⟩) (Nat.le_refl _) _).setCell (p := ⟨s, 1, none⟩) (Nat.le_refl _) _).setCell (p := ⟨s, 2, none⟩) (Nat.le_refl _) _).setCell (p := ⟨s, 3, none⟩) (Nat.le_refl _) _).setCell (p := ⟨s, 4, none⟩) (Nat.le_refl _) _, (((((Kd.refl (fun k => k = s) W).put (.inl rfl) 0 _).put (.inl rfl) 1 _).put (.inl rfl) 2 _).put (.inl rfl) 3 _).put (.inl rfl) 4 _⟩

theorem own_kd2 {W W1 W2 : World} {B n s t : Nat} {v : Value} {xs : List Value} (h : W.ownsRow B 3 1 v n xs) (k1 : Kd (fun k => k = s) W W1) (k2 : Kd (fun k => k = t) W1 W2) (h1 : s < B) (h2 : t < B) : W2.ownsRow B 3 1 v n xs := by
  refine ⟨h.1, ?_⟩
  rcases h.2 with h' | ⟨g', cap', cur, h', hb', hg', rest⟩
  · exact .inl h'
  · have l0 := (Array.getElem?_eq_some_iff.1 hg').1
    have e1 := k1.block g' l0 (by omega)
    have l1 : g' < W1.heap.size := (Array.getElem?_eq_some_iff.1 (e1.trans hg')).1
    exact .inr ⟨g', cap', cur, h', hb', ((k2.block g' l1 (by omega)).trans e1).trans hg', rest⟩

theorem F5.kd {W W' : World} {g s : Nat} {a b c d e : Int} (h : F5 W g a b c d e) (hk : Kd (fun k => k = s) W W') (hne : g ≠ s) : F5 W' g a b c d e := h.block (hk.block g h.lt hne)

theorem pka {W : World} {c : Nat} {a : Option Addr} {len cap : Nat} (h : Cu W c a len cap) :
    Calls Try.prog 13 #[.pointer (some ⟨c, 0, none⟩), .slice (some ⟨W.heap.size, 0, none⟩) 3 3] (W.alloc (.cells #[.int .i64 1000000, .int .i64 (-1000000), .int .i64 1000001] 3)) fun e w' => ∃ x : Int, e = .returned (.int .i64 x) ∧ Cu w' c a len cap ∧ Keep c W w' :=
  pick_lit [1000000, -1000000, 1000001] (by decide) (by decide) h

theorem pkb {W : World} {c : Nat} {a : Option Addr} {len cap : Nat} (h : Cu W c a len cap) :
    Calls Try.prog 13 #[.pointer (some ⟨c, 0, none⟩), .slice (some ⟨W.heap.size, 0, none⟩) 2 2] (W.alloc (.cells #[.int .i64 (-1), .int .i64 16384] 3)) fun e w' => ∃ x : Int, e = .returned (.int .i64 x) ∧ Cu w' c a len cap ∧ Keep c W w' :=
  pick_lit [-1, 16384] (by decide) (by decide) h

set_option maxRecDepth 20000 in
set_option maxHeartbeats 8000000 in
theorem diir_x {w : World} {a : Option Addr} {len cap : Nat} (hr : Row w a len) (hl : len ≤ 1048576) :
    Calls Try.prog 5 #[.slice a len cap] w fun e w' => ∃ (s : Se) (p : Pa) (v : Value), e = .returned (.tuple #[s.v, p.v, v]) ∧ Hid ((∃ n xs, n ≤ 64 ∧ Il w' v n xs) ∧ Below w.heap.size w w') := by
  have b1 := below_one w (.cells #[.int .i64 0, .int .i64 0, .int .i64 0, .int .i64 0, .int .i64 0] 25)
  have R1 := F5.new w 0 0 0 0 0 25
  have s1 : (w.alloc (.cells #[.int .i64 0, .int .i64 0, .int .i64 0, .int .i64 0, .int .i64 0] 25)).heap.size = w.heap.size + 1 := by simp
  generalize hW1 : w.alloc (.cells #[.int .i64 0, .int .i64 0, .int .i64 0, .int .i64 0, .int .i64 0] 25) = W1 at *
  have b2 := below_one W1 (.cells #[.int .i64 0, .int .i64 0, .int .i64 0, .int .i64 0, .int .i64 0] 27)
  have R2 := F5.new W1 0 0 0 0 0 27
  have s2 : (W1.alloc (.cells #[.int .i64 0, .int .i64 0, .int .i64 0, .int .i64 0, .int .i64 0] 27)).heap.size = w.heap.size + 2 := by simp [s1]
  generalize hW2 : W1.alloc (.cells #[.int .i64 0, .int .i64 0, .int .i64 0, .int .i64 0, .int .i64 0] 27) = W2 at *
  rw [s1] at R2
  have b12 := bstep b1 b2
  obtain ⟨c, hcd⟩ : ∃ c, W2.heap.size = c := ⟨_, rfl⟩
  have HN : Hid (Calls Try.prog 10 #[.slice a len cap] W2 fun e w' => e = .returned (.pointer (some ⟨c, 0, none⟩)) ∧ Cu w' c a len cap ∧ Below W2.heap.size W2 w') := by have := new_x (cap := cap) (hr.below b12) (by omega); rw [← hcd]; exact this
  have HCD : Hid (c = w.heap.size + 2) := hcd.symm.trans s2
  have BW : Hid (Below w.heap.size w W2) := b12
  have FS : Hid (F5 W2 w.heap.size 0 0 0 0 0) := R1.call b2
  have FT : Hid (F5 W2 (w.heap.size + 1) 0 0 0 0 0) := R2
  clear hr b1 b2 b12 R1 R2 s2 hcd
  go_enter Try.func5, Try.ntmps5
  go_upto_region 1 with fail
  clear hW1 hW2 s1
  go_upto_region 2 with (first
    | (go_at_call 10; refine HN.out.mono ?_; rintro e w0 ⟨rfl, hc, hb⟩; have ba := below_one w0 (.cells #[.int .i64 0, .int .i64 0, .int .i64 0, .int .i64 0, .int .i64 0] 27); have CU : Hid (Cu (w0.alloc (.cells #[.int .i64 0, .int .i64 0, .int .i64 0, .int .i64 0, .int .i64 0] 27)) c a len cap) := hc.call ba; have BW0 : Hid (Below w.heap.size w w0) := bstep BW.out hb; have FS : Hid (F5 (w0.alloc (.cells #[.int .i64 0, .int .i64 0, .int .i64 0, .int .i64 0, .int .i64 0] 27)) w.heap.size 0 0 0 0 0) := (FS.out.call hb).call ba; have FT : Hid (F5 (w0.alloc (.cells #[.int .i64 0, .int .i64 0, .int .i64 0, .int .i64 0, .int .i64 0] 27)) (w.heap.size + 1) 0 0 0 0 0) := (FT.out.call hb).call ba; have FG0 : Hid (F5 (w0.alloc (.cells #[.int .i64 0, .int .i64 0, .int .i64 0, .int .i64 0, .int .i64 0] 27)) w0.heap.size 0 0 0 0 0) := F5.new _ _ _ _ _ _ _; have L0 : Hid (c < w0.heap.size) := hc.lt; have HC0 : Hid (Cu w0 c a len cap) := hc; have K0 : Hid (Keep c w0 (w0.alloc (.cells #[.int .i64 0, .int .i64 0, .int .i64 0, .int .i64 0, .int .i64 0] 27))) := (Keep.refl _ _).call ba; clear hc hb ba))
  go_upto_region 3 with fail
  generalize w0.alloc (.cells #[.int .i64 0, .int .i64 0, .int .i64 0, .int .i64 0, .int .i64 0] 27) = w1 at *
  obtain ⟨g, hgd⟩ : ∃ g, g = w0.heap.size := ⟨_, rfl⟩
  rw [← hgd] at FG0 ⊢
  have hg1 : w0.heap.size ≤ g := Nat.le_of_eq hgd.symm
  have hL0 := L0.out
  have FG : Hid (∃ x0 x1 x2 x3 x4, F5 w1 g x0 x1 x2 x3 x4) := ⟨_, _, _, _, _, FG0.out⟩
  have KE : Hid (Keep c w0 w1) := K0.out
  have hgc : g ≠ c := by have := HCD.out; omega
  have hsc : w.heap.size ≠ c := by have := HCD.out; omega
  have htc : w.heap.size + 1 ≠ c := by have := HCD.out; omega
  have hsg : w.heap.size ≠ g := by have := HCD.out; omega
  have htg : w.heap.size + 1 ≠ g := by have := HCD.out; omega
  clear FG0 K0 L0 BW HN hgd
  go_upto_if 11 with (first
    | (go_at_call 11; (with_reducible refine (once_x CU.out _).mono ?_); rintro e w4 ⟨bx, rfl, hc, hk⟩; have CU : Hid (Cu w4 c a len cap) := hc; have KE : Hid (Keep c w0 w4) := KE.out.trans hk; have FG : Hid (∃ x0 x1 x2 x3 x4, F5 w4 g x0 x1 x2 x3 x4) := (by obtain ⟨_, _, _, _, _, hh⟩ := FG.out; exact ⟨_, _, _, _, _, hh.keep hk hgc⟩); have FS : Hid (F5 w4 w.heap.size 0 0 0 0 0) := FS.out.keep hk hsc; have FT : Hid (F5 w4 (w.heap.size + 1) 0 0 0 0 0) := FT.out.keep hk htc; clear hc hk))
  go_cut [11] from 7 (fun _ wx => Hid ((∃ x0 x1 x2 x3 x4, F5 wx g x0 x1 x2 x3 x4) ∧ F5 wx w.heap.size 0 0 0 0 0 ∧ F5 wx (w.heap.size + 1) 0 0 0 0 0 ∧ Cu wx c a len cap ∧ Keep c w0 wx))
  case first =>
    cases bx
    · go_wp2
      go_meet
      exact ⟨FG.out, FS.out, FT.out, CU.out, KE.out⟩
    · go_wp2_with (first
        | (go_at_call 12; (with_reducible refine (below_x CU.out _).mono ?_); rintro e w5 ⟨by_, hx0, hx1, hx2, rfl, hc, hk⟩; have CU : Hid (Cu w5 c a len cap) := hc; have KE : Hid (Keep c w0 w5) := KE.out.trans hk; have FG : Hid (∃ x0 x1 x2 x3 x4, F5 w5 g x0 x1 x2 x3 x4) := (by obtain ⟨_, _, _, _, _, hh⟩ := FG.out; exact ⟨_, _, _, _, _, hh.keep hk hgc⟩); have FS : Hid (F5 w5 w.heap.size 0 0 0 0 0) := FS.out.keep hk hsc; have FT : Hid (F5 w5 (w.heap.size + 1) 0 0 0 0 0) := FT.out.keep hk htc; obtain ⟨_, _, _, _, _, hh⟩ := FG.out; obtain ⟨t0, t1, t2, t3, t4, v0, v1, v2, v3, v4⟩ := hh; clear hc hk hx2))
      go_meet
      obtain ⟨_, _, _, _, _, hh⟩ := FG.out
      exact ⟨⟨_, _, _, _, _, (set_fin hh).1⟩, FS.out.kd (set_fin hh).2.2 hsg, FT.out.kd (set_fin hh).2.2 htg, HC0.out.grow CU.out KE.out ((set_fin hh).2.1.mono hg1), KE.out.below ((set_fin hh).2.1.mono hg1)⟩
  case rest =>
    clear CU KE FG FS FT
    have CU : Hid (Cu wc c a len cap) := hcut.out.2.2.2.1
    have KE : Hid (Keep c w0 wc) := hcut.out.2.2.2.2
    have FG : Hid (∃ x0 x1 x2 x3 x4, F5 wc g x0 x1 x2 x3 x4) := hcut.out.1
    have FS : Hid (F5 wc w.heap.size 0 0 0 0 0) := hcut.out.2.1
    have FT : Hid (F5 wc (w.heap.size + 1) 0 0 0 0 0) := hcut.out.2.2.1
    clear hcut
    go_upto_region 10 with (first
      | (go_at_call 12; (with_reducible refine (below_x CU.out 25).mono ?_); rintro e w6 ⟨bz, hx0, hx1, hx2, rfl, hc, hk⟩; have CU : Hid (Cu w6 c a len cap) := hc; have KE : Hid (Keep c w0 w6) := KE.out.trans hk; have FG : Hid (∃ x0 x1 x2 x3 x4, F5 w6 g x0 x1 x2 x3 x4) := (by obtain ⟨_, _, _, _, _, hh⟩ := FG.out; exact ⟨_, _, _, _, _, hh.keep hk hgc⟩); have FS : Hid (F5 w6 w.heap.size 0 0 0 0 0) := FS.out.keep hk hsc; have FT : Hid (F5 w6 (w.heap.size + 1) 0 0 0 0 0) := FT.out.keep hk htc; clear hc hk hx2)
      | (go_at_call 13; (with_reducible refine (pka CU.out).mono ?_); rintro e w7 ⟨px, rfl, hc, hk⟩; have B5 : Below w0.heap.size w7 (w7.setCell ⟨g, 2, none⟩ (.int .i64 px)) := (Below.refl _ _).setCell (p := ⟨g, 2, none⟩) hg1 _; have CU : Hid (Cu (w7.setCell ⟨g, 2, none⟩ (.int .i64 px)) c a len cap) := HC0.out.grow hc (KE.out.trans hk) B5; have FS : Hid (F5 (w7.setCell ⟨g, 2, none⟩ (.int .i64 px)) w.heap.size 0 0 0 0 0) := (FS.out.keep hk hsc).other hsg _ _; have FT : Hid (F5 (w7.setCell ⟨g, 2, none⟩ (.int .i64 px)) (w.heap.size + 1) 0 0 0 0 0) := (FT.out.keep hk htc).other htg _ _; obtain ⟨_, _, _, _, _, hh⟩ := FG.out; have hh2 := hh.keep hk hgc; have FG : Hid (∃ x0 x1 x2 x3 x4, F5 (w7.setCell ⟨g, 2, none⟩ (.int .i64 px)) g x0 x1 x2 x3 x4) := ⟨_, _, _, _, _, hh2.put2 px⟩; have KE : Hid (Keep c w0 (w7.setCell ⟨g, 2, none⟩ (.int .i64 px))) := (KE.out.trans hk).below B5; have t2 := hh2.c2; have v2 := hh2.z2; clear hc hk hh hh2 B5)
      | (go_at_call 13; (with_reducible refine (pkb CU.out).mono ?_); rintro e w8 ⟨px, rfl, hc, hk⟩; have B5 : Below w0.heap.size w8 (w8.setCell ⟨g, 4, none⟩ (.int .i64 px)) := (Below.refl _ _).setCell (p := ⟨g, 4, none⟩) hg1 _; have CU : Hid (Cu (w8.setCell ⟨g, 4, none⟩ (.int .i64 px)) c a len cap) := HC0.out.grow hc (KE.out.trans hk) B5; have FS : Hid (F5 (w8.setCell ⟨g, 4, none⟩ (.int .i64 px)) w.heap.size 0 0 0 0 0) := (FS.out.keep hk hsc).other hsg _ _; have FT : Hid (F5 (w8.setCell ⟨g, 4, none⟩ (.int .i64 px)) (w.heap.size + 1) 0 0 0 0 0) := (FT.out.keep hk htc).other htg _ _; obtain ⟨_, _, _, _, _, hh⟩ := FG.out; have hh2 := hh.keep hk hgc; have FG : Hid (∃ x0 x1 x2 x3 x4, F5 (w8.setCell ⟨g, 4, none⟩ (.int .i64 px)) g x0 x1 x2 x3 x4) := ⟨_, _, _, _, _, hh2.put4 px⟩; have KE : Hid (Keep c w0 (w8.setCell ⟨g, 4, none⟩ (.int .i64 px))) := (KE.out.trans hk).below B5; have t4 := hh2.c4; have v4 := hh2.z4; clear hc hk hh hh2 B5))
    · generalize (w7.setCell ⟨g, 2, none⟩ (.int .i64 px)) = V at *
      obtain ⟨y0, y1, y2, y3, y4, hG⟩ := FG.out
      have CUd : Hid (Cu V.drew c a len cap) := CU.out.call (Below.refl _ _).drew
      have KEd : Hid (Keep c w0 V.drew) := KE.out.call (Below.refl _ _).drew
      have FSd : Hid (F5 V.drew w.heap.size 0 0 0 0 0) := FS.out.call (Below.refl _ _).drew
      have FTd : Hid (F5 V.drew (w.heap.size + 1) 0 0 0 0 0) := FT.out.call (Below.refl _ _).drew
      have l0 : F5 V.drew g y0 y1 y2 y3 y4 := hG.call (Below.refl _ _).drew
      clear CU KE FS FT FG hG
      refine wp_region_any (by kernel_rfl) ?_
      change wpAny _ _ _ _ _ _ _ (World.drew _)
      refine wpI_any (I := fun X => F5 X g y0 y1 y2 y3 y4) _ _ _ _ ?_
      refine wpI_take (i := 0) (v := ?_) rfl (by kernel_rfl) (by kernel_rfl) (by kernel_rfl) (fun _ _ _ h => h) ⟨by rfl, ?_⟩ ?_
      rotate_left
      · intro X hI; go_simp; try go_bits
        try rw [if_pos (by omega)]
        try with_reducible rfl
      refine wpI_take (i := 2) (v := ?_) rfl (by kernel_rfl) (by kernel_rfl) (by kernel_rfl) (fun _ _ _ h => h) ⟨by rfl, ?_⟩ ?_
      rotate_left
      · intro X hI; obtain ⟨q0, q1, q2, q3, q4, _, _, _, _, _⟩ := hI; go_simp; try go_bits
        try rw [if_pos (by omega)]
        try with_reducible rfl
      refine wpI_take (i := 3) (v := ?_) rfl (by kernel_rfl) (by kernel_rfl) (by kernel_rfl) (fun _ _ _ h => h) ⟨by rfl, ?_⟩ ?_
      rotate_left
      · intro X hI; go_simp; try go_bits
        try rw [if_pos (by omega)]
        try with_reducible rfl
      refine wpI_take (i := 4) (v := ?_) rfl (by kernel_rfl) (by kernel_rfl) (by kernel_rfl) (fun _ _ _ h => h) ⟨by rfl, ?_⟩ ?_
      rotate_left
      · intro X hI; go_simp; try go_bits
        try rw [if_pos (by omega)]
        try with_reducible rfl
      refine wpI_only (i := 1) rfl (by kernel_rfl) l0 (by rfl) ?_
      intro K hK
      go_simp
      go_wp2_with (go_at_call 14; refine (dsec_x CUd.out).mono ?_; rintro e x1 ⟨s, rfl, hc, hk⟩; have CU1 : Hid (Cu x1 c a len cap) := hc; have KE1 : Hid (Keep c w0 x1) := KEd.out.trans hk; have FS1 : Hid (F5 x1 w.heap.size 0 0 0 0 0) := FSd.out.keep hk hsc; have FT1 : Hid (F5 x1 (w.heap.size + 1) 0 0 0 0 0) := FTd.out.keep hk htc; have l1 := l0.keep hk hgc; clear hc hk)
      refine wpI_only (i := 5) rfl (by kernel_rfl) l1 (by rfl) ?_
      intro K hK
      go_simp
      go_wp2_with (go_at_call 16; refine (size_x a len cap 30 hl).mono ?_; rintro e w' ⟨z, rfl, hz5, _, hz6, hw⟩; obtain rfl := hw.symm; have hz7 := hz6 (by omega); clear hz6)
      refine wpI_only (i := 6) rfl (by kernel_rfl) l1 (by rfl) ?_
      intro K hK
      go_simp
      go_wp2_with (go_at_call 15; refine (dsm_x CU1.out z (by omega)).mono ?_; rintro e x2 ⟨v, n, ys, rfl, hn, hI2, hc, hk⟩; have CU2 : Hid (Cu x2 c a len cap) := hc; have KE2 : Hid (Keep c w0 x2) := KE1.out.trans hk; have FS2 : Hid (F5 x2 w.heap.size 0 0 0 0 0) := FS1.out.keep hk hsc; have FT2 : Hid (F5 x2 (w.heap.size + 1) 0 0 0 0 0) := FT1.out.keep hk htc; have l2 := l1.keep hk hgc; have OV : Hid (n ≤ 64 ∧ x2.ownsRow x1.heap.size 3 1 v n (ils ys n)) := ⟨hn, hI2⟩; have S1 : Hid (w0.heap.size ≤ x1.heap.size) := KE1.out.size; clear hc hk hI2 hn)
      have Z1 := set_fin (y0 := s.b0) (y1 := s.b1) (y2 := s.b2) (y3 := s.a1) (y4 := s.a2) FS2.out
      have FT3 := FT2.out.kd Z1.2.2 (show w.heap.size + 1 ≠ w.heap.size by omega)
      have Z2 := set_fin (y0 := y0) (y1 := y1) (y2 := y2) (y3 := y3) (y4 := y4) FT3
      have FS3 := Z1.1.kd Z2.2.2 (show w.heap.size ≠ w.heap.size + 1 by omega)
      have l3 := l2.kd Z1.2.2 (Ne.symm hsg)
      have l4 := l3.kd Z2.2.2 (Ne.symm htg)
      have OV3 : Hid (n ≤ 64 ∧ Il ((((((((((x2.setCell ⟨w.heap.size, 0, none⟩ (.int .i64 s.b0)).setCell ⟨w.heap.size, 1, none⟩ (.int .i64 s.b1)).setCell ⟨w.heap.size, 2, none⟩ (.int .i64 s.b2)).setCell ⟨w.heap.size, 3, none⟩ (.int .i64 s.a1)).setCell ⟨w.heap.size, 4, none⟩ (.int .i64 s.a2)).setCell ⟨(w.heap.size + 1), 0, none⟩ (.int .i64 y0)).setCell ⟨(w.heap.size + 1), 1, none⟩ (.int .i64 y1)).setCell ⟨(w.heap.size + 1), 2, none⟩ (.int .i64 y2)).setCell ⟨(w.heap.size + 1), 3, none⟩ (.int .i64 y3)).setCell ⟨(w.heap.size + 1), 4, none⟩ (.int .i64 y4)) v n ys) := ⟨OV.out.1, il_of_own (own_kd2 OV.out.2 Z1.2.2 Z2.2.2 (by have := S1.out; have := HCD.out; omega) (by have := S1.out; have := HCD.out; omega))⟩
      have BE : Hid (Below w.heap.size w ((((((((((x2.setCell ⟨w.heap.size, 0, none⟩ (.int .i64 s.b0)).setCell ⟨w.heap.size, 1, none⟩ (.int .i64 s.b1)).setCell ⟨w.heap.size, 2, none⟩ (.int .i64 s.b2)).setCell ⟨w.heap.size, 3, none⟩ (.int .i64 s.a1)).setCell ⟨w.heap.size, 4, none⟩ (.int .i64 s.a2)).setCell ⟨(w.heap.size + 1), 0, none⟩ (.int .i64 y0)).setCell ⟨(w.heap.size + 1), 1, none⟩ (.int .i64 y1)).setCell ⟨(w.heap.size + 1), 2, none⟩ (.int .i64 y2)).setCell ⟨(w.heap.size + 1), 3, none⟩ (.int .i64 y3)).setCell ⟨(w.heap.size + 1), 4, none⟩ (.int .i64 y4))) := (Below.keep BW0.out KE2.out (by have := HCD.out; omega)).trans (Z1.2.1.trans (Z2.2.1.mono (Nat.le_succ _)))
      have HF : Hid (F5 ((((((((((x2.setCell ⟨w.heap.size, 0, none⟩ (.int .i64 s.b0)).setCell ⟨w.heap.size, 1, none⟩ (.int .i64 s.b1)).setCell ⟨w.heap.size, 2, none⟩ (.int .i64 s.b2)).setCell ⟨w.heap.size, 3, none⟩ (.int .i64 s.a1)).setCell ⟨w.heap.size, 4, none⟩ (.int .i64 s.a2)).setCell ⟨(w.heap.size + 1), 0, none⟩ (.int .i64 y0)).setCell ⟨(w.heap.size + 1), 1, none⟩ (.int .i64 y1)).setCell ⟨(w.heap.size + 1), 2, none⟩ (.int .i64 y2)).setCell ⟨(w.heap.size + 1), 3, none⟩ (.int .i64 y3)).setCell ⟨(w.heap.size + 1), 4, none⟩ (.int .i64 y4)) w.heap.size s.b0 s.b1 s.b2 s.a1 s.a2 ∧ F5 ((((((((((x2.setCell ⟨w.heap.size, 0, none⟩ (.int .i64 s.b0)).setCell ⟨w.heap.size, 1, none⟩ (.int .i64 s.b1)).setCell ⟨w.heap.size, 2, none⟩ (.int .i64 s.b2)).setCell ⟨w.heap.size, 3, none⟩ (.int .i64 s.a1)).setCell ⟨w.heap.size, 4, none⟩ (.int .i64 s.a2)).setCell ⟨(w.heap.size + 1), 0, none⟩ (.int .i64 y0)).setCell ⟨(w.heap.size + 1), 1, none⟩ (.int .i64 y1)).setCell ⟨(w.heap.size + 1), 2, none⟩ (.int .i64 y2)).setCell ⟨(w.heap.size + 1), 3, none⟩ (.int .i64 y3)).setCell ⟨(w.heap.size + 1), 4, none⟩ (.int .i64 y4)) (w.heap.size + 1) y0 y1 y2 y3 y4) := ⟨FS3, Z2.1⟩
      obtain ⟨d0, d1, d2, d3, d4, e0, e1, e2, e3, e4⟩ := FS2.out
      refine wpI_only (i := 7) rfl (by kernel_rfl) l2 (by rfl) ?_
      intro K hK
      go_simp
      try go_bits
      refine hK _ _ ?_
      clear d0 d1 d2 d3 d4 e0 e1 e2 e3 e4
      obtain ⟨d0, d1, d2, d3, d4, e0, e1, e2, e3, e4⟩ := FT3
      refine wpI_only (i := 8) rfl (by kernel_rfl) l3 (by rfl) ?_
      intro K hK
      go_simp
      try go_bits
      refine hK _ _ ?_
      refine wpI_only (i := 9) rfl (by kernel_rfl) l4 (by rfl) ?_
      intro K hK
      go_simp
      try go_bits
      refine hK _ _ ?_
      refine wpI_done l4 (by kernel_rfl) ?_ _
      clear d0 d1 d2 d3 d4 e0 e1 e2 e3 e4
      obtain ⟨⟨i0, i1, i2, i3, i4, _, _, _, _, _⟩, ⟨j0, j1, j2, j3, j4, _, _, _, _, _⟩⟩ := HF.out
      go_wp2
      refine bodyPost_ret (v := .tuple #[s.v, (⟨y0, y1, y2, y3, y4⟩ : Pa).v, v]) (by simp [results, Try.results5, go_sem, i0, i1, i2, i3, i4, j0, j1, j2, j3, j4]) rfl ?_
      exact ⟨s, ⟨y0, y1, y2, y3, y4⟩, v, rfl, ⟨n, ys, OV3.out⟩, BE.out⟩
    · generalize (w8.setCell ⟨g, 4, none⟩ (.int .i64 px)) = V at *
      obtain ⟨y0, y1, y2, y3, y4, hG⟩ := FG.out
      have CUd : Hid (Cu V.drew c a len cap) := CU.out.call (Below.refl _ _).drew
      have KEd : Hid (Keep c w0 V.drew) := KE.out.call (Below.refl _ _).drew
      have FSd : Hid (F5 V.drew w.heap.size 0 0 0 0 0) := FS.out.call (Below.refl _ _).drew
      have FTd : Hid (F5 V.drew (w.heap.size + 1) 0 0 0 0 0) := FT.out.call (Below.refl _ _).drew
      have l0 : F5 V.drew g y0 y1 y2 y3 y4 := hG.call (Below.refl _ _).drew
      clear CU KE FS FT FG hG
      refine wp_region_any (by kernel_rfl) ?_
      change wpAny _ _ _ _ _ _ _ (World.drew _)
      refine wpI_any (I := fun X => F5 X g y0 y1 y2 y3 y4) _ _ _ _ ?_
      refine wpI_take (i := 0) (v := ?_) rfl (by kernel_rfl) (by kernel_rfl) (by kernel_rfl) (fun _ _ _ h => h) ⟨by rfl, ?_⟩ ?_
      rotate_left
      · intro X hI; go_simp; try go_bits
        try rw [if_pos (by omega)]
        try with_reducible rfl
      refine wpI_take (i := 2) (v := ?_) rfl (by kernel_rfl) (by kernel_rfl) (by kernel_rfl) (fun _ _ _ h => h) ⟨by rfl, ?_⟩ ?_
      rotate_left
      · intro X hI; obtain ⟨q0, q1, q2, q3, q4, _, _, _, _, _⟩ := hI; go_simp; try go_bits
        try rw [if_pos (by omega)]
        try with_reducible rfl
      refine wpI_take (i := 3) (v := ?_) rfl (by kernel_rfl) (by kernel_rfl) (by kernel_rfl) (fun _ _ _ h => h) ⟨by rfl, ?_⟩ ?_
      rotate_left
      · intro X hI; go_simp; try go_bits
        try rw [if_pos (by omega)]
        try with_reducible rfl
      refine wpI_take (i := 4) (v := ?_) rfl (by kernel_rfl) (by kernel_rfl) (by kernel_rfl) (fun _ _ _ h => h) ⟨by rfl, ?_⟩ ?_
      rotate_left
      · intro X hI; go_simp; try go_bits
        try rw [if_pos (by omega)]
        try with_reducible rfl
      refine wpI_only (i := 1) rfl (by kernel_rfl) l0 (by rfl) ?_
      intro K hK
      go_simp
      go_wp2_with (go_at_call 14; refine (dsec_x CUd.out).mono ?_; rintro e x1 ⟨s, rfl, hc, hk⟩; have CU1 : Hid (Cu x1 c a len cap) := hc; have KE1 : Hid (Keep c w0 x1) := KEd.out.trans hk; have FS1 : Hid (F5 x1 w.heap.size 0 0 0 0 0) := FSd.out.keep hk hsc; have FT1 : Hid (F5 x1 (w.heap.size + 1) 0 0 0 0 0) := FTd.out.keep hk htc; have l1 := l0.keep hk hgc; clear hc hk)
      refine wpI_only (i := 5) rfl (by kernel_rfl) l1 (by rfl) ?_
      intro K hK
      go_simp
      go_wp2_with (go_at_call 16; refine (size_x a len cap 30 hl).mono ?_; rintro e w' ⟨z, rfl, hz5, _, hz6, hw⟩; obtain rfl := hw.symm; have hz7 := hz6 (by omega); clear hz6)
      refine wpI_only (i := 6) rfl (by kernel_rfl) l1 (by rfl) ?_
      intro K hK
      go_simp
      go_wp2_with (go_at_call 15; refine (dsm_x CU1.out z (by omega)).mono ?_; rintro e x2 ⟨v, n, ys, rfl, hn, hI2, hc, hk⟩; have CU2 : Hid (Cu x2 c a len cap) := hc; have KE2 : Hid (Keep c w0 x2) := KE1.out.trans hk; have FS2 : Hid (F5 x2 w.heap.size 0 0 0 0 0) := FS1.out.keep hk hsc; have FT2 : Hid (F5 x2 (w.heap.size + 1) 0 0 0 0 0) := FT1.out.keep hk htc; have l2 := l1.keep hk hgc; have OV : Hid (n ≤ 64 ∧ x2.ownsRow x1.heap.size 3 1 v n (ils ys n)) := ⟨hn, hI2⟩; have S1 : Hid (w0.heap.size ≤ x1.heap.size) := KE1.out.size; clear hc hk hI2 hn)
      have Z1 := set_fin (y0 := s.b0) (y1 := s.b1) (y2 := s.b2) (y3 := s.a1) (y4 := s.a2) FS2.out
      have FT3 := FT2.out.kd Z1.2.2 (show w.heap.size + 1 ≠ w.heap.size by omega)
      have Z2 := set_fin (y0 := y0) (y1 := y1) (y2 := y2) (y3 := y3) (y4 := y4) FT3
      have FS3 := Z1.1.kd Z2.2.2 (show w.heap.size ≠ w.heap.size + 1 by omega)
      have l3 := l2.kd Z1.2.2 (Ne.symm hsg)
      have l4 := l3.kd Z2.2.2 (Ne.symm htg)
      have OV3 : Hid (n ≤ 64 ∧ Il ((((((((((x2.setCell ⟨w.heap.size, 0, none⟩ (.int .i64 s.b0)).setCell ⟨w.heap.size, 1, none⟩ (.int .i64 s.b1)).setCell ⟨w.heap.size, 2, none⟩ (.int .i64 s.b2)).setCell ⟨w.heap.size, 3, none⟩ (.int .i64 s.a1)).setCell ⟨w.heap.size, 4, none⟩ (.int .i64 s.a2)).setCell ⟨(w.heap.size + 1), 0, none⟩ (.int .i64 y0)).setCell ⟨(w.heap.size + 1), 1, none⟩ (.int .i64 y1)).setCell ⟨(w.heap.size + 1), 2, none⟩ (.int .i64 y2)).setCell ⟨(w.heap.size + 1), 3, none⟩ (.int .i64 y3)).setCell ⟨(w.heap.size + 1), 4, none⟩ (.int .i64 y4)) v n ys) := ⟨OV.out.1, il_of_own (own_kd2 OV.out.2 Z1.2.2 Z2.2.2 (by have := S1.out; have := HCD.out; omega) (by have := S1.out; have := HCD.out; omega))⟩
      have BE : Hid (Below w.heap.size w ((((((((((x2.setCell ⟨w.heap.size, 0, none⟩ (.int .i64 s.b0)).setCell ⟨w.heap.size, 1, none⟩ (.int .i64 s.b1)).setCell ⟨w.heap.size, 2, none⟩ (.int .i64 s.b2)).setCell ⟨w.heap.size, 3, none⟩ (.int .i64 s.a1)).setCell ⟨w.heap.size, 4, none⟩ (.int .i64 s.a2)).setCell ⟨(w.heap.size + 1), 0, none⟩ (.int .i64 y0)).setCell ⟨(w.heap.size + 1), 1, none⟩ (.int .i64 y1)).setCell ⟨(w.heap.size + 1), 2, none⟩ (.int .i64 y2)).setCell ⟨(w.heap.size + 1), 3, none⟩ (.int .i64 y3)).setCell ⟨(w.heap.size + 1), 4, none⟩ (.int .i64 y4))) := (Below.keep BW0.out KE2.out (by have := HCD.out; omega)).trans (Z1.2.1.trans (Z2.2.1.mono (Nat.le_succ _)))
      have HF : Hid (F5 ((((((((((x2.setCell ⟨w.heap.size, 0, none⟩ (.int .i64 s.b0)).setCell ⟨w.heap.size, 1, none⟩ (.int .i64 s.b1)).setCell ⟨w.heap.size, 2, none⟩ (.int .i64 s.b2)).setCell ⟨w.heap.size, 3, none⟩ (.int .i64 s.a1)).setCell ⟨w.heap.size, 4, none⟩ (.int .i64 s.a2)).setCell ⟨(w.heap.size + 1), 0, none⟩ (.int .i64 y0)).setCell ⟨(w.heap.size + 1), 1, none⟩ (.int .i64 y1)).setCell ⟨(w.heap.size + 1), 2, none⟩ (.int .i64 y2)).setCell ⟨(w.heap.size + 1), 3, none⟩ (.int .i64 y3)).setCell ⟨(w.heap.size + 1), 4, none⟩ (.int .i64 y4)) w.heap.size s.b0 s.b1 s.b2 s.a1 s.a2 ∧ F5 ((((((((((x2.setCell ⟨w.heap.size, 0, none⟩ (.int .i64 s.b0)).setCell ⟨w.heap.size, 1, none⟩ (.int .i64 s.b1)).setCell ⟨w.heap.size, 2, none⟩ (.int .i64 s.b2)).setCell ⟨w.heap.size, 3, none⟩ (.int .i64 s.a1)).setCell ⟨w.heap.size, 4, none⟩ (.int .i64 s.a2)).setCell ⟨(w.heap.size + 1), 0, none⟩ (.int .i64 y0)).setCell ⟨(w.heap.size + 1), 1, none⟩ (.int .i64 y1)).setCell ⟨(w.heap.size + 1), 2, none⟩ (.int .i64 y2)).setCell ⟨(w.heap.size + 1), 3, none⟩ (.int .i64 y3)).setCell ⟨(w.heap.size + 1), 4, none⟩ (.int .i64 y4)) (w.heap.size + 1) y0 y1 y2 y3 y4) := ⟨FS3, Z2.1⟩
      obtain ⟨d0, d1, d2, d3, d4, e0, e1, e2, e3, e4⟩ := FS2.out
      refine wpI_only (i := 7) rfl (by kernel_rfl) l2 (by rfl) ?_
      intro K hK
      go_simp
      try go_bits
      refine hK _ _ ?_
      clear d0 d1 d2 d3 d4 e0 e1 e2 e3 e4
      obtain ⟨d0, d1, d2, d3, d4, e0, e1, e2, e3, e4⟩ := FT3
      refine wpI_only (i := 8) rfl (by kernel_rfl) l3 (by rfl) ?_
      intro K hK
      go_simp
      try go_bits
      refine hK _ _ ?_
      refine wpI_only (i := 9) rfl (by kernel_rfl) l4 (by rfl) ?_
      intro K hK
      go_simp
      try go_bits
      refine hK _ _ ?_
      refine wpI_done l4 (by kernel_rfl) ?_ _
      clear d0 d1 d2 d3 d4 e0 e1 e2 e3 e4
      obtain ⟨⟨i0, i1, i2, i3, i4, _, _, _, _, _⟩, ⟨j0, j1, j2, j3, j4, _, _, _, _, _⟩⟩ := HF.out
      go_wp2
      refine bodyPost_ret (v := .tuple #[s.v, (⟨y0, y1, y2, y3, y4⟩ : Pa).v, v]) (by simp [results, Try.results5, go_sem, i0, i1, i2, i3, i4, j0, j1, j2, j3, j4]) rfl ?_
      exact ⟨s, ⟨y0, y1, y2, y3, y4⟩, v, rfl, ⟨n, ys, OV3.out⟩, BE.out⟩
    · generalize w6 = V at *
      obtain ⟨y0, y1, y2, y3, y4, hG⟩ := FG.out
      have CUd : Hid (Cu V.drew c a len cap) := CU.out.call (Below.refl _ _).drew
      have KEd : Hid (Keep c w0 V.drew) := KE.out.call (Below.refl _ _).drew
      have FSd : Hid (F5 V.drew w.heap.size 0 0 0 0 0) := FS.out.call (Below.refl _ _).drew
      have FTd : Hid (F5 V.drew (w.heap.size + 1) 0 0 0 0 0) := FT.out.call (Below.refl _ _).drew
      have l0 : F5 V.drew g y0 y1 y2 y3 y4 := hG.call (Below.refl _ _).drew
      clear CU KE FS FT FG hG
      refine wp_region_any (by kernel_rfl) ?_
      change wpAny _ _ _ _ _ _ _ (World.drew _)
      refine wpI_any (I := fun X => F5 X g y0 y1 y2 y3 y4) _ _ _ _ ?_
      refine wpI_take (i := 0) (v := ?_) rfl (by kernel_rfl) (by kernel_rfl) (by kernel_rfl) (fun _ _ _ h => h) ⟨by rfl, ?_⟩ ?_
      rotate_left
      · intro X hI; go_simp; try go_bits
        try rw [if_pos (by omega)]
        try with_reducible rfl
      refine wpI_take (i := 2) (v := ?_) rfl (by kernel_rfl) (by kernel_rfl) (by kernel_rfl) (fun _ _ _ h => h) ⟨by rfl, ?_⟩ ?_
      rotate_left
      · intro X hI; obtain ⟨q0, q1, q2, q3, q4, _, _, _, _, _⟩ := hI; go_simp; try go_bits
        try rw [if_pos (by omega)]
        try with_reducible rfl
      refine wpI_take (i := 3) (v := ?_) rfl (by kernel_rfl) (by kernel_rfl) (by kernel_rfl) (fun _ _ _ h => h) ⟨by rfl, ?_⟩ ?_
      rotate_left
      · intro X hI; go_simp; try go_bits
        try rw [if_pos (by omega)]
        try with_reducible rfl
      refine wpI_take (i := 4) (v := ?_) rfl (by kernel_rfl) (by kernel_rfl) (by kernel_rfl) (fun _ _ _ h => h) ⟨by rfl, ?_⟩ ?_
      rotate_left
      · intro X hI; go_simp; try go_bits
        try rw [if_pos (by omega)]
        try with_reducible rfl
      refine wpI_only (i := 1) rfl (by kernel_rfl) l0 (by rfl) ?_
      intro K hK
      go_simp
      go_wp2_with (go_at_call 14; refine (dsec_x CUd.out).mono ?_; rintro e x1 ⟨s, rfl, hc, hk⟩; have CU1 : Hid (Cu x1 c a len cap) := hc; have KE1 : Hid (Keep c w0 x1) := KEd.out.trans hk; have FS1 : Hid (F5 x1 w.heap.size 0 0 0 0 0) := FSd.out.keep hk hsc; have FT1 : Hid (F5 x1 (w.heap.size + 1) 0 0 0 0 0) := FTd.out.keep hk htc; have l1 := l0.keep hk hgc; clear hc hk)
      refine wpI_only (i := 5) rfl (by kernel_rfl) l1 (by rfl) ?_
      intro K hK
      go_simp
      go_wp2_with (go_at_call 16; refine (size_x a len cap 30 hl).mono ?_; rintro e w' ⟨z, rfl, hz5, _, hz6, hw⟩; obtain rfl := hw.symm; have hz7 := hz6 (by omega); clear hz6)
      refine wpI_only (i := 6) rfl (by kernel_rfl) l1 (by rfl) ?_
      intro K hK
      go_simp
      go_wp2_with (go_at_call 15; refine (dsm_x CU1.out z (by omega)).mono ?_; rintro e x2 ⟨v, n, ys, rfl, hn, hI2, hc, hk⟩; have CU2 : Hid (Cu x2 c a len cap) := hc; have KE2 : Hid (Keep c w0 x2) := KE1.out.trans hk; have FS2 : Hid (F5 x2 w.heap.size 0 0 0 0 0) := FS1.out.keep hk hsc; have FT2 : Hid (F5 x2 (w.heap.size + 1) 0 0 0 0 0) := FT1.out.keep hk htc; have l2 := l1.keep hk hgc; have OV : Hid (n ≤ 64 ∧ x2.ownsRow x1.heap.size 3 1 v n (ils ys n)) := ⟨hn, hI2⟩; have S1 : Hid (w0.heap.size ≤ x1.heap.size) := KE1.out.size; clear hc hk hI2 hn)
      have Z1 := set_fin (y0 := s.b0) (y1 := s.b1) (y2 := s.b2) (y3 := s.a1) (y4 := s.a2) FS2.out
      have FT3 := FT2.out.kd Z1.2.2 (show w.heap.size + 1 ≠ w.heap.size by omega)
      have Z2 := set_fin (y0 := y0) (y1 := y1) (y2 := y2) (y3 := y3) (y4 := y4) FT3
      have FS3 := Z1.1.kd Z2.2.2 (show w.heap.size ≠ w.heap.size + 1 by omega)
      have l3 := l2.kd Z1.2.2 (Ne.symm hsg)
      have l4 := l3.kd Z2.2.2 (Ne.symm htg)
      have OV3 : Hid (n ≤ 64 ∧ Il ((((((((((x2.setCell ⟨w.heap.size, 0, none⟩ (.int .i64 s.b0)).setCell ⟨w.heap.size, 1, none⟩ (.int .i64 s.b1)).setCell ⟨w.heap.size, 2, none⟩ (.int .i64 s.b2)).setCell ⟨w.heap.size, 3, none⟩ (.int .i64 s.a1)).setCell ⟨w.heap.size, 4, none⟩ (.int .i64 s.a2)).setCell ⟨(w.heap.size + 1), 0, none⟩ (.int .i64 y0)).setCell ⟨(w.heap.size + 1), 1, none⟩ (.int .i64 y1)).setCell ⟨(w.heap.size + 1), 2, none⟩ (.int .i64 y2)).setCell ⟨(w.heap.size + 1), 3, none⟩ (.int .i64 y3)).setCell ⟨(w.heap.size + 1), 4, none⟩ (.int .i64 y4)) v n ys) := ⟨OV.out.1, il_of_own (own_kd2 OV.out.2 Z1.2.2 Z2.2.2 (by have := S1.out; have := HCD.out; omega) (by have := S1.out; have := HCD.out; omega))⟩
      have BE : Hid (Below w.heap.size w ((((((((((x2.setCell ⟨w.heap.size, 0, none⟩ (.int .i64 s.b0)).setCell ⟨w.heap.size, 1, none⟩ (.int .i64 s.b1)).setCell ⟨w.heap.size, 2, none⟩ (.int .i64 s.b2)).setCell ⟨w.heap.size, 3, none⟩ (.int .i64 s.a1)).setCell ⟨w.heap.size, 4, none⟩ (.int .i64 s.a2)).setCell ⟨(w.heap.size + 1), 0, none⟩ (.int .i64 y0)).setCell ⟨(w.heap.size + 1), 1, none⟩ (.int .i64 y1)).setCell ⟨(w.heap.size + 1), 2, none⟩ (.int .i64 y2)).setCell ⟨(w.heap.size + 1), 3, none⟩ (.int .i64 y3)).setCell ⟨(w.heap.size + 1), 4, none⟩ (.int .i64 y4))) := (Below.keep BW0.out KE2.out (by have := HCD.out; omega)).trans (Z1.2.1.trans (Z2.2.1.mono (Nat.le_succ _)))
      have HF : Hid (F5 ((((((((((x2.setCell ⟨w.heap.size, 0, none⟩ (.int .i64 s.b0)).setCell ⟨w.heap.size, 1, none⟩ (.int .i64 s.b1)).setCell ⟨w.heap.size, 2, none⟩ (.int .i64 s.b2)).setCell ⟨w.heap.size, 3, none⟩ (.int .i64 s.a1)).setCell ⟨w.heap.size, 4, none⟩ (.int .i64 s.a2)).setCell ⟨(w.heap.size + 1), 0, none⟩ (.int .i64 y0)).setCell ⟨(w.heap.size + 1), 1, none⟩ (.int .i64 y1)).setCell ⟨(w.heap.size + 1), 2, none⟩ (.int .i64 y2)).setCell ⟨(w.heap.size + 1), 3, none⟩ (.int .i64 y3)).setCell ⟨(w.heap.size + 1), 4, none⟩ (.int .i64 y4)) w.heap.size s.b0 s.b1 s.b2 s.a1 s.a2 ∧ F5 ((((((((((x2.setCell ⟨w.heap.size, 0, none⟩ (.int .i64 s.b0)).setCell ⟨w.heap.size, 1, none⟩ (.int .i64 s.b1)).setCell ⟨w.heap.size, 2, none⟩ (.int .i64 s.b2)).setCell ⟨w.heap.size, 3, none⟩ (.int .i64 s.a1)).setCell ⟨w.heap.size, 4, none⟩ (.int .i64 s.a2)).setCell ⟨(w.heap.size + 1), 0, none⟩ (.int .i64 y0)).setCell ⟨(w.heap.size + 1), 1, none⟩ (.int .i64 y1)).setCell ⟨(w.heap.size + 1), 2, none⟩ (.int .i64 y2)).setCell ⟨(w.heap.size + 1), 3, none⟩ (.int .i64 y3)).setCell ⟨(w.heap.size + 1), 4, none⟩ (.int .i64 y4)) (w.heap.size + 1) y0 y1 y2 y3 y4) := ⟨FS3, Z2.1⟩
      obtain ⟨d0, d1, d2, d3, d4, e0, e1, e2, e3, e4⟩ := FS2.out
      refine wpI_only (i := 7) rfl (by kernel_rfl) l2 (by rfl) ?_
      intro K hK
      go_simp
      try go_bits
      refine hK _ _ ?_
      clear d0 d1 d2 d3 d4 e0 e1 e2 e3 e4
      obtain ⟨d0, d1, d2, d3, d4, e0, e1, e2, e3, e4⟩ := FT3
      refine wpI_only (i := 8) rfl (by kernel_rfl) l3 (by rfl) ?_
      intro K hK
      go_simp
      try go_bits
      refine hK _ _ ?_
      refine wpI_only (i := 9) rfl (by kernel_rfl) l4 (by rfl) ?_
      intro K hK
      go_simp
      try go_bits
      refine hK _ _ ?_
      refine wpI_done l4 (by kernel_rfl) ?_ _
      clear d0 d1 d2 d3 d4 e0 e1 e2 e3 e4
      obtain ⟨⟨i0, i1, i2, i3, i4, _, _, _, _, _⟩, ⟨j0, j1, j2, j3, j4, _, _, _, _, _⟩⟩ := HF.out
      go_wp2
      refine bodyPost_ret (v := .tuple #[s.v, (⟨y0, y1, y2, y3, y4⟩ : Pa).v, v]) (by simp [results, Try.results5, go_sem, i0, i1, i2, i3, i4, j0, j1, j2, j3, j4]) rfl ?_
      exact ⟨s, ⟨y0, y1, y2, y3, y4⟩, v, rfl, ⟨n, ys, OV3.out⟩, BE.out⟩
end Go.Proofs.Ytjngkpmkeehpeaa
