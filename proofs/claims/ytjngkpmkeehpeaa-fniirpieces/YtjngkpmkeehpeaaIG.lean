/- FnIirPieces: a section drawn. -/
import Derived.Test.YtjngkpmkeehpeaaIC
import Derived.Test.YtjngkpmkeehpeaaGA
import Derived.Deep.Cut
namespace Go.Proofs.Ytjngkpmkeehpeaa
open Go.RowKit

/-- A struct of five ints in a block of its own. -/
structure F5 (W : World) (g : Nat) (a b c d e : Int) : Prop where
  c0 : W.cell? ⟨g, 0, none⟩ = some (.int .i64 a)
  c1 : W.cell? ⟨g, 1, none⟩ = some (.int .i64 b)
  c2 : W.cell? ⟨g, 2, none⟩ = some (.int .i64 c)
  c3 : W.cell? ⟨g, 3, none⟩ = some (.int .i64 d)
  c4 : W.cell? ⟨g, 4, none⟩ = some (.int .i64 e)
  z0 : W.frozen? ⟨g, 0, none⟩ = false
  z1 : W.frozen? ⟨g, 1, none⟩ = false
  z2 : W.frozen? ⟨g, 2, none⟩ = false
  z3 : W.frozen? ⟨g, 3, none⟩ = false
  z4 : W.frozen? ⟨g, 4, none⟩ = false

theorem F5.lt {W : World} {g : Nat} {a b c d e : Int} (h : F5 W g a b c d e) : g < W.heap.size := World.block_lt_of_cell? W _ h.c0

theorem F5.new (w : World) (a b c d e : Int) (t : TypeId) : F5 (w.alloc (.cells #[.int .i64 a, .int .i64 b, .int .i64 c, .int .i64 d, .int .i64 e] t)) w.heap.size a b c d e := ⟨by simp, by simp, by simp, by simp, by simp, by simp, by simp, by simp, by simp, by simp⟩

theorem F5.block {W W' : World} {g : Nat} {a b c d e : Int} (h : F5 W g a b c d e) (q : W'.heap[g]? = W.heap[g]?) : F5 W' g a b c d e :=
  ⟨(World.cell?_of_block (w := W) q).trans h.c0, (World.cell?_of_block (w := W) q).trans h.c1, (World.cell?_of_block (w := W) q).trans h.c2, (World.cell?_of_block (w := W) q).trans h.c3, (World.cell?_of_block (w := W) q).trans h.c4, (World.frozen?_of_block (w := W) q).trans h.z0, (World.frozen?_of_block (w := W) q).trans h.z1, (World.frozen?_of_block (w := W) q).trans h.z2, (World.frozen?_of_block (w := W) q).trans h.z3, (World.frozen?_of_block (w := W) q).trans h.z4⟩

theorem F5.call {W W' : World} {g : Nat} {a b c d e : Int} (h : F5 W g a b c d e) (hb : Below W.heap.size W W') : F5 W' g a b c d e := h.block (hb.block g h.lt)

theorem F5.keep {W W' : World} {g c0 : Nat} {a b c d e : Int} (h : F5 W g a b c d e) (hk : Keep c0 W W') (hne : g ≠ c0) : F5 W' g a b c d e := h.block (hk.block g hne h.lt)

theorem F5.other {W : World} {g g' : Nat} {a b c d e : Int} (h : F5 W g a b c d e) (hne : g ≠ g') (j : Nat) (u : Value) : F5 (W.setCell ⟨g', j, none⟩ u) g a b c d e := h.block (Below.heap_setCell _ _ _ _ hne)

theorem F5.put0 {W : World} {g : Nat} {a b c d e : Int} (h : F5 W g a b c d e) (x : Int) : F5 (W.setCell ⟨g, 0, none⟩ (.int .i64 x)) g x b c d e := by
  obtain ⟨c0, c1, c2, c3, c4, z0, z1, z2, z3, z4⟩ := h
  exact ⟨by simp [go_sem, c0], by simp [go_sem, c1], by simp [go_sem, c2], by simp [go_sem, c3], by simp [go_sem, c4], by simp [go_sem, z0], by simp [go_sem, z1], by simp [go_sem, z2], by simp [go_sem, z3], by simp [go_sem, z4]⟩

theorem F5.put1 {W : World} {g : Nat} {a b c d e : Int} (h : F5 W g a b c d e) (x : Int) : F5 (W.setCell ⟨g, 1, none⟩ (.int .i64 x)) g a x c d e := by
  obtain ⟨c0, c1, c2, c3, c4, z0, z1, z2, z3, z4⟩ := h
  exact ⟨by simp [go_sem, c0], by simp [go_sem, c1], by simp [go_sem, c2], by simp [go_sem, c3], by simp [go_sem, c4], by simp [go_sem, z0], by simp [go_sem, z1], by simp [go_sem, z2], by simp [go_sem, z3], by simp [go_sem, z4]⟩

theorem F5.put2 {W : World} {g : Nat} {a b c d e : Int} (h : F5 W g a b c d e) (x : Int) : F5 (W.setCell ⟨g, 2, none⟩ (.int .i64 x)) g a b x d e := by
  obtain ⟨c0, c1, c2, c3, c4, z0, z1, z2, z3, z4⟩ := h
  exact ⟨by simp [go_sem, c0], by simp [go_sem, c1], by simp [go_sem, c2], by simp [go_sem, c3], by simp [go_sem, c4], by simp [go_sem, z0], by simp [go_sem, z1], by simp [go_sem, z2], by simp [go_sem, z3], by simp [go_sem, z4]⟩

theorem F5.put3 {W : World} {g : Nat} {a b c d e : Int} (h : F5 W g a b c d e) (x : Int) : F5 (W.setCell ⟨g, 3, none⟩ (.int .i64 x)) g a b c x e := by
  obtain ⟨c0, c1, c2, c3, c4, z0, z1, z2, z3, z4⟩ := h
  exact ⟨by simp [go_sem, c0], by simp [go_sem, c1], by simp [go_sem, c2], by simp [go_sem, c3], by simp [go_sem, c4], by simp [go_sem, z0], by simp [go_sem, z1], by simp [go_sem, z2], by simp [go_sem, z3], by simp [go_sem, z4]⟩

theorem F5.put4 {W : World} {g : Nat} {a b c d e : Int} (h : F5 W g a b c d e) (x : Int) : F5 (W.setCell ⟨g, 4, none⟩ (.int .i64 x)) g a b c d x := by
  obtain ⟨c0, c1, c2, c3, c4, z0, z1, z2, z3, z4⟩ := h
  exact ⟨by simp [go_sem, c0], by simp [go_sem, c1], by simp [go_sem, c2], by simp [go_sem, c3], by simp [go_sem, c4], by simp [go_sem, z0], by simp [go_sem, z1], by simp [go_sem, z2], by simp [go_sem, z3], by simp [go_sem, z4]⟩

theorem pk5 {W : World} {c : Nat} {a : Option Addr} {len cap : Nat} (h : Cu W c a len cap) :
    Calls Try.prog 13 #[.pointer (some ⟨c, 0, none⟩), .slice (some ⟨W.heap.size, 0, none⟩) 5 5] (W.alloc (.cells #[.int .i64 65536, .int .i64 (-65536), .int .i64 65537, .int .i64 32768, .int .i64 (-32768)] 3)) fun e w' => ∃ x : Int, e = .returned (.int .i64 x) ∧ Cu w' c a len cap ∧ Keep c W w' :=
  pick_lit [65536, -65536, 65537, 32768, -32768] (by decide) (by decide) h

theorem pk3 {W : World} {c : Nat} {a : Option Addr} {len cap : Nat} (h : Cu W c a len cap) :
    Calls Try.prog 13 #[.pointer (some ⟨c, 0, none⟩), .slice (some ⟨W.heap.size, 0, none⟩) 3 3] (W.alloc (.cells #[.int .i64 65536, .int .i64 (-65536), .int .i64 (-65537)] 3)) fun e w' => ∃ x : Int, e = .returned (.int .i64 x) ∧ Cu w' c a len cap ∧ Keep c W w' :=
  pick_lit [65536, -65536, -65537] (by decide) (by decide) h

theorem sec_fin {W : World} {s : Nat} {y0 y1 y2 y3 y4 : Int} (h : F5 W s 0 0 0 0 0) : F5 (((((W.setCell ⟨s, 0, none⟩ (.int .i64 y0)).setCell ⟨s, 1, none⟩ (.int .i64 y1)).setCell ⟨s, 2, none⟩ (.int .i64 y2)).setCell ⟨s, 3, none⟩ (.int .i64 y3)).setCell ⟨s, 4, none⟩ (.int .i64 y4)) s y0 y1 y2 y3 y4 ∧ Below s W (((((W.setCell ⟨s, 0, none⟩ (.int .i64 y0)).setCell ⟨s, 1, none⟩ (.int .i64 y1)).setCell ⟨s, 2, none⟩ (.int .i64 y2)).setCell ⟨s, 3, none⟩ (.int .i64 y3)).setCell ⟨s, 4, none⟩ (.int .i64 y4)) :=
  ⟨((((h.put0 y0).put1 y1).put2 y2).put3 y3).put4 y4, (((((Below.refl _ _).setCell (p := ⟨s, 0, none⟩) (Nat.le_refl _) _).setCell (p := ⟨s, 1, none⟩) (Nat.le_refl _) _).setCell (p := ⟨s, 2, none⟩) (Nat.le_refl _) _).setCell (p := ⟨s, 3, none⟩) (Nat.le_refl _) _).setCell (p := ⟨s, 4, none⟩) (Nat.le_refl _) _⟩

set_option maxRecDepth 20000 in
set_option maxHeartbeats 8000000 in
theorem dsec_x {w : World} {c : Nat} {a : Option Addr} {len cap : Nat} (h : Cu w c a len cap) :
    Calls Try.prog 14 #[.pointer (some ⟨c, 0, none⟩)] w fun e w' => ∃ s : Se, e = .returned s.v ∧ Cu w' c a len cap ∧ Keep c w w' := by
  have hcl := h.lt
  have HC : Hid (Cu w c a len cap) := h
  have b1 := below_one w (.cells #[.int .i64 0, .int .i64 0, .int .i64 0, .int .i64 0, .int .i64 0] 25)
  have R1 := F5.new w 0 0 0 0 0 25
  have s1 : (w.alloc (.cells #[.int .i64 0, .int .i64 0, .int .i64 0, .int .i64 0, .int .i64 0] 25)).heap.size = w.heap.size + 1 := by simp
  have CU : Hid (Cu (w.alloc (.cells #[.int .i64 0, .int .i64 0, .int .i64 0, .int .i64 0, .int .i64 0] 25)) c a len cap) := h.call b1
  have KE : Hid (Keep c w (w.alloc (.cells #[.int .i64 0, .int .i64 0, .int .i64 0, .int .i64 0, .int .i64 0] 25))) := (Keep.refl _ _).call b1
  generalize hW1 : w.alloc (.cells #[.int .i64 0, .int .i64 0, .int .i64 0, .int .i64 0, .int .i64 0] 25) = W1 at *
  have q1 : Hid (F5 W1 w.heap.size 0 0 0 0 0) := R1
  have S1 : Hid (w.heap.size + 1 ≤ W1.heap.size) := Nat.le_of_eq s1.symm
  clear h b1 R1 s1
  go_enter Try.func14, Try.ntmps14
  go_upto_region 1 with fail
  clear hW1
  go_cut [3] from 4 (fun p wx => ∃ g x0 x1 x2 x3 x4, p = .pointer (some ⟨g, 0, none⟩) ∧ w.heap.size < g ∧ Hid (F5 wx g x0 x1 x2 x3 x4 ∧ F5 wx w.heap.size 0 0 0 0 0 ∧ Cu wx c a len cap ∧ Keep c w wx))
  case first =>
    go_wp2_with (first
      | (go_at_call 12; (with_reducible refine (below_x CU.out _).mono ?_); rintro e w3 ⟨bx, hx0, hx1, hx2, rfl, hc, hk⟩; have CU : Hid (Cu w3 c a len cap) := hc; have KE : Hid (Keep c w w3) := KE.out.trans hk; have q1 : Hid (F5 w3 w.heap.size 0 0 0 0 0) := q1.out.keep hk (by omega); have S1 : Hid (w.heap.size + 1 ≤ w3.heap.size) := Nat.le_trans S1.out hk.size; clear hc hk hx2))
    go_meet
    exact ⟨_, _, _, _, _, _, rfl, S1.out, F5.new _ _ _ _ _ _ _, q1.out.call (below_one _ _), CU.out.call (below_one _ _), KE.out.call (below_one _ _)⟩
  case rest =>
    clear CU KE q1 S1
    obtain ⟨g, x0, x1, x2, x3, x4, rfl, hgs, hF⟩ := hcut
    have CU : Hid (Cu wc c a len cap) := hF.out.2.2.1
    have KE : Hid (Keep c w wc) := hF.out.2.2.2
    have FG : Hid (∃ x0 x1 x2 x3 x4, F5 wc g x0 x1 x2 x3 x4) := ⟨_, _, _, _, _, hF.out.1⟩
    have FS : Hid (F5 wc w.heap.size 0 0 0 0 0) := hF.out.2.1
    clear hF
    have hgc : g ≠ c := by omega
    have hsc : w.heap.size ≠ c := by omega
    have hsg : w.heap.size ≠ g := by omega
    go_upto_region 6 with (first
      | (go_at_call 11; (with_reducible refine (once_x CU.out _).mono ?_); rintro e w4 ⟨bx, rfl, hc, hk⟩; have CU : Hid (Cu w4 c a len cap) := hc; have KE : Hid (Keep c w w4) := KE.out.trans hk; have FG : Hid (∃ x0 x1 x2 x3 x4, F5 w4 g x0 x1 x2 x3 x4) := (by obtain ⟨_, _, _, _, _, hh⟩ := FG.out; exact ⟨_, _, _, _, _, hh.keep hk hgc⟩); have FS : Hid (F5 w4 w.heap.size 0 0 0 0 0) := FS.out.keep hk hsc; clear hc hk)
      | (go_at_call 13; (with_reducible refine (pk5 CU.out).mono ?_); rintro e w5 ⟨px, rfl, hc, hk⟩; have B5 : Below w.heap.size w5 (w5.setCell ⟨g, 3, none⟩ (.int .i64 px)) := (Below.refl _ _).setCell (p := ⟨g, 3, none⟩) (Nat.le_of_lt hgs) _; have CU : Hid (Cu (w5.setCell ⟨g, 3, none⟩ (.int .i64 px)) c a len cap) := HC.out.grow hc (KE.out.trans hk) B5; have FS : Hid (F5 (w5.setCell ⟨g, 3, none⟩ (.int .i64 px)) w.heap.size 0 0 0 0 0) := (FS.out.keep hk hsc).other hsg _ _; obtain ⟨_, _, _, _, _, hh⟩ := FG.out; have hh2 := hh.keep hk hgc; have FG : Hid (∃ x0 x1 x2 x3 x4, F5 (w5.setCell ⟨g, 3, none⟩ (.int .i64 px)) g x0 x1 x2 x3 x4) := ⟨_, _, _, _, _, hh2.put3 px⟩; have KE : Hid (Keep c w (w5.setCell ⟨g, 3, none⟩ (.int .i64 px))) := (KE.out.trans hk).below B5; have t3 := hh2.c3; have v3 := hh2.z3; clear hc hk hh hh2 B5)
      | (go_at_call 13; (with_reducible refine (pk3 CU.out).mono ?_); rintro e w6 ⟨px, rfl, hc, hk⟩; have B5 : Below w.heap.size w6 (w6.setCell ⟨g, 0, none⟩ (.int .i64 px)) := (Below.refl _ _).setCell (p := ⟨g, 0, none⟩) (Nat.le_of_lt hgs) _; have CU : Hid (Cu (w6.setCell ⟨g, 0, none⟩ (.int .i64 px)) c a len cap) := HC.out.grow hc (KE.out.trans hk) B5; have FS : Hid (F5 (w6.setCell ⟨g, 0, none⟩ (.int .i64 px)) w.heap.size 0 0 0 0 0) := (FS.out.keep hk hsc).other hsg _ _; obtain ⟨_, _, _, _, _, hh⟩ := FG.out; have hh2 := hh.keep hk hgc; have FG : Hid (∃ x0 x1 x2 x3 x4, F5 (w6.setCell ⟨g, 0, none⟩ (.int .i64 px)) g x0 x1 x2 x3 x4) := ⟨_, _, _, _, _, hh2.put0 px⟩; have KE : Hid (Keep c w (w6.setCell ⟨g, 0, none⟩ (.int .i64 px))) := (KE.out.trans hk).below B5; have t0 := hh2.c0; have v0 := hh2.z0; clear hc hk hh hh2 B5))
    all_goals
      obtain ⟨y0, y1, y2, y3, y4, hh⟩ := FG.out
      have Z : Hid _ := sec_fin (y0 := y0) (y1 := y1) (y2 := y2) (y3 := y3) (y4 := y4) FS.out
      obtain ⟨a0, a1, a2, a3, a4, _, _, _, _, _⟩ := hh
      obtain ⟨d0, d1, d2, d3, d4, e0, e1, e2, e3, e4⟩ := FS.out
      go_wp2
      obtain ⟨i0, i1, i2, i3, i4, _, _, _, _, _⟩ := Z.out.1
      refine bodyPost_ret (v := (⟨y0, y1, y2, y3, y4⟩ : Se).v) (by simp [results, Try.results14, go_sem, d0, d1, d2, d3, d4]) rfl ?_
      exact ⟨⟨y0, y1, y2, y3, y4⟩, rfl, HC.out.grow CU.out KE.out Z.out.2, KE.out.below Z.out.2⟩
end Go.Proofs.Ytjngkpmkeehpeaa
