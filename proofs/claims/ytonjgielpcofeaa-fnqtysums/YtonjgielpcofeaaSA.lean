/- A quantity drawn. -/
import Derived.Test.YtonjgielpcofeaaQX
import Derived.Test.YtonjgielpcofeaaD1
namespace Go.Proofs.Ytonjgielpcofeaa
open Go.RowKit

theorem R4.keep {W W' : World} {g c : Nat} {n p v s : Int} (h : R4 W g n p v s) (hk : Keep c W W') (hg : g ≠ c) : R4 W' g n p v s := by
  have hl : g < W.heap.size := World.block_lt_of_cell? W _ h.c0
  have hb := hk.block g hg hl
  exact ⟨(hk.cell (p := ⟨g, 0, none⟩) hg hl).trans h.c0, (hk.cell (p := ⟨g, 1, none⟩) hg hl).trans h.c1, (hk.cell (p := ⟨g, 2, none⟩) hg hl).trans h.c2, (hk.cell (p := ⟨g, 3, none⟩) hg hl).trans h.c3, fun o => (World.frozen?_of_block (w := W) (a := ⟨g, o, none⟩) hb).trans (h.fz o)⟩

theorem Keep.put {c : Nat} {W X : World} (h : Keep c W X) {G : Nat} (hG : W.heap.size ≤ G) (k : Nat) (v : Value) : Keep c W (X.setCell ⟨G, k, none⟩ v) :=
  ⟨h.os, h.tape, h.output, by simpa [World.setCell] using h.size, fun p hp hl => (Below.heap_setCell _ _ _ _ (by show p ≠ G; omega)).trans (h.block p hp hl)⟩

theorem Cu.put {w0 X : World} {c : Nat} {a : Option Addr} {len cap : Nat} (h0 : Cu w0 c a len cap) (h : Cu X c a len cap) {G : Nat} (hG : w0.heap.size ≤ G) (k : Nat) (v : Value) : Cu (X.setCell ⟨G, k, none⟩ v) c a len cap := by
  have hc := h0.lt
  have hne : ∀ o, (⟨G, k, none⟩ : Addr) ≠ ⟨c, o, none⟩ := fun o e => by injection e; omega
  have hac2 : ∀ x : Addr, 0 < len → a = some x → x.block ≠ G := fun x hl hx => by
    obtain ⟨b, off, z, h1, h2, _⟩ := h0.row 0 hl
    rw [h1] at hx
    injection hx with hx
    rw [← hx]
    show b ≠ G
    omega
  obtain ⟨hr, hac, hsh, hlt, hb, ⟨i, hh, hi0, hi1, hci, hch⟩, hfz⟩ := h
  refine ⟨hr.set hac2 _ _, hac, hsh, by simpa [World.setCell] using hlt, ?_, ⟨i, hh, hi0, hi1, ?_, ?_⟩, fun o => by simpa using hfz o⟩
  · rw [other _ _ _ _ (hne 0)]; exact hb
  · rw [other _ _ _ _ (hne 1)]; exact hci
  · rw [other _ _ _ _ (hne 2)]; exact hch

theorem sOnlyE (n p v s : Int) (hn : -9223372036854775808 ≤ n ∧ n ≤ 9223372036854775807) (hp : -1000 ≤ p ∧ p ≤ 1000) (w : World) : Calls Try.prog 25 #[.int .i64 n, .int .i64 p, .int .i64 v, .int .i64 s] w fun e w' => ∃ n p v s d, e = .returned (.tuple #[.agg #[.int .i64 n, .int .i64 p, .int .i64 v, .int .i64 s], .bool d]) ∧ Below w.heap.size w w' :=
  (sOnly n p v s hn hp w).mono fun _ _ h => ⟨_, _, _, _, _, h⟩

set_option maxHeartbeats 2000000 in
theorem draw20_x {w : World} {c : Nat} {a : Option Addr} {len cap : Nat} (h : Cu w c a len cap) :
    Calls Try.prog 21 #[.pointer (some ⟨c, 0, none⟩)] w fun e w' => ∃ n p v s : Int, e = .returned (.agg #[.int .i64 n, .int .i64 p, .int .i64 v, .int .i64 s]) ∧ Cu w' c a len cap ∧ Keep c w w' := by
  have pk1 : ∀ W, Cu W c a len cap → Calls Try.prog 34 #[.pointer (some ⟨c, 0, none⟩), .slice (some ⟨W.heap.size, 0, none⟩) 7 7] (W.alloc (.cells #[.int .i64 0, .int .i64 7, .int .i64 1000000000, .int .i64 1000000001, .int .i64 999999999, .int .i64 10, .int .i64 (-3)] 3)) fun e w' => ∃ x : Int, e = .returned (.int .i64 x) ∧ Cu w' c a len cap ∧ Keep c W w' := fun W hW => pick_lit [0, 7, 1000000000, 1000000001, 999999999, 10, -3] (by decide) (by decide) hW
  have pk2 : ∀ W, Cu W c a len cap → Calls Try.prog 34 #[.pointer (some ⟨c, 0, none⟩), .slice (some ⟨W.heap.size, 0, none⟩) 6 6] (W.alloc (.cells #[.int .i64 0, .int .i64 30, .int .i64 31, .int .i64 (-30), .int .i64 (-31), .int .i64 5] 3)) fun e w' => ∃ x : Int, e = .returned (.int .i64 x) ∧ Cu w' c a len cap ∧ Keep c W w' := fun W hW => pick_lit [0, 30, 31, -30, -31, 5] (by decide) (by decide) hW
  have pk3 : ∀ W, Cu W c a len cap → Calls Try.prog 34 #[.pointer (some ⟨c, 0, none⟩), .slice (some ⟨W.heap.size, 0, none⟩) 4 4] (W.alloc (.cells #[.int .i64 0, .int .i64 9, .int .i64 10, .int .i64 (-10)] 3)) fun e w' => ∃ x : Int, e = .returned (.int .i64 x) ∧ Cu w' c a len cap ∧ Keep c W w' := fun W hW => pick_lit [0, 9, 10, -10] (by decide) (by decide) hW
  have pk4 : ∀ W, Cu W c a len cap → Calls Try.prog 34 #[.pointer (some ⟨c, 0, none⟩), .slice (some ⟨W.heap.size, 0, none⟩) 3 3] (W.alloc (.cells #[.int .i64 0, .int .i64 (-9), .int .i64 1] 3)) fun e w' => ∃ x : Int, e = .returned (.int .i64 x) ∧ Cu w' c a len cap ∧ Keep c W w' := fun W hW => pick_lit [0, -9, 1] (by decide) (by decide) hW
  have hcw := h.lt
  have CU : Hid (Cu (w.alloc (.cells #[.int .i64 0, .int .i64 0, .int .i64 0, .int .i64 0] 25)) c a len cap) := h.call (below_one _ _)
  have KP : Hid (Keep c w (w.alloc (.cells #[.int .i64 0, .int .i64 0, .int .i64 0, .int .i64 0] 25))) := (Keep.refl c w).call (below_one _ _)
  have RZ : Hid (R4 (w.alloc (.cells #[.int .i64 0, .int .i64 0, .int .i64 0, .int .i64 0] 25)) w.heap.size 0 0 0 0) := R4.new _ _ _ _ _ _
  have H0 : Hid (Cu w c a len cap) := h
  clear h
  go_enter Try.func21, Try.ntmps21
  go_upto_region 2 with (first
    | (go_at_call 33; (with_reducible refine (below_x CU.out _).mono ?_); rintro e w2 ⟨x, hx0, hx1, hx2, rfl, hc, hk⟩; have hx3 := hx2 (by decide); clear hx2; have CU : Hid (Cu w2 c a len cap) := hc; have KP : Hid (Keep c w w2) := KP.out.trans hk; have RZ : Hid (R4 w2 w.heap.size 0 0 0 0) := RZ.out.keep hk (by omega); clear hc hk)
    | (go_at_call 25; (with_reducible refine (sOnlyE _ _ _ _ (by omega) (by omega) _).mono ?_); rintro e w2 ⟨N, P, V, S, d, rfl, hb⟩; have CU : Hid (Cu w2 c a len cap) := CU.out.call hb; have KP : Hid (Keep c w w2) := KP.out.call hb; have RZ : Hid (R4 w2 w.heap.size 0 0 0 0) := RZ.out.call hb; clear hb))
  have hG := World.block_lt_of_cell? _ _ RZ.out.c0
  have hG : w.heap.size < w2.heap.size := hG
  have hC : c < w2.heap.size := CU.out.lt
  have RT : Hid (R4 (w2.alloc (.cells #[.int .i64 N, .int .i64 P, .int .i64 V, .int .i64 S] 25)) w2.heap.size N P V S) := R4.new _ _ _ _ _ _
  have RZ : Hid (R4 (w2.alloc (.cells #[.int .i64 N, .int .i64 P, .int .i64 V, .int .i64 S] 25)) w.heap.size 0 0 0 0) := RZ.out.call (below_one _ _)
  have CU : Hid (Cu (w2.alloc (.cells #[.int .i64 N, .int .i64 P, .int .i64 V, .int .i64 S] 25)) c a len cap) := CU.out.call (below_one _ _)
  have KP : Hid (Keep c w (w2.alloc (.cells #[.int .i64 N, .int .i64 P, .int .i64 V, .int .i64 S] 25))) := KP.out.call (below_one _ _)
  generalize w2.heap.size = G at hG hC RT ⊢
  generalize w2.alloc (.cells #[.int .i64 N, .int .i64 P, .int .i64 V, .int .i64 S] 25) = w3 at RT RZ CU KP ⊢
  obtain ⟨z0, z1, z2, z3, zf⟩ := RZ.out
  obtain ⟨t0, t1, t2, t3, _⟩ := RT.out
  have f0 := zf 0
  have f1 := zf 1
  have f2 := zf 2
  have f3 := zf 3
  clear zf
  cases d
  · go_wp2_with (first
    | (go_at_call 22; (with_reducible refine (once_x CU.out _).mono ?_); rintro e w3 ⟨x, rfl, hc, hk⟩; have RZ : Hid (R4 w3 w.heap.size 0 0 0 0) := RZ.out.keep hk (by omega); have RT : Hid (R4 w3 G N P V S) := RT.out.keep hk (by omega); have CU : Hid (Cu w3 c a len cap) := hc; have KP : Hid (Keep c w w3) := KP.out.trans hk; clear hc hk; (try clear f0 f1 f2 f3 z0 z1 z2 z3 t0 t1 t2 t3); obtain ⟨z0, z1, z2, z3, zf⟩ := RZ.out; obtain ⟨t0, t1, t2, t3, _⟩ := RT.out; have f0 := zf 0; have f1 := zf 1; have f2 := zf 2; have f3 := zf 3; clear zf)
    | (go_at_call 34; first | ((with_reducible refine (pk1 _ CU.out).mono ?_); rintro e w3 ⟨n1, rfl, hc, hk⟩; have RZ : Hid (R4 w3 w.heap.size 0 0 0 0) := RZ.out.keep hk (by omega); have RT : Hid (R4 w3 G N P V S) := RT.out.keep hk (by omega); have CU : Hid (Cu w3 c a len cap) := hc; have KP : Hid (Keep c w w3) := KP.out.trans hk; clear hc hk; (try clear f0 f1 f2 f3 z0 z1 z2 z3 t0 t1 t2 t3); obtain ⟨z0, z1, z2, z3, zf⟩ := RZ.out; obtain ⟨t0, t1, t2, t3, _⟩ := RT.out; have f0 := zf 0; have f1 := zf 1; have f2 := zf 2; have f3 := zf 3; clear zf) | ((with_reducible refine (pk2 _ CU.out).mono ?_); rintro e w3 ⟨n2, rfl, hc, hk⟩; have RZ : Hid (R4 w3 w.heap.size 0 0 0 0) := RZ.out.keep hk (by omega); have RT : Hid (R4 w3 G N P V S) := RT.out.keep hk (by omega); have CU : Hid (Cu w3 c a len cap) := hc; have KP : Hid (Keep c w w3) := KP.out.trans hk; clear hc hk; (try clear f0 f1 f2 f3 z0 z1 z2 z3 t0 t1 t2 t3); obtain ⟨z0, z1, z2, z3, zf⟩ := RZ.out; obtain ⟨t0, t1, t2, t3, _⟩ := RT.out; have f0 := zf 0; have f1 := zf 1; have f2 := zf 2; have f3 := zf 3; clear zf) | ((with_reducible refine (pk3 _ CU.out).mono ?_); rintro e w3 ⟨n3, rfl, hc, hk⟩; have RZ : Hid (R4 w3 w.heap.size 0 0 0 0) := RZ.out.keep hk (by omega); have RT : Hid (R4 w3 G N P V S) := RT.out.keep hk (by omega); have CU : Hid (Cu w3 c a len cap) := hc; have KP : Hid (Keep c w w3) := KP.out.trans hk; clear hc hk; (try clear f0 f1 f2 f3 z0 z1 z2 z3 t0 t1 t2 t3); obtain ⟨z0, z1, z2, z3, zf⟩ := RZ.out; obtain ⟨t0, t1, t2, t3, _⟩ := RT.out; have f0 := zf 0; have f1 := zf 1; have f2 := zf 2; have f3 := zf 3; clear zf) | ((with_reducible refine (pk4 _ CU.out).mono ?_); rintro e w3 ⟨n4, rfl, hc, hk⟩; have RZ : Hid (R4 w3 w.heap.size 0 0 0 0) := RZ.out.keep hk (by omega); have RT : Hid (R4 w3 G N P V S) := RT.out.keep hk (by omega); have CU : Hid (Cu w3 c a len cap) := hc; have KP : Hid (Keep c w w3) := KP.out.trans hk; clear hc hk; (try clear f0 f1 f2 f3 z0 z1 z2 z3 t0 t1 t2 t3); obtain ⟨z0, z1, z2, z3, zf⟩ := RZ.out; obtain ⟨t0, t1, t2, t3, _⟩ := RT.out; have f0 := zf 0; have f1 := zf 1; have f2 := zf 2; have f3 := zf 3; clear zf)))
    have KX : Hid (Keep c w ((((w3.setCell ⟨w.heap.size, 0, none⟩ (.int .i64 n1)).setCell ⟨w.heap.size, 1, none⟩ (.int .i64 n2)).setCell ⟨w.heap.size, 2, none⟩ (.int .i64 n3)).setCell ⟨w.heap.size, 3, none⟩ (.int .i64 n4))) := (((KP.out.put (Nat.le_refl _) _ _).put (Nat.le_refl _) _ _).put (Nat.le_refl _) _ _).put (Nat.le_refl _) _ _
    have CX : Hid (Cu ((((w3.setCell ⟨w.heap.size, 0, none⟩ (.int .i64 n1)).setCell ⟨w.heap.size, 1, none⟩ (.int .i64 n2)).setCell ⟨w.heap.size, 2, none⟩ (.int .i64 n3)).setCell ⟨w.heap.size, 3, none⟩ (.int .i64 n4)) c a len cap) := H0.out.put (H0.out.put (H0.out.put (H0.out.put CU.out (Nat.le_refl _) _ _) (Nat.le_refl _) _ _) (Nat.le_refl _) _ _) (Nat.le_refl _) _ _
    have RX := (((RZ.out.put0 n1).put1 n2).put2 n3).put3 n4
    generalize (((w3.setCell ⟨w.heap.size, 0, none⟩ (.int .i64 n1)).setCell ⟨w.heap.size, 1, none⟩ (.int .i64 n2)).setCell ⟨w.heap.size, 2, none⟩ (.int .i64 n3)).setCell ⟨w.heap.size, 3, none⟩ (.int .i64 n4) = X at KX CX RX ⊢
    obtain ⟨k0, k1, k2, k3, _⟩ := RX
    refine bodyPost_ret (v := .agg #[.int .i64 n1, .int .i64 n2, .int .i64 n3, .int .i64 n4]) (by simp [results, Try.results21, go_sem, k0, k1, k2, k3]) rfl ?_
    exact ⟨_, _, _, _, rfl, CX.out, KX.out⟩
  · go_upto_region 3 with (first
    | (go_at_call 22; (with_reducible refine (once_x CU.out _).mono ?_); rintro e w3 ⟨x, rfl, hc, hk⟩; have RZ : Hid (R4 w3 w.heap.size 0 0 0 0) := RZ.out.keep hk (by omega); have RT : Hid (R4 w3 G N P V S) := RT.out.keep hk (by omega); have CU : Hid (Cu w3 c a len cap) := hc; have KP : Hid (Keep c w w3) := KP.out.trans hk; clear hc hk; (try clear f0 f1 f2 f3 z0 z1 z2 z3 t0 t1 t2 t3); obtain ⟨z0, z1, z2, z3, zf⟩ := RZ.out; obtain ⟨t0, t1, t2, t3, _⟩ := RT.out; have f0 := zf 0; have f1 := zf 1; have f2 := zf 2; have f3 := zf 3; clear zf)
    | (go_at_call 34; first | ((with_reducible refine (pk1 _ CU.out).mono ?_); rintro e w3 ⟨n1, rfl, hc, hk⟩; have RZ : Hid (R4 w3 w.heap.size 0 0 0 0) := RZ.out.keep hk (by omega); have RT : Hid (R4 w3 G N P V S) := RT.out.keep hk (by omega); have CU : Hid (Cu w3 c a len cap) := hc; have KP : Hid (Keep c w w3) := KP.out.trans hk; clear hc hk; (try clear f0 f1 f2 f3 z0 z1 z2 z3 t0 t1 t2 t3); obtain ⟨z0, z1, z2, z3, zf⟩ := RZ.out; obtain ⟨t0, t1, t2, t3, _⟩ := RT.out; have f0 := zf 0; have f1 := zf 1; have f2 := zf 2; have f3 := zf 3; clear zf) | ((with_reducible refine (pk2 _ CU.out).mono ?_); rintro e w3 ⟨n2, rfl, hc, hk⟩; have RZ : Hid (R4 w3 w.heap.size 0 0 0 0) := RZ.out.keep hk (by omega); have RT : Hid (R4 w3 G N P V S) := RT.out.keep hk (by omega); have CU : Hid (Cu w3 c a len cap) := hc; have KP : Hid (Keep c w w3) := KP.out.trans hk; clear hc hk; (try clear f0 f1 f2 f3 z0 z1 z2 z3 t0 t1 t2 t3); obtain ⟨z0, z1, z2, z3, zf⟩ := RZ.out; obtain ⟨t0, t1, t2, t3, _⟩ := RT.out; have f0 := zf 0; have f1 := zf 1; have f2 := zf 2; have f3 := zf 3; clear zf) | ((with_reducible refine (pk3 _ CU.out).mono ?_); rintro e w3 ⟨n3, rfl, hc, hk⟩; have RZ : Hid (R4 w3 w.heap.size 0 0 0 0) := RZ.out.keep hk (by omega); have RT : Hid (R4 w3 G N P V S) := RT.out.keep hk (by omega); have CU : Hid (Cu w3 c a len cap) := hc; have KP : Hid (Keep c w w3) := KP.out.trans hk; clear hc hk; (try clear f0 f1 f2 f3 z0 z1 z2 z3 t0 t1 t2 t3); obtain ⟨z0, z1, z2, z3, zf⟩ := RZ.out; obtain ⟨t0, t1, t2, t3, _⟩ := RT.out; have f0 := zf 0; have f1 := zf 1; have f2 := zf 2; have f3 := zf 3; clear zf) | ((with_reducible refine (pk4 _ CU.out).mono ?_); rintro e w3 ⟨n4, rfl, hc, hk⟩; have RZ : Hid (R4 w3 w.heap.size 0 0 0 0) := RZ.out.keep hk (by omega); have RT : Hid (R4 w3 G N P V S) := RT.out.keep hk (by omega); have CU : Hid (Cu w3 c a len cap) := hc; have KP : Hid (Keep c w w3) := KP.out.trans hk; clear hc hk; (try clear f0 f1 f2 f3 z0 z1 z2 z3 t0 t1 t2 t3); obtain ⟨z0, z1, z2, z3, zf⟩ := RZ.out; obtain ⟨t0, t1, t2, t3, _⟩ := RT.out; have f0 := zf 0; have f1 := zf 1; have f2 := zf 2; have f3 := zf 3; clear zf)))
    · go_wp2_with (first
      | (go_at_call 22; (with_reducible refine (once_x CU.out _).mono ?_); rintro e w3 ⟨x, rfl, hc, hk⟩; have RZ : Hid (R4 w3 w.heap.size 0 0 0 0) := RZ.out.keep hk (by omega); have RT : Hid (R4 w3 G N P V S) := RT.out.keep hk (by omega); have CU : Hid (Cu w3 c a len cap) := hc; have KP : Hid (Keep c w w3) := KP.out.trans hk; clear hc hk; (try clear f0 f1 f2 f3 z0 z1 z2 z3 t0 t1 t2 t3); obtain ⟨z0, z1, z2, z3, zf⟩ := RZ.out; obtain ⟨t0, t1, t2, t3, _⟩ := RT.out; have f0 := zf 0; have f1 := zf 1; have f2 := zf 2; have f3 := zf 3; clear zf)
      | (go_at_call 34; first | ((with_reducible refine (pk1 _ CU.out).mono ?_); rintro e w3 ⟨n1, rfl, hc, hk⟩; have RZ : Hid (R4 w3 w.heap.size 0 0 0 0) := RZ.out.keep hk (by omega); have RT : Hid (R4 w3 G N P V S) := RT.out.keep hk (by omega); have CU : Hid (Cu w3 c a len cap) := hc; have KP : Hid (Keep c w w3) := KP.out.trans hk; clear hc hk; (try clear f0 f1 f2 f3 z0 z1 z2 z3 t0 t1 t2 t3); obtain ⟨z0, z1, z2, z3, zf⟩ := RZ.out; obtain ⟨t0, t1, t2, t3, _⟩ := RT.out; have f0 := zf 0; have f1 := zf 1; have f2 := zf 2; have f3 := zf 3; clear zf) | ((with_reducible refine (pk2 _ CU.out).mono ?_); rintro e w3 ⟨n2, rfl, hc, hk⟩; have RZ : Hid (R4 w3 w.heap.size 0 0 0 0) := RZ.out.keep hk (by omega); have RT : Hid (R4 w3 G N P V S) := RT.out.keep hk (by omega); have CU : Hid (Cu w3 c a len cap) := hc; have KP : Hid (Keep c w w3) := KP.out.trans hk; clear hc hk; (try clear f0 f1 f2 f3 z0 z1 z2 z3 t0 t1 t2 t3); obtain ⟨z0, z1, z2, z3, zf⟩ := RZ.out; obtain ⟨t0, t1, t2, t3, _⟩ := RT.out; have f0 := zf 0; have f1 := zf 1; have f2 := zf 2; have f3 := zf 3; clear zf) | ((with_reducible refine (pk3 _ CU.out).mono ?_); rintro e w3 ⟨n3, rfl, hc, hk⟩; have RZ : Hid (R4 w3 w.heap.size 0 0 0 0) := RZ.out.keep hk (by omega); have RT : Hid (R4 w3 G N P V S) := RT.out.keep hk (by omega); have CU : Hid (Cu w3 c a len cap) := hc; have KP : Hid (Keep c w w3) := KP.out.trans hk; clear hc hk; (try clear f0 f1 f2 f3 z0 z1 z2 z3 t0 t1 t2 t3); obtain ⟨z0, z1, z2, z3, zf⟩ := RZ.out; obtain ⟨t0, t1, t2, t3, _⟩ := RT.out; have f0 := zf 0; have f1 := zf 1; have f2 := zf 2; have f3 := zf 3; clear zf) | ((with_reducible refine (pk4 _ CU.out).mono ?_); rintro e w3 ⟨n4, rfl, hc, hk⟩; have RZ : Hid (R4 w3 w.heap.size 0 0 0 0) := RZ.out.keep hk (by omega); have RT : Hid (R4 w3 G N P V S) := RT.out.keep hk (by omega); have CU : Hid (Cu w3 c a len cap) := hc; have KP : Hid (Keep c w w3) := KP.out.trans hk; clear hc hk; (try clear f0 f1 f2 f3 z0 z1 z2 z3 t0 t1 t2 t3); obtain ⟨z0, z1, z2, z3, zf⟩ := RZ.out; obtain ⟨t0, t1, t2, t3, _⟩ := RT.out; have f0 := zf 0; have f1 := zf 1; have f2 := zf 2; have f3 := zf 3; clear zf)))
      have KX : Hid (Keep c w ((((w3.setCell ⟨w.heap.size, 0, none⟩ (.int .i64 n1)).setCell ⟨w.heap.size, 1, none⟩ (.int .i64 n2)).setCell ⟨w.heap.size, 2, none⟩ (.int .i64 n3)).setCell ⟨w.heap.size, 3, none⟩ (.int .i64 n4))) := (((KP.out.put (Nat.le_refl _) _ _).put (Nat.le_refl _) _ _).put (Nat.le_refl _) _ _).put (Nat.le_refl _) _ _
      have CX : Hid (Cu ((((w3.setCell ⟨w.heap.size, 0, none⟩ (.int .i64 n1)).setCell ⟨w.heap.size, 1, none⟩ (.int .i64 n2)).setCell ⟨w.heap.size, 2, none⟩ (.int .i64 n3)).setCell ⟨w.heap.size, 3, none⟩ (.int .i64 n4)) c a len cap) := H0.out.put (H0.out.put (H0.out.put (H0.out.put CU.out (Nat.le_refl _) _ _) (Nat.le_refl _) _ _) (Nat.le_refl _) _ _) (Nat.le_refl _) _ _
      have RX := (((RZ.out.put0 n1).put1 n2).put2 n3).put3 n4
      generalize (((w3.setCell ⟨w.heap.size, 0, none⟩ (.int .i64 n1)).setCell ⟨w.heap.size, 1, none⟩ (.int .i64 n2)).setCell ⟨w.heap.size, 2, none⟩ (.int .i64 n3)).setCell ⟨w.heap.size, 3, none⟩ (.int .i64 n4) = X at KX CX RX ⊢
      obtain ⟨k0, k1, k2, k3, _⟩ := RX
      refine bodyPost_ret (v := .agg #[.int .i64 n1, .int .i64 n2, .int .i64 n3, .int .i64 n4]) (by simp [results, Try.results21, go_sem, k0, k1, k2, k3]) rfl ?_
      exact ⟨_, _, _, _, rfl, CX.out, KX.out⟩
    · skip
      have KX : Hid (Keep c w ((((w3.setCell ⟨w.heap.size, 0, none⟩ (.int .i64 N)).setCell ⟨w.heap.size, 1, none⟩ (.int .i64 P)).setCell ⟨w.heap.size, 2, none⟩ (.int .i64 V)).setCell ⟨w.heap.size, 3, none⟩ (.int .i64 S))) := (((KP.out.put (Nat.le_refl _) _ _).put (Nat.le_refl _) _ _).put (Nat.le_refl _) _ _).put (Nat.le_refl _) _ _
      have CX : Hid (Cu ((((w3.setCell ⟨w.heap.size, 0, none⟩ (.int .i64 N)).setCell ⟨w.heap.size, 1, none⟩ (.int .i64 P)).setCell ⟨w.heap.size, 2, none⟩ (.int .i64 V)).setCell ⟨w.heap.size, 3, none⟩ (.int .i64 S)) c a len cap) := H0.out.put (H0.out.put (H0.out.put (H0.out.put CU.out (Nat.le_refl _) _ _) (Nat.le_refl _) _ _) (Nat.le_refl _) _ _) (Nat.le_refl _) _ _
      have RX := (((RZ.out.put0 N).put1 P).put2 V).put3 S
      generalize (((w3.setCell ⟨w.heap.size, 0, none⟩ (.int .i64 N)).setCell ⟨w.heap.size, 1, none⟩ (.int .i64 P)).setCell ⟨w.heap.size, 2, none⟩ (.int .i64 V)).setCell ⟨w.heap.size, 3, none⟩ (.int .i64 S) = X at KX CX RX ⊢
      obtain ⟨k0, k1, k2, k3, _⟩ := RX
      refine bodyPost_ret (v := .agg #[.int .i64 N, .int .i64 P, .int .i64 V, .int .i64 S]) (by simp [results, Try.results21, go_sem, k0, k1, k2, k3]) rfl ?_
      exact ⟨_, _, _, _, rfl, CX.out, KX.out⟩

end Go.Proofs.Ytonjgielpcofeaa
