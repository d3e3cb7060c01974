/- FnRinged: the draws. -/
import Derived.Test.YtlflpgikmfdloaaPR
import Derived.Test.YtlflpgikmfdloaaD4
namespace Go.Proofs.Ytlflpgikmfdloaa
open Go.RowKit

theorem Rg.keep {W W' : World} {g c : Nat} {x y : Value} (h : Rg W g x y) (hk : Keep c W W') (hne : g ≠ c) : Rg W' g x y := h.block (hk.block g hne h.lt)

set_option maxHeartbeats 4000000 in
theorem dring_x {w : World} {c : Nat} {a : Option Addr} {len cap : Nat} (h : Cu w c a len cap) :
    Calls Try.prog 10 #[.pointer (some ⟨c, 0, none⟩)] w fun e w' => ∃ (u : Value) (n : Nat) (ys : Nat → Int) (o : Int), e = .returned (.agg #[u, .int .i64 o]) ∧ n ≤ 61 ∧ 0 ≤ o ∧ w'.ownsRow w.heap.size 3 1 u n (ils ys n) ∧ Cu w' c a len cap ∧ Keep c w w' := by
  have hcl := h.lt
  have HC : Hid (Cu w c a len cap) := h
  have b1 := below_one w (.cells #[.slice none 0 0, .int .i64 0] 26)
  have R1 := Rg.new w (.slice none 0 0) (.int .i64 0) 26
  have s1 : (w.alloc (.cells #[.slice none 0 0, .int .i64 0] 26)).heap.size = w.heap.size + 1 := by simp
  have i1 := ddraw_x (h.call b1) 12 (by omega)
  have K1 : Hid (Keep c w (w.alloc (.cells #[.slice none 0 0, .int .i64 0] 26))) := (Keep.refl _ _).call b1
  generalize hW1 : w.alloc (.cells #[.slice none 0 0, .int .i64 0] 26) = W1 at *
  have q1 : Hid (Rg W1 w.heap.size (.slice none 0 0) (.int .i64 0)) := R1
  have S1 : Hid (W1.heap.size = w.heap.size + 1) := s1
  clear h b1 R1 s1
  go_enter Try.func10, Try.ntmps10
  go_upto_region 1 with fail
  clear hW1
  go_upto_region 2 with (first
    | (go_at_call 19; (with_reducible refine i1.mono ?_); rintro e w2 ⟨u, n, ys, rfl, hn, ho, hc, hk⟩; obtain ⟨uo, uc, rfl, huc, hcu⟩ := il_of_own ho; have ba := below_one w2 (.cells #[.slice uo n uc, .int .i64 0] 26); have O2 : Hid ((w2.alloc (.cells #[.slice uo n uc, .int .i64 0] 26)).ownsRow W1.heap.size 3 1 (.slice uo n uc) n (ils ys n) ∧ W1.heap.size ≤ w2.heap.size) := ⟨own_below ho ba, hk.size⟩; have U2 : Hid (∀ g, (Value.slice uo n uc).ownBlock = some g → g < w2.heap.size) := fun g hg => (World.ownsRow.lt ho g hg).2; have C2 : Hid (Cu (w2.alloc (.cells #[.slice uo n uc, .int .i64 0] 26)) c a len cap) := hc.call ba; have K2 : Hid (Keep c w (w2.alloc (.cells #[.slice uo n uc, .int .i64 0] 26))) := (K1.out.trans hk).call ba; have q1 : Hid (Rg (w2.alloc (.cells #[.slice uo n uc, .int .i64 0] 26)) w.heap.size (.slice none 0 0) (.int .i64 0)) := (q1.out.keep hk (by omega)).call ba; have r2 : Hid (Rg (w2.alloc (.cells #[.slice uo n uc, .int .i64 0] 26)) w2.heap.size (.slice uo n uc) (.int .i64 0)) := Rg.new _ _ _ _; clear ho hc hk hcu ba))
  generalize (w2.alloc (.cells #[.slice uo n uc, .int .i64 0] 26)) = W2 at *
  have L2 : Hid (w.heap.size + 1 ≤ w2.heap.size) := by have := O2.out.2; have := S1.out; show w.heap.size + 1 ≤ w2.heap.size; omega
  generalize w2.heap.size = g at *
  have c0 := r2.out.c0
  have c1 := r2.out.c1
  have i2 := below_x C2.out ((n : Int) + 1)
  go_upto_region 3 with (first
    | (go_at_call 20; (with_reducible refine i2.mono ?_); rintro e w3 ⟨x, hx0, hx1, hx2, rfl, hc, hk⟩; have O3 : Hid (w3.ownsRow W1.heap.size 3 1 (.slice uo n uc) n (ils ys n)) := own_keep O2.out.1 hk (by have := S1.out; omega); have C3 : Hid (Cu w3 c a len cap) := hc; have K3 : Hid (Keep c w w3) := K2.out.trans hk; have q3 : Hid (Rg w3 w.heap.size (.slice none 0 0) (.int .i64 0)) := q1.out.keep hk (by omega); have r3 : Hid (Rg w3 g (.slice uo n uc) (.int .i64 0)) := r2.out.keep hk (by have := L2.out; omega); obtain ⟨e0, e1, f0, f1⟩ := r3.out; clear hc hk))
  have hgw : g ≠ w.heap.size := by have := L2.out; omega
  have hwg : w.heap.size ≠ g := fun e => hgw e.symm
  have r4 : Hid (Rg (w3.setCell ⟨g, 1, none⟩ (.int .i64 x)) g (.slice uo n uc) (.int .i64 x)) := r3.out.put1 _
  have q4 : Hid (Rg (w3.setCell ⟨g, 1, none⟩ (.int .i64 x)) w.heap.size (.slice none 0 0) (.int .i64 0)) := q3.out.other hwg _ _
  have B4 : Hid (Below w.heap.size w3 (w3.setCell ⟨g, 1, none⟩ (.int .i64 x))) := (Below.refl _ _).setCell (p := ⟨g, 1, none⟩) (by show w.heap.size ≤ g; have := L2.out; omega) _
  have D4 : Hid (Kd (fun k => k = g ∨ k = w.heap.size) w3 (w3.setCell ⟨g, 1, none⟩ (.int .i64 x))) := (Kd.refl (fun k => k = g ∨ k = w.heap.size) w3).put (.inl (.inl rfl)) 1 _
  clear e0 e1 f0 f1 c0 c1 i2 i1
  generalize w3.setCell ⟨g, 1, none⟩ (.int .i64 x) = w4 at *
  obtain ⟨e0, e1, _, _⟩ := r4.out
  obtain ⟨d0, d1, t0, t1⟩ := q4.out
  have B5 : Hid (Below w.heap.size w3 ((w4.setCell ⟨w.heap.size, 0, none⟩ (.slice uo n uc)).setCell ⟨w.heap.size, 1, none⟩ (.int .i64 x))) := (B4.out.setCell (p := ⟨w.heap.size, 0, none⟩) (Nat.le_refl _) _).setCell (p := ⟨w.heap.size, 1, none⟩) (Nat.le_refl _) _
  have D5 : Hid (Kd (fun k => k = g ∨ k = w.heap.size) w3 ((w4.setCell ⟨w.heap.size, 0, none⟩ (.slice uo n uc)).setCell ⟨w.heap.size, 1, none⟩ (.int .i64 x))) := (D4.out.put (.inl (.inr rfl)) 0 _).put (.inl (.inr rfl)) 1 _
  have q5 : Hid (Rg ((w4.setCell ⟨w.heap.size, 0, none⟩ (.slice uo n uc)).setCell ⟨w.heap.size, 1, none⟩ (.int .i64 x)) w.heap.size (.slice uo n uc) (.int .i64 x)) := (q4.out.put0 _).put1 _
  go_wp2
  generalize (w4.setCell ⟨w.heap.size, 0, none⟩ (.slice uo n uc)).setCell ⟨w.heap.size, 1, none⟩ (.int .i64 x) = w5 at *
  have c0 := q5.out.c0
  have c1 := q5.out.c1
  refine bodyPost_ret (v := .agg #[.slice uo n uc, .int .i64 x]) (by simp [results, Try.results10, go_sem, c0, c1]) rfl ?_
  refine ⟨_, n, ys, x, rfl, hn, hx0, own_base (own_kd O3.out D5.out (fun k hk hd => ?_)) (by have := S1.out; omega), HC.out.grow C3.out K3.out B5.out, K3.out.below B5.out⟩
  have h9 := U2.out k hk
  have h8 := (World.ownsRow.lt O3.out k hk).1
  have := S1.out
  rcases hd with rfl | rfl <;> omega
end Go.Proofs.Ytlflpgikmfdloaa
